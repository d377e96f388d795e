/- FnYears returns true. -/
import Derived.Test.YtnmmnnapoodiiaaYrI
import Derived.Test.YtnmmnnapoodiiaaYrD
import Derived.BigQuiet
set_option linter.unusedVariables false
namespace Go.Proofs.Ytnmmnnapoodiiaa.wFnYears
open Go.RowKit Go.Proofs.Ytnmmnnapoodiiaa.kit Go.Proofs.Ytnmmnnapoodiiaa.lawi Go.Proofs.Ytnmmnnapoodiiaa.own Go.Proofs.Ytnmmnnapoodiiaa.rainl Go.Proofs.Ytnmmnnapoodiiaa.rain Go.Proofs.Ytnmmnnapoodiiaa.cis Go.Proofs.Ytnmmnnapoodiiaa.chl Go.Proofs.Ytnmmnnapoodiiaa.yrl Go.Proofs.Ytnmmnnapoodiiaa.yr Go.Proofs.Ytnmmnnapoodiiaa.draw
/-- The drawn year's variable, its rain, the levels. -/
structure FY (w W : World) (g : Nat) (vC vL : Value) (r s d : Int) (n : Nat) (cs : List Int) : Prop where
  bx : Blk W g TY #[.int .i64 r, .int .i64 s, vC, .int .i64 d]
  rC : Row 1 W vC n (IV cs)
  rL : Row 1 W vL n (IV (rw_ (fun k => lv r d s cs (k + 1)) n))
  bl : Below w.heap.size w W
theorem FY.keep {w W W' : World} {g : Nat} {vC vL : Value} {r s d : Int} {n : Nat} {cs : List Int} (h : FY w W g vC vL r s d n cs) (hb : Below W.heap.size W W') : FY w W' g vC vL r s d n cs :=
  ⟨h.bx.step hb, h.rC.keep hb, h.rL.keep hb, below_step h.bl hb⟩
theorem FY.cell {w W : World} {g : Nat} {vC : Value} {aL : Option Addr} {cL : Nat} {r s d : Int} {n : Nat} {cs : List Int} (h : FY w W g vC (.slice aL n cL) r s d n cs) {k : Nat} (hk : k < n) : ∃ b o, aL = some ⟨b, o, none⟩ ∧ W.cell? ⟨b, o + k, none⟩ = some (.int .i64 (lv r d s cs (k + 1))) := by
  obtain ⟨b, o, e, h1⟩ := h.rL.at_ (by omega)
  refine ⟨b, o, e, h1 k _ ?_⟩
  rw [getI (by rw [rw_len]; exact hk), rw_at _ hk]
theorem btoi_t (w : World) : Calls Try.prog 13 #[.bool true] w fun e w' => e = .returned (.int .i64 1) ∧ w = w' := by
  go_enter Try.func13, Try.ntmps13
  go_wp2
  go_ret
  exact ⟨rfl, rfl⟩
theorem btoi_f (w : World) : Calls Try.prog 13 #[.bool false] w fun e w' => e = .returned (.int .i64 0) ∧ w = w' := by
  go_enter Try.func13, Try.ntmps13
  go_wp2
  go_ret
  exact ⟨rfl, rfl⟩
/-- How many of the first k days end dry; what they caught. -/
def CZ (r s d : Int) (cs : List Int) (k : Nat) : Nat := ct (fun k => lv r d s cs (k + 1) == 0) k
def SC (cs : List Int) (k : Nat) : Int := sm (fun j => cs.getD j 0) k
theorem CZ.succ (r s d : Int) (cs : List Int) (k : Nat) : CZ r s d cs (k + 1) = if lv r d s cs (k + 1) = 0 then CZ r s d cs k + 1 else CZ r s d cs k := by
  unfold CZ
  rw [ct]
  simp
set_option maxRecDepth 10000000 in
set_option maxHeartbeats 4000000 in
theorem walk (w : World) (a0 : Option Addr) (len0 cap0 : Nat) (z0 : List Int) (w0 : IsRow .u8 w a0 len0 cap0 z0) :
    Calls Try.prog 3 #[.slice a0 len0 cap0] w fun e w' => e = .returned (.bool true) ∧ Below w.heap.size w w' := by
  by_cases hbig : 1048576 < len0
  · go_enter Try.func3, Try.ntmps3
    go_wp2_with fail
    refine (big_yes _ _ _ _ hbig).mono ?_; rintro e w1 ⟨rfl, rfl⟩
    go_wp2
    go_ret
    exact ⟨rfl, Below.refl _ _⟩
  · have hlen : len0 ≤ 1048576 := by omega
    have hby := w0.bytes
    have hlow : ∀ x, a0 = some x → 0 < len0 → x.block < w.heap.size := w0.lt
    have HL := Lib.hid hlow
    clear hbig w0 hlow
    go_enter Try.func3, Try.ntmps3
    go_wp2_with fail
    refine (big_no _ _ _ _ hlen).mono ?_; rintro e w1 ⟨rfl, rfl⟩
    go_wp2_with fail
    refine (drawYear _ _ _ _ hby hlen HL.out).mono ?_; rintro e w1 ⟨r, s, d, n, cs, v, rfl, hF, rC, B⟩
    obtain ⟨aC, cC, rfl⟩ := rC.shape
    have ok := hF.ok
    have hn1 : 1 ≤ n ∧ n ≤ 12 := hF.2.2.2.1
    obtain ⟨hn1, hn2⟩ := hn1
    have hr1 : 1 ≤ r ∧ r ≤ 250 := hF.1
    have hs1 : 0 ≤ s ∧ s ≤ r := hF.2.1
    have hd1 : 0 ≤ d ∧ d ≤ 39 := hF.2.2.1
    obtain ⟨hr1, hr2⟩ := hr1
    obtain ⟨hs1, hs2⟩ := hs1
    obtain ⟨hd1, hd2⟩ := hd1
    have B1 : Below w1.heap.size w1 (w1.alloc (.cells #[.int .i64 r, .int .i64 s, .slice aC n cC, .int .i64 d] TY)) := below_al (Below.refl _ _) _
    have X1 := Blk.new w1 TY #[.int .i64 r, .int .i64 s, .slice aC n cC, .int .i64 d]
    have RC := Lib.hid (rC.keep B1)
    have BL := Lib.hid (below_step B B1)
    have HO := Lib.hid ok
    have HX := Lib.hid X1
    have HF := Lib.hid hF
    clear hby HL hF rC B ok B1 X1
    go_wp2_with fail
    refine (impl_lev_yes _ _ n cs r s d RC.out HO.out).mono ?_; rintro e w2 ⟨vL, rfl, oL, hb⟩
    obtain ⟨aL, cL, rfl⟩ := own_shape oL
    have F : FY w w2 w1.heap.size (.slice aC n cC) (.slice aL n cL) r s d n cs := ⟨HX.out.step hb, RC.out.keep hb, .of_own oL, below_step BL.out hb⟩
    have FF := Lib.hid F
    clear HX RC BL oL hb F
    obtain ⟨g, hg⟩ : ∃ g, w1.heap.size = g := ⟨_, rfl⟩
    rw [hg] at FF
    obtain ⟨p0, p1, p2, p3⟩ := blk4 FF.out.bx
    go_wp2
    have e12 : ∀ k, k ≤ n → 0 ≤ SC cs k ∧ SC cs k ≤ 99 * k := fun k hk => by
      unfold SC
      have := sm_bd (f := fun j => cs.getD j 0) (a := 0) (b := 99) k (fun i hi => HF.out.2.2.2.2.2 i (by omega))
      omega
    have HE := Lib.hid e12
    clear p0 p1 p2 p3 e12 hg
    go_loopg [6, 7, 8] n (fun gh s6 s7 s8 wr => ∃ k : Nat, k + gh = n ∧ s8 = .int .i64 k ∧ s6 = .int .i64 (s + SC cs k) ∧ s7 = .int .i64 (CZ r s d cs k) ∧ FY w wr g (.slice aC n cC) (.slice aL n cL) r s d n cs)
    case atStart => exact ⟨0, by omega, by simp, by simp [SC, sm], by simp [CZ, ct], FF.out⟩
    case round =>
      clear FF
      obtain ⟨k, hkg, rfl, rfl, rfl, hf⟩ := hrel
      by_cases hlt : k < n
      · obtain ⟨gk, rfl⟩ : ∃ g', gk = g' + 1 := ⟨gk - 1, by omega⟩
        obtain ⟨b1, o1, rfl, h1⟩ := hf.rC.at_ (by omega)
        obtain ⟨b2, o2, rfl, h2⟩ := hf.cell hlt
        obtain ⟨z, hz⟩ : ∃ z, cs.getD k 0 = z := ⟨_, rfl⟩
        have g1 := h1 k _ (getI (by rw [HF.out.2.2.2.2.1]; exact hlt))
        have c1 := HF.out.2.2.2.2.2 k hlt
        have c2 := lv_bd HO.out (k + 1) (by omega)
        have c3 := HE.out k (by omega)
        have c4 : CZ r s d cs k ≤ k := ct_le _ k
        have c5 : d ≤ r → lv r d s cs (k + 1) ≤ r - d := fun h => lv_le HO.out h hlt
        have c6 : r < d → lv r d s cs (k + 1) ≤ 0 := fun h => by
          have a1 := pr_bd HO.out hlt
          have a2 := (tk_bd HO.out hlt).2.2.2
          have a3 := lv_bd HO.out k (by omega)
          rw [lv_succ]
          unfold Mn at a2
          omega
        obtain ⟨x, hx⟩ : ∃ x, lv r d s cs (k + 1) = x := ⟨_, rfl⟩
        obtain ⟨S, hS⟩ : ∃ S, s + SC cs k = S := ⟨_, rfl⟩
        obtain ⟨Y, hY⟩ : ∃ Y, CZ r s d cs k = Y := ⟨_, rfl⟩
        have e7 : s + SC cs (k + 1) = S + z := by rw [SC, sm, hz, ← hS, SC]; omega
        have c3' : 0 ≤ S ∧ S ≤ 2000 := by omega
        obtain ⟨S0, S1⟩ := c3'
        obtain ⟨M, hM⟩ : ∃ M, (if d < r then r - d else 0) = M := ⟨_, rfl⟩
        rw [hz] at g1 c1
        rw [hx] at h2 c2 c5 c6
        rw [hY] at c4
        have hMx : x ≤ M := by
          rw [← hM]
          split <;> omega
        obtain ⟨z0, z1⟩ := c1
        obtain ⟨x0, x1⟩ := c2
        have t1 : decide (x < 0) = false := decide_eq_false (by omega)
        have t2 : decide (x > M) = false := decide_eq_false (by omega)
        have t3 : decide (M < x) = false := decide_eq_false (by omega)
        have wr1 : IntKind.i64.wrap (r - d) = r - d := IntWalk.i64_in _ (by omega)
        have E7 := Lib.hid e7
        have EY := Lib.hid hY
        have EX := Lib.hid hx
        have FF := Lib.hid hf
        rw [hS, hY]
        obtain ⟨p0, p1, p2, p3⟩ := blk4 hf.bx
        clear h1 hz hx hS hY hf e7 c3 c5 c6 hMx
        by_cases h0 : x = 0
        · subst h0
          go_wp2_with fail
          refine (btoi_t _).mono ?_; rintro e w3 ⟨rfl, rfl⟩
          go_wp2
          go_quiet (fail)
          go_wp2
          go_roundg gk
          case rel => exact ⟨k + 1, by omega, by go_num, by rw [E7.out], by rw [CZ.succ, EX.out, EY.out]; simp, FF.out.keep (below_drN (Below.refl _ _) nq)⟩
          case measure => omega
        · have t0 : (x == 0) = false := by simpa using h0
          go_wp2_with fail
          refine (btoi_f _).mono ?_; rintro e w3 ⟨rfl, rfl⟩
          go_wp2
          go_quiet (fail)
          go_wp2
          go_roundg gk
          case rel => exact ⟨k + 1, by omega, by go_num, by rw [E7.out], by rw [CZ.succ, EX.out, EY.out, if_neg h0], FF.out.keep (below_drN (Below.refl _ _) nq)⟩
          case measure => omega
      · obtain rfl : k = n := by omega
        have FF := Lib.hid hf
        clear hf
        obtain ⟨p0, p1, p2, p3⟩ := blk4 FF.out.bx
        go_wp2_with fail
        refine (impl_taken_yes _ _ k cs r s d FF.out.rC HO.out).mono ?_; rintro e w3 ⟨rfl, hb⟩
        replace FF := Lib.hid (FF.out.keep hb)
        clear hb p0 p1 p2 p3
        obtain ⟨p0, p1, p2, p3⟩ := blk4 FF.out.bx
        go_wp2_with fail
        refine (impl_lost_yes _ _ k cs r s d FF.out.rC HO.out).mono ?_; rintro e w4 ⟨rfl, hb⟩
        replace FF := Lib.hid (FF.out.keep hb)
        clear hb p0 p1 p2 p3
        obtain ⟨p0, p1, p2, p3⟩ := blk4 FF.out.bx
        go_wp2_with fail
        refine (impl_short_yes _ _ k cs r s d FF.out.rC HO.out).mono ?_; rintro e w5 ⟨vS, rfl, oS, hb⟩
        replace FF := Lib.hid (FF.out.keep hb)
        have rS := Row.of_own oS
        clear hb oS p0 p1 p2 p3
        obtain ⟨p0, p1, p2, p3⟩ := blk4 FF.out.bx
        -- what the laws of plain lists say
        have f1 : s + SC cs k = sm (tk r d s cs) k + sm (ov r d s cs) k + lv r d s cs k := balance k
        have f2 := sm_bd (f := tk r d s cs) (a := 0) (b := d) k (fun i hi => ⟨(tk_bd HO.out hi).1, (tk_bd HO.out hi).2.1⟩)
        have f3 := sm_bd (f := ov r d s cs) (a := 0) (b := 300000) k (fun i hi => ov_bd HO.out hi)
        have f4 := short_iff HO.out
        have f5 : _ ≤ CZ r s d cs k := short_dry HO.out
        have f6 := HE.out k (Nat.le_refl _)
        have f7 : CZ r s d cs k ≤ k := ct_le _ k
        have f8 := lv_bd HO.out k (Nat.le_refl _)
        have f9 : 0 ≤ d * (k : Int) ∧ d * (k : Int) ≤ 39 * 12 := mul_bd hd1 hd2 (by omega) (by omega)
        have HS : Hid (∀ j, j < (dy (fun i => decide (tk r d s cs i < d)) k).length → ∃ q, q < k ∧ (dy (fun i => decide (tk r d s cs i < d)) k).getD j 0 = (q : Int) ∧ lv r d s cs (q + 1) = 0) := fun j hj => by
          obtain ⟨q, hq, e, hp⟩ := dy_at _ hj
          exact ⟨q, hq, e, tk_zero HO.out hq (of_decide_eq_true hp)⟩
        obtain ⟨DS, hDS⟩ : ∃ DS, dy (fun i => decide (tk r d s cs i < d)) k = DS := ⟨_, rfl⟩
        rw [hDS] at HS f4 f5 rS
        obtain ⟨K, hK⟩ : ∃ K, DS.length = K := ⟨_, rfl⟩
        obtain ⟨T, hT⟩ : ∃ T, sm (tk r d s cs) k = T := ⟨_, rfl⟩
        obtain ⟨O, hO⟩ : ∃ O, sm (ov r d s cs) k = O := ⟨_, rfl⟩
        obtain ⟨A, hA⟩ : ∃ A, s + SC cs k = A := ⟨_, rfl⟩
        obtain ⟨Y, hY⟩ : ∃ Y, CZ r s d cs k = Y := ⟨_, rfl⟩
        obtain ⟨D, hD⟩ : ∃ D, d * (k : Int) = D := ⟨_, rfl⟩
        obtain ⟨m, hm⟩ : ∃ m, k = m + 1 := ⟨k - 1, by omega⟩
        obtain ⟨b2, o2, rfl, c0⟩ := FF.out.cell (k := m) (by omega)
        rw [← hm] at c0
        obtain ⟨E, hE⟩ : ∃ E, lv r d s cs k = E := ⟨_, rfl⟩
        rw [hE] at c0 f1 f8
        rw [hT] at f1 f2 f4 ⊢
        rw [hO] at f1 f3 ⊢
        rw [hA] at f1 ⊢
        rw [hY] at f5 f7 ⊢
        rw [hK] at f5 rS
        rw [hD] at f2 f4 f9
        have f4' : T = D ↔ K = 0 := by rw [f4, ← hK]; exact List.length_eq_zero_iff.symm
        have EY := Lib.hid hY
        have HK := Lib.hid hK
        have RS := Lib.hid rS
        have eA : T + O + E = A := by omega
        have eD : (k : Int) * d = D := by rw [Int.mul_comm]; exact hD
        have em : (k : Int) - 1 = (m : Int) := by omega
        have T0 : 0 ≤ T := by omega
        have T1 : T ≤ 1000 := by omega
        have O0 : 0 ≤ O := by omega
        have O1 : O ≤ 4000000 := by omega
        have E0 : 0 ≤ E ∧ E ≤ 1000 := by omega
        have D0 : 0 ≤ D ∧ D ≤ 1000 := by omega
        have m1 : (m : Int) < (k : Int) := by omega
        have m2 : m < k := by omega
        have t1 : decide (T < 0) = false := decide_eq_false (by omega)
        have t2 : decide (O < 0) = false := decide_eq_false (by omega)
        have t3 : decide ((Y : Int) < (K : Int)) = false := decide_eq_false (by omega)
        have t4 : decide (Y < K) = false := decide_eq_false (by omega)
        have t5 : decide (D < T) = false := decide_eq_false (by omega)
        obtain ⟨b, hb1, hb2⟩ : ∃ b, decide (T = D) = b ∧ decide (K = 0) = b := ⟨_, rfl, by simp [f4']⟩
        have hb3 : (T == D) = b := by rw [← hb1, Bool.eq_iff_iff]; simp
        have hb4 : ((K : Int) == 0) = b := by rw [← hb2, Bool.eq_iff_iff]; simp
        clear hm hE f1 f2 f3 f4 f4' f5 f6 f7 f8 f9 hDS hK hT hO hA hY hD rS
        obtain ⟨aS, cS, rfl⟩ := RS.out.shape
        go_wp2_with fail
        refine (impl_dry_yes _ _ k cs r s d FF.out.rC HO.out).mono ?_; rintro e w6 ⟨rfl, hb⟩
        replace FF := Lib.hid (FF.out.keep hb)
        replace RS := Lib.hid (RS.out.keep hb)
        clear hb p0 p1 p2 p3 c0
        obtain ⟨p0, p1, p2, p3⟩ := blk4 FF.out.bx
        have ey : ct (fun k => lv r d s cs (k + 1) == 0) k = Y := EY.out
        rw [ey]
        clear ey
        go_wp2
        have HN := Lib.hid hn2
        have HKk := Lib.hid (show K ≤ k by have := of_decide_eq_false t4; have := EY.out; have := ct_le (fun k => lv r d s cs (k + 1) == 0) k; unfold CZ at *; omega)
        clear p0 p1 p2 p3 eA eD em T0 T1 O0 O1 E0 D0 m1 m2 t1 t2 t3 t4 t5 hb1 hb2 hb3 hb4
        go_loopg [12] K (fun gh s12 wq => ∃ j : Nat, j + gh = K ∧ s12 = .int .i64 j ∧ FY w wq g (.slice aC k cC) (.slice (some ⟨b2, o2, none⟩) k cL) r s d k cs ∧ Row 1 wq (.slice aS K cS) K (IV DS))
        case atStart => exact ⟨0, by omega, by simp, FF.out, RS.out⟩
        case round =>
          clear FF RS
          obtain ⟨j, hj, rfl, hf, hs⟩ := hrel
          have FF := Lib.hid hf
          have RS := Lib.hid hs
          clear hf hs
          by_cases hlt2 : j < K
          · obtain ⟨q, hq, e1, e2⟩ := HS.out j (by rw [HK.out]; exact hlt2)
            obtain ⟨b3, o3, rfl, h3⟩ := RS.out.at_ (by omega)
            have g3 := h3 j _ (getI (by rw [HK.out]; exact hlt2))
            obtain ⟨b4, o4, e4, g4⟩ := FF.out.cell hq
            cases e4
            rw [e1] at g3
            rw [e2] at g4
            have t1 : decide ((q : Int) < 0) = false := decide_eq_false (by omega)
            have t2 : decide ((k : Int) ≤ (q : Int)) = false := decide_eq_false (by omega)
            have t3 : decide (k ≤ q) = false := decide_eq_false (by omega)
            have q1 : (q : Int) < (k : Int) := by omega
            have jK : (j : Int) < (K : Int) := by omega
            have HKk2 := HKk.out
            have HN2 := HN.out
            obtain ⟨g', rfl⟩ : ∃ g', gk = g' + 1 := ⟨gk - 1, by omega⟩
            clear h3 e1 e2
            go_wp2
            go_roundg g'
            case rel => exact ⟨j + 1, by omega, by go_num, FF.out, RS.out⟩
            case measure => omega
          · obtain rfl : j = K := by omega
            obtain ⟨p0, p1, p2, p3⟩ := blk4 FF.out.bx
            go_wp2_with fail
            refine (impl_yok_yes _ _ k cs r s d FF.out.rC HO.out).mono ?_; rintro e w7 ⟨rfl, hb⟩
            replace FF := Lib.hid (FF.out.keep hb)
            clear hb p0 p1 p2 p3
            go_wp2
            go_ret
            exact ⟨rfl, FF.out.bl⟩
end Go.Proofs.Ytnmmnnapoodiiaa.wFnYears
