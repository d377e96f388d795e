/- FnCutProofs returns true. -/
import Derived.Test.YtilabfmnaegidaaCutI
import Derived.Test.YtilabfmnaegidaaCutP
import Derived.Test.YtilabfmnaegidaaCutS3
import Derived.Test.YtilabfmnaegidaaNetR2
import Derived.Test.YtilabfmnaegidaaHas
import Derived.Test.YtilabfmnaegidaaAt
import Derived.Test.YtilabfmnaegidaaTake
set_option linter.unusedVariables false
namespace Go.Proofs.Ytilabfmnaegidaa.wFnCutProofs
open Go.RowKit Go.Proofs.Ytilabfmnaegidaa.kit Go.Proofs.Ytilabfmnaegidaa.lawi Go.Proofs.Ytilabfmnaegidaa.own Go.Proofs.Ytilabfmnaegidaa.rain Go.Proofs.Ytilabfmnaegidaa.yrl Go.Proofs.Ytilabfmnaegidaa.net Go.Proofs.Ytilabfmnaegidaa.nt Go.Proofs.Ytilabfmnaegidaa.draw Go.Proofs.Ytilabfmnaegidaa.flw Go.Proofs.Ytilabfmnaegidaa.fl_ Go.Proofs.Ytilabfmnaegidaa.cut Go.Proofs.Ytilabfmnaegidaa.bits_ Go.Proofs.Ytilabfmnaegidaa.at_ Go.Proofs.Ytilabfmnaegidaa.later Go.Proofs.Ytilabfmnaegidaa.chn Go.Proofs.Ytilabfmnaegidaa.take
/-- The drawn net's variable and the flow that is found. -/
structure FW (w W : World) (g1 : Nat) (v u : Value) (P : Int) (n : Nat) (zs fs : List Int) (a0 : Option Addr) (len0 : Nat) : Prop where
  b1 : Blk W g1 TN #[.int .i64 P, v]
  r1 : Row 3 W v n (IV zs)
  rf : Row 1 W u n (IV fs)
  bl : Below w.heap.size w W
  by_ : Bytes W a0 len0
theorem FW.keep {w W W' : World} {g1 : Nat} {v u : Value} {P : Int} {n : Nat} {zs fs : List Int} {a0 : Option Addr} {len0 : Nat} (h : FW w W g1 v u P n zs fs a0 len0) (hb : Below W.heap.size W W') : FW w W' g1 v u P n zs fs a0 len0 :=
  ⟨h.b1.step hb, h.r1.keep hb, h.rf.keep hb, below_step h.bl hb, bytes_step h.by_ hb⟩
set_option maxRecDepth 10000000 in
set_option maxHeartbeats 8000000 in
theorem walk (w : World) (a0 : Option Addr) (len0 cap0 : Nat) (z0 : List Int) (w0 : IsRow .u8 w a0 len0 cap0 z0) :
    Calls Try.prog 3 #[.slice a0 len0 cap0] w fun e w' => e = .returned (.bool true) ∧ Below w.heap.size w w' := by
  classical
  by_cases hbig : 1048576 < len0
  · go_enter Try.func3, Try.ntmps3
    go_wp2_with fail
    refine (big_yes _ _ _ _ hbig).mono ?_; rintro e w1 ⟨rfl, rfl⟩
    go_wp2
    go_ret
    exact ⟨rfl, Below.refl _ _⟩
  · have hlen : len0 ≤ 1048576 := by omega
    have hby := w0.bytes
    have hlow : ∀ x, a0 = some x → 0 < len0 → x.block < w.heap.size := w0.lt
    have HL := Lib.hid hlow
    have HBY := Lib.hid hby
    clear hbig w0 hlow
    go_enter Try.func3, Try.ntmps3
    go_wp2_with fail
    refine (big_no _ _ _ _ hlen).mono ?_; rintro e w1 ⟨rfl, rfl⟩
    go_wp2_with fail
    refine (drawEnds2 _ _ _ _ hby hlen HL.out).mono ?_; rintro e w1 ⟨P, n, zs, v, A, B, rfl, P1, P2, n9, hF, hA, hB, hAB, hcp, r1, B1⟩
    have ok := hF.ok P1 P2 n9
    have hl := hF.1
    have two : Two P n zs A B := ⟨ok, hA, hB, hAB⟩
    obtain ⟨r, hr⟩ := Two.run two
    obtain ⟨_, hmf⟩ := Two.great two hr
    obtain ⟨x, hx⟩ : ∃ x, Go.Proofs.Ytilabfmnaegidaa.flw.nt (pF zs) (pT zs) r A n = x := ⟨_, rfl⟩
    rw [hx] at hmf
    obtain ⟨s, c, hs, hc, s0, c0, ws, wc, is_, ic, gc, gs⟩ := cut_facts two hr hmf
    obtain ⟨q, hq⟩ := Np.ex two hl x
    obtain ⟨aV, cV, rfl⟩ := r1.shape
    have BA : Below w1.heap.size w1 (w1.alloc (.cells #[.int .i64 P, .slice aV n cV] TN)) := below_al (Below.refl _ _) _
    have X1 := Lib.hid (Blk.new w1 TN #[.int .i64 P, .slice aV n cV])
    have R1 := Lib.hid (r1.keep BA)
    have BL := Lib.hid (below_step B1 BA)
    have HCP := Lib.hid hcp
    have TW := Lib.hid two
    have HM := Lib.hid hmf
    have HRUN := Lib.hid hr
    have HLZ := Lib.hid hl
    have HS := Lib.hid hs
    have HC := Lib.hid hc
    have WS := Lib.hid ws
    have WC := Lib.hid wc
    have IS := Lib.hid is_
    have IC := Lib.hid ic
    have GC := Lib.hid gc
    have GS := Lib.hid gs
    have HQ := Lib.hid hq
    have HP := Lib.hid (show 2 ≤ P ∧ P ≤ 6 from ⟨P1, P2⟩)
    clear hby HL r1 B1 BA ok hr hx hmf hl hF hs hc ws wc is_ ic gc gs hq hcp two
    obtain ⟨A0, A1⟩ := hA
    obtain ⟨B0, B1'⟩ := hB
    go_wp2_with fail
    refine (spec_great _ _ _ n zs A B x R1.out TW.out HM.out).mono ?_; rintro e w2 ⟨rfl, hb⟩
    have X2 := Lib.hid (X1.out.step hb)
    have R2 := Lib.hid (R1.out.keep hb)
    have B2 := Lib.hid (below_step BL.out hb)
    obtain ⟨g1, hg1⟩ : ∃ g, w1.heap.size = g := ⟨_, rfl⟩
    rw [hg1] at X2
    clear X1 R1 BL hb
    obtain ⟨p0, p1⟩ := stNet.blk_ X2.out
    go_wp2_with fail
    refine (spec_find _ _ _ n zs A B R2.out TW.out r HRUN.out).mono ?_; rintro e w3 ⟨fv, rfl, ho, hb⟩
    obtain ⟨aF, cF, rfl⟩ := own_shape ho
    have FF : Hid (FW w w3 g1 (.slice aV n cV) (.slice aF n cF) P n zs (rw_ r n) a0 len0) := Lib.hid ⟨X2.out.step hb, R2.out.keep hb, Row.of_own ho, below_step B2.out hb, bytes_step HBY.out (below_step B2.out hb)⟩
    clear X2 R2 B2 ho hb p0 p1 HRUN hg1
    obtain ⟨p0, p1⟩ := stNet.blk_ FF.out.b1
    go_wp2_with fail
    refine (impl_ncut _ _ _ n zs A B FF.out.r1 TW.out s HS.out).mono ?_; rintro e w4 ⟨rfl, hb⟩
    replace FF := Lib.hid (FF.out.keep hb)
    clear hb p0 p1
    obtain ⟨p0, p1⟩ := stNet.blk_ FF.out.b1
    go_wp2_with fail
    refine (impl_cutof _ _ _ _ n n zs _ A B (by omega) FF.out.r1 FF.out.rf c HC.out).mono ?_; rintro e w5 ⟨rfl, hb⟩
    replace FF := Lib.hid (FF.out.keep hb)
    clear hb p0 p1
    obtain ⟨p0, p1⟩ := stNet.blk_ FF.out.b1
    have t1 : decide (s < 0) = false := decide_eq_false (by omega)
    have t2 : decide (c < 0) = false := decide_eq_false (by omega)
    have t3 : (x != x) = false := by simp
    go_wp2_with fail
    refine (impl_cw _ _ _ n zs s (by omega) FF.out.r1 x WS.out).mono ?_; rintro e w6 ⟨rfl, hb⟩
    replace FF := Lib.hid (FF.out.keep hb)
    clear hb p0 p1
    obtain ⟨p0, p1⟩ := stNet.blk_ FF.out.b1
    go_wp2_with fail
    refine (impl_isc _ _ _ n zs s A B (by omega) FF.out.r1 true ⟨fun _ => IS.out, fun _ => rfl⟩).mono ?_; rintro e w7 ⟨rfl, hb⟩
    replace FF := Lib.hid (FF.out.keep hb)
    clear hb p0 p1
    obtain ⟨p0, p1⟩ := stNet.blk_ FF.out.b1
    go_wp2_with fail
    refine (impl_cw _ _ _ n zs c (by omega) FF.out.r1 x WC.out).mono ?_; rintro e w8 ⟨rfl, hb⟩
    replace FF := Lib.hid (FF.out.keep hb)
    clear hb p0 p1
    obtain ⟨p0, p1⟩ := stNet.blk_ FF.out.b1
    go_wp2_with fail
    refine (impl_pg _ _ _ _ n n zs _ c A B (by omega) (by omega) FF.out.r1 FF.out.rf true ⟨fun _ => GC.out, fun _ => rfl⟩).mono ?_; rintro e w9 ⟨rfl, hb⟩
    replace FF := Lib.hid (FF.out.keep hb)
    clear hb p0 p1
    obtain ⟨p0, p1⟩ := stNet.blk_ FF.out.b1
    go_wp2_with fail
    refine (impl_pg _ _ _ _ n n zs _ s A B (by omega) (by omega) FF.out.r1 FF.out.rf true ⟨fun _ => GS.out, fun _ => rfl⟩).mono ?_; rintro e w10 ⟨rfl, hb⟩
    replace FF := Lib.hid (FF.out.keep hb)
    clear hb p0 p1
    obtain ⟨p0, p1⟩ := stNet.blk_ FF.out.b1
    obtain ⟨R, rfl⟩ : ∃ R : Nat, P = (R : Int) := ⟨P.toNat, by omega⟩
    obtain ⟨A', rfl⟩ : ∃ A' : Nat, A = (A' : Int) := ⟨A.toNat, by omega⟩
    have hR8 : R ≤ 8 := by omega
    have hAR : A' < R := by omega
    have hq2 := pow_lt hR8
    have hsh := shl64 (v := R) (by omega)
    have hsa := shl64 (v := A') (by omega)
    have hQ : Hid ((1 <<< R : Nat) = 2 ^ R) := Lib.hid (Nat.one_shiftLeft R)
    have hSA : Hid ((1 <<< A' : Nat) < 2 ^ R) := Lib.hid (by rw [Nat.one_shiftLeft]; exact Nat.pow_lt_pow_right (by decide) hAR)
    have hsh2 := shl_nat (v := R) (by omega)
    have hsa2 := shl_nat (v := A') (by omega)
    rw [Int.toNat_natCast] at hsh2 hsa2
    obtain ⟨Q, hQQ⟩ : ∃ Q, (1 <<< R : Nat) = Q := ⟨_, rfl⟩
    obtain ⟨SA, hSS⟩ : ∃ S, (1 <<< A' : Nat) = S := ⟨_, rfl⟩
    rw [hQQ] at hsh hsh2 hq2 hQ
    rw [hSS] at hsa hsa2 hSA
    clear hQQ hSS
    have q0 : ¬ (Q : Int) = 0 := by omega
    have q0n : ¬ Q = 0 := by omega
    have q0b : ((Q : Int) == 0) = false := beq_eq_false_iff_ne.2 q0
    have q0c : ¬ wrap64 (2 ^ R) = 0 := by rw [hsh]; exact q0
    have q0d : (wrap64 (2 ^ R) == 0) = false := beq_eq_false_iff_ne.2 q0c
    go_wp2
    refine wp_region_held_drew (S := fun W => W.cell? ⟨g1, 0, none⟩ = some (.int .i64 (R : Int))) (by kernel_rfl) p0 (fun hHeld => ?_)
    refine takeH 0 (by simp only [List.getElem?_toArray, List.getElem?_cons_zero]; rfl) (by kernel_rfl) (by kernel_rfl) (by kernel_rfl) (by rfl) (by intro w hSw; (try dsimp only at hSw); go_simp; first | done | with_reducible rfl) (by intro _ _ _ h; exact h) (by assumption) ?_
    (try simp only [Act.put, List.setIfInBounds_toArray, List.set_cons_zero, List.set_cons_succ])
    refine takeH 1 (by simp only [List.getElem?_toArray, List.getElem?_cons_succ, List.getElem?_cons_zero]; rfl) (by kernel_rfl) (by kernel_rfl) (by kernel_rfl) (by rfl) (by intro w hSw; (try dsimp only at hSw); go_simp; first | done | with_reducible rfl) (by intro _ _ _ h; exact h) (by assumption) ?_
    (try simp only [Act.put, List.setIfInBounds_toArray, List.set_cons_zero, List.set_cons_succ])
    refine takeH 2 (by simp only [List.getElem?_toArray, List.getElem?_cons_succ, List.getElem?_cons_zero]; rfl) (by kernel_rfl) (by kernel_rfl) (by kernel_rfl) (by rfl) (by intro w hSw; (try dsimp only at hSw); go_simp; first | done | with_reducible rfl) (by intro _ _ _ h; exact h) (by assumption) ?_
    (try simp only [Act.put, List.setIfInBounds_toArray, List.set_cons_zero, List.set_cons_succ])
    refine takeH 4 (by simp only [List.getElem?_toArray, List.getElem?_cons_succ, List.getElem?_cons_zero]; rfl) (by kernel_rfl) (by kernel_rfl) (by kernel_rfl) (by rfl) (by intro w hSw; (try dsimp only at hSw); go_simp; first | done | with_reducible rfl) (by intro _ _ _ h; exact h) (by assumption) ?_
    (try simp only [Act.put, List.setIfInBounds_toArray, List.set_cons_zero, List.set_cons_succ])
    refine takeH 5 (by simp only [List.getElem?_toArray, List.getElem?_cons_succ, List.getElem?_cons_zero]; rfl) (by kernel_rfl) (by kernel_rfl) (by kernel_rfl) (by rfl) (by intro w hSw; (try dsimp only at hSw); go_simp; first | done | with_reducible rfl) (by intro _ _ _ h; exact h) (by assumption) ?_
    (try simp only [Act.put, List.setIfInBounds_toArray, List.set_cons_zero, List.set_cons_succ])
    refine takeH 6 (by simp only [List.getElem?_toArray, List.getElem?_cons_succ, List.getElem?_cons_zero]; rfl) (by kernel_rfl) (by kernel_rfl) (by kernel_rfl) (by rfl) (by intro w hSw; (try dsimp only at hSw); go_simp; first | done | with_reducible rfl) (by intro _ _ _ h; exact h) (by assumption) ?_
    (try simp only [Act.put, List.setIfInBounds_toArray, List.set_cons_zero, List.set_cons_succ])
    refine wpAnyH_ready (rs := [3]) (by kernel_rfl) (by simp) (AllReadyH.cons (by simp only [List.getElem?_toArray, List.getElem?_cons_succ, List.getElem?_cons_zero]; rfl) (fun K hK => ?_) AllReadyH.nil)
    go_simp
    go_at_call 19
    refine (at_any _ a0 len0 cap0 0 (by omega) (by omega) (bytes_step FF.out.by_ (below_dr (Below.refl _ _))) hlen).mono ?_; rintro e wI ⟨y, rfl, y0, y1, rfl⟩
    (try go_simp)
    refine hK.out _ _ (p0) (fun hHeld => ?_)
    clear hK K
    (try simp only [Act.put, List.setIfInBounds_toArray, List.set_cons_zero, List.set_cons_succ])
    obtain ⟨Y, rfl⟩ : ∃ Y : Nat, y = (Y : Int) := ⟨y.toNat, by omega⟩
    have m1 : (Y : Int).tmod (Q : Int) = ((Y % Q : Nat) : Int) := by rw [Int.tmod_eq_emod_of_nonneg (by omega)]; push_cast; rfl
    have m2 : Y % Q < Q := Nat.mod_lt _ (by omega)
    obtain ⟨Z, hZ⟩ : ∃ Z, Y % Q = Z := ⟨_, rfl⟩
    rw [hZ] at m1 m2
    have m3 := or_nat (a := SA) (b := Z) (Nat.lt_of_lt_of_le hSA.out (Nat.le_trans (two_pow_le hR8) (by decide))) (Nat.lt_of_lt_of_le m2 (Nat.le_trans hq2.1 (by decide)))
    have m4 : Hid (SA ||| Z < 2 ^ R) := Lib.hid (Nat.or_lt_two_pow hSA.out (by rw [← hQ.out]; exact m2))
    obtain ⟨ST, hST⟩ : ∃ S, (SA ||| Z) = S := ⟨_, rfl⟩
    rw [hST] at m3 m4
    clear hZ hST
    refine takeH 7 (by simp only [List.getElem?_toArray, List.getElem?_cons_succ, List.getElem?_cons_zero]; rfl) (by kernel_rfl) (by kernel_rfl) (by kernel_rfl) (by rfl) (by intro w hSw; (try dsimp only at hSw); go_simp; first | done | with_reducible rfl) (by intro _ _ _ h; exact h) (by assumption) ?_
    (try simp only [Act.put, List.setIfInBounds_toArray, List.set_cons_zero, List.set_cons_succ])
    refine takeH 8 (by simp only [List.getElem?_toArray, List.getElem?_cons_succ, List.getElem?_cons_zero]; rfl) (by kernel_rfl) (by kernel_rfl) (by kernel_rfl) (by rfl) (by intro w hSw; (try dsimp only at hSw); go_simp; first | done | with_reducible rfl) (by intro _ _ _ h; exact h) (by assumption) ?_
    (try simp only [Act.put, List.setIfInBounds_toArray, List.set_cons_zero, List.set_cons_succ])
    refine takeH 9 (by simp only [List.getElem?_toArray, List.getElem?_cons_succ, List.getElem?_cons_zero]; rfl) (by kernel_rfl) (by kernel_rfl) (by kernel_rfl) (by rfl) (by intro w hSw; (try dsimp only at hSw); go_simp; first | done | with_reducible rfl) (by intro _ _ _ h; exact h) (by assumption) ?_
    (try simp only [Act.put, List.setIfInBounds_toArray, List.set_cons_zero, List.set_cons_succ])
    refine wpAnyH_done (by kernel_rfl) ?_ _
    replace FF := Lib.hid (FF.out.keep (below_dr (Below.refl _ _)))
    clear hHeld p0 p1 m1 m2 m3 q0 q0n q0b q0c q0d hsh hsh2 hsa hsa2 hq2 t1 t2 t3
    obtain ⟨p0, p1⟩ := stNet.blk_ FF.out.b1
    go_upto_region 11 with fail
    go_cut [110] (fun c wx => c = .bool false ∧ FW w wx g1 (.slice aV n cV) (.slice aF n cF) R n zs (rw_ r n) a0 len0)
    case first =>
      by_cases hi : IsC R n zs (ST : Int) A' B
      · have HI := Lib.hid hi
        have hge := hi.ge HM.out
        rw [Int.toNat_natCast] at hge
        have WT := Lib.hid (Cw.of (P := R) (set := (ST : Int)) TW.out.1 hi.1)
        obtain ⟨y, hy⟩ : ∃ y, cwo n zs ST = y := ⟨_, rfl⟩
        rw [Int.toNat_natCast, hy] at WT
        rw [hy] at hge
        have u1 : decide (y < x) = false := decide_eq_false (by omega)
        clear hi hy
        go_wp2_with fail
        refine (impl_isc _ _ _ n zs ST A' B (by omega) FF.out.r1 true ⟨fun _ => HI.out, fun _ => rfl⟩).mono ?_; rintro e w11 ⟨rfl, hb⟩
        replace FF := Lib.hid (FF.out.keep hb)
        clear hb p0 p1
        obtain ⟨p0, p1⟩ := stNet.blk_ FF.out.b1
        go_wp2_with fail
        refine (impl_cw _ _ _ n zs ST (by omega) FF.out.r1 y WT.out).mono ?_; rintro e w12 ⟨rfl, hb⟩
        replace FF := Lib.hid (FF.out.keep hb)
        clear hb p0 p1
        go_wp2_with fail
        go_meet
        exact ⟨by simp, FF.out⟩
      · have HI := Lib.hid hi
        clear hi
        go_wp2_with fail
        refine (impl_isc _ _ _ n zs ST A' B (by omega) FF.out.r1 false ⟨fun h => (by cases h), fun h => absurd h HI.out⟩).mono ?_; rintro e w11 ⟨rfl, hb⟩
        replace FF := Lib.hid (FF.out.keep hb)
        clear hb p0 p1
        go_wp2_with fail
        go_meet
        exact ⟨by simp, FF.out⟩
    case rest =>
      obtain ⟨rfl, hff⟩ := hcut
      clear FF p0 p1
      have FF := Lib.hid hff
      clear hff
      obtain ⟨p0, p1⟩ := stNet.blk_ FF.out.b1
      go_wp2_with fail
      refine (impl_np _ _ _ n zs A' B x q FF.out.r1 TW.out HM.out HQ.out).mono ?_; rintro e w13 ⟨pv, rfl, op, hb⟩
      obtain ⟨aN, cN, rfl⟩ := own_shape op
      replace FF := Lib.hid (FF.out.keep hb)
      have RP := Lib.hid (Row.of_own op)
      have hln := dy_len q n
      obtain ⟨l, hl⟩ : ∃ l, dy q n = l := ⟨_, rfl⟩
      rw [hl] at RP hln
      have HLL := Lib.hid hl
      rw [hl]
      clear hb op p0 p1 hl
      go_wp2
      go_loopg [13] n (fun g s13 wr => ∃ k : Nat, k + g = n ∧ s13 = .int .i64 k ∧ FW w wr g1 (.slice aV n cV) (.slice aF n cF) R n zs (rw_ r n) a0 len0 ∧ Row 1 wr (.slice aN l.length cN) l.length (IV l))
      case atStart => exact ⟨0, by omega, rfl, FF.out, RP.out⟩
      case round =>
        clear FF RP
        obtain ⟨k, hkg, rfl, hf, hrp⟩ := hrel
        have FF := Lib.hid hf
        have RP := Lib.hid hrp
        clear hf hrp
        obtain ⟨p0, p1⟩ := stNet.blk_ FF.out.b1
        by_cases hlt : k < n
        · obtain ⟨gk, rfl⟩ : ∃ g', gk = g' + 1 := ⟨gk - 1, by omega⟩
          obtain ⟨y, hy, hqy⟩ := HQ.out k hlt
          have TWL := Lib.hid (two_less TW.out HLZ.out hlt)
          have MEM := Lib.hid (np_mem (q := q) hlt)
          rw [HLL.out] at MEM
          obtain ⟨m, hm⟩ : ∃ m, n - 1 = m := ⟨_, rfl⟩
          rw [hm] at hy TWL
          have HMM := Lib.hid hm
          have HY := Lib.hid hy
          obtain ⟨bb, hbb⟩ : ∃ bb, q k = bb := ⟨_, rfl⟩
          rw [hbb] at hqy MEM
          have ub : decide (y < x) = bb := by rw [Bool.eq_iff_iff, decide_eq_true_iff]; exact hqy.symm
          have uc : (bb != bb) = false := by cases bb <;> rfl
          have HBB := Lib.hid MEM.out.symm
          clear hy hqy hm hbb MEM
          go_wp2_with fail
          refine (spec_without_yes _ _ _ n k zs HCP.out FF.out.r1 TW.out.1 hlt).mono ?_; rintro e w14 ⟨u3, lo3, hi3, rfl, ⟨o3, hlo3⟩, hb⟩
          rw [HMM.out] at o3
          obtain ⟨a3, d3, rfl⟩ := own_shape o3.own
          obtain ⟨wB, hwB⟩ : ∃ wB, w14.alloc (.cells #[.int .i64 (R : Int), .slice a3 m d3] TN) = wB := ⟨_, rfl⟩
          have BB : Below w14.heap.size w14 wB := hwB ▸ below_al (Below.refl _ _) _
          have X3 := Lib.hid (hwB ▸ Blk.new w14 TN #[.int .i64 (R : Int), .slice a3 m d3] : Blk wB w14.heap.size TN #[.int .i64 (R : Int), .slice a3 m d3])
          have R3 := Lib.hid (o3.row.keep BB)
          replace FF := Lib.hid ((FF.out.keep hb).keep BB)
          replace RP := Lib.hid ((RP.out.keep hb).keep BB)
          clear o3 hlo3 hb BB p0 p1
          obtain ⟨x0, x1⟩ := stNet.blk_ X3.out
          have Lx0 := later.cell x0
          have Lx1 := later.cell x1
          go_wp2_with fail
          (try simp only [List.append])
          refine later.region (by kernel_rfl) (lex.lexB_of (by kernel_rfl) (lex.all_whole (by kernel_rfl))) ?_
          repeat (go_big_quiet_step ((first
            | (go_at_call 22; exact later.same _ (has_any _ _ l.length l k (by omega) (RP.out.keep (Later.h _)) bb HBB.out))
            | (go_at_call 12; exact later.calls _ (spec_great _ _ _ m _ A' B y (R3.out.keep (Later.h _)) TWL.out HY.out))
            | fail)))
          refine wpQuiet_nil ?_
          intro _ hw'
          obtain ⟨g, rfl⟩ := hw'
          clear x0 x1 Lx0 Lx1
          go_wp2
          go_roundg gk
          case measure => omega
          case rel => exact ⟨k + 1, by omega, by go_num, FF.out.keep g.h, RP.out.keep g.h⟩
        · obtain rfl : k = n := by omega
          go_wp2_with fail
          refine (impl_isc _ _ _ k zs c A' B (by omega) FF.out.r1 true ⟨fun _ => IC.out, fun _ => rfl⟩).mono ?_; rintro e w15 ⟨rfl, hb⟩
          replace FF := Lib.hid (FF.out.keep hb)
          clear hb p0 p1
          obtain ⟨p0, p1⟩ := stNet.blk_ FF.out.b1
          go_wp2_with fail
          refine (impl_cw _ _ _ k zs 0 (by omega) FF.out.r1 0 (cw_empty TW.out.1)).mono ?_; rintro e w16 ⟨rfl, hb⟩
          replace FF := Lib.hid (FF.out.keep hb)
          clear hb p0 p1
          go_wp2
          go_ret
          exact ⟨rfl, FF.out.bl⟩
end Go.Proofs.Ytilabfmnaegidaa.wFnCutProofs
