/- For every row of bytes, FnRains returns true. -/
import Derived.Test.YtojahddamdlcpaaRainD
import Derived.Test.YtojahddamdlcpaaRainJ
set_option linter.unusedVariables false
namespace Go.Proofs.Ytojahddamdlcpaa.wFnRains
open Go.RowKit Go.Proofs.Ytojahddamdlcpaa.kit Go.Proofs.Ytojahddamdlcpaa.rainl Go.Proofs.Ytojahddamdlcpaa.lawi Go.Proofs.Ytojahddamdlcpaa.rain Go.Proofs.Ytojahddamdlcpaa.draw
theorem btoi_any (b : Bool) (w : World) : Calls Try.prog 20 #[.bool b] w fun e w' => e = .returned (.int .i64 (if b then 1 else 0)) ∧ w = w' := by
  cases b
  all_goals
    go_enter Try.func20, Try.ntmps20
    go_wp2
    go_ret
    exact ⟨rfl, rfl⟩
theorem wet_is (w : World) (v : Value) (n : Nat) (zs : List Int) (h : Row 1 w v n (IV zs)) (hc : Cap v) (ok : Ok zs) (D : Nat) (I S : Int) (e : I = D) (h1 : 1 ≤ D) (h2 : D ≤ n) (d : Nat) (hd : First (psum zs D) (n - D + 1) d) (b : Bool) (hb : decide (S ≤ psum zs D d) = b) :
    Calls Try.prog 23 #[v, .int .i64 I, .int .i64 S] w fun e w' => e = .returned (.bool b) ∧ w = w' := hb ▸ impl_wet w v n zs h hc ok D I S e h1 h2 d hd
set_option maxRecDepth 100000 in
set_option maxHeartbeats 2000000 in
theorem walk (w : World) (a0 : Option Addr) (len0 cap0 : Nat) (z0 : List Int) (w0 : IsRow .u8 w a0 len0 cap0 z0) :
    Calls Try.prog 3 #[.slice a0 len0 cap0] w fun e w' => e = .returned (.bool true) ∧ Below w.heap.size w w' := by
  have fits : len0 ≤ 1048576 ∨ 1048576 < len0 := by omega
  rcases fits with hl | hl
  · go_enter Try.func3, Try.ntmps3
    go_wp2_with fail
    refine (big_no _ _ _ _ hl).mono ?_; rintro e w1 ⟨rfl, rfl⟩
    go_wp2_with fail
    refine (drawRain _ _ _ _ w0.bytes hl w0.lt).mono ?_; rintro e w1 ⟨v, n, zs, rfl, n2, ok, hz, hown, B1⟩
    have n1 : 1 ≤ n := hz ▸ ok.1
    have hcap := Cap.own hown
    have OK := Lib.hid ok
    have HZ := Lib.hid hz
    clear ok hz w0
    go_wp2_with fail
    refine (impl_sums _ _ n zs (.of_own hown) OK.out).mono ?_; rintro e w2 ⟨vs, rfl, hos, hb2⟩
    have B2 := B1.trans (hb2.mono B1.size)
    have hown2 := own_below hown hb2
    clear hown hb2 B1
    obtain ⟨g, cp, rfl, _, _⟩ := own_some hown2 (by omega)
    obtain ⟨gs, cps, rfl, _, _⟩ := own_some hos (by omega)
    have hr : Row 1 w2 (.slice (some ⟨g, 0, none⟩) n cp) n (IV zs) := .of_own hown2
    have hcr : ∀ j, j < n → w2.cell? ⟨g, j, none⟩ = some (.int .i64 (zs.getD j 0)) := fun j hj => own_cell hown2 (g := g) rfl j _ (getI (by rw [HZ.out]; exact hj))
    have hcs : ∀ j, j < n → w2.cell? ⟨gs, j, none⟩ = some (.int .i64 (P zs (j + 1))) := fun j hj => by
      have := own_cell hos (g := gs) rfl j _ (getI (by rw [sums_len]; exact hj))
      rw [sums_at _ _ _ hj] at this; exact this
    have HR := Lib.hid hr
    have HCR := Lib.hid hcr
    have HCS := Lib.hid hcs
    clear hr hcr hcs hown2 hos
    go_wp2_with fail
    refine (impl_total _ _ n zs HR.out OK.out).mono ?_; rintro e w3 ⟨rfl, rfl⟩
    obtain ⟨t, ht⟩ : ∃ t, P zs n = t := ⟨_, rfl⟩
    have tb := P_bd OK.out n (by rw [HZ.out]; exact Nat.le_refl _)
    rw [ht] at tb ⊢
    have HT := Lib.hid ht
    have c1 : w2.cell? ⟨gs, n - 1, none⟩ = some (.int .i64 t) := by rw [HCS.out _ (by omega), show n - 1 + 1 = n by omega, HT.out]
    have e1 : ((n : Int) - 1).toNat = n - 1 := by omega
    have f0 : decide (t < 0) = false := decide_eq_false (by omega)
    clear ht
    obtain ⟨d, hd⟩ := First.ex (psum zs 1) n n1
    have hdn := hd.1
    obtain ⟨y, hy⟩ : ∃ y, zs.getD d 0 = y := ⟨_, rfl⟩
    have HD := Lib.hid hd
    have HY := Lib.hid hy
    clear hd hy
    go_wp2_with fail
    refine (impl_day _ _ n zs HR.out hcap OK.out d HD.out).mono ?_; rintro e w3 ⟨rfl, rfl⟩
    have f1 : decide ((d : Int) < 0) = false := decide_eq_false (by omega)
    have f2 : decide (n ≤ d) = false := decide_eq_false (by omega)
    clear c1 e1 f0
    go_wp2
    clear f1 f2
    go_loopw [8, 9, 10] (fun a b i wr => ∃ k : Nat, k ≤ n ∧ i = .int .i64 k ∧ a = .int .i64 (dry zs k) ∧ b = .int .i64 (run zs k) ∧ ∃ q, wr = w2.drewN q) (fun _ _ i _ => n - (intOf i).toNat)
    case atStart => exact ⟨0, Nat.zero_le _, rfl, rfl, rfl, 0, rfl⟩
    case round =>
      obtain ⟨k, hk, rfl, rfl, rfl, q, rfl⟩ := hrel
      by_cases hlt : k < n
      · obtain ⟨z, hz⟩ : ∃ z, zs.getD k 0 = z := ⟨_, rfl⟩
        obtain ⟨z0, z1⟩ := okAt OK.out HZ.out hlt hz
        have hzy : z ≤ y := by
          have := HD.out.2.1 k hlt
          rw [psum_one, psum_one, hz, HY.out] at this; exact this
        have g1 := HCR.out k hlt
        have g2 := HCR.out d hdn
        rw [hz] at g1
        rw [HY.out] at g2
        obtain ⟨p, hp⟩ : ∃ p, P zs k = p := ⟨_, rfl⟩
        have hpb := P_bd OK.out k (by rw [HZ.out]; omega)
        rw [hp] at hpb
        have g3 := HCS.out k hlt
        rw [P_succ, hp, hz] at g3
        have e4 : IntKind.i64.wrap (p + z - p) = z := by rw [show p + z - p = z by omega]; exact IntWalk.i64_in _ (by omega)
        have hb1 := dry_bd zs k
        have hb2 := run_bd zs k
        obtain ⟨s, hs⟩ : ∃ s, dry zs k = s := ⟨_, rfl⟩
        obtain ⟨r, hr⟩ : ∃ r, run zs k = r := ⟨_, rfl⟩
        rw [hs] at hb1 ⊢
        rw [hr] at hb2 ⊢
        by_cases hz0 : 0 < z
        · have HDR : Hid (dry zs (k + 1) = s) := by show dry zs (k + 1) = s; rw [dry_wet (by omega), hs]
          have HRN : Hid (run zs (k + 1) = 0) := by show run zs (k + 1) = 0; rw [run_wet (by omega)]
          have hb : (z == 0) = false := beq_eq_false_iff_ne.2 (by omega)
          by_cases hk0 : 0 < k
          · have g4 := HCS.out (k - 1) (by omega)
            rw [show k - 1 + 1 = k by omega, hp] at g4
            have e5 : ((k : Int) - 1).toNat = k - 1 := by omega
            have hkd : decide ((0 : Int) < (k : Int)) = true := by simp; omega
            clear hz hp hs hr
            go_wp2
            go_quiet (fail)
            go_wp2_with fail
            refine (btoi_any _ _).mono ?_; rintro e w3 ⟨rfl, rfl⟩
            go_wp2
            all_goals
              go_roundw
              case rel => exact ⟨k + 1, by omega, by go_num, by rw [HDR.out]; first | done | (exact congrArg _ (by omega)) | (exact congrArg _ (by split <;> omega)) | (exact congrArg _ (by simp; omega)) | fail, by rw [HRN.out]; first | done | (exact congrArg _ (by omega)) | fail, _, rfl⟩
              case measure => simp [intOf]; omega
          · have hkd : decide ((0 : Int) < (k : Int)) = false := by simp; omega
            clear hz hp hs hr
            go_wp2
            go_quiet (fail)
            go_wp2_with fail
            refine (btoi_any _ _).mono ?_; rintro e w3 ⟨rfl, rfl⟩
            go_wp2
            all_goals
              go_roundw
              case rel => exact ⟨k + 1, by omega, by go_num, by rw [HDR.out]; first | done | (exact congrArg _ (by omega)) | (exact congrArg _ (by split <;> omega)) | (exact congrArg _ (by simp; omega)) | fail, by rw [HRN.out]; first | done | (exact congrArg _ (by omega)) | fail, _, rfl⟩
              case measure => simp [intOf]; omega
        · have HDR : Hid (dry zs (k + 1) = max s (r + 1)) := by show dry zs (k + 1) = max s (r + 1); rw [dry_up (by omega), hs, hr]
          have HRN : Hid (run zs (k + 1) = r + 1) := by show run zs (k + 1) = r + 1; rw [run_dry (by omega), hr]
          obtain rfl : z = 0 := by omega
          by_cases hk0 : 0 < k
          · have g4 := HCS.out (k - 1) (by omega)
            rw [show k - 1 + 1 = k by omega, hp] at g4
            have e5 : ((k : Int) - 1).toNat = k - 1 := by omega
            have hkd : decide ((0 : Int) < (k : Int)) = true := by simp; omega
            clear hz hp hs hr
            go_wp2
            go_quiet (fail)
            go_wp2_with fail
            refine (btoi_any _ _).mono ?_; rintro e w3 ⟨rfl, rfl⟩
            go_wp2
            all_goals
              go_roundw
              case rel => exact ⟨k + 1, by omega, by go_num, by rw [HDR.out]; first | done | (exact congrArg _ (by omega)) | (exact congrArg _ (by split <;> omega)) | (exact congrArg _ (by simp; omega)) | fail, by rw [HRN.out]; first | done | (exact congrArg _ (by omega)) | fail, _, rfl⟩
              case measure => simp [intOf]; omega
          · have hkd : decide ((0 : Int) < (k : Int)) = false := by simp; omega
            clear hz hp hs hr
            go_wp2
            go_quiet (fail)
            go_wp2_with fail
            refine (btoi_any _ _).mono ?_; rintro e w3 ⟨rfl, rfl⟩
            go_wp2
            all_goals
              go_roundw
              case rel => exact ⟨k + 1, by omega, by go_num, by rw [HDR.out]; first | done | (exact congrArg _ (by omega)) | (exact congrArg _ (by split <;> omega)) | (exact congrArg _ (by simp; omega)) | fail, by rw [HRN.out]; first | done | (exact congrArg _ (by omega)) | fail, _, rfl⟩
              case measure => simp [intOf]; omega
      · obtain rfl : n = k := by omega
        obtain ⟨s, hs⟩ : ∃ s, dry zs n = s := ⟨_, rfl⟩
        rw [hs]
        have HS := Lib.hid hs
        clear hs hlt
        have fits : n < 7 ∨ 7 ≤ n := by omega
        rcases fits with h7 | h7
        · obtain ⟨f, hf⟩ := First.ex (psum zs n) (n - n + 1) (by omega)
          have hfn := hf.1
          obtain ⟨x, hx⟩ : ∃ x, psum zs n f = x := ⟨_, rfl⟩
          have xb := psum_bd OK.out (d := n) (k := f) (by rw [HZ.out]; omega)
          rw [hx] at xb
          have HF := Lib.hid hf
          have HX := Lib.hid hx
          clear hf hx
          go_wp2_with fail
          refine (impl_week _ _ n zs (Row.drewN HR.out q) hcap OK.out n (by omega) f HF.out).mono ?_; rintro e w3 ⟨rfl, rfl⟩
          rw [HX.out]
          have k1 : decide ((f : Int) < 0) = false := decide_eq_false (by omega)
          have k2 : decide ((n : Int) < f + (n : Int)) = false := decide_eq_false (by omega)
          have k3 : decide (n < f + n) = false := decide_eq_false (by omega)
          go_wp2
          go_loop [14, 15] (fun a i => ∃ m : Nat, f ≤ m ∧ m ≤ f + n ∧ i = .int .i64 m ∧ a = .int .i64 (P zs m - P zs f)) (fun _ i => f + n - (intOf i).toNat)
          case atStart => exact ⟨f, Nat.le_refl _, by omega, rfl, by simp⟩
          case round =>
            obtain ⟨m, hm1, hm2, rfl, rfl⟩ := hrel
            by_cases hlt2 : m < f + n
            · obtain ⟨z, hz⟩ : ∃ z, zs.getD m 0 = z := ⟨_, rfl⟩
              obtain ⟨z0, z1⟩ := okAt OK.out HZ.out (show m < n by omega) hz
              obtain ⟨u, hu⟩ : ∃ u, P zs m - P zs f = u := ⟨_, rfl⟩
              have ub1 := P_bd OK.out m (by rw [HZ.out]; omega)
              have ub2 := P_bd OK.out f (by rw [HZ.out]; omega)
              have HU : Hid (P zs (m + 1) - P zs f = u + z) := by show P zs (m + 1) - P zs f = u + z; rw [P_succ, hz]; omega
              have g1 := HCR.out m (by omega)
              rw [hz] at g1
              have u0 : -6000 ≤ u := by omega
              have u1 : u ≤ 6000 := by omega
              rw [hu]
              clear hz hu ub1 ub2
              go_wp2
              go_round
              case rel => exact ⟨m + 1, by omega, by omega, by go_num, by rw [HU.out]⟩
              case measure => simp [intOf]; omega
            · obtain rfl : m = f + n := by omega
              have hxx : P zs (f + n) - P zs f = x := HX.out
              rw [hxx]
              clear hxx k1 k2 k3
              go_wp2_with fail
              refine (impl_dry _ _ n zs (Row.drewN HR.out q) OK.out).mono ?_; rintro e w3 ⟨rfl, rfl⟩
              rw [HS.out]
              go_wp2_with fail
              refine (wet_is _ _ n zs (Row.drewN HR.out q) hcap OK.out n _ _ (by omega) (by omega) (by omega) f HF.out true (by rw [HX.out]; exact decide_eq_true (by omega))).mono ?_; rintro e w3 ⟨rfl, rfl⟩
              go_wp2_with fail
              refine (wet_is _ _ n zs (Row.drewN HR.out q) hcap OK.out n _ _ (by omega) (by omega) (by omega) f HF.out false (by rw [HX.out]; exact decide_eq_false (by omega))).mono ?_; rintro e w3 ⟨rfl, rfl⟩
              go_wp2_with fail
              refine (wet_is _ _ n zs (Row.drewN HR.out q) hcap OK.out n _ _ rfl (by omega) (Nat.le_refl _) 0 (by rw [Nat.sub_self]; exact First.one _) true (decide_eq_true (by unfold psum; rw [Nat.zero_add, HT.out]; show t ≤ t - 0; omega))).mono ?_; rintro e w3 ⟨rfl, rfl⟩
              go_wp2_with fail
              refine (impl_ok_yes _ _ n zs (Row.drewN HR.out q) OK.out).mono ?_; rintro e w3 ⟨rfl, rfl⟩
              have g2 := HCR.out d hdn
              rw [HY.out] at g2
              go_wp2_with fail
              refine (wet_is _ _ n zs (Row.drewN HR.out q) hcap OK.out 1 _ _ rfl (by omega) (by omega) d (by rw [show n - 1 + 1 = n by omega]; exact HD.out) true (decide_eq_true (by rw [psum_one, HY.out]; omega))).mono ?_; rintro e w3 ⟨rfl, rfl⟩
              go_wp2
              go_ret
              exact ⟨rfl, below_drewN B2 q⟩
        · obtain ⟨f, hf⟩ := First.ex (psum zs 7) (n - 7 + 1) (by omega)
          have hfn := hf.1
          obtain ⟨x, hx⟩ : ∃ x, psum zs 7 f = x := ⟨_, rfl⟩
          have xb := psum_bd OK.out (d := 7) (k := f) (by rw [HZ.out]; omega)
          rw [hx] at xb
          have HF := Lib.hid hf
          have HX := Lib.hid hx
          clear hf hx
          go_wp2_with fail
          refine (impl_week _ _ n zs (Row.drewN HR.out q) hcap OK.out 7 (by omega) f HF.out).mono ?_; rintro e w3 ⟨rfl, rfl⟩
          rw [HX.out]
          have k1 : decide ((f : Int) < 0) = false := decide_eq_false (by omega)
          have k2 : decide ((n : Int) < f + 7) = false := decide_eq_false (by omega)
          have k3 : decide (n < f + 7) = false := decide_eq_false (by omega)
          go_wp2
          go_loop [14, 15] (fun a i => ∃ m : Nat, f ≤ m ∧ m ≤ f + 7 ∧ i = .int .i64 m ∧ a = .int .i64 (P zs m - P zs f)) (fun _ i => f + 7 - (intOf i).toNat)
          case atStart => exact ⟨f, Nat.le_refl _, by omega, rfl, by simp⟩
          case round =>
            obtain ⟨m, hm1, hm2, rfl, rfl⟩ := hrel
            by_cases hlt2 : m < f + 7
            · obtain ⟨z, hz⟩ : ∃ z, zs.getD m 0 = z := ⟨_, rfl⟩
              obtain ⟨z0, z1⟩ := okAt OK.out HZ.out (show m < n by omega) hz
              obtain ⟨u, hu⟩ : ∃ u, P zs m - P zs f = u := ⟨_, rfl⟩
              have ub1 := P_bd OK.out m (by rw [HZ.out]; omega)
              have ub2 := P_bd OK.out f (by rw [HZ.out]; omega)
              have HU : Hid (P zs (m + 1) - P zs f = u + z) := by show P zs (m + 1) - P zs f = u + z; rw [P_succ, hz]; omega
              have g1 := HCR.out m (by omega)
              rw [hz] at g1
              have u0 : -6000 ≤ u := by omega
              have u1 : u ≤ 6000 := by omega
              rw [hu]
              clear hz hu ub1 ub2
              go_wp2
              go_round
              case rel => exact ⟨m + 1, by omega, by omega, by go_num, by rw [HU.out]⟩
              case measure => simp [intOf]; omega
            · obtain rfl : m = f + 7 := by omega
              have hxx : P zs (f + 7) - P zs f = x := HX.out
              rw [hxx]
              clear hxx k1 k2 k3
              go_wp2_with fail
              refine (impl_dry _ _ n zs (Row.drewN HR.out q) OK.out).mono ?_; rintro e w3 ⟨rfl, rfl⟩
              rw [HS.out]
              go_wp2_with fail
              refine (wet_is _ _ n zs (Row.drewN HR.out q) hcap OK.out 7 _ _ (by omega) (by omega) (by omega) f HF.out true (by rw [HX.out]; exact decide_eq_true (by omega))).mono ?_; rintro e w3 ⟨rfl, rfl⟩
              go_wp2_with fail
              refine (wet_is _ _ n zs (Row.drewN HR.out q) hcap OK.out 7 _ _ (by omega) (by omega) (by omega) f HF.out false (by rw [HX.out]; exact decide_eq_false (by omega))).mono ?_; rintro e w3 ⟨rfl, rfl⟩
              go_wp2_with fail
              refine (wet_is _ _ n zs (Row.drewN HR.out q) hcap OK.out n _ _ rfl (by omega) (Nat.le_refl _) 0 (by rw [Nat.sub_self]; exact First.one _) true (decide_eq_true (by unfold psum; rw [Nat.zero_add, HT.out]; show t ≤ t - 0; omega))).mono ?_; rintro e w3 ⟨rfl, rfl⟩
              go_wp2_with fail
              refine (impl_ok_yes _ _ n zs (Row.drewN HR.out q) OK.out).mono ?_; rintro e w3 ⟨rfl, rfl⟩
              have g2 := HCR.out d hdn
              rw [HY.out] at g2
              go_wp2_with fail
              refine (wet_is _ _ n zs (Row.drewN HR.out q) hcap OK.out 1 _ _ rfl (by omega) (by omega) d (by rw [show n - 1 + 1 = n by omega]; exact HD.out) true (decide_eq_true (by rw [psum_one, HY.out]; omega))).mono ?_; rintro e w3 ⟨rfl, rfl⟩
              go_wp2
              go_ret
              exact ⟨rfl, below_drewN B2 q⟩
  · go_enter Try.func3, Try.ntmps3
    go_wp2_with fail
    refine (big_yes _ _ _ _ hl).mono ?_; rintro e w1 ⟨rfl, rfl⟩
    go_wp2
    go_ret
    exact ⟨rfl, Below.refl _ _⟩
end Go.Proofs.Ytojahddamdlcpaa.wFnRains
