/- For every row of days, the exact laws on rain return true. -/
import Derived.Test.YtojahddamdlcpaaRainJ
set_option linter.unusedVariables false
namespace Go.Proofs.Ytojahddamdlcpaa.wFnExactRainOk
open Go.RowKit Go.Proofs.Ytojahddamdlcpaa.kit Go.Proofs.Ytojahddamdlcpaa.rainl Go.Proofs.Ytojahddamdlcpaa.lawi Go.Proofs.Ytojahddamdlcpaa.rain
end Go.Proofs.Ytojahddamdlcpaa.wFnExactRainOk
namespace Go.Proofs.Ytojahddamdlcpaa.wFnExactTotalRain
open Go.RowKit Go.Proofs.Ytojahddamdlcpaa.kit Go.Proofs.Ytojahddamdlcpaa.rainl Go.Proofs.Ytojahddamdlcpaa.lawi Go.Proofs.Ytojahddamdlcpaa.rain
set_option maxHeartbeats 400000 in
theorem walk (w : World) (a0 : Option Addr) (len0 cap0 : Nat) (z0 : List Int) (w0 : IsRow .i64 w a0 len0 cap0 z0) :
    Calls Try.prog 5 #[.slice a0 len0 cap0] w fun e w' => e = .returned (.bool true) ∧ Below w.heap.size w w' := by
  have fits : len0 ≤ 1048576 ∨ 1048576 < len0 := by omega
  rcases fits with hl | hl
  · have h0 := w0.row
    obtain ⟨zs, hzs⟩ : ∃ zs, z0.take len0 = zs := ⟨_, rfl⟩
    rw [hzs] at h0
    have hz : zs.length = len0 := by simpa using h0.1
    clear hzs w0
    by_cases ok : Ok zs
    · skip
      go_enter Try.func5, Try.ntmps5
      go_wp2_with fail
      refine (toInt_any _ _ len0 zs hl h0).mono ?_; rintro e w1 ⟨v1, rfl, ho1, hg1⟩
      have B1 : Below w.heap.size w w1 := below_grown hg1 (Nat.le_refl _) (by simp)
      clear hg1
      go_wp2_with fail
      refine (spec_total _ v1 len0 zs (.of_own ho1) ok).mono ?_; rintro e w2 ⟨rfl, rfl⟩
      have B2 := B1; clear B1
      go_wp2_with fail
      refine (toInt_any _ _ len0 zs hl (h0.keep B2)).mono ?_; rintro e w3 ⟨v2, rfl, ho2, hg2⟩
      have B3 := B2.trans ((below_grown hg2 (Nat.le_refl _) (by simp)).mono B2.size)
      clear hg2 ho1 B2
      go_wp2_with fail
      refine (impl_total _ v2 len0 zs (.of_own ho2) ok).mono ?_; rintro e w4 ⟨rfl, rfl⟩
      have B4 := B3; have ho2' := ho2; clear B3 ho2
      go_wp2_with fail
      refine (toInt_any _ _ len0 zs hl (h0.keep B4)).mono ?_; rintro e w5 ⟨v3, rfl, ho3, hg3⟩
      have B5 := B4.trans ((below_grown hg3 (Nat.le_refl _) (by simp)).mono B4.size)
      have ho2'' := own_weak ho2' hg3
      clear hg3 ho2' B4
      go_wp2_with fail
      refine (eqI_yes _ v2 v3 len0 zs (by omega) (.of_own ho2'') (.of_own ho3)).mono ?_; rintro e w6 ⟨rfl, q6, rfl⟩
      go_wp2
      go_ret
      exact ⟨rfl, below_drewN B5 q6⟩
    · skip
      go_enter Try.func5, Try.ntmps5
      go_wp2_with fail
      refine (toInt_any _ _ len0 zs hl h0).mono ?_; rintro e w1 ⟨v1, rfl, ho1, hg1⟩
      have B1 : Below w.heap.size w w1 := below_grown hg1 (Nat.le_refl _) (by simp)
      clear hg1
      go_wp2_with fail
      refine (spec_total_no _ v1 len0 zs hl (.of_own ho1) ok).mono ?_; rintro e w2 ⟨rfl, rfl⟩
      have B2 := B1; clear B1
      go_wp2_with fail
      refine (toInt_any _ _ len0 zs hl (h0.keep B2)).mono ?_; rintro e w3 ⟨v2, rfl, ho2, hg2⟩
      have B3 := B2.trans ((below_grown hg2 (Nat.le_refl _) (by simp)).mono B2.size)
      clear hg2 ho1 B2
      go_wp2_with fail
      refine (impl_total_no _ v2 len0 zs hl (.of_own ho2) ok).mono ?_; rintro e w4 ⟨rfl, rfl⟩
      have B4 := B3; have ho2' := ho2; clear B3 ho2
      go_wp2_with fail
      refine (toInt_any _ _ len0 zs hl (h0.keep B4)).mono ?_; rintro e w5 ⟨v3, rfl, ho3, hg3⟩
      have B5 := B4.trans ((below_grown hg3 (Nat.le_refl _) (by simp)).mono B4.size)
      have ho2'' := own_weak ho2' hg3
      clear hg3 ho2' B4
      go_wp2_with fail
      refine (eqI_yes _ v2 v3 len0 zs (by omega) (.of_own ho2'') (.of_own ho3)).mono ?_; rintro e w6 ⟨rfl, q6, rfl⟩
      go_wp2
      go_ret
      exact ⟨rfl, below_drewN B5 q6⟩
  · go_enter Try.func5, Try.ntmps5
    go_wp2
    go_ret
    exact ⟨rfl, Below.refl _ _⟩
end Go.Proofs.Ytojahddamdlcpaa.wFnExactTotalRain
namespace Go.Proofs.Ytojahddamdlcpaa.wFnExactLongestDry
open Go.RowKit Go.Proofs.Ytojahddamdlcpaa.kit Go.Proofs.Ytojahddamdlcpaa.rainl Go.Proofs.Ytojahddamdlcpaa.lawi Go.Proofs.Ytojahddamdlcpaa.rain
end Go.Proofs.Ytojahddamdlcpaa.wFnExactLongestDry
namespace Go.Proofs.Ytojahddamdlcpaa.wFnExactWettestDay
open Go.RowKit Go.Proofs.Ytojahddamdlcpaa.kit Go.Proofs.Ytojahddamdlcpaa.rainl Go.Proofs.Ytojahddamdlcpaa.lawi Go.Proofs.Ytojahddamdlcpaa.rain
set_option maxHeartbeats 400000 in
theorem walk (w : World) (a0 : Option Addr) (len0 cap0 : Nat) (z0 : List Int) (w0 : IsRow .i64 w a0 len0 cap0 z0) :
    Calls Try.prog 6 #[.slice a0 len0 cap0] w fun e w' => e = .returned (.bool true) ∧ Below w.heap.size w w' := by
  have fits : len0 ≤ 1048576 ∨ 1048576 < len0 := by omega
  rcases fits with hl | hl
  · have h0 := w0.row
    obtain ⟨zs, hzs⟩ : ∃ zs, z0.take len0 = zs := ⟨_, rfl⟩
    rw [hzs] at h0
    have hz : zs.length = len0 := by simpa using h0.1
    clear hzs w0
    by_cases ok : Ok zs
    · obtain ⟨d, hd⟩ := First.ex (psum zs 1) len0 (by have := ok.1; omega)
      go_enter Try.func6, Try.ntmps6
      go_wp2_with fail
      refine (toInt_any _ _ len0 zs hl h0).mono ?_; rintro e w1 ⟨v1, rfl, ho1, hg1⟩
      have B1 : Below w.heap.size w w1 := below_grown hg1 (Nat.le_refl _) (by simp)
      clear hg1
      go_wp2_with fail
      refine (spec_day _ v1 len0 zs (.of_own ho1) ok d hd).mono ?_; rintro e w2 ⟨rfl, q1, rfl⟩
      have B2 := below_drewN B1 q1; clear B1
      go_wp2_with fail
      refine (toInt_any _ _ len0 zs hl (h0.keep B2)).mono ?_; rintro e w3 ⟨v2, rfl, ho2, hg2⟩
      have B3 := B2.trans ((below_grown hg2 (Nat.le_refl _) (by simp)).mono B2.size)
      clear hg2 ho1 B2
      go_wp2_with fail
      refine (impl_day _ v2 len0 zs (.of_own ho2) (Cap.own ho2) ok d hd).mono ?_; rintro e w4 ⟨rfl, rfl⟩
      have B4 := B3; have ho2' := ho2; clear B3 ho2
      go_wp2_with fail
      refine (toInt_any _ _ len0 zs hl (h0.keep B4)).mono ?_; rintro e w5 ⟨v3, rfl, ho3, hg3⟩
      have B5 := B4.trans ((below_grown hg3 (Nat.le_refl _) (by simp)).mono B4.size)
      have ho2'' := own_weak ho2' hg3
      clear hg3 ho2' B4
      go_wp2_with fail
      refine (eqI_yes _ v2 v3 len0 zs (by omega) (.of_own ho2'') (.of_own ho3)).mono ?_; rintro e w6 ⟨rfl, q6, rfl⟩
      go_wp2
      go_ret
      exact ⟨rfl, below_drewN B5 q6⟩
    · skip
      go_enter Try.func6, Try.ntmps6
      go_wp2_with fail
      refine (toInt_any _ _ len0 zs hl h0).mono ?_; rintro e w1 ⟨v1, rfl, ho1, hg1⟩
      have B1 : Below w.heap.size w w1 := below_grown hg1 (Nat.le_refl _) (by simp)
      clear hg1
      go_wp2_with fail
      refine (spec_day_no _ v1 len0 zs hl (.of_own ho1) ok).mono ?_; rintro e w2 ⟨rfl, rfl⟩
      have B2 := B1; clear B1
      go_wp2_with fail
      refine (toInt_any _ _ len0 zs hl (h0.keep B2)).mono ?_; rintro e w3 ⟨v2, rfl, ho2, hg2⟩
      have B3 := B2.trans ((below_grown hg2 (Nat.le_refl _) (by simp)).mono B2.size)
      clear hg2 ho1 B2
      go_wp2_with fail
      refine (impl_day_no _ v2 len0 zs hl (.of_own ho2) ok).mono ?_; rintro e w4 ⟨rfl, rfl⟩
      have B4 := B3; have ho2' := ho2; clear B3 ho2
      go_wp2_with fail
      refine (toInt_any _ _ len0 zs hl (h0.keep B4)).mono ?_; rintro e w5 ⟨v3, rfl, ho3, hg3⟩
      have B5 := B4.trans ((below_grown hg3 (Nat.le_refl _) (by simp)).mono B4.size)
      have ho2'' := own_weak ho2' hg3
      clear hg3 ho2' B4
      go_wp2_with fail
      refine (eqI_yes _ v2 v3 len0 zs (by omega) (.of_own ho2'') (.of_own ho3)).mono ?_; rintro e w6 ⟨rfl, q6, rfl⟩
      go_wp2
      go_ret
      exact ⟨rfl, below_drewN B5 q6⟩
  · go_enter Try.func6, Try.ntmps6
    go_wp2
    go_ret
    exact ⟨rfl, Below.refl _ _⟩
end Go.Proofs.Ytojahddamdlcpaa.wFnExactWettestDay
namespace Go.Proofs.Ytojahddamdlcpaa.wFnExactWettestWeek
open Go.RowKit Go.Proofs.Ytojahddamdlcpaa.kit Go.Proofs.Ytojahddamdlcpaa.rainl Go.Proofs.Ytojahddamdlcpaa.lawi Go.Proofs.Ytojahddamdlcpaa.rain
set_option maxHeartbeats 400000 in
theorem walk (w : World) (a0 : Option Addr) (len0 cap0 : Nat) (z0 : List Int) (w0 : IsRow .i64 w a0 len0 cap0 z0) :
    Calls Try.prog 7 #[.slice a0 len0 cap0] w fun e w' => e = .returned (.bool true) ∧ Below w.heap.size w w' := by
  have fits : len0 ≤ 1048576 ∨ 1048576 < len0 := by omega
  rcases fits with hl | hl
  · have h0 := w0.row
    obtain ⟨zs, hzs⟩ : ∃ zs, z0.take len0 = zs := ⟨_, rfl⟩
    rw [hzs] at h0
    have hz : zs.length = len0 := by simpa using h0.1
    clear hzs w0
    by_cases ok : Ok zs
    · obtain ⟨D, hD⟩ : ∃ D, D = min 7 len0 := ⟨_, rfl⟩
      obtain ⟨d, hd⟩ := First.ex (psum zs D) (len0 - D + 1) (by omega)
      have HD := Lib.hid hD; clear hD
      go_enter Try.func7, Try.ntmps7
      go_wp2_with fail
      refine (toInt_any _ _ len0 zs hl h0).mono ?_; rintro e w1 ⟨v1, rfl, ho1, hg1⟩
      have B1 : Below w.heap.size w w1 := below_grown hg1 (Nat.le_refl _) (by simp)
      clear hg1
      go_wp2_with fail
      refine (spec_week _ v1 len0 zs (.of_own ho1) ok D HD.out d hd).mono ?_; rintro e w2 ⟨rfl, hb1⟩
      have B2 := B1.trans (hb1.mono B1.size); clear B1 hb1
      go_wp2_with fail
      refine (toInt_any _ _ len0 zs hl (h0.keep B2)).mono ?_; rintro e w3 ⟨v2, rfl, ho2, hg2⟩
      have B3 := B2.trans ((below_grown hg2 (Nat.le_refl _) (by simp)).mono B2.size)
      clear hg2 ho1 B2
      go_wp2_with fail
      refine (impl_week _ v2 len0 zs (.of_own ho2) (Cap.own ho2) ok D HD.out d hd).mono ?_; rintro e w4 ⟨rfl, rfl⟩
      have B4 := B3; have ho2' := ho2; clear B3 ho2
      go_wp2_with fail
      refine (toInt_any _ _ len0 zs hl (h0.keep B4)).mono ?_; rintro e w5 ⟨v3, rfl, ho3, hg3⟩
      have B5 := B4.trans ((below_grown hg3 (Nat.le_refl _) (by simp)).mono B4.size)
      have ho2'' := own_weak ho2' hg3
      clear hg3 ho2' B4
      go_wp2_with fail
      refine (eqI_yes _ v2 v3 len0 zs (by omega) (.of_own ho2'') (.of_own ho3)).mono ?_; rintro e w6 ⟨rfl, q6, rfl⟩
      go_wp2
      go_ret
      exact ⟨rfl, below_drewN B5 q6⟩
    · skip
      go_enter Try.func7, Try.ntmps7
      go_wp2_with fail
      refine (toInt_any _ _ len0 zs hl h0).mono ?_; rintro e w1 ⟨v1, rfl, ho1, hg1⟩
      have B1 : Below w.heap.size w w1 := below_grown hg1 (Nat.le_refl _) (by simp)
      clear hg1
      go_wp2_with fail
      refine (spec_week_no _ v1 len0 zs hl (.of_own ho1) ok).mono ?_; rintro e w2 ⟨rfl, rfl⟩
      have B2 := B1; clear B1
      go_wp2_with fail
      refine (toInt_any _ _ len0 zs hl (h0.keep B2)).mono ?_; rintro e w3 ⟨v2, rfl, ho2, hg2⟩
      have B3 := B2.trans ((below_grown hg2 (Nat.le_refl _) (by simp)).mono B2.size)
      clear hg2 ho1 B2
      go_wp2_with fail
      refine (impl_week_no _ v2 len0 zs hl (.of_own ho2) ok).mono ?_; rintro e w4 ⟨rfl, rfl⟩
      have B4 := B3; have ho2' := ho2; clear B3 ho2
      go_wp2_with fail
      refine (toInt_any _ _ len0 zs hl (h0.keep B4)).mono ?_; rintro e w5 ⟨v3, rfl, ho3, hg3⟩
      have B5 := B4.trans ((below_grown hg3 (Nat.le_refl _) (by simp)).mono B4.size)
      have ho2'' := own_weak ho2' hg3
      clear hg3 ho2' B4
      go_wp2_with fail
      refine (eqI_yes _ v2 v3 len0 zs (by omega) (.of_own ho2'') (.of_own ho3)).mono ?_; rintro e w6 ⟨rfl, q6, rfl⟩
      go_wp2
      go_ret
      exact ⟨rfl, below_drewN B5 q6⟩
  · go_enter Try.func7, Try.ntmps7
    go_wp2
    go_ret
    exact ⟨rfl, Below.refl _ _⟩
end Go.Proofs.Ytojahddamdlcpaa.wFnExactWettestWeek
namespace Go.Proofs.Ytojahddamdlcpaa.wFnExactHasWetPart
open Go.RowKit Go.Proofs.Ytojahddamdlcpaa.kit Go.Proofs.Ytojahddamdlcpaa.rainl Go.Proofs.Ytojahddamdlcpaa.lawi Go.Proofs.Ytojahddamdlcpaa.rain
set_option maxHeartbeats 400000 in
theorem walk (w : World) (a0 : Option Addr) (len0 cap0 : Nat) (z0 : List Int) (w0 : IsRow .i64 w a0 len0 cap0 z0) (a1 : Int) (_ : (Lit.int .i64 a1).wf = true) (a2 : Int) (_ : (Lit.int .i64 a2).wf = true) :
    Calls Try.prog 8 #[.slice a0 len0 cap0, .int .i64 a1, .int .i64 a2] w fun e w' => e = .returned (.bool true) ∧ Below w.heap.size w w' := by
  have fits : len0 ≤ 1048576 ∨ 1048576 < len0 := by omega
  rcases fits with hl | hl
  · have h0 := w0.row
    obtain ⟨zs, hzs⟩ : ∃ zs, z0.take len0 = zs := ⟨_, rfl⟩
    rw [hzs] at h0
    have hz : zs.length = len0 := by simpa using h0.1
    clear hzs w0
    by_cases ok : Ok zs
    by_cases hi : 1 ≤ a1 ∧ a1 ≤ len0
    · obtain ⟨D, hD⟩ := Int.eq_ofNat_of_zero_le (show 0 ≤ a1 by omega)
      obtain ⟨d, hd⟩ := First.ex (psum zs D) (len0 - D + 1) (by omega)
      have HD := Lib.hid hD; have HI := Lib.hid hi; clear hD hi
      go_enter Try.func8, Try.ntmps8
      go_wp2_with fail
      refine (toInt_any _ _ len0 zs hl h0).mono ?_; rintro e w1 ⟨v1, rfl, ho1, hg1⟩
      have B1 : Below w.heap.size w w1 := below_grown hg1 (Nat.le_refl _) (by simp)
      clear hg1
      go_wp2_with fail
      refine (spec_wet _ v1 len0 zs (.of_own ho1) ok D _ _ HD.out (by have := HD.out; have := HI.out; omega) (by have := HD.out; have := HI.out; omega) d hd).mono ?_; rintro e w2 ⟨rfl, hb1⟩
      have B2 := B1.trans (hb1.mono B1.size); clear B1 hb1
      go_wp2_with fail
      refine (toInt_any _ _ len0 zs hl (h0.keep B2)).mono ?_; rintro e w3 ⟨v2, rfl, ho2, hg2⟩
      have B3 := B2.trans ((below_grown hg2 (Nat.le_refl _) (by simp)).mono B2.size)
      clear hg2 ho1 B2
      go_wp2_with fail
      refine (impl_wet _ v2 len0 zs (.of_own ho2) (Cap.own ho2) ok D _ _ HD.out (by have := HD.out; have := HI.out; omega) (by have := HD.out; have := HI.out; omega) d hd).mono ?_; rintro e w4 ⟨rfl, rfl⟩
      have B4 := B3; have ho2' := ho2; clear B3 ho2
      go_wp2_with fail
      refine (toInt_any _ _ len0 zs hl (h0.keep B4)).mono ?_; rintro e w5 ⟨v3, rfl, ho3, hg3⟩
      have B5 := B4.trans ((below_grown hg3 (Nat.le_refl _) (by simp)).mono B4.size)
      have ho2'' := own_weak ho2' hg3
      clear hg3 ho2' B4
      go_wp2_with fail
      refine (eqI_yes _ v2 v3 len0 zs (by omega) (.of_own ho2'') (.of_own ho3)).mono ?_; rintro e w6 ⟨rfl, q6, rfl⟩
      go_wp2
      go_ret
      exact ⟨rfl, below_drewN B5 q6⟩
    · have HI := Lib.hid hi; clear hi
      go_enter Try.func8, Try.ntmps8
      go_wp2_with fail
      refine (toInt_any _ _ len0 zs hl h0).mono ?_; rintro e w1 ⟨v1, rfl, ho1, hg1⟩
      have B1 : Below w.heap.size w w1 := below_grown hg1 (Nat.le_refl _) (by simp)
      clear hg1
      go_wp2_with fail
      refine (spec_wet_out _ v1 len0 zs (.of_own ho1) ok _ _ HI.out).mono ?_; rintro e w2 ⟨rfl, hb1⟩
      have B2 := B1.trans (hb1.mono B1.size); clear B1 hb1
      go_wp2_with fail
      refine (toInt_any _ _ len0 zs hl (h0.keep B2)).mono ?_; rintro e w3 ⟨v2, rfl, ho2, hg2⟩
      have B3 := B2.trans ((below_grown hg2 (Nat.le_refl _) (by simp)).mono B2.size)
      clear hg2 ho1 B2
      go_wp2_with fail
      refine (impl_wet_out _ v2 len0 zs (.of_own ho2) ok _ _ HI.out).mono ?_; rintro e w4 ⟨rfl, rfl⟩
      have B4 := B3; have ho2' := ho2; clear B3 ho2
      go_wp2_with fail
      refine (toInt_any _ _ len0 zs hl (h0.keep B4)).mono ?_; rintro e w5 ⟨v3, rfl, ho3, hg3⟩
      have B5 := B4.trans ((below_grown hg3 (Nat.le_refl _) (by simp)).mono B4.size)
      have ho2'' := own_weak ho2' hg3
      clear hg3 ho2' B4
      go_wp2_with fail
      refine (eqI_yes _ v2 v3 len0 zs (by omega) (.of_own ho2'') (.of_own ho3)).mono ?_; rintro e w6 ⟨rfl, q6, rfl⟩
      go_wp2
      go_ret
      exact ⟨rfl, below_drewN B5 q6⟩
    · skip
      go_enter Try.func8, Try.ntmps8
      go_wp2_with fail
      refine (toInt_any _ _ len0 zs hl h0).mono ?_; rintro e w1 ⟨v1, rfl, ho1, hg1⟩
      have B1 : Below w.heap.size w w1 := below_grown hg1 (Nat.le_refl _) (by simp)
      clear hg1
      go_wp2_with fail
      refine (spec_wet_no _ v1 len0 zs hl (.of_own ho1) ok _ _).mono ?_; rintro e w2 ⟨rfl, hb1⟩
      have B2 := B1.trans (hb1.mono B1.size); clear B1 hb1
      go_wp2_with fail
      refine (toInt_any _ _ len0 zs hl (h0.keep B2)).mono ?_; rintro e w3 ⟨v2, rfl, ho2, hg2⟩
      have B3 := B2.trans ((below_grown hg2 (Nat.le_refl _) (by simp)).mono B2.size)
      clear hg2 ho1 B2
      go_wp2_with fail
      refine (impl_wet_no _ v2 len0 zs hl (.of_own ho2) ok _ _).mono ?_; rintro e w4 ⟨rfl, rfl⟩
      have B4 := B3; have ho2' := ho2; clear B3 ho2
      go_wp2_with fail
      refine (toInt_any _ _ len0 zs hl (h0.keep B4)).mono ?_; rintro e w5 ⟨v3, rfl, ho3, hg3⟩
      have B5 := B4.trans ((below_grown hg3 (Nat.le_refl _) (by simp)).mono B4.size)
      have ho2'' := own_weak ho2' hg3
      clear hg3 ho2' B4
      go_wp2_with fail
      refine (eqI_yes _ v2 v3 len0 zs (by omega) (.of_own ho2'') (.of_own ho3)).mono ?_; rintro e w6 ⟨rfl, q6, rfl⟩
      go_wp2
      go_ret
      exact ⟨rfl, below_drewN B5 q6⟩
  · go_enter Try.func8, Try.ntmps8
    go_wp2
    go_ret
    exact ⟨rfl, Below.refl _ _⟩
end Go.Proofs.Ytojahddamdlcpaa.wFnExactHasWetPart
