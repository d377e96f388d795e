/- The contracts of the functions on roofs. -/
import Derived.Test.YteogonlclldjlaaRainI
namespace Go.Proofs.Yteogonlclldjlaa.roof
open Go.RowKit Go.Proofs.Yteogonlclldjlaa.kit Go.Proofs.Yteogonlclldjlaa.lawi Go.Proofs.Yteogonlclldjlaa.rainl Go.Proofs.Yteogonlclldjlaa.rain
def ROk (a p : Int) : Prop := 1 ≤ a ∧ a ≤ 1000 ∧ 0 ≤ p ∧ p ≤ 100
abbrev R (a p : Int) : Value := .agg #[.int .i64 a, .int .i64 p]
/-- What a roof catches. -/
def cat (a p r : Int) : Int := a * p * r / 100
theorem spec_rok_yes (w : World) (a p : Int) (h : ROk a p) : Calls Try.prog 22 #[R a p] w (Gives w (.bool true)) := by
  obtain ⟨h1, h2, h3, h4⟩ := h
  go_enter Try.func22, Try.ntmps22
  go_wp2_with fail
  refine (in_yes _ _ _ _ h1 h2).mono ?_; rintro e w1 ⟨rfl, rfl⟩
  go_wp2_with fail
  refine (in_yes _ _ _ _ h3 h4).mono ?_; rintro e w1 ⟨rfl, rfl⟩
  go_wp2
  go_ret
  exact ⟨rfl, below_al (Below.refl _ _) _⟩
theorem spec_rok_no (w : World) (a p : Int) (h : ¬ ROk a p) : Calls Try.prog 22 #[R a p] w (Gives w (.bool false)) := by
  by_cases h1 : 1 ≤ a ∧ a ≤ 1000
  · have h3 : ¬ (0 ≤ p ∧ p ≤ 100) := fun h3 => h ⟨h1.1, h1.2, h3.1, h3.2⟩
    obtain ⟨h1, h2⟩ := h1
    clear h
    go_enter Try.func22, Try.ntmps22
    go_wp2_with fail
    refine (in_yes _ _ _ _ h1 h2).mono ?_; rintro e w1 ⟨rfl, rfl⟩
    go_wp2_with fail
    refine (in_no _ _ _ _ h3).mono ?_; rintro e w1 ⟨rfl, rfl⟩
    go_wp2
    go_ret
    exact ⟨rfl, below_al (Below.refl _ _) _⟩
  · clear h
    go_enter Try.func22, Try.ntmps22
    go_wp2_with fail
    refine (in_no _ _ _ _ h1).mono ?_; rintro e w1 ⟨rfl, rfl⟩
    go_wp2
    go_ret
    exact ⟨rfl, below_al (Below.refl _ _) _⟩
theorem impl_valid_yes (w : World) (a p : Int) (h : ROk a p) : Calls Try.prog 39 #[R a p] w (Gives w (.bool true)) := by
  obtain ⟨h1, h2, h3, h4⟩ := h
  go_enter Try.func39, Try.ntmps39
  go_wp2_with fail
  refine (inR_yes _ _ _ _ h1 h2).mono ?_; rintro e w1 ⟨rfl, rfl⟩
  go_wp2_with fail
  refine (inR_yes _ _ _ _ h3 h4).mono ?_; rintro e w1 ⟨rfl, rfl⟩
  go_wp2
  go_ret
  exact ⟨rfl, below_al (Below.refl _ _) _⟩
theorem impl_valid_no (w : World) (a p : Int) (h : ¬ ROk a p) : Calls Try.prog 39 #[R a p] w (Gives w (.bool false)) := by
  by_cases h1 : 1 ≤ a ∧ a ≤ 1000
  · have h3 : ¬ (0 ≤ p ∧ p ≤ 100) := fun h3 => h ⟨h1.1, h1.2, h3.1, h3.2⟩
    obtain ⟨h1, h2⟩ := h1
    clear h
    go_enter Try.func39, Try.ntmps39
    go_wp2_with fail
    refine (inR_yes _ _ _ _ h1 h2).mono ?_; rintro e w1 ⟨rfl, rfl⟩
    go_wp2_with fail
    refine (inR_no _ _ _ _ h3).mono ?_; rintro e w1 ⟨rfl, rfl⟩
    go_wp2
    go_ret
    exact ⟨rfl, below_al (Below.refl _ _) _⟩
  · clear h
    go_enter Try.func39, Try.ntmps39
    go_wp2_with fail
    refine (inR_no _ _ _ _ h1).mono ?_; rintro e w1 ⟨rfl, rfl⟩
    go_wp2
    go_ret
    exact ⟨rfl, below_al (Below.refl _ _) _⟩
theorem impl_rok_yes (w : World) (a p : Int) (h : ROk a p) : Calls Try.prog 21 #[R a p] w (Gives w (.bool true)) := by
  go_enter Try.func21, Try.ntmps21
  go_wp2_with fail
  refine (impl_valid_yes _ _ _ h).mono ?_; rintro e w1 ⟨rfl, hb⟩
  go_wp2
  go_ret
  exact ⟨rfl, below_step (below_al (Below.refl _ _) _) hb⟩
theorem impl_rok_no (w : World) (a p : Int) (h : ¬ ROk a p) : Calls Try.prog 21 #[R a p] w (Gives w (.bool false)) := by
  go_enter Try.func21, Try.ntmps21
  go_wp2_with fail
  refine (impl_valid_no _ _ _ h).mono ?_; rintro e w1 ⟨rfl, hb⟩
  go_wp2
  go_ret
  exact ⟨rfl, below_step (below_al (Below.refl _ _) _) hb⟩
theorem impl_strength (w : World) (a p : Int) (h : 0 ≤ a * p) (h' : a * p ≤ 1000000) : Calls Try.prog 45 #[R a p] w (Gives w (.int .i64 (a * p))) := by
  go_enter Try.func45, Try.ntmps45
  go_wp2
  go_ret
  exact ⟨rfl, below_al (Below.refl _ _) _⟩
theorem cat_bd {a p r : Int} (h : 0 ≤ a * p) (h' : a * p ≤ 1000000) (h0 : 0 ≤ r) (h1 : r ≤ 300) : 0 ≤ cat a p r ∧ cat a p r ≤ 3000000 := by
  have := mul_bd h h' h0 h1
  unfold cat
  omega
theorem ROk.pr {a p : Int} (h : ROk a p) : 0 ≤ a * p ∧ a * p ≤ 100000 := mul_bd (by have := h.1; omega) h.2.1 h.2.2.1 h.2.2.2
theorem impl_catch1 (w : World) (a p r : Int) (h : 0 ≤ a * p) (h' : a * p ≤ 1000000) (h0 : 0 ≤ r) (h1 : r ≤ 300) :
    Calls Try.prog 41 #[R a p, .int .i64 r] w (Gives w (.int .i64 (cat a p r))) := by
  obtain ⟨m0, m1⟩ := mul_bd h h' h0 h1
  go_enter Try.func41, Try.ntmps41
  go_wp2_with fail
  refine (impl_strength _ _ _ h h').mono ?_; rintro e w1 ⟨rfl, hb⟩
  go_wp2
  go_ret
  exact ⟨rfl, below_step (below_al (Below.refl _ _) _) hb⟩
theorem impl_catch_yes (w : World) (a p r : Int) (h : ROk a p) (h0 : 0 ≤ r) (h1 : r ≤ 300) :
    Calls Try.prog 15 #[R a p, .int .i64 r] w (Gives w (.int .i64 (cat a p r))) := by
  have hp := h.pr
  go_enter Try.func15, Try.ntmps15
  go_wp2_with fail
  refine (impl_valid_yes _ _ _ h).mono ?_; rintro e w1 ⟨rfl, hb⟩
  obtain ⟨hc, hf⟩ := bcell hb
  go_wp2_with fail
  refine (inR_yes _ _ _ _ h0 h1).mono ?_; rintro e w1 ⟨rfl, rfl⟩
  go_wp2_with fail
  refine (impl_catch1 _ _ _ _ (by omega) (by omega) h0 h1).mono ?_; rintro e w2 ⟨rfl, hb2⟩
  go_wp2
  go_ret
  exact ⟨rfl, below_step (below_step (below_al (Below.refl _ _) _) hb) hb2⟩
theorem impl_catch_no (w : World) (a p r : Int) (h : ¬ (ROk a p ∧ 0 ≤ r ∧ r ≤ 300)) :
    Calls Try.prog 15 #[R a p, .int .i64 r] w (Gives w (.int .i64 (-1))) := by
  by_cases h1 : ROk a p
  · have h3 : ¬ (0 ≤ r ∧ r ≤ 300) := fun h3 => h ⟨h1, h3⟩
    clear h
    go_enter Try.func15, Try.ntmps15
    go_wp2_with fail
    refine (impl_valid_yes _ _ _ h1).mono ?_; rintro e w1 ⟨rfl, hb⟩
    go_wp2_with fail
    refine (inR_no _ _ _ _ h3).mono ?_; rintro e w1 ⟨rfl, rfl⟩
    go_wp2
    go_ret
    exact ⟨rfl, below_step (below_al (Below.refl _ _) _) hb⟩
  · clear h
    go_enter Try.func15, Try.ntmps15
    go_wp2_with fail
    refine (impl_valid_no _ _ _ h1).mono ?_; rintro e w1 ⟨rfl, hb⟩
    go_wp2
    go_ret
    exact ⟨rfl, below_step (below_al (Below.refl _ _) _) hb⟩
theorem spec_catch_yes (w : World) (a p r : Int) (h : ROk a p) (h0 : 0 ≤ r) (h1 : r ≤ 300) :
    Calls Try.prog 24 #[R a p, .int .i64 r] w (Gives w (.int .i64 (cat a p r))) := by
  obtain ⟨m0, m1⟩ := mul_bd (x := a) (y := r) (X := 1000) (Y := 300) (by have := h.1; omega) h.2.1 h0 h1
  obtain ⟨m2, m3⟩ := mul_bd m0 m1 h.2.2.1 h.2.2.2
  go_enter Try.func24, Try.ntmps24
  go_wp2_with fail
  refine (spec_rok_yes _ _ _ h).mono ?_; rintro e w1 ⟨rfl, hb⟩
  obtain ⟨hc, hf⟩ := bcell hb
  go_wp2_with fail
  refine (in_yes _ _ _ _ h0 h1).mono ?_; rintro e w1 ⟨rfl, rfl⟩
  go_wp2
  go_ret
  refine ⟨?_, below_step (below_al (Below.refl _ _) _) hb⟩
  refine ret_int ?_
  unfold cat
  rw [Int.mul_right_comm]
theorem spec_catch_no (w : World) (a p r : Int) (h : ¬ (ROk a p ∧ 0 ≤ r ∧ r ≤ 300)) :
    Calls Try.prog 24 #[R a p, .int .i64 r] w (Gives w (.int .i64 (-1))) := by
  by_cases h1 : ROk a p
  · have h3 : ¬ (0 ≤ r ∧ r ≤ 300) := fun h3 => h ⟨h1, h3⟩
    clear h
    go_enter Try.func24, Try.ntmps24
    go_wp2_with fail
    refine (spec_rok_yes _ _ _ h1).mono ?_; rintro e w1 ⟨rfl, hb⟩
    go_wp2_with fail
    refine (in_no _ _ _ _ h3).mono ?_; rintro e w1 ⟨rfl, rfl⟩
    go_wp2
    go_ret
    exact ⟨rfl, below_step (below_al (Below.refl _ _) _) hb⟩
  · clear h
    go_enter Try.func24, Try.ntmps24
    go_wp2_with fail
    refine (spec_rok_no _ _ _ h1).mono ?_; rintro e w1 ⟨rfl, hb⟩
    go_wp2
    go_ret
    exact ⟨rfl, below_step (below_al (Below.refl _ _) _) hb⟩
end Go.Proofs.Yteogonlclldjlaa.roof
