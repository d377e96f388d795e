/- Plain mathematics that several chapters use. -/
import Derived.WalkKit
namespace Go.Proofs.Yteogonlclldjlaa.plain
/-- The first one from lo to hi with the property; -1 if there is none. -/
def FirstIn (Q : Int → Prop) (lo hi A : Int) : Prop := (lo ≤ A ∧ A ≤ hi ∧ Q A ∧ ∀ b, lo ≤ b → b < A → ¬ Q b) ∨ (A = -1 ∧ ∀ b, lo ≤ b → b ≤ hi → ¬ Q b)
theorem FirstIn.ex_aux (Q : Int → Prop) (lo : Int) : ∀ n : Nat, ∃ A, FirstIn Q lo (lo + n - 1) A
  | 0 => ⟨-1, .inr ⟨rfl, fun b h1 h2 => by omega⟩⟩
  | n + 1 => by
    obtain ⟨A, h⟩ := FirstIn.ex_aux Q lo n
    rcases h with ⟨h1, h2, h3, h4⟩ | ⟨h1, h2⟩
    · exact ⟨A, .inl ⟨h1, by omega, h3, h4⟩⟩
    · rcases Classical.em (Q (lo + n)) with hq | hq
      · exact ⟨lo + n, .inl ⟨by omega, by omega, hq, fun b b1 b2 => h2 b b1 (by omega)⟩⟩
      · refine ⟨-1, .inr ⟨rfl, fun b b1 b2 => ?_⟩⟩
        rcases (show b ≤ lo + n - 1 ∨ b = lo + n by omega) with hb | rfl
        · exact h2 b b1 hb
        · exact hq
theorem FirstIn.ex (Q : Int → Prop) (lo hi : Int) : ∃ A, FirstIn Q lo hi A := by
  by_cases h : lo ≤ hi + 1
  · obtain ⟨n, hn⟩ := Int.eq_ofNat_of_zero_le (show 0 ≤ hi + 1 - lo by omega)
    have := FirstIn.ex_aux Q lo n
    rwa [show lo + (n : Int) - 1 = hi by omega] at this
  · exact ⟨-1, .inr ⟨rfl, fun b b1 b2 => by omega⟩⟩
theorem FirstIn.at_ {Q : Int → Prop} {lo hi A k : Int} (h : FirstIn Q lo hi A) (h1 : lo ≤ k) (h2 : k ≤ hi) (hq : Q k) (hb : ∀ b, lo ≤ b → b < k → ¬ Q b) : A = k := by
  rcases h with ⟨g1, g2, g3, g4⟩ | ⟨g1, g2⟩
  · rcases Int.lt_trichotomy A k with hlt | rfl | hlt
    · exact absurd g3 (hb A g1 hlt)
    · rfl
    · exact absurd hq (g4 k h1 hlt)
  · exact absurd hq (g2 k h1 h2)
theorem FirstIn.none_ {Q : Int → Prop} {lo hi A : Int} (h : FirstIn Q lo hi A) (hb : ∀ b, lo ≤ b → b ≤ hi → ¬ Q b) : A = -1 := by
  rcases h with ⟨g1, g2, g3, g4⟩ | ⟨g1, g2⟩
  · exact absurd g3 (hb A g1 g2)
  · exact g1
theorem FirstIn.bd {Q : Int → Prop} {lo hi A : Int} (h : FirstIn Q lo hi A) : A = -1 ∨ (lo ≤ A ∧ A ≤ hi) := by
  rcases h with ⟨g1, g2, _⟩ | ⟨g1, _⟩
  · exact .inr ⟨g1, g2⟩
  · exact .inl g1
end Go.Proofs.Yteogonlclldjlaa.plain
