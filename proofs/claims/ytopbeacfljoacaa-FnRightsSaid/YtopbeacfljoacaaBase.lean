/- Plain things that many texts use: rows of ints as values, sums, the places with a property. -/
import Derived.WalkKit
namespace Go.Proofs.Ytopbeacfljoacaa.rain
open Go.RowKit
abbrev IV (zs : List Int) : List Value := zs.map (Value.int .i64)
end Go.Proofs.Ytopbeacfljoacaa.rain
namespace Go.Proofs.Ytopbeacfljoacaa.yrl
/-- The sum of the first n. -/
def sm (f : Nat → Int) : Nat → Int
  | 0 => 0
  | n + 1 => sm f n + f n
/-- The row of the first n. -/
def rw_ (f : Nat → Int) (n : Nat) : List Int := (List.range n).map f
theorem rw_len (f : Nat → Int) (n : Nat) : (rw_ f n).length = n := by simp [rw_]
theorem rw_at (f : Nat → Int) {n j : Nat} (h : j < n) : (rw_ f n).getD j 0 = f j := by simp [rw_, List.getD_eq_getElem?_getD, h]
theorem rw_succ (f : Nat → Int) (n : Nat) : rw_ f (n + 1) = rw_ f n ++ [f n] := by simp [rw_, List.range_succ]
/-- The days with a property, in order. -/
def dy (p : Nat → Bool) : Nat → List Int
  | 0 => []
  | n + 1 => if p n = true then dy p n ++ [(n : Int)] else dy p n
theorem dy_len (p : Nat → Bool) : ∀ n, (dy p n).length ≤ n
  | 0 => by simp [dy]
  | n + 1 => by
    have := dy_len p n
    rw [dy]
    split <;> simp <;> omega
theorem dy_mem (p : Nat → Bool) : ∀ n x, x ∈ dy p n → ∃ k, k < n ∧ x = (k : Int) ∧ p k = true
  | 0, x, h => by simp [dy] at h
  | n + 1, x, h => by
    rw [dy] at h
    split at h
    · rename_i hp
      rcases List.mem_append.1 h with h | h
      · obtain ⟨k, hk, e⟩ := dy_mem p n x h
        exact ⟨k, by omega, e⟩
      · simp at h
        exact ⟨n, by omega, h, hp⟩
    · obtain ⟨k, hk, e⟩ := dy_mem p n x h
      exact ⟨k, by omega, e⟩
theorem dy_at (p : Nat → Bool) {n j : Nat} (h : j < (dy p n).length) : ∃ k, k < n ∧ (dy p n).getD j 0 = (k : Int) ∧ p k = true := by
  rw [List.getD_eq_getElem?_getD, List.getElem?_eq_getElem h]
  exact dy_mem p n _ (List.getElem_mem h)
theorem dy_nil (p : Nat → Bool) : ∀ n, (∀ k, k < n → p k = false) → dy p n = []
  | 0, _ => rfl
  | n + 1, h => by rw [dy, if_neg (by rw [h n (by omega)]; simp), dy_nil p n fun k hk => h k (by omega)]
theorem dy_none (p : Nat → Bool) : ∀ n, dy p n = [] → ∀ k, k < n → p k = false
  | 0, _, k, hk => by omega
  | n + 1, h, k, hk => by
    rw [dy] at h
    split at h
    · simp at h
    · rename_i hp
      by_cases e : k = n
      · subst e; simpa using hp
      · exact dy_none p n h k (by omega)
/-- How many of the first n have a property. -/
def ct (p : Nat → Bool) : Nat → Nat
  | 0 => 0
  | n + 1 => if p n = true then ct p n + 1 else ct p n
theorem ct_le (p : Nat → Bool) : ∀ n, ct p n ≤ n
  | 0 => Nat.le_refl _
  | n + 1 => by have := ct_le p n; rw [ct]; split <;> omega
theorem dy_ct {p q : Nat → Bool} : ∀ n, (∀ k, k < n → p k = true → q k = true) → (dy p n).length ≤ ct q n
  | 0, _ => by simp [dy, ct]
  | n + 1, h => by
    have ih := dy_ct n fun k hk => h k (by omega)
    have h1 := h n (by omega)
    rw [dy, ct]
    split
    · rename_i hp
      rw [if_pos (h1 hp)]
      simp; omega
    · split <;> omega
theorem sm_bd {f : Nat → Int} {a b : Int} : ∀ k, (∀ j, j < k → a ≤ f j ∧ f j ≤ b) → a * k ≤ sm f k ∧ sm f k ≤ b * k
  | 0, _ => by simp [sm]
  | k + 1, h => by
    have ih := sm_bd k fun j hj => h j (by omega)
    have := h k (by omega)
    rw [sm, show ((k + 1 : Nat) : Int) = k + 1 by omega, Int.mul_add, Int.mul_add]
    omega
theorem sm_full {f : Nat → Int} {b : Int} : ∀ k, (∀ j, j < k → f j ≤ b) → (sm f k = b * k ↔ ∀ j, j < k → f j = b)
  | 0, _ => by simp [sm]
  | k + 1, h => by
    have ih := sm_full k fun j hj => h j (by omega)
    have hk := h k (by omega)
    have hle : sm f k ≤ b * k := by
      have : ∀ k, (∀ j, j < k → f j ≤ b) → sm f k ≤ b * k := by
        intro k
        induction k with
        | zero => intro _; simp [sm]
        | succ k ih =>
          intro h
          have := ih fun j hj => h j (by omega)
          have := h k (by omega)
          rw [sm, show ((k + 1 : Nat) : Int) = k + 1 by omega, Int.mul_add]
          omega
      exact this k fun j hj => h j (by omega)
    rw [sm, show ((k + 1 : Nat) : Int) = k + 1 by omega, Int.mul_add, Int.mul_one]
    constructor
    · intro e j hj
      have e1 : sm f k = b * k := by omega
      by_cases q : j = k
      · subst q; omega
      · exact ih.1 e1 j (by omega)
    · intro e
      have := ih.2 fun j hj => e j (by omega)
      have := e k (by omega)
      omega
end Go.Proofs.Ytopbeacfljoacaa.yrl
