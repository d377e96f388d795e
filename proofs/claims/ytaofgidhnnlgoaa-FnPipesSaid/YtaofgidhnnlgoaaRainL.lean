/- Sums of rain, the wettest psum, dry days: as plain functions of the days' list. -/
import Derived.WalkKit
namespace Go.Proofs.Ytaofgidhnnlgoaa.rainl
/-- The sum of the first k numbers. -/
def P (xs : List Int) : Nat → Int
  | 0 => 0
  | k + 1 => P xs k + xs.getD k 0
def Ok (xs : List Int) : Prop := 1 ≤ xs.length ∧ xs.length ≤ 400 ∧ ∀ k, k < xs.length → 0 ≤ xs.getD k 0 ∧ xs.getD k 0 ≤ 300
theorem P_bd {xs : List Int} (h : Ok xs) : ∀ k, k ≤ xs.length → 0 ≤ P xs k ∧ P xs k ≤ 300 * k
  | 0, _ => by simp [P]
  | k + 1, hk => by
    have h1 := P_bd h k (by omega)
    have h2 := h.2.2 k (by omega)
    show 0 ≤ P xs k + xs.getD k 0 ∧ P xs k + xs.getD k 0 ≤ 300 * ((k + 1 : Nat) : Int)
    omega
theorem P_succ (xs : List Int) (k : Nat) : P xs (k + 1) = P xs k + xs.getD k 0 := rfl
/-- The sum of d numbers from k on. -/
def psum (xs : List Int) (d k : Nat) : Int := P xs (k + d) - P xs k
theorem P_mono {xs : List Int} (h : Ok xs) (a : Nat) : ∀ d, a + d ≤ xs.length → P xs a ≤ P xs (a + d)
  | 0, _ => Int.le_refl _
  | d + 1, hd => by
    have h1 := P_mono h a d (by omega)
    have h2 := h.2.2 (a + d) (by omega)
    show P xs a ≤ P xs (a + d) + xs.getD (a + d) 0
    omega
theorem psum_bd {xs : List Int} (h : Ok xs) {d k : Nat} (hk : k + d ≤ xs.length) : 0 ≤ psum xs d k ∧ psum xs d k ≤ 120000 := by
  have h1 := P_mono h k d hk
  have h2 := P_bd h (k + d) hk
  have h3 := P_bd h k (by omega)
  have h4 := h.2.1
  unfold psum
  omega
theorem P_sub (xs : List Int) (a d : Nat) (h : a + d ≤ xs.length) : ∀ j, j ≤ d → P ((xs.drop a).take d) j = P xs (a + j) - P xs a
  | 0, _ => by simp [P]
  | j + 1, hj => by
    have ih := P_sub xs a d h j (by omega)
    have hg : ((xs.drop a).take d).getD j 0 = xs.getD (a + j) 0 := by
      simp only [List.getD_eq_getElem?_getD]
      rw [List.getElem?_take_of_lt (by omega), List.getElem?_drop]
    show P ((xs.drop a).take d) j + _ = P xs (a + j) + xs.getD (a + j) 0 - P xs a
    rw [ih, hg]; omega
theorem psum_sub (xs : List Int) (a d : Nat) (h : a + d ≤ xs.length) : P ((xs.drop a).take d) d = psum xs d a := P_sub xs a d h d (Nat.le_refl _)
theorem psum_one (xs : List Int) (k : Nat) : psum xs 1 k = xs.getD k 0 := by unfold psum; rw [P_succ]; omega
/-- The first one of the places below m with the greatest number. -/
def First (f : Nat → Int) (m d : Nat) : Prop := d < m ∧ (∀ k, k < m → f k ≤ f d) ∧ ∀ k, k < d → f k < f d
theorem First.one (f : Nat → Int) : First f 1 0 := by
  refine ⟨by omega, fun k hk => ?_, fun k hk => by omega⟩
  obtain rfl : k = 0 := by omega
  exact Int.le_refl _
theorem First.same {f : Nat → Int} {m d e : Nat} (h : First f m d) (g : First f m e) : d = e := by
  obtain ⟨h1, h2, h3⟩ := h
  obtain ⟨g1, g2, g3⟩ := g
  rcases Nat.lt_trichotomy d e with hlt | rfl | hlt
  · have := g3 d hlt; have := h2 e g1; omega
  · rfl
  · have := h3 e hlt; have := g2 d h1; omega
theorem First.up {f : Nat → Int} {m d : Nat} (h : First f m d) (hf : f d < f m) : First f (m + 1) m := by
  obtain ⟨h1, h2, h3⟩ := h
  refine ⟨by omega, fun k hk => ?_, fun k hk => ?_⟩
  · rcases (show k < m ∨ k = m from by omega) with h | rfl
    · have := h2 k h; omega
    · exact Int.le_refl _
  · have := h2 k hk; omega
theorem First.keep {f : Nat → Int} {m d : Nat} (h : First f m d) (hf : f m ≤ f d) : First f (m + 1) d := by
  obtain ⟨h1, h2, h3⟩ := h
  refine ⟨by omega, fun k hk => ?_, h3⟩
  rcases (show k < m ∨ k = m from by omega) with h | rfl
  · exact h2 k h
  · exact hf
theorem First.ex (f : Nat → Int) : ∀ m, 0 < m → ∃ d, First f m d
  | 0, h => by omega
  | 1, _ => ⟨0, .one f⟩
  | m + 2, _ => by
    obtain ⟨d, h⟩ := First.ex f (m + 1) (by omega)
    by_cases hf : f d < f (m + 1)
    · exact ⟨_, h.up hf⟩
    · exact ⟨_, h.keep (by omega)⟩
theorem First.congr {f g : Nat → Int} {m d : Nat} (h : First f m d) (e : ∀ k, k < m → f k = g k) : First g m d := by
  obtain ⟨h1, h2, h3⟩ := h
  refine ⟨h1, fun k hk => ?_, fun k hk => ?_⟩
  · rw [← e k hk, ← e d h1]; exact h2 k hk
  · rw [← e k (by omega), ← e d h1]; exact h3 k hk
/-- The days without rain that end before day k, and the greatest number of them so far. -/
def run (xs : List Int) : Nat → Int
  | 0 => 0
  | k + 1 => if 0 < xs.getD k 0 then 0 else run xs k + 1
def dry (xs : List Int) : Nat → Int
  | 0 => 0
  | k + 1 => max (dry xs k) (run xs (k + 1))
theorem run_bd (xs : List Int) : ∀ k : Nat, 0 ≤ run xs k ∧ run xs k ≤ k
  | 0 => by simp [run]
  | k + 1 => by
    have h := run_bd xs k
    unfold run
    split <;> omega
theorem dry_bd (xs : List Int) : ∀ k : Nat, 0 ≤ dry xs k ∧ dry xs k ≤ k
  | 0 => by simp [dry]
  | k + 1 => by
    have h := dry_bd xs k
    have h1 := run_bd xs (k + 1)
    unfold dry
    omega
theorem run_wet {xs : List Int} {k : Nat} (h : 0 < xs.getD k 0) : run xs (k + 1) = 0 := by unfold run; rw [if_pos h]
theorem run_dry {xs : List Int} {k : Nat} (h : ¬ 0 < xs.getD k 0) : run xs (k + 1) = run xs k + 1 := by rw [run, if_neg h]
theorem dry_wet {xs : List Int} {k : Nat} (h : 0 < xs.getD k 0) : dry xs (k + 1) = dry xs k := by
  rw [dry, run_wet h]
  have := dry_bd xs k
  omega
theorem dry_up {xs : List Int} {k : Nat} (h : ¬ 0 < xs.getD k 0) : dry xs (k + 1) = max (dry xs k) (run xs k + 1) := by rw [dry, run_dry h]
/-- The sums up to each day. -/
def sums (xs : List Int) (m : Nat) : List Int := (List.range m).map fun k => P xs (k + 1)
theorem sums_len (xs : List Int) (m : Nat) : (sums xs m).length = m := by simp [sums]
theorem sums_at (xs : List Int) (m k : Nat) (h : k < m) : (sums xs m).getD k 0 = P xs (k + 1) := by
  simp [sums, List.getD_eq_getElem?_getD, h]
theorem sums_succ (xs : List Int) (m : Nat) : sums xs (m + 1) = sums xs m ++ [P xs (m + 1)] := by simp [sums, List.range_succ]
/-- The search for the wettest psum, behind the parts from day 0 to day k - 1. -/
def PartSt (xs : List Int) (d k b : Nat) (m : Int) : Prop := (k = 0 ∧ b = 0 ∧ m = -1) ∨ (First (psum xs d) k b ∧ m = psum xs d b)
theorem PartSt.up {xs : List Int} {d k b : Nat} {m x : Int} (h : PartSt xs d k b m) (hx : psum xs d k = x) (hm : m < x) : PartSt xs d (k + 1) k x := by
  rcases h with ⟨rfl, rfl, rfl⟩ | ⟨h, rfl⟩
  · exact .inr ⟨First.one _, hx.symm⟩
  · exact .inr ⟨h.up (by omega), hx.symm⟩
theorem PartSt.keep {xs : List Int} {d k b : Nat} {m x : Int} (h : PartSt xs d k b m) (hx : psum xs d k = x) (h0 : 0 ≤ x) (hm : x ≤ m) : PartSt xs d (k + 1) b m := by
  rcases h with ⟨rfl, rfl, rfl⟩ | ⟨h, rfl⟩
  · omega
  · exact .inr ⟨h.keep (by omega), rfl⟩
theorem PartSt.bd {xs : List Int} {d k b : Nat} {m : Int} (h : PartSt xs d k b m) (ok : Ok xs) (hk : k + d ≤ xs.length + 1) : -1 ≤ m ∧ m ≤ 120000 ∧ b ≤ 400 := by
  rcases h with ⟨rfl, rfl, rfl⟩ | ⟨h, rfl⟩
  · omega
  · have := psum_bd ok (d := d) (k := b) (by have := h.1; omega)
    have := ok.2.1
    have := h.1
    omega
theorem PartSt.done {xs : List Int} {d k b e : Nat} {m : Int} (h : PartSt xs d k b m) (he : First (psum xs d) k e) : b = e ∧ m = psum xs d e := by
  rcases h with ⟨rfl, rfl, rfl⟩ | ⟨h, rfl⟩
  · exact absurd he.1 (by omega)
  · obtain rfl := h.same he
    exact ⟨rfl, rfl⟩
theorem Ok.sub {xs : List Int} (h : Ok xs) {a d : Nat} (h1 : 1 ≤ d) (h2 : a + d ≤ xs.length) : Ok ((xs.drop a).take d) ∧ ((xs.drop a).take d).length = d := by
  have hl : ((xs.drop a).take d).length = d := by simp; omega
  refine ⟨⟨by omega, by have := h.2.1; omega, fun k hk => ?_⟩, hl⟩
  have hg : ((xs.drop a).take d).getD k 0 = xs.getD (a + k) 0 := by
    simp only [List.getD_eq_getElem?_getD]
    rw [List.getElem?_take_of_lt (by omega), List.getElem?_drop]
  rw [hg]
  exact h.2.2 _ (by omega)
theorem day_up {xs : List Int} {k b : Nat} (h : First (psum xs 1) (max k 1) b) {x y : Int} (hx : xs.getD k 0 = x) (hy : xs.getD b 0 = y) (hm : y < x) : First (psum xs 1) (max (k + 1) 1) k := by
  rw [← psum_one] at hx hy
  rcases Nat.eq_zero_or_pos k with rfl | hk
  · have : b = 0 := by have := h.1; omega
    subst this; omega
  · rw [Nat.max_eq_left (by omega)] at h ⊢
    exact h.up (by omega)
theorem day_keep {xs : List Int} {k b : Nat} (h : First (psum xs 1) (max k 1) b) {x y : Int} (hx : xs.getD k 0 = x) (hy : xs.getD b 0 = y) (hm : x ≤ y) : First (psum xs 1) (max (k + 1) 1) b := by
  rw [← psum_one] at hx hy
  rcases Nat.eq_zero_or_pos k with rfl | hk
  · exact h
  · rw [Nat.max_eq_left (by omega)] at h ⊢
    exact h.keep (by omega)
end Go.Proofs.Ytaofgidhnnlgoaa.rainl
