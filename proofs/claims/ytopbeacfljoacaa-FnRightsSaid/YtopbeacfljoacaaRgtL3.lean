/- Rights: a share that is sold: plain functions. -/
import Derived.Test.YtopbeacfljoacaaRgtL2
namespace Go.Proofs.Ytopbeacfljoacaa.rgt
open Go.Proofs.Ytopbeacfljoacaa.kit Go.Proofs.Ytopbeacfljoacaa.frc Go.Proofs.Ytopbeacfljoacaa.rain Go.Proofs.Ytopbeacfljoacaa.yrl
/-- The first k rights, the share of right f changed, and left out if it is 0. -/
def so (zs : List Int) (f : Nat) (rt rb : Int) : Nat → List Int
  | 0 => []
  | k + 1 => so zs f rt rb k ++ if k = f then (if 0 < rt then [wO zs k, rt, rb] else []) else [wO zs k, wT zs k, wB zs k]
/-- How many these are. -/
def sn (f : Nat) (rt : Int) (k : Nat) : Nat := if f < k ∧ ¬ 0 < rt then k - 1 else k
/-- The right at: the first whose owner is not less. -/
def At (n : Nat) (l : List Int) (to : Int) (i : Nat) : Prop := i ≤ n ∧ (∀ j, j < i → wO l j < to) ∧ (i < n → ¬ wO l i < to)
/-- A share put to an owner. -/
def Put (n : Nat) (l : List Int) (to mt mb : Int) (m : Nat) (ys : List Int) : Prop := ∃ i, At n l to i ∧
  ((i < n ∧ wO l i = to ∧ m = n ∧ ∃ st sb, Ad (wT l i) (wB l i) mt mb st sb true ∧ ys = (l.set (i * 3 + 1) st).set (i * 3 + 2) sb) ∨
   (¬ (i < n ∧ wO l i = to) ∧ 0 < mt ∧ m = n + 1 ∧ ys = l.take (i * 3) ++ [to, mt, mb] ++ l.drop (i * 3)) ∨
   (¬ (i < n ∧ wO l i = to) ∧ ¬ 0 < mt ∧ m = n ∧ ys = l))
/-- What SellShare asks ahead. -/
def Sok (n : Nat) (zs : List Int) (fr to pt pb : Int) : Prop := Ro n zs ∧ Fk pt pb ∧ pt ≤ pb ∧ fr ≠ to ∧ 1 ≤ to ∧ to ≤ 999
/-- The share is sold. -/
def Sell (n : Nat) (zs : List Int) (fr to pt pb : Int) (m : Nat) (ys : List Int) : Prop := Sok n zs fr to pt pb ∧ ∃ f mt mb rt rb, f < n ∧ wO zs f = fr ∧ Ti (wT zs f) (wB zs f) pt pb mt mb true ∧ Ti (wT zs f) (wB zs f) (pb - pt) pb rt rb true ∧ Put (sn f rt n) (so zs f rt rb n) to mt mb m ys ∧ Ro m ys
/-- The answer of SellShare. -/
def Sla (n : Nat) (zs : List Int) (fr to pt pb : Int) (m : Nat) (ys : List Int) (r : Bool) : Prop := (r = true ∧ Sell n zs fr to pt pb m ys) ∨ (r = false ∧ m = n ∧ ys = zs ∧ ∀ m' ys', ¬ Sell n zs fr to pt pb m' ys')
section
variable {n m m' k f f' i i' : Nat} {zs l ys ys' : List Int} {fr to pt pb mt mb mt' mb' rt rb x y x' y' : Int} {r r' : Bool}
theorem Sla.ex (n : Nat) (zs : List Int) (fr to pt pb : Int) : ∃ m ys r, Sla n zs fr to pt pb m ys r := by
  by_cases h : ∃ m ys, Sell n zs fr to pt pb m ys
  · obtain ⟨m, ys, h⟩ := h
    exact ⟨m, ys, true, .inl ⟨rfl, h⟩⟩
  · exact ⟨n, zs, false, .inr ⟨rfl, rfl, rfl, fun m' ys' g => h ⟨m', ys', g⟩⟩⟩
theorem ti_uniq {t s t' s' : Int} (h : Ti t s t' s' x y r) (h' : Ti t s t' s' x' y' r') : x = x' ∧ y = y' ∧ r = r' := by
  by_cases hc : Fk t s ∧ Fk t' s'
  · exact (h.1 hc).uniq (h'.1 hc)
  · obtain ⟨a1, a2, a3⟩ := h.2 hc
    obtain ⟨b1, b2, b3⟩ := h'.2 hc
    exact ⟨a1.trans b1.symm, a2.trans b2.symm, a3.trans b3.symm⟩
theorem ti_fk {t s t' s' : Int} (h : Ti t s t' s' x y true) : Fk t s ∧ Fk t' s' := Classical.byContradiction fun hc => by cases (h.2 hc).2.2
theorem ti_ok {t s t' s' : Int} (h : Ti t s t' s' x y true) : Fk x y := by
  obtain ⟨f1, f2⟩ := ti_fk h
  have hp := Int.mul_pos (show 0 < s by have := f1.1; omega) (show 0 < s' by have := f2.1; omega)
  exact ((h.1 ⟨f1, f2⟩).ok (by omega)).1
theorem so_len (zs : List Int) (f : Nat) (rt rb : Int) : ∀ k, (so zs f rt rb k).length = sn f rt k * 3
  | 0 => by simp [so, sn]
  | k + 1 => by
    rw [so, List.length_append, so_len zs f rt rb k]
    unfold sn
    by_cases h1 : k = f
    · subst h1
      rw [if_pos rfl]
      by_cases h2 : 0 < rt
      · rw [if_pos h2, if_neg (by omega), if_neg (by omega)]
        simp; omega
      · rw [if_neg h2, if_neg (by omega), if_pos (by omega)]
        simp
    · rw [if_neg h1]
      by_cases h2 : f < k ∧ ¬ 0 < rt
      · rw [if_pos h2, if_pos (by omega)]
        simp; omega
      · rw [if_neg h2, if_neg (by omega)]
        simp; omega
theorem At.uniq (h : At n l to i) (h' : At n l to i') : i = i' := by
  obtain ⟨a1, a2, a3⟩ := h
  obtain ⟨b1, b2, b3⟩ := h'
  rcases Nat.lt_trichotomy i i' with hl | e | hl
  · exact absurd (b2 i hl) (a3 (by omega))
  · exact e
  · exact absurd (a2 i' hl) (b3 (by omega))
theorem Put.uniq (h : Put n l to mt mb m ys) (h' : Put n l to mt mb m' ys') : m = m' ∧ ys = ys' := by
  obtain ⟨i, hi, h⟩ := h
  obtain ⟨i', hi', h'⟩ := h'
  obtain rfl := hi.uniq hi'
  rcases h with ⟨a1, a2, a3, st, sb, a4, a5⟩ | ⟨a1, a2, a3, a4⟩ | ⟨a1, a2, a3, a4⟩ <;> rcases h' with ⟨b1, b2, b3, st', sb', b4, b5⟩ | ⟨b1, b2, b3, b4⟩ | ⟨b1, b2, b3, b4⟩
  · obtain ⟨rfl, rfl, _⟩ := ad_uniq a4 b4
    exact ⟨by omega, by rw [a5, b5]⟩
  · exact absurd ⟨a1, a2⟩ b1
  · exact absurd ⟨a1, a2⟩ b1
  · exact absurd ⟨b1, b2⟩ a1
  · exact ⟨by omega, by rw [a4, b4]⟩
  · exact absurd a2 b2
  · exact absurd ⟨b1, b2⟩ a1
  · exact absurd b2 a2
  · exact ⟨by omega, by rw [a4, b4]⟩
theorem Ro.lt (h : Ro n zs) : ∀ k, k < n → ∀ j, j < k → wO zs j < wO zs k
  | 0, _, j, hj => by omega
  | k + 1, hk, j, hj => by
    have h1 := (h.2.1 (k + 1) hk).2.2 (by omega)
    rw [Nat.add_sub_cancel] at h1
    by_cases e : j = k
    · subst e; exact h1
    · exact Int.lt_trans (h.lt k (by omega) j (by omega)) h1
theorem Ro.inj (h : Ro n zs) {j : Nat} (hj : j < n) (hk : k < n) (e : wO zs j = wO zs k) : j = k := by
  rcases Nat.lt_trichotomy j k with hl | e' | hl
  · have := h.lt k hk j hl; omega
  · exact e'
  · have := h.lt j hj k hl; omega
/-- Where the owner is; n: nowhere. -/
theorem Ro.find (h : Ro n zs) (fr : Int) : ∃ f, f ≤ n ∧ ∀ k, k < n → (wO zs k = fr ↔ k = f) := by
  by_cases hf : ∃ f, f < n ∧ wO zs f = fr
  · obtain ⟨f, h1, h2⟩ := hf
    exact ⟨f, by omega, fun k hk => ⟨fun e => h.inj hk h1 (e.trans h2.symm), fun e => e ▸ h2⟩⟩
  · exact ⟨n, Nat.le_refl _, fun k hk => ⟨fun e => absurd ⟨k, hk, e⟩ hf, fun e => by omega⟩⟩
theorem Sell.parts (h : Sell n zs fr to pt pb m ys) (hf : ∀ k, k < n → (wO zs k = fr ↔ k = f)) : f < n ∧ ∃ mt mb rt rb, Ti (wT zs f) (wB zs f) pt pb mt mb true ∧ Ti (wT zs f) (wB zs f) (pb - pt) pb rt rb true ∧ Put (sn f rt n) (so zs f rt rb n) to mt mb m ys ∧ Ro m ys := by
  obtain ⟨_, f', mt, mb, rt, rb, h1, h2, h3⟩ := h
  obtain rfl := (hf f' h1).1 h2
  exact ⟨h1, mt, mb, rt, rb, h3⟩
theorem Sell.uniq (h : Sell n zs fr to pt pb m ys) (h' : Sell n zs fr to pt pb m' ys') : m = m' ∧ ys = ys' := by
  obtain ⟨f, _, hf⟩ := h.1.1.find fr
  obtain ⟨_, mt, mb, rt, rb, a1, a2, a3, _⟩ := h.parts hf
  obtain ⟨_, mt', mb', rt', rb', b1, b2, b3, _⟩ := h'.parts hf
  obtain ⟨rfl, rfl, _⟩ := ti_uniq a1 b1
  obtain ⟨rfl, rfl, _⟩ := ti_uniq a2 b2
  exact a3.uniq b3
theorem Sla.yes (h : Sla n zs fr to pt pb m ys r) (hs : Sell n zs fr to pt pb m' ys') : m = m' ∧ ys = ys' ∧ r = true := by
  rcases h with ⟨h1, h2⟩ | ⟨_, _, _, h2⟩
  · exact ⟨(h2.uniq hs).1, (h2.uniq hs).2, h1⟩
  · exact absurd hs (h2 _ _)
theorem Sla.no (h : Sla n zs fr to pt pb m ys r) (hs : ∀ m' ys', ¬ Sell n zs fr to pt pb m' ys') : m = n ∧ ys = zs ∧ r = false := by
  rcases h with ⟨_, h2⟩ | ⟨h1, h2, h3, _⟩
  · exact absurd h2 (hs _ _)
  · exact ⟨h2, h3, h1⟩
/-- The other part of a fraction of at most 1 is valid. -/
theorem fk_rest (h : Fk pt pb) (hp : pt ≤ pb) : Fk (pb - pt) pb := by
  obtain ⟨T, B, rfl, rfl, h1, h2, h3, h4⟩ := h.nat
  have hT : T ≤ B := by omega
  refine ⟨⟨by omega, by omega⟩, ⟨by omega, by omega⟩, ?_⟩
  rw [show ((B : Int) - T).toNat = B - T by omega, Int.toNat_natCast]
  have : Nat.gcd (B - T) B = Nat.gcd T B := by
    apply Nat.dvd_antisymm
    · refine Nat.dvd_gcd ?_ (Nat.gcd_dvd_right _ _)
      have := Nat.dvd_sub (Nat.gcd_dvd_right (B - T) B) (Nat.gcd_dvd_left (B - T) B)
      rwa [Nat.sub_sub_self hT] at this
    · exact Nat.dvd_gcd (Nat.dvd_sub (Nat.gcd_dvd_right T B) (Nat.gcd_dvd_left T B)) (Nat.gcd_dvd_right _ _)
  omega
end
end Go.Proofs.Ytopbeacfljoacaa.rgt
