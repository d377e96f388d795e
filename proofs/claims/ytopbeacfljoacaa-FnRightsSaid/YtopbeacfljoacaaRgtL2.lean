/- Rights: who gets a liter more: plain functions. -/
import Derived.Test.YtopbeacfljoacaaRgtL
namespace Go.Proofs.Ytopbeacfljoacaa.rgt
open Go.Proofs.Ytopbeacfljoacaa.kit Go.Proofs.Ytopbeacfljoacaa.frc Go.Proofs.Ytopbeacfljoacaa.rain Go.Proofs.Ytopbeacfljoacaa.yrl
theorem fl_fe {t1 b1 t2 b2 t3 b3 : Int} (h2 : 0 < b2) (h1 : 0 < b1) (h3 : 0 < b3) (h : fl_ t1 b1 t2 b2) (h' : fe t2 b2 t3 b3) : fl_ t1 b1 t3 b3 := by
  unfold fl_ at h ⊢
  unfold fe at h'
  have e1 : t1 * b2 * b3 < t2 * b1 * b3 := Int.mul_lt_mul_of_pos_right h h3
  have e2 : t2 * b3 * b1 ≤ t3 * b2 * b1 := Int.mul_le_mul_of_nonneg_right h' (by omega)
  refine Int.lt_of_mul_lt_mul_right (a := b2) ?_ (by omega)
  have a1 : t1 * b3 * b2 = t1 * b2 * b3 := by rw [Int.mul_assoc, Int.mul_comm b3, ← Int.mul_assoc]
  have a2 : t2 * b1 * b3 = t2 * b3 * b1 := by rw [Int.mul_assoc, Int.mul_comm b1, ← Int.mul_assoc]
  have a3 : t3 * b1 * b2 = t3 * b2 * b1 := by rw [Int.mul_assoc, Int.mul_comm b1, ← Int.mul_assoc]
  omega
theorem ct_mono {p q : Nat → Bool} : ∀ n, (∀ k, k < n → p k = true → q k = true) → ct p n ≤ ct q n
  | 0, _ => Nat.le_refl _
  | n + 1, h => by
    have ih := ct_mono n fun k hk => h k (by omega)
    have h1 := h n (by omega)
    rw [ct, ct]
    split
    · rename_i hp
      rw [if_pos (h1 hp)]
      omega
    · split <;> omega
theorem ct_lt {p q : Nat → Bool} {u : Nat} : ∀ n, (∀ k, k < n → p k = true → q k = true) → u < n → p u = false → q u = true → ct p n < ct q n
  | 0, _, hu, _, _ => by omega
  | n + 1, h, hu, hp, hq => by
    rw [ct, ct]
    by_cases e : u = n
    · subst e
      have := ct_mono u fun k hk => h k (by omega)
      rw [if_neg (by rw [hp]; simp), if_pos hq]
      omega
    · have ih := ct_lt n (fun k hk => h k (by omega)) (by omega) hp hq
      have h1 := h n (by omega)
      split
      · rename_i hp'
        rw [if_pos (h1 hp')]
        omega
      · split <;> omega
theorem ct_all {p : Nat → Bool} : ∀ n, (∀ k, k < n → p k = true) → ct p n = n
  | 0, _ => rfl
  | n + 1, h => by rw [ct, if_pos (h n (by omega)), ct_all n fun k hk => h k (by omega)]
/-- A set and one more. -/
def put1 (V : Nat → Bool) (b : Nat) : Nat → Bool := fun k => V k || decide (k = b)
theorem ct_put {V : Nat → Bool} {b : Nat} (hb : V b = false) : ∀ n, ct (put1 V b) n = if b < n then ct V n + 1 else ct V n
  | 0 => by simp [ct]
  | n + 1 => by
    have ih := ct_put hb n
    rw [ct, ct, ih]
    unfold put1
    by_cases e : n = b
    · subst e
      rw [hb]
      simp
    · rw [show (decide (n = b)) = false from decide_eq_false e, Bool.or_false]
      by_cases h1 : b < n
      · rw [if_pos h1, if_pos (show b < n + 1 by omega)]
        split <;> rfl
      · rw [if_neg h1, if_neg (show ¬ b < n + 1 by omega)]
section
variable {R B : Nat → Int} {n k b : Nat} {U V : Nat → Bool}
theorem Ah.total {j k : Nat} (h : j ≠ k) : Ah R B j k ∨ Ah R B k j := by
  unfold Ah
  omega
theorem Fr.uniq (hU : Fr R B n U) (hV : Fr R B n V) (hc : ct U n = ct V n) : ∀ k, k < n → U k = V k := by
  have key : ∀ {U V : Nat → Bool}, Fr R B n U → Fr R B n V → ct U n = ct V n → ∀ u, u < n → U u = true → V u = true := by
    intro U V hU hV hc u hu h1
    refine Classical.byContradiction fun h2 => ?_
    have h2 : V u = false := by simpa using h2
    obtain ⟨v, hv, v1, v2⟩ : ∃ v, v < n ∧ V v = true ∧ U v = false := by
      refine Classical.byContradiction fun hn => ?_
      have := ct_lt (p := V) (q := U) n (fun k hk hvk => by
        cases hx : U k with
        | true => rfl
        | false => exact absurd ⟨k, hk, hvk, hx⟩ hn) hu h2 h1
      omega
    have hne : u ≠ v := fun e => by subst e; rw [h1] at v2; cases v2
    rcases Ah.total (R := R) (B := B) hne with h | h
    · rw [hV u v hu hv h v1] at h2; cases h2
    · rw [hU v u hv hu h h1] at v2; cases v2
  intro k hk
  have a := key hU hV hc k hk
  have c := key hV hU hc.symm k hk
  cases h1 : U k <;> cases h2 : V k
  · rfl
  · rw [c h2] at h1; cases h1
  · rw [a h1] at h2; cases h2
  · rfl
theorem Fr.none : Fr R B n fun _ => false := fun _ _ _ _ _ h => by cases h
/-- The first of the greatest that are not in the set, among the first k; -1: there is none. -/
def Bs (R B : Nat → Int) (V : Nat → Bool) (k : Nat) (y : Int) : Prop := (y = -1 ∧ ∀ j, j < k → V j = true) ∨ ∃ b : Nat, y = b ∧ b < k ∧ V b = false ∧ ∀ j, j < k → V j = false → ¬ Ah R B j b
theorem Bs.zero : Bs R B V 0 (-1) := .inl ⟨rfl, fun j hj => by omega⟩
theorem Bs.skip {y : Int} (h : Bs R B V k y) (hk : V k = true) : Bs R B V (k + 1) y := by
  rcases h with ⟨h1, h2⟩ | ⟨b, h1, h2, h3, h4⟩
  · refine .inl ⟨h1, fun j hj => ?_⟩
    by_cases e : j = k
    · subst e; exact hk
    · exact h2 j (by omega)
  · refine .inr ⟨b, h1, by omega, h3, fun j hj hv => ?_⟩
    have : j ≠ k := fun e => by subst e; rw [hk] at hv; cases hv
    exact h4 j (by omega) hv
theorem Ah.irr : ¬ Ah R B k k := by unfold Ah; omega
theorem Bs.first (h : Bs R B V k (-1)) (hk : V k = false) : Bs R B V (k + 1) k := by
  rcases h with ⟨_, h2⟩ | ⟨b, h1, _⟩
  · refine .inr ⟨k, rfl, by omega, hk, fun j hj hv => ?_⟩
    by_cases e : j = k
    · subst e; exact Ah.irr
    · rw [h2 j (by omega)] at hv; cases hv
  · omega
theorem Bs.new (hB : ∀ j, j < n → 0 < B j) (h : Bs R B V k (b : Int)) (hkn : k < n) (hk : V k = false) (hl : R b * B k < R k * B b) : Bs R B V (k + 1) k := by
  rcases h with ⟨h1, _⟩ | ⟨b', h1, h2, h3, h4⟩
  · omega
  · obtain rfl : b = b' := by omega
    refine .inr ⟨k, rfl, by omega, hk, fun j hj hv hA => ?_⟩
    by_cases e : j = k
    · subst e; exact Ah.irr hA
    · have hfe : fe (R k) (B k) (R j) (B j) := by
        unfold fe
        rcases hA with h | ⟨h, _⟩ <;> omega
      have := fl_fe (hB k hkn) (hB b (by omega)) (hB j (by omega)) hl hfe
      exact h4 j (by omega) hv (.inl this)
theorem Bs.old (h : Bs R B V k (b : Int)) (hl : ¬ R b * B k < R k * B b) : Bs R B V (k + 1) (b : Int) := by
  rcases h with ⟨h1, _⟩ | ⟨b', h1, h2, h3, h4⟩
  · omega
  · obtain rfl : b = b' := by omega
    refine .inr ⟨b, rfl, by omega, h3, fun j hj hv hA => ?_⟩
    by_cases e : j = k
    · subst e
      rcases hA with h | ⟨_, h⟩ <;> omega
    · exact h4 j (by omega) hv hA
theorem Bs.rg {y : Int} (h : Bs R B V k y) : y = -1 ∨ ∃ b : Nat, y = b ∧ b < k ∧ V b = false := by
  rcases h with ⟨h1, _⟩ | ⟨b, h1, h2, h3, _⟩
  · exact .inl h1
  · exact .inr ⟨b, h1, h2, h3⟩
/-- Where one is left out, one is found. -/
theorem Bs.found {y : Int} (h : Bs R B V n y) (hc : ct V n < n) : ∃ b : Nat, y = b ∧ b < n ∧ V b = false ∧ ∀ j, j < n → V j = false → ¬ Ah R B j b := by
  rcases h with ⟨_, h2⟩ | h
  · rw [ct_all n h2] at hc; omega
  · exact h
theorem Fr.put (h : Fr R B n V) (hb : b < n) (hv : V b = false) (hm : ∀ j, j < n → V j = false → ¬ Ah R B j b) : Fr R B n (put1 V b) ∧ ct (put1 V b) n = ct V n + 1 := by
  refine ⟨fun j k hj hk hA hU => ?_, by rw [ct_put hv, if_pos hb]⟩
  unfold put1 at hU ⊢
  rw [Bool.or_eq_true, decide_eq_true_iff] at hU ⊢
  rcases hU with h1 | rfl
  · exact .inl (h j k hj hk hA h1)
  · left
    refine Classical.byContradiction fun hn => hm j hj (by simpa using hn) hA
theorem Bs.ex (hB : ∀ j, j < n → 0 < B j) (V : Nat → Bool) : ∀ k, k ≤ n → ∃ y, Bs R B V k y
  | 0, _ => ⟨_, .zero⟩
  | k + 1, hk => by
    obtain ⟨y, hy⟩ := Bs.ex hB V k (by omega)
    cases hv : V k with
    | true => exact ⟨_, hy.skip hv⟩
    | false =>
      rcases hy.rg with rfl | ⟨b, rfl, _, _⟩
      · exact ⟨_, hy.first hv⟩
      · by_cases hl : R b * B k < R k * B b
        · exact ⟨_, hy.new hB (by omega) hv hl⟩
        · exact ⟨_, hy.old hl⟩
theorem Fr.ex (hB : ∀ j, j < n → 0 < B j) : ∀ i, i ≤ n → ∃ V, Fr R B n V ∧ ct V n = i
  | 0, _ => ⟨_, .none, by
      have : ∀ m, ct (fun _ => false) m = 0 := fun m => by induction m with
        | zero => rfl
        | succ m ih => rw [ct]; simpa using ih
      exact this n⟩
  | i + 1, hi => by
    obtain ⟨V, hV, hc⟩ := Fr.ex hB i (by omega)
    obtain ⟨y, hy⟩ := Bs.ex (R := R) hB V n (Nat.le_refl _)
    obtain ⟨b, _, hb, hv, hm⟩ := hy.found (by omega)
    obtain ⟨h1, h2⟩ := hV.put hb hv hm
    exact ⟨_, h1, by omega⟩
end
theorem Dv.ex {n : Nat} {zs : List Int} {w : Int} (h : Ro n zs) (hw : 0 ≤ w) : ∃ U, Dv n zs w U := by
  obtain ⟨h1, h2⟩ := h.left hw
  obtain ⟨V, hV, hc⟩ := Fr.ex (R := fm zs w) (B := wB zs) (n := n) (fun j hj => h.pos hj) (w - sm (fd zs w) n).toNat (by omega)
  exact ⟨V, hV, by omega⟩
/-- What Divide gives: a row of amounts. -/
def dvr (n : Nat) (zs : List Int) (w : Int) (U : Nat → Bool) : List Int := rw_ (fun k => fd zs w k + if U k = true then 1 else 0) n
end Go.Proofs.Ytopbeacfljoacaa.rgt
