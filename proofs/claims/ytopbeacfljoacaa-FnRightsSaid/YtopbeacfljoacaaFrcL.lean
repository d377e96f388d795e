/- Fractions: reduced numbers, sums, products, order: plain functions. -/
import Derived.Test.YtopbeacfljoacaaKit
namespace Go.Proofs.Ytopbeacfljoacaa.frc
/-- A valid fraction. -/
def Fk (t b : Int) : Prop := (1 ≤ b ∧ b ≤ 10000) ∧ (0 ≤ t ∧ t ≤ 10000) ∧ Nat.gcd t.toNat b.toNat = 1
/-- Both numbers, reduced. -/
def rT (t b : Nat) : Nat := t / Nat.gcd t b
def rB (t b : Nat) : Nat := b / Nat.gcd t b
/-- The reduced fraction, where it is valid. -/
def Red (t b : Nat) (x y : Int) (r : Bool) : Prop := (rT t b ≤ 10000 ∧ rB t b ≤ 10000 → x = rT t b ∧ y = rB t b ∧ r = true) ∧ (¬ (rT t b ≤ 10000 ∧ rB t b ≤ 10000) → x = 0 ∧ y = 0 ∧ r = false)
/-- The answer of MakeFraction. -/
def Mk (t b x y : Int) (r : Bool) : Prop := ((0 ≤ t ∧ t ≤ 100000000) ∧ (1 ≤ b ∧ b ≤ 100000000) → Red t.toNat b.toNat x y r) ∧ (¬ ((0 ≤ t ∧ t ≤ 100000000) ∧ (1 ≤ b ∧ b ≤ 100000000)) → x = 0 ∧ y = 0 ∧ r = false)
/-- The answers of AddFractions and TimesFraction. -/
def Ad (t b t' b' x y : Int) (r : Bool) : Prop := (Fk t b ∧ Fk t' b' → Red (t * b' + t' * b).toNat (b * b').toNat x y r) ∧ (¬ (Fk t b ∧ Fk t' b') → x = 0 ∧ y = 0 ∧ r = false)
def Ti (t b t' b' x y : Int) (r : Bool) : Prop := (Fk t b ∧ Fk t' b' → Red (t * t').toNat (b * b').toNat x y r) ∧ (¬ (Fk t b ∧ Fk t' b') → x = 0 ∧ y = 0 ∧ r = false)
/-- The order of two numbers. -/
def sg (x y : Int) : Int := if x < y then -1 else if y < x then 1 else 0
/-- The answer of CompareFractions. -/
def Cp (t b t' b' c : Int) : Prop := (Fk t b ∧ Fk t' b' → c = sg (t * b') (t' * b)) ∧ (¬ (Fk t b ∧ Fk t' b') → c = 0)
/-- The answer of PartOf. -/
def Po (t b n m : Int) : Prop := (Fk t b ∧ 0 ≤ n ∧ n ≤ 1000000 → m = n * t / b) ∧ (¬ (Fk t b ∧ 0 ≤ n ∧ n ≤ 1000000) → m = -1)
section
variable {t b t' b' x y c n m : Int} {r : Bool}
theorem Red.ex (t b : Nat) : ∃ x y r, Red t b x y r := by
  by_cases h : rT t b ≤ 10000 ∧ rB t b ≤ 10000
  · exact ⟨_, _, _, fun _ => ⟨rfl, rfl, rfl⟩, fun g => absurd h g⟩
  · exact ⟨_, _, _, fun g => absurd g h, fun _ => ⟨rfl, rfl, rfl⟩⟩
theorem Mk.ex (t b : Int) : ∃ x y r, Mk t b x y r := by
  by_cases h : (0 ≤ t ∧ t ≤ 100000000) ∧ (1 ≤ b ∧ b ≤ 100000000)
  · obtain ⟨x, y, r, hr⟩ := Red.ex t.toNat b.toNat
    exact ⟨x, y, r, fun _ => hr, fun g => absurd h g⟩
  · exact ⟨_, _, _, fun g => absurd g h, fun _ => ⟨rfl, rfl, rfl⟩⟩
theorem Ad.ex (t b t' b' : Int) : ∃ x y r, Ad t b t' b' x y r := by
  by_cases h : Fk t b ∧ Fk t' b'
  · obtain ⟨x, y, r, hr⟩ := Red.ex (t * b' + t' * b).toNat (b * b').toNat
    exact ⟨x, y, r, fun _ => hr, fun g => absurd h g⟩
  · exact ⟨_, _, _, fun g => absurd g h, fun _ => ⟨rfl, rfl, rfl⟩⟩
theorem Ti.ex (t b t' b' : Int) : ∃ x y r, Ti t b t' b' x y r := by
  by_cases h : Fk t b ∧ Fk t' b'
  · obtain ⟨x, y, r, hr⟩ := Red.ex (t * t').toNat (b * b').toNat
    exact ⟨x, y, r, fun _ => hr, fun g => absurd h g⟩
  · exact ⟨_, _, _, fun g => absurd g h, fun _ => ⟨rfl, rfl, rfl⟩⟩
theorem Cp.ex (t b t' b' : Int) : ∃ c, Cp t b t' b' c := by
  by_cases h : Fk t b ∧ Fk t' b'
  · exact ⟨_, fun _ => rfl, fun g => absurd h g⟩
  · exact ⟨_, fun g => absurd g h, fun _ => rfl⟩
theorem Po.ex (t b n : Int) : ∃ m, Po t b n m := by
  by_cases h : Fk t b ∧ 0 ≤ n ∧ n ≤ 1000000
  · exact ⟨_, fun _ => rfl, fun g => absurd h g⟩
  · exact ⟨_, fun g => absurd g h, fun _ => rfl⟩
theorem Fk.nat (h : Fk t b) : ∃ T B : Nat, t = T ∧ b = B ∧ T ≤ 10000 ∧ 1 ≤ B ∧ B ≤ 10000 ∧ Nat.gcd T B = 1 := by
  obtain ⟨⟨h1, h2⟩, ⟨h3, h4⟩, h5⟩ := h
  exact ⟨t.toNat, b.toNat, by omega, by omega, by omega, by omega, by omega, h5⟩
theorem gcd_lo {t b : Nat} (hb : 0 < b) : 1 ≤ Nat.gcd t b ∧ Nat.gcd t b ≤ b := ⟨Nat.gcd_pos_of_pos_right _ hb, Nat.le_of_dvd hb (Nat.gcd_dvd_right _ _)⟩
/-- What is reduced has no common divisor. -/
theorem red_one {t b : Nat} (hb : 0 < b) : Nat.gcd (rT t b) (rB t b) = 1 := by
  unfold rT rB
  rw [Nat.gcd_div (Nat.gcd_dvd_left t b) (Nat.gcd_dvd_right t b)]
  exact Nat.div_self (Nat.gcd_pos_of_pos_right _ hb)
theorem rB_pos {t b : Nat} (hb : 0 < b) : 1 ≤ rB t b := Nat.div_pos (gcd_lo hb).2 (gcd_lo hb).1
theorem rT_le (t b : Nat) : rT t b ≤ t := Nat.div_le_self _ _
theorem rB_le (t b : Nat) : rB t b ≤ b := Nat.div_le_self _ _
/-- Reducing changes no fraction. -/
theorem red_cross (t b : Nat) : rT t b * b = t * rB t b := by
  unfold rT rB
  obtain ⟨u, hu⟩ := Nat.gcd_dvd_left t b
  obtain ⟨v, hv⟩ := Nat.gcd_dvd_right t b
  generalize Nat.gcd t b = g at hu hv
  subst hu hv
  by_cases hg : g = 0
  · subst hg; simp
  · rw [Nat.mul_div_cancel_left _ (by omega), Nat.mul_div_cancel_left _ (by omega), Nat.mul_comm g u, Nat.mul_assoc]
theorem red_self {t b : Nat} (h : Nat.gcd t b = 1) : rT t b = t ∧ rB t b = b := by
  unfold rT rB
  rw [h, Nat.div_one, Nat.div_one]
  exact ⟨rfl, rfl⟩
/-- Numbers multiplied by the same one are reduced to the same. -/
theorem red_mul {k t b : Nat} (hk : 0 < k) : rT (k * t) (k * b) = rT t b ∧ rB (k * t) (k * b) = rB t b := by
  unfold rT rB
  rw [Nat.gcd_mul_left]
  exact ⟨Nat.mul_div_mul_left _ _ hk, Nat.mul_div_mul_left _ _ hk⟩
/-- A reduced fraction is told by its value. -/
theorem red_uniq {t b u v : Nat} (hb : 0 < b) (h1 : Nat.gcd t b = 1) (h2 : Nat.gcd u v = 1) (h : t * v = u * b) : t = u ∧ b = v := by
  have d1 : b ∣ v := Nat.Coprime.dvd_of_dvd_mul_left (Nat.Coprime.symm h1) ⟨u, by rw [h, Nat.mul_comm]⟩
  have d2 : v ∣ b := Nat.Coprime.dvd_of_dvd_mul_left (Nat.Coprime.symm h2) ⟨t, by rw [← h, Nat.mul_comm]⟩
  have e : b = v := Nat.dvd_antisymm d1 d2
  subst e
  exact ⟨Nat.eq_of_mul_eq_mul_right hb h, rfl⟩
/-- The reduced fraction of small numbers is valid. -/
theorem Red.ok {t b : Nat} (hb : 0 < b) (h : Red t b x y true) : Fk x y ∧ x = rT t b ∧ y = rB t b := by
  by_cases hc : rT t b ≤ 10000 ∧ rB t b ≤ 10000
  · obtain ⟨h1, h2, _⟩ := h.1 hc
    have h3 := rB_pos (t := t) hb
    refine ⟨⟨⟨by omega, by omega⟩, ⟨by omega, by omega⟩, ?_⟩, h1, h2⟩
    rw [h1, h2, Int.toNat_natCast, Int.toNat_natCast]
    exact red_one hb
  · cases (h.2 hc).2.2
theorem Red.small {t b : Nat} (h1 : t ≤ 10000) (h2 : b ≤ 10000) (h : Red t b x y r) : r = true ∧ x = rT t b ∧ y = rB t b := by
  have h3 := rT_le t b
  have h4 := rB_le t b
  obtain ⟨a1, a2, a3⟩ := h.1 ⟨by omega, by omega⟩
  exact ⟨a3, a1, a2⟩
theorem Red.uniq {t b : Nat} {x' y' : Int} {r' : Bool} (h : Red t b x y r) (h' : Red t b x' y' r') : x = x' ∧ y = y' ∧ r = r' := by
  by_cases hc : rT t b ≤ 10000 ∧ rB t b ≤ 10000
  · obtain ⟨a1, a2, a3⟩ := h.1 hc
    obtain ⟨b1, b2, b3⟩ := h'.1 hc
    exact ⟨a1.trans b1.symm, a2.trans b2.symm, a3.trans b3.symm⟩
  · obtain ⟨a1, a2, a3⟩ := h.2 hc
    obtain ⟨b1, b2, b3⟩ := h'.2 hc
    exact ⟨a1.trans b1.symm, a2.trans b2.symm, a3.trans b3.symm⟩
/-- What is reduced already is made as it is. -/
theorem Red.mk {t b : Nat} (hb : 0 < b) (h : Red t b x y r) : Mk (rT t b) (rB t b) x y r := by
  have h1 := red_one (t := t) hb
  have h2 := rB_pos (t := t) hb
  have h3 := rB_le t b
  obtain ⟨e1, e2⟩ := red_self h1
  refine ⟨fun _ => ?_, fun hn => ?_⟩
  · rw [Int.toNat_natCast, Int.toNat_natCast]
    unfold Red
    rw [e1, e2]
    exact h
  · exact h.2 (fun hc => hn ⟨⟨by omega, by omega⟩, by omega, by omega⟩)
end
end Go.Proofs.Ytopbeacfljoacaa.frc
