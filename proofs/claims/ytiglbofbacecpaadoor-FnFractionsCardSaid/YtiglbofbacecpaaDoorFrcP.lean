/- Fractions: what FnFractions asks. -/
import Derived.Test.YtiglbofbacecpaaDoorFrcD
import Derived.Test.YtiglbofbacecpaaDoorFrcT
namespace Go.Proofs.YtiglbofbacecpaaDoor.frc
open Go.Proofs.YtiglbofbacecpaaDoor.numl
section
variable {t b t' b' n c : Int}
theorem FairF.nat (h : FairF t b) : ∃ T B : Nat, t = T ∧ b = B ∧ T ≤ 39 ∧ 1 ≤ B ∧ B ≤ 40 ∧ Nat.gcd T B = 1 := by
  obtain ⟨hk, h1, h2⟩ := h
  obtain ⟨T, B, rfl, rfl, _, hB, _, hg⟩ := hk.nat
  exact ⟨T, B, rfl, rfl, by omega, hB, by omega, hg⟩
theorem mul_le2 {x y X Y : Nat} (h1 : x ≤ X) (h2 : y ≤ Y) : x * y ≤ X * Y := Nat.mul_le_mul h1 h2
theorem cast2 {a b k : Nat} (h : a * b ≤ k) : 0 ≤ (a : Int) * b ∧ (a : Int) * b ≤ (k : Int) := by
  rw [← Int.natCast_mul]
  omega
theorem cast3 {a b c k : Nat} (h : a * b * c ≤ k) : 0 ≤ (a : Int) * b * c ∧ (a : Int) * b * c ≤ (k : Int) := by
  rw [← Int.natCast_mul, ← Int.natCast_mul]
  omega
/-- The sum of two drawn fractions. -/
theorem sum_facts (hF : FairF t b) (hF' : FairF t' b') : ∃ X Y, Ad t b t' b' X Y true ∧ Ad t' b' t b X Y true ∧ Fk X Y ∧ (0 ≤ X * b ∧ X * b ≤ 1000000) ∧ X * b * b' = (t * b' + t' * b) * Y ∧ (0 ≤ X * b * b' ∧ X * b * b' ≤ 1000000000) ∧ sg (X * b) (t * Y) = if 0 < t' then 1 else 0 := by
  have hk := hF.1
  have hk' := hF'.1
  obtain ⟨T, B, rfl, rfl, hT, hB, hB2, _⟩ := hF.nat
  obtain ⟨T', B', rfl, rfl, hT', hB', hB2', _⟩ := hF'.nat
  have b1 := mul_le2 hT hB2'
  have b2 := mul_le2 hT' hB2
  have b3 := mul_le2 hB2 hB2'
  have p0 : 0 < B * B' := Nat.mul_pos hB hB'
  obtain ⟨S, hS⟩ : ∃ S, T * B' + T' * B = S := ⟨_, rfl⟩
  obtain ⟨M, hM⟩ : ∃ M, B * B' = M := ⟨_, rfl⟩
  obtain ⟨x, y, r, hr⟩ := Red.ex S M
  obtain ⟨rfl, rfl, rfl⟩ := hr.small (by omega) (by omega)
  have hok := (hr.ok (by omega)).1
  have hc := red_cross S M
  have l1 := rT_le S M
  have l2 := rB_le S M
  have l3 := rB_pos (t := S) (by omega : 0 < M)
  have e1 : ((T : Int) * B' + T' * B).toNat = S := by rw [← hS]; norm_cast
  have e2 : ((B : Int) * B').toNat = M := by rw [← hM]; norm_cast
  have e3 : ((T' : Int) * B + T * B').toNat = S := by rw [← hS, Nat.add_comm]; norm_cast
  have e4 : ((B' : Int) * B).toNat = M := by rw [← hM, Nat.mul_comm]; norm_cast
  generalize rT S M = X at *
  generalize rB S M = Y at *
  have m1 := mul_le2 (show X ≤ 3120 by omega) hB2
  have m2 := mul_le2 m1 hB2'
  have key : X * B * B' = (T * B' + T' * B) * Y := by rw [Nat.mul_assoc, hM, hS, hc]
  refine ⟨X, Y, ⟨fun _ => by rw [e1, e2]; exact hr, fun hn => absurd ⟨hk, hk'⟩ hn⟩, ⟨fun _ => by rw [e3, e4]; exact hr, fun hn => absurd ⟨hk', hk⟩ hn⟩, hok, cast2 (k := 1000000) (by omega), by exact_mod_cast key, cast3 (k := 1000000000) (by omega), ?_⟩
  rw [Nat.add_mul] at key
  have k1 : T * B' * Y = T * Y * B' := by rw [Nat.mul_assoc, Nat.mul_comm B' Y, ← Nat.mul_assoc]
  unfold sg
  by_cases h0 : T' = 0
  · subst h0
    have : X * B = T * Y := by
      have h : X * B * B' = T * Y * B' := by rw [key, k1]; simp
      exact Nat.eq_of_mul_eq_mul_right hB' h
    have h2 : (X : Int) * B = T * Y := by exact_mod_cast this
    rw [h2]
    simp
  · have p2 : 0 < T' * B * Y := Nat.mul_pos (Nat.mul_pos (by omega) hB) l3
    have h : T * Y * B' < X * B * B' := by omega
    have h1 : T * Y < X * B := Nat.lt_of_mul_lt_mul_right h
    have h2 : (T : Int) * Y < X * B := by exact_mod_cast h1
    rw [if_neg (by omega), if_pos h2, if_pos (by omega)]
/-- The product of two drawn fractions. -/
theorem prod_facts (hF : FairF t b) (hF' : FairF t' b') : ∃ X Y, Ti t b t' b' X Y true ∧ Ti t' b' t b X Y true ∧ Fk X Y ∧ (0 ≤ X * b ∧ X * b ≤ 1000000) ∧ X * b * b' = t * t' * Y ∧ (0 ≤ X * b * b' ∧ X * b * b' ≤ 1000000000) := by
  have hk := hF.1
  have hk' := hF'.1
  obtain ⟨T, B, rfl, rfl, hT, hB, hB2, _⟩ := hF.nat
  obtain ⟨T', B', rfl, rfl, hT', hB', hB2', _⟩ := hF'.nat
  have b1 := mul_le2 hT hT'
  have b3 := mul_le2 hB2 hB2'
  have p0 : 0 < B * B' := Nat.mul_pos hB hB'
  obtain ⟨S, hS⟩ : ∃ S, T * T' = S := ⟨_, rfl⟩
  obtain ⟨M, hM⟩ : ∃ M, B * B' = M := ⟨_, rfl⟩
  obtain ⟨x, y, r, hr⟩ := Red.ex S M
  obtain ⟨rfl, rfl, rfl⟩ := hr.small (by omega) (by omega)
  have hok := (hr.ok (by omega)).1
  have hc := red_cross S M
  have l1 := rT_le S M
  have l2 := rB_le S M
  have e1 : ((T : Int) * T').toNat = S := by rw [← hS]; norm_cast
  have e2 : ((B : Int) * B').toNat = M := by rw [← hM]; norm_cast
  have e3 : ((T' : Int) * T).toNat = S := by rw [← hS, Nat.mul_comm]; norm_cast
  have e4 : ((B' : Int) * B).toNat = M := by rw [← hM, Nat.mul_comm]; norm_cast
  generalize rT S M = X at *
  generalize rB S M = Y at *
  have m1 := mul_le2 (show X ≤ 3120 by omega) hB2
  have m2 := mul_le2 m1 hB2'
  have key : X * B * B' = T * T' * Y := by rw [Nat.mul_assoc, hM, hS, hc]
  exact ⟨X, Y, ⟨fun _ => by rw [e1, e2]; exact hr, fun hn => absurd ⟨hk, hk'⟩ hn⟩, ⟨fun _ => by rw [e3, e4]; exact hr, fun hn => absurd ⟨hk', hk⟩ hn⟩, hok, cast2 (k := 1000000) (by omega), by exact_mod_cast key, cast3 (k := 1000000000) (by omega)⟩
theorem sg_neg (x y : Int) : sg y x = - sg x y := by
  unfold sg
  by_cases h1 : x < y
  · rw [if_neg (by omega), if_pos h1, if_pos h1]; rfl
  · by_cases h2 : y < x
    · rw [if_pos h2, if_neg h1, if_pos h2]
    · rw [if_neg h2, if_neg h1, if_neg h1, if_neg h2]; rfl
theorem sg_zero {x y : Int} : sg x y = 0 ↔ x = y := by
  unfold sg
  by_cases h1 : x < y
  · rw [if_pos h1]; omega
  · by_cases h2 : y < x
    · rw [if_neg h1, if_pos h2]; omega
    · rw [if_neg h1, if_neg h2]; omega
theorem sg_bd (x y : Int) : -1 ≤ sg x y ∧ sg x y ≤ 1 := by
  unfold sg
  by_cases h1 : x < y
  · rw [if_pos h1]; omega
  · by_cases h2 : y < x
    · rw [if_neg h1, if_pos h2]; omega
    · rw [if_neg h1, if_neg h2]; omega
/-- The order of two drawn fractions. -/
theorem cmp_facts (hF : FairF t b) (hF' : FairF t' b') : ∃ c, Cp t b t' b' c ∧ Cp t' b' t b (-c) ∧ (-1 ≤ c ∧ c ≤ 1) ∧ (c = 0 ↔ t = t' ∧ b = b') := by
  have hk := hF.1
  have hk' := hF'.1
  obtain ⟨T, B, rfl, rfl, hT, hB, hB2, hg⟩ := hF.nat
  obtain ⟨T', B', rfl, rfl, hT', hB', hB2', hg'⟩ := hF'.nat
  refine ⟨sg (T * B') (T' * B), ⟨fun _ => rfl, fun hn => absurd ⟨hk, hk'⟩ hn⟩, ⟨fun _ => (sg_neg _ _).symm, fun hn => absurd ⟨hk', hk⟩ hn⟩, sg_bd _ _, ?_⟩
  rw [sg_zero]
  constructor
  · intro h
    have h1 : T * B' = T' * B := by exact_mod_cast h
    obtain ⟨rfl, rfl⟩ := red_uniq hB hg hg' h1
    exact ⟨rfl, rfl⟩
  · rintro ⟨h1, h2⟩
    rw [h1, h2]
/-- The part of an amount. -/
theorem part_facts (hF : FairF t b) (h0 : 0 ≤ n) (h1 : n ≤ 255) : ∃ m, Po t b n m ∧ (0 ≤ m ∧ m ≤ 10000) ∧ (0 ≤ n * t ∧ n * t ≤ 10000) ∧ (0 ≤ m * b ∧ m * b ≤ n * t) ∧ (n * t < (m + 1) * b ∧ (m + 1) * b ≤ 20000) := by
  have hk := hF.1
  obtain ⟨T, B, rfl, rfl, hT, hB, hB2, _⟩ := hF.nat
  obtain ⟨N, rfl⟩ : ∃ N : Nat, n = N := ⟨n.toNat, by omega⟩
  have b1 := mul_le2 (show N ≤ 255 by omega) hT
  have d1 := Nat.div_mul_le_self (N * T) B
  have d2 := Nat.lt_div_mul_add (a := N * T) (b := B) hB
  have d3 := Nat.div_le_self (N * T) B
  have e : (N : Int) * T / B = ((N * T / B : Nat) : Int) := by norm_cast
  have hz : Po (T : Int) B N ((N * T / B : Nat) : Int) := ⟨fun _ => e.symm, fun hn => absurd ⟨hk, by omega, by omega⟩ hn⟩
  generalize N * T / B = m at *
  have e2 : (m + 1) * B = m * B + B := Nat.succ_mul m B
  refine ⟨m, hz, ⟨by omega, by omega⟩, cast2 (k := 10000) (by omega), ⟨by exact_mod_cast Nat.zero_le _, by exact_mod_cast d1⟩, by exact_mod_cast (show N * T < (m + 1) * B by omega), (cast2 (a := m + 1) (b := B) (k := 20000) (by omega)).2⟩
/-- A fraction made of three times its numbers. -/
theorem made_facts (hF : FairF t b) : Mk (3 * t) (3 * b) t b true := by
  obtain ⟨T, B, rfl, rfl, hT, hB, hB2, hg⟩ := hF.nat
  have e1 : (3 * (T : Int)).toNat = 3 * T := by omega
  have e2 : (3 * (B : Int)).toNat = 3 * B := by omega
  obtain ⟨r1, r2⟩ := red_mul (k := 3) (t := T) (b := B) (by decide)
  obtain ⟨s1, s2⟩ := red_self hg
  refine ⟨fun _ => ?_, fun hn => absurd ⟨⟨by omega, by omega⟩, by omega, by omega⟩ hn⟩
  rw [e1, e2]
  unfold Red
  rw [r1, r2, s1, s2]
  exact ⟨fun _ => ⟨rfl, rfl, rfl⟩, fun hn => absurd ⟨by omega, by omega⟩ hn⟩
/-- The text of a fraction is not empty. -/
theorem text_facts (hF : FairF t b) : ∃ s, Tx t b s ∧ 0 < s.size ∧ s.size ≤ 100 := by
  have hk := hF.1
  refine ⟨tx t b, ⟨fun _ => rfl, fun hn => absurd hk hn⟩, ?_⟩
  obtain ⟨s1, s2⟩ := num_size hk.2.1.1 hk.2.1.2
  obtain ⟨s3, s4⟩ := num_size (n := b) (by have := hk.1.1; omega) hk.1.2
  have hz : (num t ++ ⟨#[47]⟩).size = (num t).size + 1 := ByteArray.size_append
  have hz2 : (num t ++ ⟨#[47]⟩ ++ num b).size = (num t ++ ⟨#[47]⟩).size + (num b).size := ByteArray.size_append
  unfold tx
  split <;> omega
theorem num3 : num 3 = ⟨#[51]⟩ := by
  show (⟨(Lib.itoa 3).toArray⟩ : ByteArray) = _
  unfold Lib.itoa
  rw [if_neg (by decide), show (3 : Int).toNat = 3 from rfl, Lib.decDigits_one (by decide)]
  rfl
theorem num4 : num 4 = ⟨#[52]⟩ := by
  show (⟨(Lib.itoa 4).toArray⟩ : ByteArray) = _
  unfold Lib.itoa
  rw [if_neg (by decide), show (4 : Int).toNat = 4 from rfl, Lib.decDigits_one (by decide)]
  rfl
theorem three_four : Tx 3 4 ⟨#[51, 47, 52]⟩ := ⟨fun _ => by unfold tx; rw [if_neg (by decide), num3, num4]; rfl, fun hn => absurd ⟨by decide, by decide, by decide⟩ hn⟩
end
end Go.Proofs.YtiglbofbacecpaaDoor.frc
