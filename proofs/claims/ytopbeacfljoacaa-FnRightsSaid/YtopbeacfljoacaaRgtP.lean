/- Rights: shares whose bottoms divide 8192; a half sold and sold back: plain functions. -/
import Derived.Test.YtopbeacfljoacaaRgtL3
namespace Go.Proofs.Ytopbeacfljoacaa.rgt
open Go.Proofs.Ytopbeacfljoacaa.kit Go.Proofs.Ytopbeacfljoacaa.frc Go.Proofs.Ytopbeacfljoacaa.rain Go.Proofs.Ytopbeacfljoacaa.yrl
theorem nat_mul {a b c : Nat} (h : (a : Int) * b = c) : a * b = c := by exact_mod_cast h
theorem int_mul {a b c : Nat} (h : a * b = c) : (a : Int) * b = c := by exact_mod_cast h
theorem nat_mul2 {a b c d : Nat} (h : (a : Int) * b = c * d) : a * b = c * d := by exact_mod_cast h
theorem odd_one {q k : Nat} (h : q ∣ 2 ^ k) (ho : q % 2 = 1) : q = 1 := by
  have hc : Nat.Coprime q 2 := by
    unfold Nat.Coprime
    rw [Nat.gcd_comm, Nat.gcd_rec, ho]
    rfl
  exact Nat.Coprime.eq_one_of_dvd (Nat.Coprime.pow_right k hc) h
theorem pow_low {y : Nat} (h : y ∣ 32768) (hy : y ≤ 10000) : y ∣ 8192 := by
  obtain ⟨q, hq⟩ := h
  have h4 : 4 ≤ q := by
    refine Classical.byContradiction fun hn => ?_
    have : y * q ≤ 10000 * 3 := Nat.mul_le_mul hy (by omega)
    omega
  have e1 : q % 2 = 0 := by
    refine Classical.byContradiction fun hn => ?_
    have := odd_one (k := 15) (q := q) ⟨y, by rw [Nat.mul_comm]; exact hq⟩ (by omega)
    omega
  obtain ⟨p, rfl⟩ : ∃ p, q = 2 * p := ⟨q / 2, by omega⟩
  have h2 : y * p = 16384 := by
    have : y * (2 * p) = 2 * (y * p) := by rw [Nat.mul_left_comm]
    omega
  have e2 : p % 2 = 0 := by
    refine Classical.byContradiction fun hn => ?_
    have := odd_one (k := 14) (q := p) ⟨y, by rw [Nat.mul_comm]; exact h2.symm⟩ (by omega)
    omega
  obtain ⟨o, rfl⟩ : ∃ o, p = 2 * o := ⟨p / 2, by omega⟩
  have : y * (2 * o) = 2 * (y * o) := by rw [Nat.mul_left_comm]
  exact ⟨o, by omega⟩
/-- A bottom that divides 8192. -/
def Dy (b : Int) : Prop := ∃ d : Int, 0 < d ∧ b * d = 8192
/-- A valid fraction with this value has such a bottom. -/
theorem dvd_of {x y S M : Int} (hf : Fk x y) (hM : 0 < M) (h : x * M = S * y) : ∃ d : Int, 0 < d ∧ y * d = M := by
  obtain ⟨X, Y, rfl, rfl, h1, h2, h3, h4⟩ := hf.nat
  obtain ⟨N, rfl⟩ : ∃ N : Nat, M = N := ⟨M.toNat, by omega⟩
  have hS : 0 ≤ S := by
    refine Classical.byContradiction fun hn => ?_
    have a1 : 0 ≤ (X : Int) * N := Int.mul_nonneg (by omega) (by omega)
    have a2 : S * Y ≤ -1 * Y := Int.mul_le_mul_of_nonneg_right (by omega) (by omega)
    omega
  obtain ⟨T, rfl⟩ : ∃ T : Nat, S = T := ⟨S.toNat, by omega⟩
  have h' : X * N = T * Y := by exact_mod_cast h
  have hd : Y ∣ N := Nat.Coprime.dvd_of_dvd_mul_left (Nat.Coprime.symm h4) ⟨T, by rw [h', Nat.mul_comm]⟩
  obtain ⟨d, hd⟩ := hd
  refine ⟨d, ?_, by exact_mod_cast hd.symm⟩
  have : d ≠ 0 := fun e => by subst e; omega
  omega
theorem dy_low {x y d : Int} (hf : Fk x y) (hd : y * d = 32768) : Dy y := by
  obtain ⟨X, Y, rfl, rfl, h1, h2, h3, h4⟩ := hf.nat
  have hd0 : 0 < d := by
    refine Classical.byContradiction fun hn => ?_
    have : (Y : Int) * d ≤ 0 := Int.mul_nonpos_of_nonneg_of_nonpos (by omega) (by omega)
    omega
  obtain ⟨D, rfl⟩ : ∃ D : Nat, d = D := ⟨d.toNat, by omega⟩
  obtain ⟨q, hq⟩ := pow_low (y := Y) ⟨D, (nat_mul (c := 32768) hd).symm⟩ h3
  refine ⟨q, ?_, int_mul (c := 8192) hq.symm⟩
  have : q ≠ 0 := fun e => by subst e; omega
  omega
section
variable {t b t' b' p q x y s : Int}
theorem ad_cross (h : Ad t b t' b' x y true) : x * (b * b') = (t * b' + t' * b) * y ∧ Fk x y ∧ 0 < y := by
  obtain ⟨⟨⟨b1, _⟩, ⟨t1, _⟩, _⟩, ⟨⟨c1, _⟩, ⟨u1, _⟩, _⟩⟩ := ad_fk h
  have hM := Int.mul_pos (show 0 < b by omega) (show 0 < b' by omega)
  have hS : 0 ≤ t * b' + t' * b := Int.add_nonneg (Int.mul_nonneg t1 (by omega)) (Int.mul_nonneg u1 (by omega))
  obtain ⟨hk, e1, e2⟩ := (ad_red h).ok (by omega)
  have hc := red_cross (t * b' + t' * b).toNat (b * b').toNat
  refine ⟨?_, hk, by have := hk.1.1; omega⟩
  rw [e1, e2]
  have h3 : ((t * b' + t' * b).toNat : Int) = t * b' + t' * b := Int.toNat_of_nonneg hS
  have h4 : ((b * b').toNat : Int) = b * b' := Int.toNat_of_nonneg (by omega)
  rw [← h3, ← h4]
  exact_mod_cast hc
theorem ti_cross (h : Ti t b p q x y true) : x * (b * q) = t * p * y ∧ Fk x y ∧ 0 < y := by
  obtain ⟨f1, f2⟩ := ti_fk h
  have hred := h.1 ⟨f1, f2⟩
  obtain ⟨⟨b1, _⟩, ⟨t1, _⟩, _⟩ := f1
  obtain ⟨⟨c1, _⟩, ⟨u1, _⟩, _⟩ := f2
  have hM := Int.mul_pos (show 0 < b by omega) (show 0 < q by omega)
  have hS : 0 ≤ t * p := Int.mul_nonneg t1 u1
  obtain ⟨hk, e1, e2⟩ := hred.ok (by omega)
  have hc := red_cross (t * p).toNat (b * q).toNat
  refine ⟨?_, hk, by have := hk.1.1; omega⟩
  rw [e1, e2]
  have h3 : ((t * p).toNat : Int) = t * p := Int.toNat_of_nonneg hS
  have h4 : ((b * q).toNat : Int) = b * q := Int.toNat_of_nonneg (by omega)
  rw [← h3, ← h4]
  exact_mod_cast hc
/-- The value of a sum, in parts of 8192. -/
theorem ad_val (h : Ad t b t' b' x y true) {d d' : Int} (hd : b * d = 8192) (hd' : b' * d' = 8192) : x * 8192 = (t * d + t' * d') * y := by
  obtain ⟨hc, _, _⟩ := ad_cross h
  obtain ⟨f1, f2⟩ := ad_fk h
  have hM := Int.mul_pos (show 0 < b by have := f1.1.1; omega) (show 0 < b' by have := f2.1.1; omega)
  refine Int.eq_of_mul_eq_mul_left (a := b * b') (by omega) ?_
  have a1 : b * b' * (x * 8192) = x * (b * b') * 8192 := by rw [← Int.mul_assoc, Int.mul_comm (b * b') x]
  have a2 : t * b' * y * 8192 = b * b' * (t * d * y) := by
    rw [← hd]
    ac_rfl
  have a3 : t' * b * y * 8192 = b * b' * (t' * d' * y) := by
    rw [← hd']
    ac_rfl
  rw [a1, hc, Int.add_mul (t * d), Int.mul_add, ← a2, ← a3, Int.add_mul, Int.add_mul]
theorem ad_dy (h : Ad t b t' b' x y true) (hb : Dy b) (hb' : Dy b') : Dy y := by
  obtain ⟨d, _, hd⟩ := hb
  obtain ⟨d', _, hd'⟩ := hb'
  exact dvd_of (ad_cross h).2.1 (by decide) (ad_val h hd hd')
theorem ti_dy (h : Ti t b p q x y true) (hb : Dy b) (hq : ∃ e, q * e = 4) : Dy y := by
  obtain ⟨d, _, hd⟩ := hb
  obtain ⟨e, he⟩ := hq
  obtain ⟨hc, hk, _⟩ := ti_cross h
  obtain ⟨f1, f2⟩ := ti_fk h
  obtain ⟨z, _, hz⟩ := dvd_of hk (Int.mul_pos (show 0 < b by have := f1.1.1; omega) (show 0 < q by have := f2.1.1; omega)) hc
  refine dy_low hk (d := z * (d * e)) ?_
  rw [← Int.mul_assoc, hz]
  have : b * q * (d * e) = (b * d) * (q * e) := by ac_rfl
  rw [this, hd, he]
  rfl
end
section
variable {T B : Nat → Int} {n k : Nat} {x y : Int}
/-- A share in parts of 8192. -/
def pv (T B : Nat → Int) (k : Nat) : Int := T k * (8192 / B k)
theorem pv_of {d : Int} (hB : 0 < B k) (h : B k * d = 8192) : pv T B k = T k * d := by
  unfold pv
  rw [← h, Int.mul_ediv_cancel_left _ (by omega)]
theorem Sm.val : ∀ {n : Nat} {x y : Int}, Sm T B n x y → (∀ k, k < n → Dy (B k)) → x * 8192 = sm (pv T B) n * y
  | 0, _, _, h, _ => by cases h; simp [sm]
  | n + 1, x', y', h, hd => by
    obtain ⟨x, y, h1, h2⟩ := h.inv
    have ih := h1.val fun k hk => hd k (by omega)
    obtain ⟨d, _, hd'⟩ := hd n (by omega)
    obtain ⟨f1, f2⟩ := ad_fk h2
    obtain ⟨e, _, he⟩ := dvd_of f1 (by decide) ih
    have hv := ad_val h2 he hd'
    rw [sm, pv_of (by have := f2.1.1; omega) hd', hv]
    have : x * e = sm (pv T B) n := by
      refine Int.eq_of_mul_eq_mul_left (a := y) (by have := f1.1.1; omega) ?_
      have a1 : y * (x * e) = x * 8192 := by rw [← he]; ac_rfl
      rw [a1, ih, Int.mul_comm]
    rw [this]
theorem pv_nn (h1 : 0 ≤ T k) (h2 : 0 < B k) : 0 ≤ pv T B k := Int.mul_nonneg h1 (Int.ediv_nonneg (by decide) (by omega))
/-- Shares of no more than the whole have a sum. -/
theorem Sm.dyadic : ∀ {n : Nat}, (∀ k, k < n → Fk (T k) (B k) ∧ Dy (B k)) → sm (pv T B) n ≤ 8192 → ∃ x y, Sm T B n x y
  | 0, _, _ => ⟨_, _, .zero⟩
  | n + 1, h, hs => by
    obtain ⟨hf, d, hd0, hd⟩ := h n (by omega)
    have hB : 0 < B n := by have := hf.1.1; omega
    have hp := pv_of (T := T) hB hd
    have hT := hf.2.1.1
    rw [sm, hp] at hs
    have hTd : 0 ≤ T n * d := Int.mul_nonneg hT (by omega)
    obtain ⟨x, y, h1⟩ := Sm.dyadic (n := n) (fun k hk => h k (by omega)) (by omega)
    have hv := h1.val fun k hk => (h k (by omega)).2
    have f1 := h1.ok
    have hy : 0 < y := by have := f1.1.1; omega
    obtain ⟨e, _, he⟩ := dvd_of f1 (by decide) hv
    have hx : x * e = sm (pv T B) n := by
      refine Int.eq_of_mul_eq_mul_left (a := y) (by omega) ?_
      have a1 : y * (x * e) = x * 8192 := by rw [← he]; ac_rfl
      rw [a1, hv, Int.mul_comm]
    obtain ⟨x', y', r, ha⟩ := Ad.ex x y (T n) (B n)
    have hred := ha.1 ⟨f1, hf⟩
    -- the reduced sum
    have hM := Int.mul_pos hy hB
    have hx0 := f1.2.1.1
    have hS : 0 ≤ x * B n + T n * y := Int.add_nonneg (Int.mul_nonneg hx0 (by omega)) (Int.mul_nonneg hT (by omega))
    obtain ⟨S, hSe⟩ : ∃ S : Nat, x * B n + T n * y = S := ⟨(x * B n + T n * y).toNat, by omega⟩
    obtain ⟨M, hMe⟩ : ∃ M : Nat, y * B n = M := ⟨(y * B n).toNat, by omega⟩
    have hle : S ≤ M := by
      have a1 : (x * B n + T n * y) * (e * d) = (x * e) * (B n * d) + (T n * d) * (y * e) := by
        rw [Int.add_mul]
        ac_rfl
      have a2 : (y * B n) * (e * d) = (y * e) * (B n * d) := by ac_rfl
      rw [hd, he, hx] at a1
      rw [hd, he] at a2
      have hed : 0 < e * d := by
        refine Classical.byContradiction fun hn => ?_
        have : (y * B n) * (e * d) ≤ 0 := Int.mul_nonpos_of_nonneg_of_nonpos (by omega) (by omega)
        omega
      have : (x * B n + T n * y) * (e * d) ≤ (y * B n) * (e * d) := by rw [a1, a2]; omega
      have := Int.le_of_mul_le_mul_right this hed
      omega
    rw [hSe, hMe, Int.toNat_natCast, Int.toNat_natCast] at hred
    have hM0 : 0 < M := by omega
    have hone := red_one (t := S) hM0
    have hcr := red_cross S M
    have hrl : rT S M ≤ rB S M := by
      unfold rT rB
      exact Nat.div_le_div_right hle
    have hrp := rB_pos (t := S) hM0
    have hval : rT S M * 8192 = (sm (pv T B) n + T n * d).toNat * rB S M := by
      have hc2 : ((rT S M : Nat) : Int) * M = S * (rB S M : Nat) := by exact_mod_cast hcr
      rw [← hSe, ← hMe] at hc2
      have : ((rT S M : Nat) : Int) * 8192 = (x * e + T n * d) * (rB S M : Nat) := by
        refine Int.eq_of_mul_eq_mul_left (a := y * B n) (by omega) ?_
        have a1 : y * B n * (((rT S M : Nat) : Int) * 8192) = ((rT S M : Nat) : Int) * (y * B n) * 8192 := by ac_rfl
        have a2 : x * B n * ((rB S M : Nat) : Int) * 8192 = y * B n * (x * e * ((rB S M : Nat) : Int)) := by
          rw [← he]
          ac_rfl
        have a3 : T n * y * ((rB S M : Nat) : Int) * 8192 = y * B n * (T n * d * ((rB S M : Nat) : Int)) := by
          rw [← hd]
          ac_rfl
        rw [a1, hc2, Int.add_mul (x * e), Int.mul_add, ← a2, ← a3, Int.add_mul, Int.add_mul]
      rw [hx] at this
      have h0 : ((sm (pv T B) n + T n * d).toNat : Int) = sm (pv T B) n + T n * d := Int.toNat_of_nonneg (by
        rw [← hx]
        have : 0 ≤ x * e := by
          refine Classical.byContradiction fun hn => ?_
          have : y * (x * e) < 0 := Int.mul_neg_of_pos_of_neg hy (by omega)
          have a1 : y * (x * e) = x * 8192 := by rw [← he]; ac_rfl
          omega
        omega)
      rw [← h0] at this
      exact nat_mul2 (b := 8192) this
    have hdv : rB S M ∣ 8192 := Nat.Coprime.dvd_of_dvd_mul_left (Nat.Coprime.symm hone) ⟨_, by rw [hval, Nat.mul_comm]⟩
    have hlt := Nat.le_of_dvd (by decide) hdv
    obtain ⟨_, _, rfl⟩ := hred.1 ⟨by omega, by omega⟩
    exact ⟨_, _, .step n x y x' y' h1 ha⟩
/-- Shares that are the whole have the sum 1. -/
theorem Sm.whole (h : ∀ k, k < n → Fk (T k) (B k) ∧ Dy (B k)) (hs : sm (pv T B) n = 8192) : Sm T B n 1 1 := by
  obtain ⟨x, y, h1⟩ := Sm.dyadic h (by omega)
  have hv := h1.val fun k hk => (h k hk).2
  obtain ⟨X, Y, rfl, rfl, a1, a2, a3, a4⟩ := h1.ok.nat
  rw [hs] at hv
  obtain rfl : X = Y := by omega
  rw [Nat.gcd_self] at a4
  subst a4
  exact h1
end
end Go.Proofs.Ytopbeacfljoacaa.rgt
