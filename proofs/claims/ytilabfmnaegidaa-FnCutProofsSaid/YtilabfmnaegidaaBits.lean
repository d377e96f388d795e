/- Sets of small numbers as bits of an int: shifts, '&', '|' of naturals, and which bit is set. -/
import Derived.Test.YtilabfmnaegidaaKit
namespace Go.Proofs.Ytilabfmnaegidaa.bits_
open Go.RowKit Go.Proofs.Ytilabfmnaegidaa.kit
theorem wrap_nat {a : Nat} (h : a < 9223372036854775808) : IntKind.i64.wrap (a : Int) = a := IntWalk.i64_in _ (by omega)
theorem ofInt_nat {a : Nat} (h : a < 18446744073709551616) : (BitVec.ofInt 64 (a : Int)).toNat = a := by
  rw [BitVec.toNat_ofInt]
  omega
theorem and_nat {a b : Nat} (ha : a < 9223372036854775808) (hb : b < 9223372036854775808) : bits .and .i64 (a : Int) (b : Int) = ((a &&& b : Nat) : Int) := by
  have h1 := ofInt_nat (a := a) (by omega)
  have h2 := ofInt_nat (a := b) (by omega)
  have h3 : a &&& b < 9223372036854775808 := Nat.lt_of_le_of_lt Nat.and_le_left ha
  show IntKind.i64.wrap ((BitVec.ofInt 64 (a : Int) &&& BitVec.ofInt 64 (b : Int)).toNat : Int) = _
  rw [BitVec.toNat_and, h1, h2]
  exact wrap_nat h3
theorem or_nat {a b : Nat} (ha : a < 9223372036854775808) (hb : b < 9223372036854775808) : bits .or .i64 (a : Int) (b : Int) = ((a ||| b : Nat) : Int) := by
  have h1 := ofInt_nat (a := a) (by omega)
  have h2 := ofInt_nat (a := b) (by omega)
  have h3 : a ||| b < 9223372036854775808 := Nat.or_lt_two_pow (n := 63) ha hb
  show IntKind.i64.wrap ((BitVec.ofInt 64 (a : Int) ||| BitVec.ofInt 64 (b : Int)).toNat : Int) = _
  rw [BitVec.toNat_or, h1, h2]
  exact wrap_nat h3
theorem shr_nat (a v : Nat) : (a : Int) / 2 ^ (v : Int).toNat = ((a >>> v : Nat) : Int) := by
  rw [Nat.shiftRight_eq_div_pow, Int.toNat_natCast]
  push_cast
  rfl
theorem shl_nat {v : Nat} (h : v < 63) : IntKind.i64.wrap ((2 : Int) ^ (v : Int).toNat) = ((1 <<< v : Nat) : Int) := by
  have h1 : (1 <<< v : Nat) < 9223372036854775808 := by rw [Nat.one_shiftLeft]; exact Nat.pow_lt_pow_right (by decide) h
  have e : (2 : Int) ^ (v : Int).toNat = ((1 <<< v : Nat) : Int) := by
    rw [Nat.one_shiftLeft, Int.toNat_natCast]
    push_cast
    rfl
  rw [e]
  exact wrap_nat h1
/-- As the walk writes them. -/
theorem shl64 {v : Nat} (h : v < 63) : wrap64 ((2 : Int) ^ v) = ((1 <<< v : Nat) : Int) := by
  have := shl_nat h
  rw [Int.toNat_natCast] at this
  have e : ∀ x : Int, IntKind.i64.wrap x = wrap64 x := fun x => by rw [IntKind.wrap_i64]; unfold wrap64; rfl
  rw [← e]
  exact this
theorem shr64 (a v : Nat) : (a : Int) / 2 ^ v = ((a >>> v : Nat) : Int) := by
  have := shr_nat a v
  rwa [Int.toNat_natCast] at this
/-- 's >> v & 1'. -/
theorem bit_val (s v : Nat) : (s >>> v) &&& 1 = if s.testBit v then 1 else 0 := by
  rw [Nat.testBit, Nat.and_comm]
  have : 1 &&& (s >>> v) = 0 ∨ 1 &&& (s >>> v) = 1 := by
    have := Nat.and_le_left (n := 1) (m := s >>> v)
    omega
  rcases this with h | h <;> simp [h]
/-- A place more in the set. -/
theorem bit_add (s v u : Nat) : (s ||| 1 <<< v).testBit u = (decide (u = v) || s.testBit u) := by
  rw [Nat.testBit_or, Nat.one_shiftLeft, Nat.testBit_two_pow, Bool.or_comm]
  congr 1
  exact decide_eq_decide.2 ⟨fun h => h.symm, fun h => h.symm⟩
theorem bit_one (v u : Nat) : (1 <<< v : Nat).testBit u = decide (u = v) := by
  rw [Nat.one_shiftLeft, Nat.testBit_two_pow]
  exact decide_eq_decide.2 ⟨fun h => h.symm, fun h => h.symm⟩
theorem set_lt {s v n : Nat} (hs : s < 2 ^ n) (hv : v < n) : s ||| 1 <<< v < 2 ^ n := by
  refine Nat.or_lt_two_pow hs ?_
  rw [Nat.one_shiftLeft]
  exact Nat.pow_lt_pow_right (by decide) hv
end Go.Proofs.Ytilabfmnaegidaa.bits_
