/- The numerals of numbers: read back, as plain functions. -/
import Derived.Lib.ItoaLen
import Derived.Lib.AtoiTie
import Derived.Lib.AtoiAllCases
import Derived.WalkKit
namespace Go.Proofs.YtiglbofbacecpaaDoor.numl
open Go.Lib
def num (n : Int) : ByteArray := ⟨(Lib.itoa n).toArray⟩
theorem num_list (m : Nat) : (num (m : Int)).data.toList = decDigits m := by
  unfold num Lib.itoa
  rw [if_neg (by omega), Int.toNat_natCast]
theorem digitVal_of {d : Nat} (h : d < 10) : digitVal (UInt8.ofNat (48 + d)) = some d := by
  unfold digitVal
  rw [if_pos (by simp; omega)]
  simp; omega
theorem decFrom_snoc : ∀ (l : List UInt8) (acc n : Nat) (c : UInt8), decFrom acc l = some n → decFrom acc (l ++ [c]) = (digitVal c).map fun d => n * 10 + d
  | [], acc, n, c, h => by
    simp only [decFrom, Option.some.injEq] at h
    subst h
    simp only [List.nil_append, decFrom]
    cases digitVal c <;> rfl
  | b :: r, acc, n, c, h => by
    simp only [List.cons_append, decFrom] at h ⊢
    cases hd : digitVal b with
    | none => simp [hd] at h
    | some d => simp only [hd] at h ⊢; exact decFrom_snoc r _ n c h
theorem decFrom_digits (u : Nat) : decFrom 0 (decDigits u) = some u := by
  induction u using Nat.strongRecOn with
  | _ u ih =>
    rw [decDigits]
    split
    · rename_i h; simp only [decFrom]; rw [digitVal_of h]; simp only [Nat.zero_mul, Nat.zero_add]
    · rename_i h
      rw [decFrom_snoc _ _ (u / 10) _ (ih (u / 10) (by omega)), digitVal_of (Nat.mod_lt _ (by omega))]
      simp; omega
theorem digits_all (u : Nat) : ∀ c ∈ decDigits u, 48 ≤ c.toNat ∧ c.toNat ≤ 57 := by
  induction u using Nat.strongRecOn with
  | _ u ih =>
    rw [decDigits]
    split
    · rename_i h; intro c hc; simp at hc; subst hc; simp; omega
    · rename_i h
      intro c hc
      rcases List.mem_append.1 hc with hc | hc
      · exact ih (u / 10) (by omega) c hc
      · simp at hc; subst hc; simp; omega
theorem nd_le : ∀ (k u : Nat), u < 10 ^ (k + 1) → nDigits u ≤ k + 1
  | 0, u, h => by rw [nDigits_small (by simpa using h)]; exact Nat.le_refl _
  | k + 1, u, h => by
    by_cases hu : u < 10
    · rw [nDigits_small hu]; omega
    · rw [nDigits_big hu]
      have := nd_le k (u / 10) (by rw [Nat.pow_succ] at h; omega)
      omega
theorem digits_len {u : Nat} (h : u ≤ 1000000000) : (decDigits u).length ≤ 10 ∧ 1 ≤ (decDigits u).length := by
  rw [decDigits_length]
  exact ⟨nd_le 9 u (by omega), nDigits_pos u⟩
/-- s is the numeral of the number m, which is in the range. -/
def Is (s : ByteArray) (m : Nat) : Prop := m ≤ 1000000000 ∧ num (m : Int) = s
theorem Is.list {s : ByteArray} {m : Nat} (h : Is s m) : s.data.toList = decDigits m := by rw [← h.2, num_list]
theorem size_list (s : ByteArray) : s.size = s.data.toList.length := Array.length_toList.symm
theorem Is.size {s : ByteArray} {m : Nat} (h : Is s m) : s.size ≤ 10 ∧ 1 ≤ s.size := by
  rw [size_list, h.list]; exact digits_len h.1
theorem Is.val {s : ByteArray} {m : Nat} (h : Is s m) : decFrom 0 s.data.toList = some m := by rw [h.list]; exact decFrom_digits m
theorem Is.dig {s : ByteArray} {m : Nat} (h : Is s m) (c : UInt8) (hc : c ∈ s.data.toList) : 48 ≤ c.toNat ∧ c.toNat ≤ 57 := by
  rw [h.list] at hc; exact digits_all m c hc
theorem Is.atoi {s : ByteArray} {m : Nat} (h : Is s m) : atoiAll s.data.toList = .ok (m : Int) := by
  have hs := h.size
  rw [size_list] at hs
  rw [atoiAll_short _ (by omega)]
  have hv := h.val
  have hd := h.dig
  generalize s.data.toList = l at *
  cases l with
  | nil => simp at hs
  | cons c r =>
    have := hd c (by simp)
    have e1 : (c == 45) = false := by
      rw [beq_eq_false_iff_ne]; intro e; subst e; revert this; decide
    have e2 : (c == 43) = false := by
      rw [beq_eq_false_iff_ne]; intro e; subst e; revert this; decide
    simp only [Lib.atoi, e1, e2, decNat]
    simp [hv, NumEnd.ofOption]
theorem decFrom_step {s : ByteArray} {k n : Nat} (h : decFrom 0 (s.data.toList.take k) = some n) (hk : k < s.size) :
    decFrom 0 (s.data.toList.take (k + 1)) = (digitVal s[k]).map fun d => n * 10 + d := by
  have : s.data.toList.take (k + 1) = s.data.toList.take k ++ [s[k]] := by
    rw [List.take_succ_eq_append_getElem (by simpa using hk)]; rfl
  rw [this, decFrom_snoc _ _ n _ h]
theorem list_ext {a b : ByteArray} (h : a.data.toList = b.data.toList) : a = b := by
  cases a; cases b; simp at h; rw [h]
theorem beq_yes {a b : ByteArray} (h : a = b) : (a.toList == b.toList) = true := by rw [h]; exact beq_self_eq_true _
theorem beq_no {a b : ByteArray} (h : a ≠ b) : (a.toList == b.toList) = false := by
  rw [beq_eq_false_iff_ne, ByteArray.toList_eq, ByteArray.toList_eq]
  exact fun e => h (list_ext e)
theorem num_inj {m : Nat} {n : Int} (h : num (m : Int) = num n) : n = m := by
  by_cases hn : n < 0
  · have h1 : decDigits m = (num n).data.toList := by rw [← num_list, h]
    have h2 : (num n).data.toList = 45 :: decDigits n.natAbs := by unfold num Lib.itoa; rw [if_pos hn]
    exact absurd (digits_all m 45 (by rw [h1, h2]; simp)) (by decide)
  · obtain ⟨k, rfl⟩ := Int.eq_ofNat_of_zero_le (show 0 ≤ n by omega)
    have h1 : decDigits m = decDigits k := by rw [← num_list, ← num_list, h]
    have h2 := decFrom_digits m
    rw [h1, decFrom_digits k] at h2
    rw [Option.some.inj h2]
theorem num_ne (n : Int) : (num n).toList.isEmpty = false := by
  rw [ByteArray.toList_eq]
  unfold num Lib.itoa
  split
  · rfl
  · cases h : decDigits n.toNat with
    | nil =>
      have h1 := decDigits_length n.toNat
      have h2 := nDigits_pos n.toNat
      rw [h] at h1
      simp at h1
      omega
    | cons => rfl
end Go.Proofs.YtiglbofbacecpaaDoor.numl
