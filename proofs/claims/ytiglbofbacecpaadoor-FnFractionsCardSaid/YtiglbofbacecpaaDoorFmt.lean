/- The contracts of both number writers: the decimal numeral. -/
import Derived.Test.YtiglbofbacecpaaDoorRows
import Derived.WalkKit
import Derived.WalkSmall
import Derived.Sort.Grow
import Derived.Outline
import Derived.Lib.Hide
import Derived.Lib.ItoaLen
import Derived.Test.YtiglbofbacecpaaDoorShelf
import Derived.Test.YtiglbofbacecpaaDoorKit
import Derived.Test.YtiglbofbacecpaaDoorNumL
namespace Go.Proofs.YtiglbofbacecpaaDoor.fmt
open Go.RowKit Go.Proofs.YtiglbofbacecpaaDoor.kit Go.Sort Go.Proofs.YtiglbofbacecpaaDoor.numl
theorem grown_grow (w : World) (os : Array Obj) : w.grownBy (grow w os) none :=
  ⟨rfl, rfl, rfl, by simp [grow], fun k hk _ => by simp [grow, Array.getElem?_append, hk]⟩
/-- The table of powers, as the library's text reads it. -/
def Tab (w : World) : Prop := Lib.TabIs Tryd.prog w "internal/strconv.uint64pow10" .u64 Lib.pow10Tab
theorem gPow : Tryd.prog.globalNamed "internal/strconv.uint64pow10" = some 0 := by kernel_rfl
theorem Tab.lt {w : World} (h : Tab w) : 0 < w.heap.size := by
  unfold Tab Lib.TabIs World.var? at h
  simp only [gPow, Option.bind_some] at h
  split at h
  · rename_i hh; exact (Array.getElem?_eq_some_iff.1 hh).1
  · cases h
theorem Tab.below {w w' : World} {B : Nat} (h : Tab w) (hb : Below B w w') (hB : 0 < B) : Tab w' := var?_below hb gPow hB h
theorem Tab.keep {w w' : World} (h : Tab w) (hb : Below w.heap.size w w') : Tab w' := h.below hb h.lt


theorem impl_fmt (n : Int) (h0 : -9223372036854775808 ≤ n) (h1 : n ≤ 9223372036854775807) (w : World) (ht : Tab w) :
    Calls Tryd.prog 27 #[.int .i64 n] w fun e w' => e = .returned (.string (num n)) ∧ w.grownBy w' none := by
  go_enter Tryd.func27, Tryd.ntmps27
  go_wp2_with fail
  refine (Tryd.strconv_Itoa n h0 h1 _ ht).mono ?_; rintro e w1 ⟨rfl, k, os, rfl⟩
  go_wp2
  go_ret
  exact ⟨rfl, grown_trans (grown_drewN (grown_refl _ _) k) (grown_grow _ os)⟩
def dD (j : Nat) : List UInt8 := if j = 0 then [] else Lib.decDigits j
theorem dD_step {j : Nat} (h : 0 < j) : dD j = dD (j / 10) ++ [UInt8.ofNat (48 + j % 10)] := by
  unfold dD
  rw [if_neg (by omega)]
  by_cases h10 : j < 10
  · rw [if_pos (by omega), Lib.decDigits, dif_pos h10, Nat.mod_eq_of_lt h10]; rfl
  · rw [if_neg (by omega)]
    conv => lhs; rw [Lib.decDigits]
    rw [dif_neg h10]
theorem add_list (a b : ByteArray) : (a ++ b).data.toList = a.data.toList ++ b.data.toList := by simp [ByteArray.data_append]
theorem fig10 (x D : Int) (w : World) (h0 : 0 ≤ x) (h1 : x < 10) (hD : 48 + x = D) :
    Calls Tryd.prog 36 #[.int .i64 x] w fun e w' => e = .returned (.int .u8 D) ∧ w = w' := by
  subst hD
  go_enter Tryd.func36, Tryd.ntmps36
  go_wp2
  go_ret
  exact ⟨rfl, rfl⟩
set_option maxRecDepth 100000 in
set_option maxHeartbeats 800000 in
theorem spec_fmt (n : Int) (h0 : -9223372036854775808 ≤ n) (h1 : n ≤ 9223372036854775807) (w : World) :
    Calls Tryd.prog 29 #[.int .i64 n] w fun e w' => e = .returned (.string (num n)) ∧ w.grownBy w' none := by
  by_cases hz : n = 0
  · subst hz
    go_enter Tryd.func29, Tryd.ntmps29
    go_wp2
    go_ret
    exact ⟨congrArg (fun b => Ending.returned (Value.string b)) (show (⟨#[48]⟩ : ByteArray) = num 0 by decide +kernel), grown_refl _ _⟩
  · by_cases hp : 0 < n
    · obtain ⟨k, rfl⟩ := Int.eq_ofNat_of_zero_le (show 0 ≤ n by omega)
      have hk : 0 < k := by omega
      have hd : decide ((k : Int) < 0) = false := decide_eq_false (by omega)
      have he : ((k : Int) == 0) = false := beq_eq_false_iff_ne.2 (by omega)
      go_enter Tryd.func29, Tryd.ntmps29
      go_wp2
      go_loopw [0, 4] (fun m t wr => ∃ (j : Nat) (acc : ByteArray), j ≤ k ∧ 2 * acc.size + j ≤ k + 2 ∧ (0 < j → 2 * acc.size + j ≤ k + 1) ∧ m = .int .i64 (j : Int) ∧ t = .string acc ∧ Hid (dD j ++ acc.data.toList = Lib.decDigits k) ∧ w.grownBy wr none)
        (fun m _ _ => (intOf m).natAbs)
      case atStart => exact ⟨k, ⟨#[]⟩, Nat.le_refl _, by simp [ByteArray.size], by simp [ByteArray.size], rfl, rfl, by show _ = _; unfold dD; rw [if_neg (by omega)]; simp, grown_refl _ _⟩
      case round =>
        obtain ⟨j, acc, hjk, hsz, hsz2, rfl, rfl, hm, hg⟩ := hrel
        by_cases hj : 0 < j
        · have hsz3 := hsz2 hj
          clear hsz2
          have e1 : (j : Int).tmod 10 = ((j : Int) % 10) := Int.tmod_eq_emod_of_nonneg (by omega)
          have e2 : (j : Int).tdiv 10 = ((j : Int) / 10) := Int.tdiv_eq_ediv_of_nonneg (by omega)
          have b1 : 0 ≤ (j : Int) % 10 ∧ (j : Int) % 10 < 10 := by omega
          obtain ⟨D, hD⟩ : ∃ D : Int, Hid (48 + (j : Int) % 10 = D) := ⟨_, rfl⟩
          have hs1 : (strOfNums [D]).size = 1 := strOfNums_size _
          have hadd : ∀ W : World, (Op.stringOp .add (strOfNums [D]) acc).run Tryd.prog W = .ok (.string (strOfNums [D] ++ acc)) W := fun W => run_string_add_sum _ _ _ (by omega)
          have hcv : (convert 22 9 (.slice (some ⟨wr.heap.size, 0, none⟩) 1 1)).run Tryd.prog (wr.alloc (.cells #[.int .u8 D] 5)) = .ok (.string (strOfNums [D])) (wr.alloc (.cells #[.int .u8 D] 5)) :=
            run_convert_bytes_arg _ _ _ Tryd.underlying22 Tryd.underlying5 wr.heap.size 0 1 1 [D] rfl (fun i hi => by
              obtain rfl : i = 0 := by omega
              rw [cell_of_row _ _ _ _ _ _ (heap_alloc_new wr _)]; rfl) _ Tryd.underlying9
          have hm1 : Hid (dD (j / 10) ++ (strOfNums [D] ++ acc).data.toList = Lib.decDigits k) := by
            show _ = _
            rw [← hm.out, dD_step hj, add_list, strOfNums_data, List.append_assoc, ← hD.out]
            congr 2

          go_wp2_with fail
          refine (fig10 _ D _ (by omega) (by omega) (by have := hD.out; omega)).mono ?_; rintro e w1 ⟨rfl, rfl⟩
          go_wp2
          go_roundw
          case rel => exact ⟨j / 10, _, by omega, by simp [ByteArray.size_append, hs1]; omega, by simp [ByteArray.size_append, hs1]; omega, by go_num, rfl, hm1, grown_alloc hg _⟩
          case measure => simp [intOf]; omega
        · have hj0 : j = 0 := by omega
          subst hj0
          have hfin : Hid (num (k : Int) = acc) := by
            show _ = _
            have h2 : acc.data.toList = Lib.decDigits k := by simpa [dD] using hm.out
            have h3 : acc = ⟨(Lib.decDigits k).toArray⟩ := by rw [← h2]
            rw [h3]
            unfold num Lib.itoa
            rw [if_neg (by omega), Int.toNat_natCast]

          go_wp2
          go_ret
          exact ⟨by rw [hfin.out]; rfl, hg⟩
    · obtain ⟨k, rfl⟩ : ∃ k : Nat, n = -(k : Int) := ⟨n.natAbs, by omega⟩
      have hk : 0 < k := by omega
      have hd : decide ((-(k : Int)) < 0) = true := decide_eq_true (by omega)
      have he : ((-(k : Int)) == 0) = false := beq_eq_false_iff_ne.2 (by omega)
      go_enter Tryd.func29, Tryd.ntmps29
      go_wp2
      go_loopw [0, 4] (fun m t wr => ∃ (j : Nat) (acc : ByteArray), j ≤ k ∧ 2 * acc.size + j ≤ k + 2 ∧ (0 < j → 2 * acc.size + j ≤ k + 1) ∧ m = .int .i64 (-(j : Int)) ∧ t = .string acc ∧ Hid (dD j ++ acc.data.toList = Lib.decDigits k) ∧ w.grownBy wr none)
        (fun m _ _ => (intOf m).natAbs)
      case atStart => exact ⟨k, ⟨#[]⟩, Nat.le_refl _, by simp [ByteArray.size], by simp [ByteArray.size], rfl, rfl, by show _ = _; unfold dD; rw [if_neg (by omega)]; simp, grown_refl _ _⟩
      case round =>
        obtain ⟨j, acc, hjk, hsz, hsz2, rfl, rfl, hm, hg⟩ := hrel
        by_cases hj : 0 < j
        · have hsz3 := hsz2 hj
          clear hsz2
          have e1 : (-(j : Int)).tmod 10 = (-((j : Int) % 10)) := by rw [Int.neg_tmod, Int.tmod_eq_emod_of_nonneg (by omega)]
          have e2 : (-(j : Int)).tdiv 10 = (-((j : Int) / 10)) := by rw [Int.neg_tdiv, Int.tdiv_eq_ediv_of_nonneg (by omega)]
          have b1 : 0 ≤ (j : Int) % 10 ∧ (j : Int) % 10 < 10 := by omega
          obtain ⟨D, hD⟩ : ∃ D : Int, Hid (48 + (j : Int) % 10 = D) := ⟨_, rfl⟩
          have hs1 : (strOfNums [D]).size = 1 := strOfNums_size _
          have hadd : ∀ W : World, (Op.stringOp .add (strOfNums [D]) acc).run Tryd.prog W = .ok (.string (strOfNums [D] ++ acc)) W := fun W => run_string_add_sum _ _ _ (by omega)
          have hcv : (convert 22 9 (.slice (some ⟨wr.heap.size, 0, none⟩) 1 1)).run Tryd.prog (wr.alloc (.cells #[.int .u8 D] 5)) = .ok (.string (strOfNums [D])) (wr.alloc (.cells #[.int .u8 D] 5)) :=
            run_convert_bytes_arg _ _ _ Tryd.underlying22 Tryd.underlying5 wr.heap.size 0 1 1 [D] rfl (fun i hi => by
              obtain rfl : i = 0 := by omega
              rw [cell_of_row _ _ _ _ _ _ (heap_alloc_new wr _)]; rfl) _ Tryd.underlying9
          have hm1 : Hid (dD (j / 10) ++ (strOfNums [D] ++ acc).data.toList = Lib.decDigits k) := by
            show _ = _
            rw [← hm.out, dD_step hj, add_list, strOfNums_data, List.append_assoc, ← hD.out]
            congr 2
          by_cases hmz : 0 < (j : Int) % 10
          all_goals
            go_wp2_with fail
            refine (fig10 _ D _ (by omega) (by omega) (by have := hD.out; omega)).mono ?_; rintro e w1 ⟨rfl, rfl⟩
            go_wp2
            go_roundw
            case rel => exact ⟨j / 10, _, by omega, by simp [ByteArray.size_append, hs1]; omega, by simp [ByteArray.size_append, hs1]; omega, by go_num, rfl, hm1, grown_alloc hg _⟩
            case measure => simp [intOf]; omega
        · have hj0 : j = 0 := by omega
          subst hj0
          have hfin : Hid (num (-(k : Int)) = (⟨#[45]⟩ : ByteArray) ++ acc) := by
            show _ = _
            have h2 : acc.data.toList = Lib.decDigits k := by simpa [dD] using hm.out
            have h3 : acc = ⟨(Lib.decDigits k).toArray⟩ := by rw [← h2]
            rw [h3]
            unfold num Lib.itoa
            rw [if_pos (by omega), Int.natAbs_neg, Int.natAbs_natCast]; apply ByteArray.ext; simp [ByteArray.data_append]
          have hadd : ∀ W : World, (Op.stringOp .add ⟨#[45]⟩ acc).run Tryd.prog W = .ok (.string (⟨#[45]⟩ ++ acc)) W := fun W => run_string_add_sum _ _ _ (by have : (⟨#[45]⟩ : ByteArray).size = 1 := rfl; omega)
          go_wp2
          go_ret
          exact ⟨by rw [hfin.out]; rfl, hg⟩
end Go.Proofs.YtiglbofbacecpaaDoor.fmt
