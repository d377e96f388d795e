/- The laws' own helpers on rows of strings: equal rows are found equal, marks are written and found again. -/
import Derived.Test.YtibenbkkokcpbaaRows
import Derived.WalkKit
import Derived.Outline
import Derived.Lib.Hide
import Derived.Deep.RegionHeld3
import Derived.Test.YtibenbkkokcpbaaKit
namespace Go.Proofs.Ytibenbkkokcpbaa.laws
open Go.RowKit Go.Proofs.Ytibenbkkokcpbaa.kit
def mkD (j : Nat) (acc : ByteArray) : ByteArray := if _h : j = 0 then acc else mkD (j / 10) (strOfNums [(48 + j % 10 : Int)] ++ acc)
termination_by j
decreasing_by omega
theorem mkD_step {j : Nat} (h : 0 < j) (acc : ByteArray) : mkD (j / 10) (strOfNums [48 + (j : Int) % 10] ++ acc) = mkD j acc := by
  conv => rhs; rw [mkD]
  rw [dif_neg (by omega)]
theorem mkD_zero (acc : ByteArray) : mkD 0 acc = acc := by rw [mkD]; simp
/-- The mark of a number. -/
def mk (k : Nat) : ByteArray := if k = 0 then ⟨#[109, 48]⟩ else ⟨#[109]⟩ ++ mkD k ⟨#[]⟩
set_option maxRecDepth 100000 in
set_option maxHeartbeats 400000 in
theorem markText_any (k : Nat) (w : World) (hk : k ≤ 4611686018427387904) :
    Calls Try.prog 30 #[.int .i64 k] w fun e w' => e = .returned (.string (mk k)) ∧ w.grownBy w' none := by
  by_cases h0 : k = 0
  · subst h0
    go_enter Try.func30, Try.ntmps30
    go_wp2
    go_ret
    exact ⟨rfl, grown_refl _ _⟩
  · have h1 : 0 < k := by omega
    go_enter Try.func30, Try.ntmps30
    go_wp2
    go_loopw [0, 3] (fun n t wr => ∃ (j : Nat) (acc : ByteArray), j ≤ k ∧ acc.size + j ≤ k ∧ n = .int .i64 j ∧ t = .string acc ∧ Hid (mkD j acc = mkD k ⟨#[]⟩) ∧ w.grownBy wr none)
      (fun n _ _ => (intOf n).toNat)
    case atStart => exact ⟨k, ⟨#[]⟩, Nat.le_refl _, by simp [ByteArray.size], rfl, rfl, rfl, grown_refl _ _⟩
    case round =>
      obtain ⟨j, acc, hjk, hsz, rfl, rfl, hm, hg⟩ := hrel
      by_cases hj : 0 < j
      · have hcv : (convert 22 9 (.slice (some ⟨wr.heap.size, 0, none⟩) 1 1)).run Try.prog (wr.alloc (.cells #[.int .u8 (48 + (j : Int) % 10)] 5)) = .ok (.string (strOfNums [48 + (j : Int) % 10])) (wr.alloc (.cells #[.int .u8 (48 + (j : Int) % 10)] 5)) :=
          run_convert_bytes_arg _ _ _ Try.underlying22 Try.underlying5 wr.heap.size 0 1 1 [48 + (j : Int) % 10] rfl (fun i hi => by
            obtain rfl : i = 0 := by omega
            rw [cell_of_row _ _ _ _ _ _ (heap_alloc_new wr _)]; rfl) _ Try.underlying9
        have hs1 : (strOfNums [48 + (j : Int) % 10]).size = 1 := strOfNums_size _
        have hadd : ∀ W : World, (Op.stringOp .add (strOfNums [48 + (j : Int) % 10]) acc).run Try.prog W = .ok (.string (strOfNums [48 + (j : Int) % 10] ++ acc)) W := fun W => run_string_add_sum _ _ _ (by omega)
        have hm1 : Hid (mkD (j / 10) (strOfNums [48 + (j : Int) % 10] ++ acc) = mkD k ⟨#[]⟩) := (mkD_step hj acc).trans hm.out
        go_wp2
        go_roundw
        case rel => exact ⟨j / 10, _, by omega, by simp [ByteArray.size_append, hs1]; omega, by go_num, rfl, hm1, grown_alloc hg _⟩
        case measure => simp [intOf]; omega
      · have hj0 : j = 0 := by omega
        subst hj0
        have hadd : ∀ W : World, (Op.stringOp .add ⟨#[109]⟩ acc).run Try.prog W = .ok (.string (⟨#[109]⟩ ++ acc)) W := fun W => run_string_add_sum _ _ _ (by have : (⟨#[109]⟩ : ByteArray).size = 1 := rfl; omega)
        have hmk : Hid (mk k = ⟨#[109]⟩ ++ acc) := by
          show mk k = _
          unfold mk
          rw [if_neg h0, ← hm.out, mkD_zero]
        go_wp2
        go_ret
        exact ⟨by rw [hmk.out]; rfl, hg⟩
/-- What a test that only reads leaves: its bool, and the world but for draws. -/
def Reads (w : World) (v : Value) (e : Ending) (w' : World) : Prop := e = .returned v ∧ ∃ q, w' = w.drewN q
/-- Two rows that read the same are found equal. -/
theorem eqS_yes (w : World) (va vb : Value) (n : Nat) (xs : List ByteArray) (hn : n ≤ 4611686018427387904) (ha : Row 1 w va n (xs.map Value.string)) (hb : Row 1 w vb n (xs.map Value.string)) :
    Calls Try.prog 17 #[va, vb] w (Reads w (.bool true)) := by
  obtain ⟨hl, a, ca, rfl, ha⟩ := ha
  obtain ⟨_, b, cb, rfl, hb⟩ := hb
  have hl : xs.length = n := by simpa using hl
  go_enter Try.func17, Try.ntmps17
  go_wp2
  go_loopw [5] (fun i wr => ∃ k : Nat, k ≤ n ∧ i = .int .i64 k ∧ ∃ q, wr = w.drewN q) (fun i _ => n - (intOf i).toNat)
  case atStart => exact ⟨0, Nat.zero_le _, rfl, 0, rfl⟩
  case round =>
    obtain ⟨k, hk, rfl, q, rfl⟩ := hrel
    by_cases hlt : k < n
    · obtain ⟨b1, o1, rfl, h1⟩ := ha.resolve_left (by omega)
      obtain ⟨b2, o2, rfl, h2⟩ := hb.resolve_left (by omega)
      obtain ⟨x, hx⟩ : ∃ x, Hid (xs[k]? = some x) := ⟨xs[k], List.getElem?_eq_getElem (by omega)⟩
      have g1 := h1 k (.string x) (by rw [List.getElem?_map, hx.out]; rfl)
      have g2 := h2 k (.string x) (by rw [List.getElem?_map, hx.out]; rfl)
      clear h1 h2 ha hb
      go_wp2
      go_quiet (fail)
      go_wp2
      go_roundw
      case rel => exact ⟨k + 1, by omega, by go_num, _, rfl⟩
      case measure => simp [intOf]; omega
    · go_wp2
      go_ret
      exact ⟨rfl, q, rfl⟩
def marks (k n : Nat) : List Value := (List.range n).map fun i => .string (mk (k + i))
theorem marks_len (k n : Nat) : (marks k n).length = n := by simp [marks]
theorem marks_at (k n j : Nat) (h : j < n) : (marks k n)[j]? = some (.string (mk (k + j))) := by simp [marks, h]
theorem marks_set (k i : Nat) (xs : List Value) (h : i < xs.length) : (marks k i ++ xs.drop i).set i (.string (mk (k + i))) = marks k (i + 1) ++ xs.drop (i + 1) := by
  rw [List.set_append, if_neg (by rw [marks_len]; omega), marks_len, Nat.sub_self, List.drop_eq_getElem_cons h, List.set_cons_zero]
  simp [marks, List.range_succ]
theorem markS_any (w : World) (base : Nat) (v : Value) (n : Nat) (xs : List Value) (k : Nat) (K : Int) (hK : K = k) (hk : k + n ≤ 4611686018427387904) (hown : w.ownsRow base 9 1 v n xs) :
    Calls Try.prog 18 #[v, .int .i64 K] w fun e w' => e = .returned (.int .i64 (K + n)) ∧ w'.ownsRow base 9 1 v n (marks k n) ∧ w.grownBy w' v.ownBlock := by
  subst hK
  have hlen : xs.length = n := by simpa using hown.1
  obtain ⟨a, cp, rfl⟩ := own_shape hown
  go_enter Try.func18, Try.ntmps18
  go_wp2
  go_loopw [1, 5] (fun t i wr => ∃ j : Nat, j ≤ n ∧ i = .int .i64 j ∧ t = .int .i64 ((k + j : Nat) : Int) ∧ wr.ownsRow base 9 1 (.slice a n cp) n (marks k j ++ xs.drop j) ∧ w.grownBy wr (Value.slice a n cp).ownBlock)
    (fun _ i _ => n - (intOf i).toNat)
  case atStart => exact ⟨0, Nat.zero_le _, rfl, rfl, by simpa [marks] using hown, grown_refl _ _⟩
  case round =>
    clear hown
    obtain ⟨j, hj, rfl, rfl, hown, hg⟩ := hrel
    by_cases hlt : j < n
    · obtain ⟨g, cap, e, hg1, hg2⟩ := own_some hown (by omega)
      cases e
      obtain ⟨u, hu⟩ : ∃ u, (marks k j ++ xs.drop j)[j]? = some u := ⟨_, List.getElem?_eq_getElem (by simp [marks_len]; omega)⟩
      go_wp2_with fail
      refine (markText_any (k + j) _ (by omega)).mono ?_; rintro e w1 ⟨rfl, hgm⟩
      have hown1 := hown.kept hgm (.inr (by simp [Value.ownBlock]))
      have hc := own_cell hown1 (g := g) rfl j u hu
      have hf := own_free hown1 (g := g) rfl j
      have hown2 := own_set hown1 (g := g) rfl j (.string (mk (k + j)))
      rw [marks_set k j xs (by omega)] at hown2
      have hg3 := grown_setCell (grown_trans hg (grown_weaken hgm)) j none (.string (mk (k + j)))
      clear hown hown1 hg hgm hu
      go_wp2
      go_roundw
      case rel => exact ⟨j + 1, by omega, by go_num, by go_num, hown2, hg3⟩
      case measure => simp [intOf]; omega
    · obtain rfl : j = n := by omega
      go_wp2
      go_ret
      refine ⟨rfl, ?_, hg⟩
      rw [List.drop_of_length_le (by omega), List.append_nil] at hown
      exact hown
theorem heldS_yes (w : World) (v : Value) (n k : Nat) (K : Int) (hK : K = k) (hk : k + n ≤ 4611686018427387904) (h : Row 1 w v n (marks k n)) :
    Calls Try.prog 19 #[v, .int .i64 K] w fun e w' => e = .returned (.int .i64 (K + n)) ∧ w.grownBy w' none := by
  subst hK
  obtain ⟨_, a, ca, rfl, ha⟩ := h
  go_enter Try.func19, Try.ntmps19
  go_wp2
  go_loopw [1, 5] (fun t i wr => ∃ j : Nat, j ≤ n ∧ i = .int .i64 j ∧ t = .int .i64 ((k + j : Nat) : Int) ∧ w.grownBy wr none)
    (fun _ i _ => n - (intOf i).toNat)
  case atStart => exact ⟨0, Nat.zero_le _, rfl, rfl, grown_refl _ _⟩
  case round =>
    obtain ⟨j, hj, rfl, rfl, hg⟩ := hrel
    by_cases hlt : j < n
    · obtain ⟨b1, o1, rfl, h1⟩ := ha.resolve_left (by omega)
      have g1 := hg.cell (h1 j _ (marks_at k n j hlt)) (by simp)
      clear h1 ha
      go_wp2
      go_region_held3 (fun W => W.cell? ⟨b1, o1 + j, none⟩ = some (.string (mk (k + j))))
        (first | go_keep | exact hgm.cell (by assumption) (by simp))
        (first
          | (go_at_call 30; refine (markText_any (k + j) _ (by omega)).mono ?_; rintro e w1 ⟨rfl, hgm⟩)
          | fail)
      all_goals
        have hg1 : w.grownBy w1 none := grown_trans (grown_drew hg) hgm
        clear hg hgm g1
        go_wp2
        go_roundw
        case rel => exact ⟨j + 1, by omega, by go_num, by go_num, hg1⟩
        case measure => simp [intOf]; omega
    · obtain rfl : j = n := by omega
      go_wp2
      go_ret
      exact ⟨rfl, hg⟩
end Go.Proofs.Ytibenbkkokcpbaa.laws
