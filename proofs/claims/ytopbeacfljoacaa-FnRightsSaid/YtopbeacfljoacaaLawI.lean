/- The laws' own helpers on rows of ints: copied, found equal, marked, found again. -/
import Derived.Test.YtopbeacfljoacaaRows
import Derived.WalkKit
import Derived.Outline
import Derived.Lib.Hide
import Derived.OwnWalk
import Derived.Deep.AppendLies
import Derived.Laws.OwnMore
import Derived.Test.YtopbeacfljoacaaKit
namespace Go.Proofs.Ytopbeacfljoacaa.lawi
open Go.RowKit Go.Proofs.Ytopbeacfljoacaa.kit
theorem infoI : (Try.prog.info? 3).map (fun i => (i.zero, i.size, i.bytes)) = some (some (.int .i64 0), 1, 8) := by kernel_rfl
/-- A new row that the call owns, with these numbers. -/
def Made (w : World) (n : Nat) (zs : List Int) (e : Ending) (w' : World) : Prop :=
  ∃ v, e = .returned v ∧ w'.ownsRow w.heap.size 3 1 v n (zs.map (Value.int .i64)) ∧ w.grownBy w' none
def mid (zs : List Int) (n k : Nat) : List Int := zs.take k ++ List.replicate (n - k) 0
theorem mid_len {zs : List Int} {n k : Nat} (hz : zs.length = n) (hk : k ≤ n) : (mid zs n k).length = n := by simp [mid]; omega
theorem mid_set {zs : List Int} {n k : Nat} (hz : zs.length = n) (hk : k < n) : ((mid zs n k).map (Value.int .i64)).set k (.int .i64 (zs.getD k 0)) = (mid zs n (k + 1)).map (Value.int .i64) := by
  rw [← List.map_set]
  congr 1
  unfold mid
  rw [List.set_append, if_neg (by simp; omega), show (zs.take k).length = k by simp; omega, Nat.sub_self, show n - k = (n - (k + 1)) + 1 by omega, List.replicate_succ, List.set_cons_zero,
    List.take_succ_eq_append_getElem (by omega), List.append_assoc, List.getD_eq_getElem?_getD, List.getElem?_eq_getElem (by omega)]
  simp
theorem mid_all {zs : List Int} {n : Nat} (hz : zs.length = n) : mid zs n n = zs := by simp [mid, ← hz]
/-- What a test that only reads leaves: its value, and the world but for draws. -/
def Reads (w : World) (v : Value) (e : Ending) (w' : World) : Prop := e = .returned v ∧ ∃ q, w' = w.drewN q
theorem eqI_yes (w : World) (va vb : Value) (n : Nat) (zs : List Int) (hn : n ≤ 4611686018427387904) (ha : Row 1 w va n (zs.map (Value.int .i64))) (hb : Row 1 w vb n (zs.map (Value.int .i64))) :
    Calls Try.prog 25 #[va, vb] w (Reads w (.bool true)) := by
  obtain ⟨hl, a, ca, rfl, ha⟩ := ha
  obtain ⟨_, b, cb, rfl, hb⟩ := hb
  have hl : zs.length = n := by simpa using hl
  go_enter Try.func25, Try.ntmps25
  go_wp2
  go_loopw [5] (fun i wr => ∃ k : Nat, k ≤ n ∧ i = .int .i64 k ∧ ∃ q, wr = w.drewN q) (fun i _ => n - (intOf i).toNat)
  case atStart => exact ⟨0, Nat.zero_le _, rfl, 0, rfl⟩
  case round =>
    obtain ⟨k, hk, rfl, q, rfl⟩ := hrel
    by_cases hlt : k < n
    · obtain ⟨b1, o1, rfl, h1⟩ := ha.resolve_left (by omega)
      obtain ⟨b2, o2, rfl, h2⟩ := hb.resolve_left (by omega)
      have g1 := h1 k _ (getI (by omega))
      have g2 := h2 k _ (getI (by omega))
      clear h1 h2 ha hb
      go_wp2
      go_quiet (fail)
      go_wp2
      go_roundw
      case rel => exact ⟨k + 1, by omega, by go_num, _, rfl⟩
      case measure => simp [intOf]; omega
    · go_wp2
      go_ret
      exact ⟨rfl, q, rfl⟩
def marks (k n : Nat) : List Value := (List.range n).map fun i => .int .i64 ((k + i : Nat) : Int)
theorem marks_len (k n : Nat) : (marks k n).length = n := by simp [marks]
theorem marks_at (k n j : Nat) (h : j < n) : (marks k n)[j]? = some (.int .i64 ((k + j : Nat) : Int)) := by simp [marks, h]
theorem marks_set (k i : Nat) (xs : List Value) (h : i < xs.length) : (marks k i ++ xs.drop i).set i (.int .i64 ((k + i : Nat) : Int)) = marks k (i + 1) ++ xs.drop (i + 1) := by
  rw [List.set_append, if_neg (by rw [marks_len]; omega), marks_len, Nat.sub_self, List.drop_eq_getElem_cons h, List.set_cons_zero]
  simp [marks, List.range_succ]
theorem markI_any (w : World) (base : Nat) (v : Value) (n : Nat) (xs : List Value) (k : Nat) (K : Int) (hK : K = k) (hk : k + n ≤ 4611686018427387904) (hown : w.ownsRow base 3 1 v n xs) :
    Calls Try.prog 27 #[v, .int .i64 K] w fun e w' => e = .returned (.int .i64 (K + n)) ∧ w'.ownsRow base 3 1 v n (marks k n) ∧ w.grownBy w' v.ownBlock := by
  subst hK
  have hlen : xs.length = n := by simpa using hown.1
  obtain ⟨a, cp, rfl⟩ := own_shape hown
  go_enter Try.func27, Try.ntmps27
  go_wp2
  go_loopw [1, 5] (fun t i wr => ∃ j : Nat, j ≤ n ∧ i = .int .i64 j ∧ t = .int .i64 ((k + j : Nat) : Int) ∧ wr.ownsRow base 3 1 (.slice a n cp) n (marks k j ++ xs.drop j) ∧ w.grownBy wr (Value.slice a n cp).ownBlock)
    (fun _ i _ => n - (intOf i).toNat)
  case atStart => exact ⟨0, Nat.zero_le _, rfl, rfl, by simpa [marks] using hown, grown_refl _ _⟩
  case round =>
    clear hown
    obtain ⟨j, hj, rfl, rfl, hown, hg⟩ := hrel
    by_cases hlt : j < n
    · obtain ⟨g, cap, e, hg1, hg2⟩ := own_some hown (by omega)
      cases e
      obtain ⟨u, hu⟩ : ∃ u, (marks k j ++ xs.drop j)[j]? = some u := ⟨_, List.getElem?_eq_getElem (by simp [marks_len]; omega)⟩
      have hc := own_cell hown (g := g) rfl j u hu
      have hf := own_free hown (g := g) rfl j
      have hown2 := own_set hown (g := g) rfl j (.int .i64 ((k + j : Nat) : Int))
      rw [marks_set k j xs (by omega)] at hown2
      have hg3 := grown_setCell hg j none (.int .i64 ((k + j : Nat) : Int))
      clear hown hg hu
      go_wp2
      go_roundw
      case rel => exact ⟨j + 1, by omega, by go_num, by go_num, hown2, hg3⟩
      case measure => simp [intOf]; omega
    · obtain rfl : j = n := by omega
      go_wp2
      go_ret
      refine ⟨rfl, ?_, hg⟩
      rw [List.drop_of_length_le (by omega), List.append_nil] at hown
      exact hown
theorem heldI_yes (w : World) (v : Value) (n k : Nat) (K : Int) (hK : K = k) (hk : k + n ≤ 4611686018427387904) (h : Row 1 w v n (marks k n)) :
    Calls Try.prog 28 #[v, .int .i64 K] w fun e w' => e = .returned (.int .i64 (K + n)) ∧ w = w' := by
  subst hK
  obtain ⟨_, a, ca, rfl, ha⟩ := h
  go_enter Try.func28, Try.ntmps28
  go_wp2
  go_loop [1, 5] (fun t i => ∃ j : Nat, j ≤ n ∧ i = .int .i64 j ∧ t = .int .i64 ((k + j : Nat) : Int))
    (fun _ i => n - (intOf i).toNat)
  case atStart => exact ⟨0, Nat.zero_le _, rfl, rfl⟩
  case round =>
    obtain ⟨j, hj, rfl, rfl⟩ := hrel
    by_cases hlt : j < n
    · obtain ⟨b1, o1, rfl, h1⟩ := ha.resolve_left (by omega)
      have g1 := h1 j _ (marks_at k n j hlt)
      clear h1 ha
      go_wp2
      go_round
      case rel => exact ⟨j + 1, by omega, by go_num, by go_num⟩
      case measure => simp [intOf]; omega
    · obtain rfl : j = n := by omega
      go_wp2
      go_ret
      exact ⟨rfl, rfl⟩
/-- 'append(out, z)' onto a row of ints that the call owns: the new element lies in the block that was made last. -/
theorem app1 (wr : World) {T : TypeId} {ops : Array Oper} {rest : List Oper} {o : Oper} {a : Act} {Q : Exit → Act → World → Prop} (hgd : o.guard = none) (s x : Operand)
    (ho : o.op = .call { callee := .builtin .append, args := #[s, x], argTypes := #[27, 27] })
    (base : Nat) {v : Value} {n : Nat} {zs : List Int} (z : Int) (hown : wr.ownsRow base 3 1 v n (zs.map (Value.int .i64))) (hs : a.eval s = v)
    (hx : a.eval x = .slice (some ⟨wr.heap.size, 0, none⟩) 1 1) (hn : n ≤ 1000000000000) (hb : base ≤ wr.heap.size)
    (h : ∀ v' w1, w1.ownsRow base 3 1 v' (n + 1) ((zs ++ [z]).map (Value.int .i64)) → wr.grownBy w1 v.ownBlock → wpList Try.prog ops Q rest (a.put o.dst v') w1) :
    wpList Try.prog ops Q (o :: rest) a (wr.alloc (.cells #[.int .i64 z] T)) := by
  obtain ⟨i0, hi, hz0, hz1, hz2⟩ := info_parts infoI
  refine wpList_append_own _ hgd s x 27 ho base 3 i0 (.int .i64 0) 1 8 Try.underlying27 hi hz0 hz1 hz2 rfl (by decide) v n (zs.map (Value.int .i64)) hs (hown.alloc _) ⟨wr.heap.size, 0, none⟩ 1 1 [.int .i64 z] hx rfl
    (World.news_of_block (heap_alloc_new wr _)) (by simp [Value.oneCell']) (by unfold maxLen; omega) (by omega) (by simp; omega) ?_
  intro v' w1 hown1 hg _
  exact h v' w1 (by simpa using hown1) (grown_trans (World.grownBy_alloc wr _ _) hg)
/-- l01In: is the number from a to b? -/
theorem in_any (x a b : Int) (w : World) :
    Calls Try.prog 41 #[.int .i64 x, .int .i64 a, .int .i64 b] w fun e w' => e = .returned (.bool (decide (a ≤ x ∧ x ≤ b))) ∧ w = w' := by
  by_cases h1 : a ≤ x
  · by_cases h2 : x ≤ b
    all_goals
      go_enter Try.func41, Try.ntmps41
      go_wp2
      go_ret
      exact ⟨by simp [h1, h2], rfl⟩
  · go_enter Try.func41, Try.ntmps41
    go_wp2
    go_ret
    exact ⟨by simp; omega, rfl⟩
/-- l01In and inRange, the answer known. -/
theorem in_yes (x a b : Int) (w : World) (h1 : a ≤ x) (h2 : x ≤ b) :
    Calls Try.prog 41 #[.int .i64 x, .int .i64 a, .int .i64 b] w fun e w' => e = .returned (.bool true) ∧ w = w' := by
  refine (in_any x a b w).mono fun e w' ⟨he, hw⟩ => ⟨?_, hw⟩
  rw [he, decide_eq_true ⟨h1, h2⟩]
theorem in_no (x a b : Int) (w : World) (h : ¬ (a ≤ x ∧ x ≤ b)) :
    Calls Try.prog 41 #[.int .i64 x, .int .i64 a, .int .i64 b] w fun e w' => e = .returned (.bool false) ∧ w = w' := by
  refine (in_any x a b w).mono fun e w' ⟨he, hw⟩ => ⟨?_, hw⟩
  rw [he, decide_eq_false h]
theorem inR_any (x a b : Int) (w : World) :
    Calls Try.prog 35 #[.int .i64 x, .int .i64 a, .int .i64 b] w fun e w' => e = .returned (.bool (decide (a ≤ x ∧ x ≤ b))) ∧ w = w' := by
  by_cases h1 : a ≤ x
  · by_cases h2 : x ≤ b
    all_goals
      go_enter Try.func35, Try.ntmps35
      go_wp2
      go_ret
      exact ⟨by simp [h1, h2], rfl⟩
  · go_enter Try.func35, Try.ntmps35
    go_wp2
    go_ret
    exact ⟨by simp; omega, rfl⟩
theorem inR_yes (x a b : Int) (w : World) (h1 : a ≤ x) (h2 : x ≤ b) :
    Calls Try.prog 35 #[.int .i64 x, .int .i64 a, .int .i64 b] w fun e w' => e = .returned (.bool true) ∧ w = w' := by
  refine (inR_any x a b w).mono fun e w' ⟨he, hw⟩ => ⟨?_, hw⟩
  rw [he, decide_eq_true ⟨h1, h2⟩]
theorem inR_no (x a b : Int) (w : World) (h : ¬ (a ≤ x ∧ x ≤ b)) :
    Calls Try.prog 35 #[.int .i64 x, .int .i64 a, .int .i64 b] w fun e w' => e = .returned (.bool false) ∧ w = w' := by
  refine (inR_any x a b w).mono fun e w' ⟨he, hw⟩ => ⟨?_, hw⟩
  rw [he, decide_eq_false h]
end Go.Proofs.Ytopbeacfljoacaa.lawi
