/- Maps from ints to any values, more: entries deleted, entries put in a list of operations, how many there are, and the keys, sorted. -/
import Derived.Test.YtopbeacfljoacaaMapV
import Derived.Test.YtopbeacfljoacaaIter
namespace Go.Proofs.Ytopbeacfljoacaa.mapv
open Go.RowKit Go.Maps Go.Proofs.Ytopbeacfljoacaa.kit
section
variable {P : Program} {k e t : TypeId} {w w' : World} {b n : Nat} {f : Int → Option Value} {z : Value}
theorem MapV.drop (h : MapV P k w b n f) (hk : P.underlying k = some (.int .i64)) (ht : P.underlying t = some (.map k e)) {x : Int} (hx : (Lit.int .i64 x).wf = true) (ty : TypeId) :
    ∃ w', (Builtin.delete_ #[t, k] ty #[.map (some b), .int .i64 x]).run P w = .ok (.tuple #[]) w' ∧ MapV P k w' b n (fun y => if y = x then none else f y) ∧ w.grownBy w' (some b) := by
  obtain ⟨D, h, hf⟩ := h
  obtain ⟨w', hrun, ho, hg⟩ := h.drop (int_keyed hk) ht (keyOf_int_mk hk hx) ty
  refine ⟨w', hrun, ⟨_, ho, fun y hy => ?_⟩, hg.grown⟩
  by_cases e1 : y = x
  · subst e1
    exact ⟨fun z => by rw [atKey_del_same]; simp, by rw [has_del_same]; simp⟩
  · refine ⟨fun z => ?_, ?_⟩
    · rw [atKey_del_other (by simpa using e1), (hf y hy).1]
      simp [e1]
    · rw [has_del_other (by simpa using e1), (hf y hy).2]
      simp [e1]
/-- The keys, in ascending order. -/
theorem MapV.keys (h : MapV P k w b n f) (hk : P.underlying k = some (.int .i64)) {ks : List Int} (hp : ks.Pairwise (· < ·)) (hm : ∀ x, x ∈ ks ↔ (Lit.int .i64 x).wf = true ∧ (f x).isSome = true) :
    ∃ D : DataW Value, w.ownsMap P k same_ b n D ∧ Maps.size D ≤ n ∧ ∀ ss : List Int, ss.Perm (intKeys D) → ss.mergeSort (fun x y => decide (x ≤ y)) = ks := by
  obtain ⟨D, h, hf⟩ := h
  refine ⟨D, h, h.size_le, fun ss hs => ?_⟩
  have hwf : ∀ x, has D (.int .i64 x) = true → (Lit.int .i64 x).wf = true := fun x hx => by
    obtain ⟨es, rfl, hko⟩ := h.keysOf
    rw [has_eq, List.any_eq_true] at hx
    obtain ⟨p, hp', hs'⟩ := hx
    obtain ⟨v, hv⟩ := hko p hp'
    obtain ⟨y, _, hy, hl⟩ := Maps.keyOf_i64 hk hv
    rw [hy] at hs'
    have e : y = x := by simpa [Lit.sameKey] using hs'
    rw [← e]
    exact hl
  have hc : CollectedI D (fun _ => false) ks := by
    refine ⟨hp.imp fun h e => by omega, fun x => ?_⟩
    rw [hm x]
    constructor
    · rintro ⟨h1, h2⟩
      exact ⟨((hf x h1).2).trans h2, rfl⟩
    · rintro ⟨h1, _⟩
      exact ⟨hwf x h1, ((hf x (hwf x h1)).2).symm.trans h1⟩
  have hperm := hc.perm h (int_keyed hk) hk fun _ => rfl
  rw [mergeSort_of_perm_i (hs.trans hperm.symm)]
  exact List.mergeSort_of_pairwise (hp.imp fun h => by simp only [leI, decide_eq_true_eq]; omega)
end
section
variable {P : Program} (w : World) {ops : Array Oper} {rest : List Oper} {o : Oper} {a : Act} {Q : Exit → Act → World → Prop}
theorem wp_delV (hg : o.guard = none) (m x : Operand) (t k : TypeId) (hop : o.op = Op.call { callee := Callee.builtin Builtin.delete, args := #[m, x], argTypes := #[t, k] }) (e : TypeId) (hk : P.underlying k = some (.int .i64)) (ht : P.underlying t = some (.map k e))
    (b n : Nat) (f : Int → Option Value) (hm : a.eval m = .map (some b)) (h : MapV P k w b n f) (X : Int) (hx : a.eval x = .int .i64 X) (hX : (Lit.int .i64 X).wf = true)
    (hK : ∀ w', MapV P k w' b n (fun y => if y = X then none else f y) → w.grownBy w' (some b) → wpList P ops Q rest (a.put o.dst (.tuple #[])) w') : wpList P ops Q (o :: rest) a w := by
  refine wpList_plain hg fun K' hK' => ?_
  obtain ⟨w', hrun, h1, h2⟩ := h.drop hk ht hX o.type
  unfold Oper.wp
  simp [execOp, hop, resolve, invoke, builtin, hm, hx, hrun, Result.andThen]
  exact hK' _ _ (hK w' h1 h2)
theorem wp_putV (hg : o.guard = none) (m x v : Operand) (t : TypeId) (hop : o.op = Op.mapUpdate t m x v) (k e : TypeId) (hk : P.underlying k = some (.int .i64)) (ht : P.underlying t = some (.map k e))
    (b n : Nat) (hn : n < 1000000) (f : Int → Option Value) (hm : a.eval m = .map (some b)) (h : MapV P k w b n f) (X : Int) (hx : a.eval x = .int .i64 X) (hX : (Lit.int .i64 X).wf = true) (V : Value) (hv : a.eval v = V)
    (hK : ∀ w', MapV P k w' b (n + 1) (fun y => if y = X then some V else f y) → w.grownBy w' (some b) → wpList P ops Q rest (a.put o.dst undef) w') : wpList P ops Q (o :: rest) a w := by
  refine wpList_plain hg fun K' hK' => ?_
  obtain ⟨w', hrun, h1, h2⟩ := h.put hk ht hn hX V
  unfold Oper.wp
  simp [execOp, hop, hm, hx, hv, hrun, Result.andThen]
  exact hK' _ _ (hK w' h1 h2)
theorem wp_lenV (hg : o.guard = none) (m : Operand) (t k e : TypeId) (hop : o.op = .call { callee := .builtin .len, args := #[m], argTypes := #[t] }) (ht : P.underlying t = some (.map k e)) (b n : Nat) (f : Int → Option Value) (hm : a.eval m = .map (some b)) (h : MapV P k w b n f)
    (hK : ∀ j : Nat, j ≤ n → wpList P ops Q rest (a.put o.dst (.int .i64 j)) w) : wpList P ops Q (o :: rest) a w := by
  refine wpList_plain hg fun K' hK' => ?_
  obtain ⟨D, h1, _⟩ := h
  have hrun := h1.len ht o.type
  unfold Oper.wp
  simp [execOp, hop, resolve, invoke, builtin, hm, hrun, Result.andThen]
  exact hK' _ _ (hK _ h1.size_le)
end
end Go.Proofs.Ytopbeacfljoacaa.mapv
