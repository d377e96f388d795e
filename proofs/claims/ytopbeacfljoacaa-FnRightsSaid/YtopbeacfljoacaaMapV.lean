/- Maps from ints that the call makes, told as a function: what was put there is given back as it is; its laws at the operation, in a list and in a region that draws. -/
import Derived.Test.YtopbeacfljoacaaKit
import Derived.Maps.OwnSet
import Derived.Maps.OwnOps
import Derived.BigFrame
namespace Go.Proofs.Ytopbeacfljoacaa.mapv
open Go.RowKit Go.Maps Go.Proofs.Ytopbeacfljoacaa.kit
/-- A value reads as itself. -/
def same_ (v : Value) : Option (DataW Value × List MemPlace) := some (.held v, [])
/-- Block b is a map of at most n entries: under x lies f x, if anything. -/
def MapV (P : Program) (k : TypeId) (w : World) (b n : Nat) (f : Int → Option Value) : Prop :=
  ∃ D : DataW Value, w.ownsMap P k same_ b n D ∧ ∀ x : Int, (Lit.int .i64 x).wf = true → (∀ z, D.atKey (.int .i64 x) (.held z) = .held ((f x).getD z)) ∧ Maps.has D (.int .i64 x) = (f x).isSome
section
variable {P : Program} {k e t : TypeId} {w w' : World} {b n : Nat} {f : Int → Option Value} {z : Value}
theorem MapV.made (w : World) (P : Program) (k : TypeId) : MapV P k (w.alloc (.map #[] 0)) w.heap.size 0 fun _ => none :=
  ⟨.map [], World.ownsMap_made w P k _, fun x _ => ⟨fun z => by simp [DataW.atKey], by simp [Maps.has]⟩⟩
theorem MapV.lt (h : MapV P k w b n f) : b < w.heap.size := by obtain ⟨_, h, _⟩ := h; exact h.lt
theorem MapV.kept {row : Option Nat} (h : MapV P k w b n f) (hg : w.grownBy w' row) (hne : some b ≠ row) : MapV P k w' b n f := by
  obtain ⟨D, h, hf⟩ := h
  exact ⟨D, h.kept hg hne, hf⟩
theorem MapV.same (h : MapV P k w b n f) (hb : w'.heap[b]? = w.heap[b]?) : MapV P k w' b n f := by
  obtain ⟨D, ⟨es, clock, he, r⟩, hf⟩ := h
  exact ⟨D, ⟨es, clock, hb.trans he, r⟩, hf⟩
theorem MapV.keep (h : MapV P k w b n f) (hb : Below w.heap.size w w') : MapV P k w' b n f := h.same (hb.block b h.lt)
theorem MapV.setCell (h : MapV P k w b n f) {a : Addr} (ha : b ≠ a.block) (u : Value) : MapV P k (w.setCell a u) b n f := by
  obtain ⟨D, h, hf⟩ := h
  exact ⟨D, h.setCell ha u, hf⟩
theorem MapV.congr {g : Int → Option Value} (h : MapV P k w b n f) (hg : ∀ x, (Lit.int .i64 x).wf = true → f x = g x) : MapV P k w b n g := by
  obtain ⟨D, h, hf⟩ := h
  exact ⟨D, h, fun x hx => by rw [← hg x hx]; exact hf x hx⟩
theorem MapV.more (h : MapV P k w b n f) {m : Nat} (hn : n ≤ m) : MapV P k w b m f := by
  obtain ⟨D, h, hf⟩ := h
  exact ⟨D, h.mono hn, hf⟩
theorem MapV.look (h : MapV P k w b n f) (hk : P.underlying k = some (.int .i64)) (ht : P.underlying t = some (.map k e)) (hz : (zeroValue e).run P w = .ok z w) {x : Int} (hx : (Lit.int .i64 x).wf = true) :
    (Instr.lookup t (.map (some b)) (.int .i64 x) false).run P w = .ok ((f x).getD z) w := by
  obtain ⟨D, h, hf⟩ := h
  obtain ⟨v, ps, hrun, hv⟩ := h.lookup (int_keyed hk) ht hz (rfl : same_ z = some (.held z, [])) (keyOf_int_mk hk hx)
  have h1 : (DataW.held v : DataW Value) = D.atKey (.int .i64 x) (.held z) := congrArg Prod.fst (Option.some.inj hv)
  rw [(hf x hx).1 z] at h1
  rw [hrun, DataW.held.inj h1]
theorem MapV.look_ok (h : MapV P k w b n f) (hk : P.underlying k = some (.int .i64)) (ht : P.underlying t = some (.map k e)) (hz : (zeroValue e).run P w = .ok z w) {x : Int} (hx : (Lit.int .i64 x).wf = true) :
    (Instr.lookup t (.map (some b)) (.int .i64 x) true).run P w = .ok (.tuple #[(f x).getD z, .bool (f x).isSome]) w := by
  obtain ⟨D, h, hf⟩ := h
  obtain ⟨v, ps, hrun, hv⟩ := h.look_ok (int_keyed hk) ht hz (rfl : same_ z = some (.held z, [])) (keyOf_int_mk hk hx)
  have h1 : (DataW.held v : DataW Value) = D.atKey (.int .i64 x) (.held z) := congrArg Prod.fst (Option.some.inj hv)
  rw [(hf x hx).1 z] at h1
  rw [hrun, (hf x hx).2, DataW.held.inj h1]
theorem MapV.put (h : MapV P k w b n f) (hk : P.underlying k = some (.int .i64)) (ht : P.underlying t = some (.map k e)) (hn : n < 1000000) {x : Int} (hx : (Lit.int .i64 x).wf = true) (v : Value) :
    ∃ w', (Instr.mapUpdate t (.map (some b)) (.int .i64 x) v).run P w = .ok () w' ∧ MapV P k w' b (n + 1) (fun y => if y = x then some v else f y) ∧ w.grownBy w' (some b) := by
  obtain ⟨D, h, hf⟩ := h
  obtain ⟨w', hrun, ho, hg⟩ := h.update (int_keyed hk) ht (by unfold maxLen; omega) (keyOf_int_mk hk hx) (rfl : same_ v = some (.held v, []))
  refine ⟨w', hrun, ⟨_, ho, fun y hy => ?_⟩, hg⟩
  by_cases e1 : y = x
  · subst e1
    exact ⟨fun z => by rw [atKey_put_same h.isMap (by simp [WideAt.IsKeyLit])]; simp, by rw [has_put_same h.isMap (by simp [WideAt.IsKeyLit])]; simp⟩
  · refine ⟨fun z => ?_, ?_⟩
    · rw [atKey_put_other (by simpa using e1), (hf y hy).1]
      simp [e1]
    · rw [has_put_other (by simpa using e1), (hf y hy).2]
      simp [e1]
end
section
variable {P : Program} (w : World) {ops : Array Oper} {rest : List Oper} {o : Oper} {a : Act} {Q : Exit → Act → World → Prop}
theorem wp_lookV (hg : o.guard = none) (m x : Operand) (t : TypeId) (hop : o.op = Op.lookup t m x false) (k e : TypeId) (hk : P.underlying k = some (.int .i64)) (ht : P.underlying t = some (.map k e)) (z : Value)
    (hz : ∀ w, (zeroValue e).run P w = .ok z w) (b n : Nat) (f : Int → Option Value) (hm : a.eval m = .map (some b)) (h : MapV P k w b n f) (X : Int) (hx : a.eval x = .int .i64 X) (hX : (Lit.int .i64 X).wf = true)
    (hK : wpList P ops Q rest (a.put o.dst ((f X).getD z)) w) : wpList P ops Q (o :: rest) a w := by
  refine wpList_plain hg fun K' hK' => ?_
  have hrun := h.look hk ht (hz w) hX
  unfold Oper.wp
  simp [execOp, hop, hm, hx, hrun, Result.andThen]
  exact hK' _ _ hK
theorem wp_lookV_ok (hg : o.guard = none) (m x : Operand) (t : TypeId) (hop : o.op = Op.lookup t m x true) (k e : TypeId) (hk : P.underlying k = some (.int .i64)) (ht : P.underlying t = some (.map k e)) (z : Value)
    (hz : ∀ w, (zeroValue e).run P w = .ok z w) (b n : Nat) (f : Int → Option Value) (hm : a.eval m = .map (some b)) (h : MapV P k w b n f) (X : Int) (hx : a.eval x = .int .i64 X) (hX : (Lit.int .i64 X).wf = true)
    (hK : wpList P ops Q rest (a.put o.dst (.tuple #[(f X).getD z, .bool (f X).isSome])) w) : wpList P ops Q (o :: rest) a w := by
  refine wpList_plain hg fun K' hK' => ?_
  have hrun := h.look_ok hk ht (hz w) hX
  unfold Oper.wp
  simp [execOp, hop, hm, hx, hrun, Result.andThen]
  exact hK' _ _ hK
theorem wp_insV (hg : o.guard = none) (m x v : Operand) (t : TypeId) (hop : o.op = Op.insert t m x v) (k e : TypeId) (hk : P.underlying k = some (.int .i64)) (ht : P.underlying t = some (.map k e))
    (b n : Nat) (hn : n < 1000000) (f : Int → Option Value) (hm : a.eval m = .map (some b)) (h : MapV P k w b n f) (X : Int) (hx : a.eval x = .int .i64 X) (hX : (Lit.int .i64 X).wf = true) (V : Value) (hv : a.eval v = V)
    (hK : ∀ w', MapV P k w' b (n + 1) (fun y => if y = X then some V else f y) → w.grownBy w' (some b) → wpList P ops Q rest (a.put o.dst undef) w') : wpList P ops Q (o :: rest) a w := by
  refine wpList_plain hg fun K' hK' => ?_
  obtain ⟨w', hrun, h1, h2⟩ := h.put hk ht hn hX V
  unfold Oper.wp
  simp [execOp, hop, hm, hx, hv, hrun, Result.andThen]
  exact hK' _ _ (hK w' h1 h2)
theorem step_putV {K : Act → World → Prop} {E : Prop} (hg : o.guard = none) (m x v : Operand) (t : TypeId) (hop : o.op = Op.mapUpdate t m x v) (k e : TypeId) (hk : P.underlying k = some (.int .i64)) (ht : P.underlying t = some (.map k e))
    (b n : Nat) (hn : n < 1000000) (f : Int → Option Value) (hm : a.eval m = .map (some b)) (h : MapV P k w b n f) (X : Int) (hx : a.eval x = .int .i64 X) (hX : (Lit.int .i64 X).wf = true) (V : Value) (hv : a.eval v = V)
    (hK : ∀ w', MapV P k w' b (n + 1) (fun y => if y = X then some V else f y) → w.grownBy w' (some b) → K (a.put o.dst undef) w') : if Region.wanted o (yielded ops a.tmps) = true then Oper.wp P o a w K Q else E := by
  rw [if_pos (by simp [Region.wanted, hg])]
  obtain ⟨w', hrun, h1, h2⟩ := h.put hk ht hn hX V
  unfold Oper.wp
  simp [execOp, hop, hm, hx, hv, hrun, Result.andThen]
  exact hK w' h1 h2
end
end Go.Proofs.Ytopbeacfljoacaa.mapv
