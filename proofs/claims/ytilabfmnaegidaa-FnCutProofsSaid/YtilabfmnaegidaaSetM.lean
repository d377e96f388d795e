/- Sets that the call makes: a map from ints to bools, told as a function; its laws at the operation, in a list and in a region that draws. -/
import Derived.Test.YtilabfmnaegidaaKit
import Derived.Maps.OwnSet
import Derived.Maps.OwnOps
import Derived.BigFrame
namespace Go.Proofs.Ytilabfmnaegidaa.setm
open Go.RowKit Go.Maps Go.Proofs.Ytilabfmnaegidaa.kit
/-- Block b is a map of at most n entries: what a look-up of x answers is f x, and so is whether x is a key (a set: what is stored is true). -/
def SetB (P : Program) (k e : TypeId) (w : World) (b n : Nat) (f : Int → Bool) : Prop :=
  ∃ D : DataW Unit, w.ownsMap P k (plainElem P e) b n D ∧ ∀ x : Int, (Lit.int .i64 x).wf = true → D.atKey (.int .i64 x) (.lit (.bool false)) = .lit (.bool (f x)) ∧ Maps.has D (.int .i64 x) = f x
theorem plainElem_bool_inv {H : Type} {P : Program} {e : TypeId} (he : P.underlying e = some .bool) {v : Value} {z : DataW H × List MemPlace} (h : plainElem P e v = some z) : ∃ x, v = .bool x ∧ z = (.lit (.bool x), []) := by
  unfold plainElem at h
  rw [he] at h
  cases v <;> simp at h
  exact ⟨_, rfl, h.symm⟩
section
variable {P : Program} {k e t : TypeId} {w w' : World} {b n : Nat} {f : Int → Bool}
theorem SetB.made (w : World) (P : Program) (k e : TypeId) : SetB P k e (w.alloc (.map #[] 0)) w.heap.size 0 fun _ => false :=
  ⟨.map [], World.ownsMap_made w P k _, fun x _ => ⟨by simp [DataW.atKey], by simp [Maps.has]⟩⟩
theorem SetB.lt (h : SetB P k e w b n f) : b < w.heap.size := by obtain ⟨_, h, _⟩ := h; exact h.lt
theorem SetB.kept {row : Option Nat} (h : SetB P k e w b n f) (hg : w.grownBy w' row) (hne : some b ≠ row) : SetB P k e w' b n f := by
  obtain ⟨D, h, hf⟩ := h
  exact ⟨D, h.kept hg hne, hf⟩
theorem SetB.keep (h : SetB P k e w b n f) (hb : Below w.heap.size w w') : SetB P k e w' b n f := by
  obtain ⟨D, ⟨es, clock, he, r⟩, hf⟩ := h
  exact ⟨D, ⟨es, clock, (hb.block b (Array.getElem?_eq_some_iff.1 he).1).trans he, r⟩, hf⟩
theorem SetB.setCell (h : SetB P k e w b n f) {a : Addr} (ha : b ≠ a.block) (u : Value) : SetB P k e (w.setCell a u) b n f := by
  obtain ⟨D, h, hf⟩ := h
  exact ⟨D, h.setCell ha u, hf⟩
theorem SetB.congr {g : Int → Bool} (h : SetB P k e w b n f) (hg : ∀ x, (Lit.int .i64 x).wf = true → f x = g x) : SetB P k e w b n g := by
  obtain ⟨D, h, hf⟩ := h
  exact ⟨D, h, fun x hx => by rw [← hg x hx]; exact hf x hx⟩
theorem SetB.more (h : SetB P k e w b n f) {m : Nat} (hn : n ≤ m) : SetB P k e w b m f := by
  obtain ⟨D, h, hf⟩ := h
  exact ⟨D, h.mono hn, hf⟩
theorem SetB.look (h : SetB P k e w b n f) (hk : P.underlying k = some (.int .i64)) (ht : P.underlying t = some (.map k e)) (he : P.underlying e = some .bool) (hz : (zeroValue e).run P w = .ok (.bool false) w) {x : Int} (hx : (Lit.int .i64 x).wf = true) :
    (Instr.lookup t (.map (some b)) (.int .i64 x) false).run P w = .ok (.bool (f x)) w := by
  obtain ⟨D, h, hf⟩ := h
  obtain ⟨v, ps, hrun, hv⟩ := h.lookup (int_keyed hk) ht hz (plainElem_bool he false) (keyOf_int_mk hk hx)
  obtain ⟨c, rfl, hc⟩ := plainElem_bool_inv he hv
  have h1 := congrArg Prod.fst hc
  rw [(hf x hx).1] at h1
  simp at h1
  rw [hrun, h1]
theorem SetB.look_ok (h : SetB P k e w b n f) (hk : P.underlying k = some (.int .i64)) (ht : P.underlying t = some (.map k e)) (he : P.underlying e = some .bool) (hz : (zeroValue e).run P w = .ok (.bool false) w) {x : Int} (hx : (Lit.int .i64 x).wf = true) :
    (Instr.lookup t (.map (some b)) (.int .i64 x) true).run P w = .ok (.tuple #[.bool (f x), .bool (f x)]) w := by
  obtain ⟨D, h, hf⟩ := h
  obtain ⟨v, ps, hrun, hv⟩ := h.look_ok (int_keyed hk) ht hz (plainElem_bool he false) (keyOf_int_mk hk hx)
  obtain ⟨c, rfl, hc⟩ := plainElem_bool_inv he hv
  have h1 := congrArg Prod.fst hc
  rw [(hf x hx).1] at h1
  simp at h1
  rw [hrun, (hf x hx).2, ← h1]
theorem SetB.put (h : SetB P k e w b n f) (hk : P.underlying k = some (.int .i64)) (ht : P.underlying t = some (.map k e)) (he : P.underlying e = some .bool) (hn : n < 1000000) {x : Int} (hx : (Lit.int .i64 x).wf = true) :
    ∃ w', (Instr.mapUpdate t (.map (some b)) (.int .i64 x) (.bool true)).run P w = .ok () w' ∧ SetB P k e w' b (n + 1) (fun y => decide (y = x) || f y) ∧ w.grownBy w' (some b) := by
  obtain ⟨D, h, hf⟩ := h
  obtain ⟨w', hrun, ho, hg⟩ := h.update (int_keyed hk) ht (by unfold maxLen; omega) (keyOf_int_mk hk hx) (plainElem_bool he true)
  refine ⟨w', hrun, ⟨_, ho, fun y hy => ?_⟩, hg⟩
  by_cases e1 : y = x
  · subst e1
    exact ⟨by rw [atKey_put_same h.isMap (by simp [WideAt.IsKeyLit])]; simp, by rw [has_put_same h.isMap (by simp [WideAt.IsKeyLit])]; simp⟩
  · refine ⟨?_, ?_⟩
    · rw [atKey_put_other (by simpa using e1), (hf y hy).1]
      simp [e1]
    · rw [has_put_other (by simpa using e1), (hf y hy).2]
      simp [e1]
end
section
variable {P : Program} (w : World) {ops : Array Oper} {rest : List Oper} {o : Oper} {a : Act} {Q : Exit → Act → World → Prop}
theorem wp_look (hg : o.guard = none) (m x : Operand) (t : TypeId) (hop : o.op = Op.lookup t m x false) (k e : TypeId) (hk : P.underlying k = some (.int .i64)) (ht : P.underlying t = some (.map k e)) (he : P.underlying e = some .bool)
    (hz : ∀ w, (zeroValue e).run P w = .ok (.bool false) w) (b n : Nat) (f : Int → Bool) (hm : a.eval m = .map (some b)) (h : SetB P k e w b n f) (X : Int) (hx : a.eval x = .int .i64 X) (hX : (Lit.int .i64 X).wf = true)
    (hK : wpList P ops Q rest (a.put o.dst (.bool (f X))) w) : wpList P ops Q (o :: rest) a w := by
  refine wpList_plain hg fun K' hK' => ?_
  have hrun := h.look hk ht he (hz w) hX
  unfold Oper.wp
  simp [execOp, hop, hm, hx, hrun, Result.andThen]
  exact hK' _ _ hK
/-- The same where the look-up stands behind a test ('a && m[k]'). -/
theorem wp_lookG (hw : Region.wanted o (yielded ops a.tmps) = true) (m x : Operand) (t : TypeId) (hop : o.op = Op.lookup t m x false) (k e : TypeId) (hk : P.underlying k = some (.int .i64)) (ht : P.underlying t = some (.map k e)) (he : P.underlying e = some .bool)
    (hz : ∀ w, (zeroValue e).run P w = .ok (.bool false) w) (b n : Nat) (f : Int → Bool) (hm : a.eval m = .map (some b)) (h : SetB P k e w b n f) (X : Int) (hx : a.eval x = .int .i64 X) (hX : (Lit.int .i64 X).wf = true)
    (hK : wpList P ops Q rest (a.put o.dst (.bool (f X))) w) : wpList P ops Q (o :: rest) a w := by
  refine Go.BigFrame.wpList_want hw fun K' hK' => ?_
  have hrun := h.look hk ht he (hz w) hX
  unfold Oper.wp
  simp [execOp, hop, hm, hx, hrun, Result.andThen]
  exact hK' _ _ hK
/-- 'len(m)'. -/
theorem wp_len (hg : o.guard = none) (m : Operand) (t k e : TypeId) (hop : o.op = .call { callee := .builtin .len, args := #[m], argTypes := #[t] }) (ht : P.underlying t = some (.map k e)) (b n : Nat) (f : Int → Bool) (hm : a.eval m = .map (some b)) (h : SetB P k e w b n f)
    (hK : ∀ j : Nat, j ≤ n → wpList P ops Q rest (a.put o.dst (.int .i64 j)) w) : wpList P ops Q (o :: rest) a w := by
  refine wpList_plain hg fun K' hK' => ?_
  obtain ⟨D, h1, _⟩ := h
  have hrun := h1.len ht o.type
  unfold Oper.wp
  simp [execOp, hop, resolve, invoke, builtin, hm, hrun, Result.andThen]
  exact hK' _ _ (hK _ h1.size_le)
/-- An element of a map literal. -/
theorem wp_ins (hg : o.guard = none) (m x v : Operand) (t : TypeId) (hop : o.op = Op.insert t m x v) (k e : TypeId) (hk : P.underlying k = some (.int .i64)) (ht : P.underlying t = some (.map k e)) (he : P.underlying e = some .bool)
    (b n : Nat) (hn : n < 1000000) (f : Int → Bool) (hm : a.eval m = .map (some b)) (h : SetB P k e w b n f) (X : Int) (hx : a.eval x = .int .i64 X) (hX : (Lit.int .i64 X).wf = true) (hv : a.eval v = .bool true)
    (hK : ∀ w', SetB P k e w' b (n + 1) (fun y => decide (y = X) || f y) → w.grownBy w' (some b) → wpList P ops Q rest (a.put o.dst undef) w') : wpList P ops Q (o :: rest) a w := by
  refine wpList_plain hg fun K' hK' => ?_
  obtain ⟨w', hrun, h1, h2⟩ := h.put hk ht he hn hX
  unfold Oper.wp
  simp [execOp, hop, hm, hx, hv, hrun, Result.andThen]
  exact hK' _ _ (hK w' h1 h2)
theorem wp_look_ok (hg : o.guard = none) (m x : Operand) (t : TypeId) (hop : o.op = Op.lookup t m x true) (k e : TypeId) (hk : P.underlying k = some (.int .i64)) (ht : P.underlying t = some (.map k e)) (he : P.underlying e = some .bool)
    (hz : ∀ w, (zeroValue e).run P w = .ok (.bool false) w) (b n : Nat) (f : Int → Bool) (hm : a.eval m = .map (some b)) (h : SetB P k e w b n f) (X : Int) (hx : a.eval x = .int .i64 X) (hX : (Lit.int .i64 X).wf = true)
    (hK : wpList P ops Q rest (a.put o.dst (.tuple #[.bool (f X), .bool (f X)])) w) : wpList P ops Q (o :: rest) a w := by
  refine wpList_plain hg fun K' hK' => ?_
  have hrun := h.look_ok hk ht he (hz w) hX
  unfold Oper.wp
  simp [execOp, hop, hm, hx, hrun, Result.andThen]
  exact hK' _ _ hK
theorem step_look {K : Act → World → Prop} {E : Prop} (hg : o.guard = none) (m x : Operand) (t : TypeId) (hop : o.op = Op.lookup t m x false) (k e : TypeId) (hk : P.underlying k = some (.int .i64)) (ht : P.underlying t = some (.map k e)) (he : P.underlying e = some .bool)
    (hz : ∀ w, (zeroValue e).run P w = .ok (.bool false) w) (b n : Nat) (f : Int → Bool) (hm : a.eval m = .map (some b)) (h : SetB P k e w b n f) (X : Int) (hx : a.eval x = .int .i64 X) (hX : (Lit.int .i64 X).wf = true)
    (hK : K (a.put o.dst (.bool (f X))) w) : if Region.wanted o (yielded ops a.tmps) = true then Oper.wp P o a w K Q else E := by
  rw [if_pos (by simp [Region.wanted, hg])]
  have hrun := h.look hk ht he (hz w) hX
  unfold Oper.wp
  simp [execOp, hop, hm, hx, hrun, Result.andThen]
  exact hK
theorem wp_put (hg : o.guard = none) (m x v : Operand) (t : TypeId) (hop : o.op = Op.mapUpdate t m x v) (k e : TypeId) (hk : P.underlying k = some (.int .i64)) (ht : P.underlying t = some (.map k e)) (he : P.underlying e = some .bool)
    (b n : Nat) (hn : n < 1000000) (f : Int → Bool) (hm : a.eval m = .map (some b)) (h : SetB P k e w b n f) (X : Int) (hx : a.eval x = .int .i64 X) (hX : (Lit.int .i64 X).wf = true) (hv : a.eval v = .bool true)
    (hK : ∀ w', SetB P k e w' b (n + 1) (fun y => decide (y = X) || f y) → w.grownBy w' (some b) → wpList P ops Q rest (a.put o.dst undef) w') : wpList P ops Q (o :: rest) a w := by
  refine wpList_plain hg fun K' hK' => ?_
  obtain ⟨w', hrun, h1, h2⟩ := h.put hk ht he hn hX
  unfold Oper.wp
  simp [execOp, hop, hm, hx, hv, hrun, Result.andThen]
  exact hK' _ _ (hK w' h1 h2)
end
end Go.Proofs.Ytilabfmnaegidaa.setm
