/- Drawn numbers. -/
import Derived.Test.YtopbeacfljoacaaDraw
namespace Go.Proofs.Ytopbeacfljoacaa.draw
open Go.RowKit Go.Proofs.Ytopbeacfljoacaa.kit
def I64 (x : Int) : Prop := -9223372036854775808 ≤ x ∧ x ≤ 9223372036854775807
/-- A row of numbers, each with a property. -/
def Nums (P : Int → Prop) (w : World) (b n : Nat) : Prop := ∀ j, j < n → ∃ m : Int, P m ∧ w.cell? ⟨b, j, none⟩ = some (.int .i64 m)
theorem nums_new {P : Int → Prop} (w : World) (l : List Int) (T : TypeId) (h : ∀ m ∈ l, P m) : Nums P (w.alloc (.cells (l.map (Value.int .i64)).toArray T)) w.heap.size l.length := fun j hj =>
  ⟨l[j], h _ (List.getElem_mem hj), by rw [cell_of_row _ _ j _ _ _ (heap_alloc_new w _)]; simp [hj]⟩
end Go.Proofs.Ytopbeacfljoacaa.draw
