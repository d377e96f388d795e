/- Drawn numbers. -/
import Derived.Test.YteogonlclldjlaaDraw
namespace Go.Proofs.Yteogonlclldjlaa.draw
open Go.RowKit Go.Proofs.Yteogonlclldjlaa.kit
def I64 (x : Int) : Prop := -9223372036854775808 ≤ x ∧ x ≤ 9223372036854775807
/-- A row of numbers, each with a property. -/
def Nums (P : Int → Prop) (w : World) (b n : Nat) : Prop := ∀ j, j < n → ∃ m : Int, P m ∧ w.cell? ⟨b, j, none⟩ = some (.int .i64 m)
theorem nums_new {P : Int → Prop} (w : World) (l : List Int) (T : TypeId) (h : ∀ m ∈ l, P m) : Nums P (w.alloc (.cells (l.map (Value.int .i64)).toArray T)) w.heap.size l.length := fun j hj =>
  ⟨l[j], h _ (List.getElem_mem hj), by rw [cell_of_row _ _ j _ _ _ (heap_alloc_new w _)]; simp [hj]⟩
theorem pickInt_any {P : Int → Prop} (w : World) (c : Nat) (a : Option Addr) (len cap : Nat) (b n cp : Nat) (hn : 0 < n) (hn2 : n ≤ 1000000) (hbc : b ≠ c) (hnum : Nums P w b n) (hcur : Cur w c a len cap) :
    Calls Try.prog 50 #[.pointer (some ⟨c, 0, none⟩), .slice (some ⟨b, 0, none⟩) n cp] w (Drawn P w c a len cap) := by
  go_enter Try.func50, Try.ntmps50
  go_wp2_with fail
  refine (below_any w c a len cap n (by omega) hcur).mono ?_; rintro e w1 ⟨x, hx, rfl, hc1, hg1⟩
  obtain ⟨x0, x1⟩ := hx.of (by omega)
  obtain ⟨k, rfl⟩ := Int.eq_ofNat_of_zero_le x0
  obtain ⟨m, hm, hc⟩ := hnum k (by omega)
  have hc' := hg1.cell hc (by simpa using hbc)
  go_wp2
  go_ret
  exact ⟨m, hm, rfl, hc1, hg1⟩
end Go.Proofs.Yteogonlclldjlaa.draw
