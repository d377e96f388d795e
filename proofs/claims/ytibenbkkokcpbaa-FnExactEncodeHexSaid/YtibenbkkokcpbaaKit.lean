/- Small laws that several proofs of this seat use. -/
import Derived.WalkKit
import Derived.Laws.BytesArg
namespace Go.Proofs.Ytibenbkkokcpbaa.kit
open Go.RowKit
theorem ret_int {k : IntKind} {a b : Int} (h : a = b) : Ending.returned (.int k a) = .returned (.int k b) := by rw [h]
/-- string(v) of a row of bytes that the call owns. -/
theorem conv_own {P : Program} {w : World} {base e src dst : Nat} {v : Value} {n : Nat} {ns : List Int} (hs : P.underlying src = some (.slice e)) (he : P.underlying e = some (.int .u8)) (hd : P.underlying dst = some .string)
    (h : w.ownsRow base e 1 v n (ns.map (Value.int .u8))) : (convert src dst v).run P w = .ok (.string (strOfNums ns)) w := by
  have hlen : ns.length = n := by have := h.1; simpa using this
  rcases h.2 with ⟨rfl, rfl⟩ | ⟨g, cap, cur, rfl, h2⟩
  · obtain rfl : ns = [] := List.length_eq_zero_iff.1 hlen
    exact run_convert_bytes_nil w src e hs he 0 0 dst hd
  · refine run_convert_bytes_arg w src e hs he g 0 n cap ns hlen (fun i hi => ?_) dst hd
    have := h.cells (g := g) rfl i (.int .u8 (ns.getD i 0)) (by simp [List.getElem?_map, List.getElem?_eq_getElem (show i < ns.length by omega), List.getD_eq_getElem?_getD])
    rw [← this]; congr 1
    unfold Addr.add; split <;> simp_all
/-- What the walk is told of a slice of integers that came in: it is nil; or it leads to a row of 'cap' cells, the numbers 'zs' (the first 'len' are its elements). -/
def IsRow (k : IntKind) (w : World) (a : Option Addr) (len cap : Nat) (zs : List Int) : Prop :=
  (a = none ∧ len = 0 ∧ cap = 0 ∧ zs = []) ∨
  ∃ x, a = some x ∧ len ≤ cap ∧ cap ≤ maxLen ∧ zs.length = cap ∧ (∀ i, i < zs.length → w.cell? (x.add i) = some (.int k (zs.getD i 0))) ∧ ∀ n ∈ zs, (Lit.int k n).wf = true
end Go.Proofs.Ytibenbkkokcpbaa.kit
