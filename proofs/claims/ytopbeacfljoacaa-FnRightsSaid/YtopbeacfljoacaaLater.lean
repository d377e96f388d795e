/- A region that draws its order, whose operations only read and whose callees only make memory: one walk of the text's order, in any later world. -/
import Derived.Test.YtopbeacfljoacaaKit
import Derived.BigQuiet
namespace Go.Proofs.Ytopbeacfljoacaa.later
open Go.RowKit Go.Proofs.Ytopbeacfljoacaa.kit
/-- A world in which all that lay in w0 lies as it lay. -/
structure Later (w0 : World) where
  w : World
  h : Below w0.heap.size w0 w
instance (w0 : World) : Nonempty (Later w0) := ⟨⟨w0, Below.refl _ _⟩⟩
theorem cell {w0 : World} {a : Addr} {v : Value} (h : w0.cell? a = some v) : ∀ g : Later w0, g.w.cell? a = some v := fun g => keep1 h g.h
theorem calls {P : Program} {f : FuncId} {args : Array Value} {w0 : World} {v : Value} (g : Later w0) (h : Calls P f args g.w (Gives g.w v)) :
    Calls P f args g.w fun e w'' => e = .returned v ∧ ∃ g' : Later w0, w'' = g'.w :=
  h.mono fun _ w' ⟨he, hb⟩ => ⟨he, ⟨w', below_step g.h hb⟩, rfl⟩
theorem same {P : Program} {f : FuncId} {args : Array Value} {w0 : World} {v : Value} (g : Later w0) (h : Calls P f args g.w fun e w' => e = .returned v ∧ g.w = w') :
    Calls P f args g.w fun e w'' => e = .returned v ∧ ∃ g' : Later w0, w'' = g'.w :=
  h.mono fun _ _ ⟨he, hw⟩ => ⟨he, g, hw.symm⟩
theorem region {P : Program} {id : Nat} {Q : Exit → Act → World → Prop} {a : Act} {w : World} {l : List Oper} (hm : P.follows .mixedOrders = true) (hB : Region.lexB .any l.toArray = true)
    (h : wpQuiet P l.toArray (fun w' => ∃ g : Later w, w' = g.w) (fun a' => ∀ w', (∃ g : Later w, w' = g.w) → Q .normal a' w') l a) : (Code.region id l.toArray true).wp P Q a w :=
  wp_region_quiet (C := fun w' => ∃ g : Later w, w' = g.w) hm hB ⟨⟨w.drew, below_dr (Below.refl _ _)⟩, rfl⟩ (by simpa using h)
end Go.Proofs.Ytopbeacfljoacaa.later
