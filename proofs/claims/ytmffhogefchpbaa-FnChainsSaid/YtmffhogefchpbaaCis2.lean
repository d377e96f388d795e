/- The contracts of the functions on cisterns: moving water. -/
import Derived.Test.YtmffhogefchpbaaCis
import Derived.Deep.RegionHeld3
import Derived.RegionTactic
import Derived.BigRegion
import Derived.ChangeAlike
import Derived.Laws.Cover1
namespace Go.Proofs.Ytmffhogefchpbaa.cis
open Go.RowKit Go.Proofs.Ytmffhogefchpbaa.kit Go.Proofs.Ytmffhogefchpbaa.lawi Go.Proofs.Ytmffhogefchpbaa.rainl Go.Proofs.Ytmffhogefchpbaa.rain
/-- What 'move' leaves: both boxes turned, all else as it was. -/
def Moved (n : Int) (w : World) (g g' : Nat) (t t' : TypeId) (r l r' l' : Int) (e : Ending) (w' : World) : Prop :=
  e = .returned (.int .i64 n) ∧ Blk w' g t #[.int .i64 r, .int .i64 (l - n)] ∧ Blk w' g' t' #[.int .i64 r', .int .i64 (l' + n)] ∧
    w'.os = w.os ∧ w'.tape = w.tape ∧ w'.output = w.output ∧ w.heap.size ≤ w'.heap.size ∧ ∀ k, k ≠ g → k ≠ g' → k < w.heap.size → w'.heap[k]? = w.heap[k]?
/-- n is the smallest of the three. -/
def Mn3 (n x y z : Int) : Prop := n ≤ x ∧ n ≤ y ∧ n ≤ z ∧ (n = x ∨ n = y ∨ n = z)
theorem Mn3.ex (x y z : Int) : ∃ n, Mn3 n x y z := by
  by_cases h : x ≤ y ∧ x ≤ z
  · exact ⟨x, by omega, h.1, h.2, .inl rfl⟩
  · by_cases h' : y ≤ z
    · exact ⟨y, by omega, by omega, h', .inr (.inl rfl)⟩
    · exact ⟨z, by omega, by omega, by omega, .inr (.inr rfl)⟩
/-- Four boxes made one after the other, later. -/
theorem four {w w1 : World} {t1 t2 t3 t4 : TypeId} {a b c d e f g h : Value}
    (hb : Below ((((w.alloc (.cells #[a, b] t1)).alloc (.cells #[c, d] t2)).alloc (.cells #[e, f] t3)).alloc (.cells #[g, h] t4)).heap.size ((((w.alloc (.cells #[a, b] t1)).alloc (.cells #[c, d] t2)).alloc (.cells #[e, f] t3)).alloc (.cells #[g, h] t4)) w1) :
    Blk w1 w.heap.size t1 #[a, b] ∧ Blk w1 (w.heap.size + 1) t2 #[c, d] ∧ Blk w1 (w.heap.size + 2) t3 #[e, f] ∧ Blk w1 (w.heap.size + 3) t4 #[g, h] := by
  refine ⟨((((Blk.new w t1 #[a, b]).alloc _).alloc _).alloc _).step hb, (((Blk.new1 w t2 #[c, d] _).alloc _).alloc _).step hb, ?_, ?_⟩
  · have := (Blk.new1 (w.alloc (.cells #[a, b] t1)) t3 #[e, f] (.cells #[c, d] t2)).alloc (.cells #[g, h] t4)
    simpa using this.step hb
  · have := Blk.new1 ((w.alloc (.cells #[a, b] t1)).alloc (.cells #[c, d] t2)) t4 #[g, h] (.cells #[e, f] t3)
    simpa using this.step hb
theorem below4 {w w1 : World} {o1 o2 o3 o4 : Obj} (hb : Below ((((w.alloc o1).alloc o2).alloc o3).alloc o4).heap.size ((((w.alloc o1).alloc o2).alloc o3).alloc o4) w1) : Below w.heap.size w w1 :=
  below_step (below_al (below_al (below_al (below_al (Below.refl _ _) _) _) _) _) hb
end Go.Proofs.Ytmffhogefchpbaa.cis
