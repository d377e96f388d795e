/- The contracts of the functions on cisterns. -/
import Derived.Test.YtaofgidhnnlgoaaRainI
import Derived.Handy
namespace Go.Proofs.Ytaofgidhnnlgoaa.cis
open Go.RowKit Go.Proofs.Ytaofgidhnnlgoaa.kit Go.Proofs.Ytaofgidhnnlgoaa.lawi Go.Proofs.Ytaofgidhnnlgoaa.rainl Go.Proofs.Ytaofgidhnnlgoaa.rain
def COk (r l : Int) : Prop := 1 ≤ r ∧ r ≤ 1000000 ∧ 0 ≤ l ∧ l ≤ r
def Wok (x : Int) : Prop := 0 ≤ x ∧ x ≤ 1000000
/-- n is the smaller one of x and y. -/
def Mn (n x y : Int) : Prop := n ≤ x ∧ n ≤ y ∧ (n = x ∨ n = y)
theorem Mn.ex (x y : Int) : ∃ n, Mn n x y := by
  by_cases h : x ≤ y
  · exact ⟨x, by omega, h, .inl rfl⟩
  · exact ⟨y, by omega, by omega, .inr rfl⟩
abbrev C (r l : Int) : Value := .agg #[.int .i64 r, .int .i64 l]
theorem blk2 {w : World} {g : Nat} {t : TypeId} {a b : Value} (h : Blk w g t #[a, b]) : w.cell? ⟨g, 0, none⟩ = some a ∧ w.cell? ⟨g, 1, none⟩ = some b ∧ w.frozen? ⟨g, 0, none⟩ = false ∧ w.frozen? ⟨g, 1, none⟩ = false := ⟨h.cell 0, h.cell 1, h.frozen 0, h.frozen 1⟩
/-- Two boxes made one after the other, later. -/
theorem two {w w1 : World} {t t' : TypeId} {a b c d : Value} (hb : Below ((w.alloc (.cells #[a, b] t)).alloc (.cells #[c, d] t')).heap.size ((w.alloc (.cells #[a, b] t)).alloc (.cells #[c, d] t')) w1) :
    Blk w1 w.heap.size t #[a, b] ∧ Blk w1 (w.heap.size + 1) t' #[c, d] :=
  ⟨((Blk.new w t #[a, b]).alloc _).step hb, (Blk.new1 w t' #[c, d] _).step hb⟩
end Go.Proofs.Ytaofgidhnnlgoaa.cis
