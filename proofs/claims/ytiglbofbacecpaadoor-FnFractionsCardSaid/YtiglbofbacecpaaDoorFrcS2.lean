/- Fractions: the specification's TimesFraction, CompareFractions, PartOf. -/
import Derived.Test.YtiglbofbacecpaaDoorFrcS
namespace Go.Proofs.YtiglbofbacecpaaDoor.frc
open Go.RowKit Go.Proofs.YtiglbofbacecpaaDoor.kit Go.Proofs.YtiglbofbacecpaaDoor.lawi Go.Proofs.YtiglbofbacecpaaDoor.own Go.Proofs.YtiglbofbacecpaaDoor.rain Go.Proofs.YtiglbofbacecpaaDoor.stFraction
/-- Two fractions put into memory. -/
theorem boxes2 (w : World) (a b c d : Value) : ∃ w0, (w.alloc (.cells #[a, b] TF)).alloc (.cells #[c, d] TF) = w0 ∧ Hid (Blk w0 w.heap.size TF #[a, b]) ∧ Hid (Blk w0 (w.heap.size + 1) TF #[c, d]) ∧ Hid (Below w.heap.size w w0) :=
  ⟨_, rfl, Lib.hid ((Blk.new w TF #[a, b]).alloc _), Lib.hid (Blk.new1 w TF #[c, d] _), Lib.hid (below_al (below_al (Below.refl _ _) _) _)⟩
theorem po_div {t b n : Int} (ht : 0 ≤ t) (ht2 : t ≤ 10000) (hn : 0 ≤ n) (hn2 : n ≤ 1000000) (hb : 1 ≤ b) : (0 ≤ n * t ∧ n * t ≤ 10000000000) ∧ (n * t).tdiv b = n * t / b ∧ 0 ≤ n * t / b ∧ n * t / b ≤ 10000000000 := by
  have h0 : 0 ≤ n * t := Int.mul_nonneg hn ht
  have h1 : n * t ≤ 1000000 * 10000 := Int.mul_le_mul hn2 ht2 ht (by decide)
  refine ⟨⟨h0, h1⟩, Int.tdiv_eq_ediv_of_nonneg h0, Int.ediv_nonneg h0 (by omega), ?_⟩
  exact Int.le_trans (Int.ediv_le_self _ h0) h1
end Go.Proofs.YtiglbofbacecpaaDoor.frc
