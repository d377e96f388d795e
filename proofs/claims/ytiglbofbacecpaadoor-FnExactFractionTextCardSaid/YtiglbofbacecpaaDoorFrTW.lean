/- The exact law on the text of a fraction returns true. -/
import Derived.Test.YtiglbofbacecpaaDoorFrcTI
set_option linter.unusedVariables false
namespace Go.Proofs.YtiglbofbacecpaaDoor.wFnExactFractionText
open Go.RowKit Go.Proofs.YtiglbofbacecpaaDoor.kit Go.Proofs.YtiglbofbacecpaaDoor.lawi Go.Proofs.YtiglbofbacecpaaDoor.own Go.Proofs.YtiglbofbacecpaaDoor.rain Go.Proofs.YtiglbofbacecpaaDoor.frc Go.Proofs.YtiglbofbacecpaaDoor.numl Go.Proofs.YtiglbofbacecpaaDoor.fmt
set_option maxHeartbeats 1000000 in
theorem walk (w : World) (ht : Tab w) (x0 y0 : Int) (_ : (Lit.int .i64 x0).wf = true) (_ : (Lit.int .i64 y0).wf = true) : Calls Tryd.prog 4 #[stFraction.R x0 y0] w fun e w' => e = .returned (.bool true) ∧ Below w.heap.size w w' := by
  obtain ⟨s, hs⟩ := Tx.ex x0 y0
  have HS := Lib.hid hs
  clear hs
  have hq := beq_yes (a := s) rfl
  obtain ⟨w0, hw0⟩ : ∃ w0, w.alloc (.cells #[.int .i64 x0, .int .i64 y0] 37) = w0 := ⟨_, rfl⟩
  have HB : Hid (Below w.heap.size w w0) := Lib.hid (hw0 ▸ below_al (Below.refl _ _) _)
  have XA : Hid (Blk w0 w.heap.size 37 #[.int .i64 x0, .int .i64 y0]) := Lib.hid (hw0 ▸ Blk.new w 37 #[.int .i64 x0, .int .i64 y0])
  have T0 := Lib.hid (ht.keep HB.out)
  clear ht
  obtain ⟨a0, a1, _⟩ := fcell XA.out
  go_enter Tryd.func4, Tryd.ntmps4
  go_wp2_with fail
  refine (stFraction.to_any _ _ _).mono ?_; rintro e w1 ⟨rfl, hb⟩
  have L1 := Lib.hid hb
  clear hb hw0 a0 a1
  go_wp2_with fail
  refine (spec_tx _ _ _ _ HS.out).mono ?_; rintro e w2 ⟨rfl, hb⟩
  have L2 := Lib.hid (below_step L1.out hb)
  obtain ⟨a0, a1, _⟩ := fcell (XA.out.step L2.out)
  clear hb L1
  go_wp2_with fail
  refine (stFraction.to_any _ _ _).mono ?_; rintro e w3 ⟨rfl, hb⟩
  have L3 := Lib.hid (below_step L2.out hb)
  clear hb a0 a1 L2
  go_wp2_with fail
  refine (impl_tx _ (T0.out.keep L3.out) _ _ _ HS.out).mono ?_; rintro e w4 ⟨rfl, hb⟩
  have L4 := Lib.hid (below_step L3.out hb)
  clear hb L3
  go_wp2
  go_ret
  exact ⟨rfl, HB.out.trans (L4.out.mono HB.out.size)⟩
end Go.Proofs.YtiglbofbacecpaaDoor.wFnExactFractionText
