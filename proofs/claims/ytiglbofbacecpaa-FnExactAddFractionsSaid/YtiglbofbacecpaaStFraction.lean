/- The laws' own helpers on Fraction: copied, found equal, marked, found again. -/
import Derived.Test.YtiglbofbacecpaaOwn
import Derived.Test.YtiglbofbacecpaaOpenS
import Derived.Deep.RegionHeld3
import Derived.Laws.MakeOwn
namespace Go.Proofs.Ytiglbofbacecpaa.stFraction
open Go.RowKit Go.Proofs.Ytiglbofbacecpaa.kit Go.Proofs.Ytiglbofbacecpaa.lawi Go.Proofs.Ytiglbofbacecpaa.own
abbrev R (x0 x1 : Int) : Value := .agg #[.int .i64 x0, .int .i64 x1]
theorem info : (Try.prog.info? 25).map (fun i => (i.zero, i.size, i.bytes)) = some (some (.agg #[.int .i64 0, .int .i64 0]), 2, 16) := by kernel_rfl
theorem to_any (w : World) (x0 x1 : Int) : Calls Try.prog 10 #[R x0 x1] w (Gives w (R x0 x1)) := by
  go_enter Try.func10, Try.ntmps10
  go_wp2
  exact bodyPost_ret (v := R x0 x1) (by simp [results, Try.results10, go_sem]) rfl ⟨rfl, below_al (below_al (below_al (Below.refl _ _) _) _) _⟩
theorem made_zero (n : Nat) : (madeCells (R 0 0).cells n).toList = List.replicate n (.int .i64 0) := by
  refine List.ext_getElem (by simp [madeCells]) fun i h1 h2 => ?_
  simp [madeCells, Value.cells]
  have : i % 2 < 2 := Nat.mod_lt _ (by decide)
  generalize i % 2 = r at this ⊢
  match r, this with
  | 0, _ => rfl
  | 1, _ => rfl
theorem eq_yes (w : World) (x0 x1 : Int) : Calls Try.prog 14 #[R x0 x1, R x0 x1] w (Gives w (.bool true)) := by
  go_enter Try.func14, Try.ntmps14
  go_wp2
  go_ret
  exact ⟨rfl, below_al (below_al (Below.refl _ _) _) _⟩
theorem marks_setT (k i : Nat) (xs : List Value) (T : Int) (hT : T = ((k + i : Nat) : Int)) (h : i < xs.length) : (marks k i ++ xs.drop i).set i (.int .i64 T) = marks k (i + 1) ++ xs.drop (i + 1) := by
  subst hT; exact marks_set k i xs h
section
open Go.ChangeShapes Go.WideShapes Go.Deep Go.Proofs.Ytiglbofbacecpaa.opens
variable {H : Type} {enc : TypeId × Value → H} {w : World} {base : Nat} {spare : Nat → Bool} {held : Bool}
theorem cells_law : Try.prog.cellsOf 23 = 2 := by kernel_rfl
theorem cells_int : Try.prog.cellsOf 3 = 1 := by kernel_rfl
theorem flat : Flat enc Try.prog w base spare held 23 := by
  refine Flat.struct Try.underlying23 fun q hq => ?_
  rw [cells_law] at hq
  match q, hq with
  | 0, _ => exact ⟨0, _, rfl, Nat.le_refl _, by show 0 < 0 + Try.prog.cellsOf 3; rw [cells_int]; decide, Flat.int Try.underlying3⟩
  | 1, _ => exact ⟨1, _, rfl, Nat.le_refl _, by show 1 < 1 + Try.prog.cellsOf 3; rw [cells_int]; decide, Flat.int Try.underlying3⟩
/-- The struct by value, opened. -/
theorem open_ {r : Reach} {b0 : Nat} {v : Value} {d : DataW H} {p : List MemPlace} (hv : Value.okWide Try.prog w r b0 23 v) (h : DataW.Trod enc Try.prog w base spare held 23 v d p) :
    ∃ x0 x1 : Int, v = R x0 x1 ∧ (Lit.int .i64 x0).wf = true ∧ (Lit.int .i64 x1).wf = true := by
  obtain ⟨cs, rfl, hs, zs, hz, hw⟩ := agg_of Try.underlying23 flat hv h
  rw [cells_law] at hs
  obtain ⟨l⟩ := cs
  match l, hs, zs, hz, hw with
  | [c0, c1], _, [x0, x1], hz, hw =>
    simp [Value.cells] at hz
    obtain ⟨rfl, rfl⟩ := hz
    exact ⟨x0, x1, rfl, hw _ (by simp), hw _ (by simp)⟩
end
end Go.Proofs.Ytiglbofbacecpaa.stFraction
