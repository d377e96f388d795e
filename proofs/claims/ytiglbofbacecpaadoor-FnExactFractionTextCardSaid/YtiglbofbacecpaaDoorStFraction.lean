/- The laws' own helpers on Fraction: copied, found equal, marked, found again. -/
import Derived.Test.YtiglbofbacecpaaDoorOwn
import Derived.Test.YtiglbofbacecpaaDoorOpenS
import Derived.Deep.RegionHeld3
import Derived.Laws.MakeOwn
namespace Go.Proofs.YtiglbofbacecpaaDoor.stFraction
open Go.RowKit Go.Proofs.YtiglbofbacecpaaDoor.kit Go.Proofs.YtiglbofbacecpaaDoor.lawi Go.Proofs.YtiglbofbacecpaaDoor.own
abbrev R (x0 x1 : Int) : Value := .agg #[.int .i64 x0, .int .i64 x1]
theorem info : (Tryd.prog.info? 25).map (fun i => (i.zero, i.size, i.bytes)) = some (some (.agg #[.int .i64 0, .int .i64 0]), 2, 16) := by kernel_rfl
theorem to_any (w : World) (x0 x1 : Int) : Calls Tryd.prog 17 #[R x0 x1] w (Gives w (R x0 x1)) := by
  go_enter Tryd.func17, Tryd.ntmps17
  go_wp2
  exact bodyPost_ret (v := R x0 x1) (by simp [results, Tryd.results17, go_sem]) rfl ⟨rfl, below_al (below_al (below_al (Below.refl _ _) _) _) _⟩
theorem made_zero (n : Nat) : (madeCells (R 0 0).cells n).toList = List.replicate n (.int .i64 0) := by
  refine List.ext_getElem (by simp [madeCells]) fun i h1 h2 => ?_
  simp [madeCells, Value.cells]
  have : i % 2 < 2 := Nat.mod_lt _ (by decide)
  generalize i % 2 = r at this ⊢
  match r, this with
  | 0, _ => rfl
  | 1, _ => rfl
theorem marks_setT (k i : Nat) (xs : List Value) (T : Int) (hT : T = ((k + i : Nat) : Int)) (h : i < xs.length) : (marks k i ++ xs.drop i).set i (.int .i64 T) = marks k (i + 1) ++ xs.drop (i + 1) := by
  subst hT; exact marks_set k i xs h
section
open Go.ChangeShapes Go.WideShapes Go.Deep Go.Proofs.YtiglbofbacecpaaDoor.opens
variable {H : Type} {enc : TypeId × Value → H} {w : World} {base : Nat} {spare : Nat → Bool} {held : Bool}
theorem cells_law : Tryd.prog.cellsOf 37 = 2 := by kernel_rfl
theorem cells_int : Tryd.prog.cellsOf 3 = 1 := by kernel_rfl
theorem flat : Flat enc Tryd.prog w base spare held 37 := by
  refine Flat.struct Tryd.underlying37 fun q hq => ?_
  rw [cells_law] at hq
  match q, hq with
  | 0, _ => exact ⟨0, _, rfl, Nat.le_refl _, by show 0 < 0 + Tryd.prog.cellsOf 3; rw [cells_int]; decide, Flat.int Tryd.underlying3⟩
  | 1, _ => exact ⟨1, _, rfl, Nat.le_refl _, by show 1 < 1 + Tryd.prog.cellsOf 3; rw [cells_int]; decide, Flat.int Tryd.underlying3⟩
/-- The struct by value, opened. -/
theorem open_ {r : Reach} {b0 : Nat} {v : Value} {d : DataW H} {p : List MemPlace} (hv : Value.okWide Tryd.prog w r b0 37 v) (h : DataW.Trod enc Tryd.prog w base spare held 37 v d p) :
    ∃ x0 x1 : Int, v = R x0 x1 ∧ (Lit.int .i64 x0).wf = true ∧ (Lit.int .i64 x1).wf = true := by
  obtain ⟨cs, rfl, hs, zs, hz, hw⟩ := agg_of Tryd.underlying37 flat hv h
  rw [cells_law] at hs
  obtain ⟨l⟩ := cs
  match l, hs, zs, hz, hw with
  | [c0, c1], _, [x0, x1], hz, hw =>
    simp [Value.cells] at hz
    obtain ⟨rfl, rfl⟩ := hz
    exact ⟨x0, x1, rfl, hw _ (by simp), hw _ (by simp)⟩
end
end Go.Proofs.YtiglbofbacecpaaDoor.stFraction
