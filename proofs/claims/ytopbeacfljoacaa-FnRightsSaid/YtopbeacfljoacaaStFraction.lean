/- The laws' own helpers on Fraction: copied, found equal, marked, found again. -/
import Derived.Test.YtopbeacfljoacaaOwn
import Derived.Test.YtopbeacfljoacaaOpenS
import Derived.Deep.RegionHeld3
import Derived.Laws.MakeOwn
namespace Go.Proofs.Ytopbeacfljoacaa.stFraction
open Go.RowKit Go.Proofs.Ytopbeacfljoacaa.kit Go.Proofs.Ytopbeacfljoacaa.lawi Go.Proofs.Ytopbeacfljoacaa.own
abbrev R (x0 x1 : Int) : Value := .agg #[.int .i64 x0, .int .i64 x1]
theorem info : (Try.prog.info? 30).map (fun i => (i.zero, i.size, i.bytes)) = some (some (.agg #[.int .i64 0, .int .i64 0]), 2, 16) := by kernel_rfl
theorem to_any (w : World) (x0 x1 : Int) : Calls Try.prog 30 #[R x0 x1] w (Gives w (R x0 x1)) := by
  go_enter Try.func30, Try.ntmps30
  go_wp2
  exact bodyPost_ret (v := R x0 x1) (by simp [results, Try.results30, go_sem]) rfl ⟨rfl, below_al (below_al (below_al (Below.refl _ _) _) _) _⟩
theorem made_zero (n : Nat) : (madeCells (R 0 0).cells n).toList = List.replicate n (.int .i64 0) := by
  refine List.ext_getElem (by simp [madeCells]) fun i h1 h2 => ?_
  simp [madeCells, Value.cells]
  have : i % 2 < 2 := Nat.mod_lt _ (by decide)
  generalize i % 2 = r at this ⊢
  match r, this with
  | 0, _ => rfl
  | 1, _ => rfl
theorem eq_yes (w : World) (x0 x1 : Int) : Calls Try.prog 23 #[R x0 x1, R x0 x1] w (Gives w (.bool true)) := by
  go_enter Try.func23, Try.ntmps23
  go_wp2
  go_ret
  exact ⟨rfl, below_al (below_al (Below.refl _ _) _) _⟩
/-- 'append(out, x)' onto a row of them that the call owns: the new element lies in the block that was made last. -/
theorem app (wr : World) {B : TypeId} {ops : Array Oper} {rest : List Oper} {o : Oper} {a : Act} {Q : Exit → Act → World → Prop} (hgd : o.guard = none) (s x : Operand)
    (ho : o.op = .call { callee := .builtin .append, args := #[s, x], argTypes := #[76, 76] })
    (base : Nat) {v : Value} {n : Nat} {zs : List Int} (x0 x1 : Int) (hown : wr.ownsRow base 30 2 v n (zs.map (Value.int .i64))) (hs : a.eval s = v)
    (Hs : Nat) (hH : wr.heap.size = Hs) (hx : a.eval x = .slice (some ⟨Hs, 0, none⟩) 1 1) (hn : n ≤ 1000000000) (hb : base ≤ wr.heap.size)
    (h : ∀ v' w1, w1.ownsRow base 30 2 v' (n + 1) ((zs ++ [x0, x1]).map (Value.int .i64)) → wr.grownBy w1 v.ownBlock → wpList Try.prog ops Q rest (a.put o.dst v') w1) :
    wpList Try.prog ops Q (o :: rest) a (wr.alloc (.cells #[.int .i64 x0, .int .i64 x1] B)) := by
  subst hH
  obtain ⟨i0, hi, hz0, hz1, hz2⟩ := info_parts info
  refine wpList_append_own _ hgd s x 76 ho base 30 i0 (R 0 0) 2 16 Try.underlying76 hi hz0 hz1 hz2 rfl (by decide) v n (zs.map (Value.int .i64)) hs (hown.alloc _) ⟨wr.heap.size, 0, none⟩ 1 1 [.int .i64 x0, .int .i64 x1] hx rfl
    (World.news_of_block (heap_alloc_new wr _)) (by simp [Value.oneCell']) (by unfold maxLen; omega) (by omega) (by simp; omega) ?_
  intro v' w1 hown1 hg _
  exact h v' w1 (by simpa using hown1) (grown_trans (World.grownBy_alloc wr _ _) hg)
theorem appR (W : World) {B : TypeId} {ops : Array Oper} {o : Oper} {a : Act} {K : Act → World → Prop} {Q : Exit → Act → World → Prop} {E : Prop} (hgd : o.guard = none) (s x : Operand)
    (ho : o.op = .call { callee := .builtin .append, args := #[s, x], argTypes := #[76, 76] })
    (base : Nat) {v : Value} {n : Nat} {zs : List Int} (x0 x1 : Int) (hown : W.ownsRow base 30 2 v n (zs.map (Value.int .i64))) (hs : a.eval s = v)
    (Hs : Nat) (hH : W.heap.size = Hs) (hx : a.eval x = .slice (some ⟨Hs, 0, none⟩) 1 1) (hn : n ≤ 1000000000) (hb : base ≤ W.heap.size)
    (h : ∀ v' w1, w1.ownsRow base 30 2 v' (n + 1) ((zs ++ [x0, x1]).map (Value.int .i64)) → W.grownBy w1 v.ownBlock → K (a.put o.dst v') w1) :
    if Region.wanted o (yielded ops a.tmps) = true then Oper.wp Try.prog o a (W.alloc (.cells #[.int .i64 x0, .int .i64 x1] B)) K Q else E := by
  subst hH
  obtain ⟨i0, hi, hz0, hz1, hz2⟩ := info_parts info
  refine step_append_lies _ hgd s x 76 ho base 30 i0 (R 0 0) 2 16 Try.underlying76 hi hz0 hz1 hz2 rfl (by decide) v n (zs.map (Value.int .i64)) hs (hown.alloc _) ⟨W.heap.size, 0, none⟩ 1 1 [.int .i64 x0, .int .i64 x1] hx rfl
    (World.news_of_block (heap_alloc_new W _)) (by simp [Value.oneCell']) (by decide) (by unfold maxLen; omega) (by omega) (by simp; omega) _ rfl ?_
  intro g cap w1 hown1 hg _ _
  exact h _ w1 (by simpa using hown1) (grown_trans (World.grownBy_alloc W _ _) hg)
theorem marks_setT (k i : Nat) (xs : List Value) (T : Int) (hT : T = ((k + i : Nat) : Int)) (h : i < xs.length) : (marks k i ++ xs.drop i).set i (.int .i64 T) = marks k (i + 1) ++ xs.drop (i + 1) := by
  subst hT; exact marks_set k i xs h
section
open Go.ChangeShapes Go.WideShapes Go.Deep Go.Proofs.Ytopbeacfljoacaa.opens
variable {H : Type} {enc : TypeId × Value → H} {w : World} {base : Nat} {spare : Nat → Bool} {held : Bool}
theorem cells_law : Try.prog.cellsOf 50 = 2 := by kernel_rfl
theorem cells_int : Try.prog.cellsOf 3 = 1 := by kernel_rfl
set_option maxRecDepth 100000 in
theorem flat : Flat enc Try.prog w base spare held 50 := by
  refine Flat.struct Try.underlying50 fun q hq => ?_
  rw [cells_law] at hq
  match q, hq with
  | 0, _ => exact ⟨0, _, rfl, Nat.le_refl _, by show 0 < 0 + Try.prog.cellsOf 3; rw [cells_int]; decide, Flat.int Try.underlying3⟩
  | 1, _ => exact ⟨1, _, rfl, Nat.le_refl _, by show 1 < 1 + Try.prog.cellsOf 3; rw [cells_int]; decide, Flat.int Try.underlying3⟩
set_option maxRecDepth 100000 in
/-- The struct by value, opened. -/
theorem open_ {r : Reach} {b0 : Nat} {v : Value} {d : DataW H} {p : List MemPlace} (hv : Value.okWide Try.prog w r b0 50 v) (h : DataW.Trod enc Try.prog w base spare held 50 v d p) :
    ∃ x0 x1 : Int, v = R x0 x1 ∧ (Lit.int .i64 x0).wf = true ∧ (Lit.int .i64 x1).wf = true := by
  obtain ⟨cs, rfl, hs, zs, hz, hw⟩ := agg_of Try.underlying50 flat hv h
  rw [cells_law] at hs
  obtain ⟨l⟩ := cs
  match l, hs, zs, hz, hw with
  | [c0, c1], _, [x0, x1], hz, hw =>
    simp [Value.cells] at hz
    obtain ⟨rfl, rfl⟩ := hz
    exact ⟨x0, x1, rfl, hw _ (by simp), hw _ (by simp)⟩
end
end Go.Proofs.Ytopbeacfljoacaa.stFraction
