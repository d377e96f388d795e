/- Rows side by side: slices that share no block. -/
import Derived.Test.YtopbeacfljoacaaOwn
import Derived.Test.YtopbeacfljoacaaBase
namespace Go.Proofs.Ytopbeacfljoacaa.apart
open Go.RowKit Go.Proofs.Ytopbeacfljoacaa.kit Go.Proofs.Ytopbeacfljoacaa.lawi Go.Proofs.Ytopbeacfljoacaa.own Go.Proofs.Ytopbeacfljoacaa.rain Go.Proofs.Ytopbeacfljoacaa.yrl
/-- Two slices that share no block. -/
def Ap (u v : Value) : Prop := ∀ b, u.ownBlock = some b → v.ownBlock ≠ some b
theorem Ap.symm {u v : Value} (h : Ap u v) : Ap v u := fun b hv hu => h b hu hv
theorem Ap.ne {u v : Value} (h : Ap u v) : v.ownBlock = none ∨ v.ownBlock ≠ u.ownBlock := by
  cases e : u.ownBlock with
  | none => cases v.ownBlock <;> simp
  | some b => exact .inr (h b e)
/-- A slice that lies where another lay, or in new memory, shares no more blocks than that one. -/
theorem Ap.lies {u u' v : Value} {w : World} {base e sz n : Nat} {xs : List Value} (h : Ap u v) (hv : w.ownsRow base e sz v n xs) (hl : ∀ b, u'.ownBlock = some b → u.ownBlock = some b ∨ w.heap.size ≤ b) : Ap u' v := fun b hb hvb => by
  rcases hl b hb with h1 | h1
  · exact h b h1 hvb
  · have := (hv.lt b hvb).2
    omega
/-- A box of another type is no row's block. -/
theorem blk_row {w : World} {g : Nat} {t e : TypeId} {cs : Array Value} {base sz n : Nat} {v : Value} {xs : List Value} (h : Blk w g t cs) (ho : w.ownsRow base e sz v n xs) (ht : t ≠ e) : v.ownBlock ≠ some g := by
  have h : w.heap[g]? = some (.cells cs t (0, 0)) := h
  rcases ho.2 with ⟨rfl, _⟩ | ⟨b, cp, cur, rfl, _, hh, _⟩
  · simp [Value.ownBlock]
  · intro e
    simp [Value.ownBlock] at e
    subst e
    rw [hh] at h
    cases h
    exact ht rfl
/-- 'append(out, z)', and where the row then lies. -/
theorem app1L (wr : World) {T : TypeId} {ops : Array Oper} {rest : List Oper} {o : Oper} {a : Act} {Q : Exit → Act → World → Prop} (hgd : o.guard = none) (s x : Operand)
    (ho : o.op = .call { callee := .builtin .append, args := #[s, x], argTypes := #[27, 27] })
    (base : Nat) {v : Value} {n : Nat} {zs : List Int} (z : Int) (hown : wr.ownsRow base 3 1 v n (zs.map (Value.int .i64))) (hs : a.eval s = v) (H : Nat) (hH : wr.heap.size = H)
    (hx : a.eval x = .slice (some ⟨H, 0, none⟩) 1 1) (hn : n ≤ 1000000000000) (hb : base ≤ wr.heap.size)
    (h : ∀ v' w1, w1.ownsRow base 3 1 v' (n + 1) ((zs ++ [z]).map (Value.int .i64)) → wr.grownBy w1 v.ownBlock → (∀ b, v'.ownBlock = some b → v.ownBlock = some b ∨ wr.heap.size ≤ b) → wpList Try.prog ops Q rest (a.put o.dst v') w1) :
    wpList Try.prog ops Q (o :: rest) a (wr.alloc (.cells #[.int .i64 z] T)) := by
  subst hH
  obtain ⟨i0, hi, hz0, hz1, hz2⟩ := info_parts infoI
  refine wpList_append_lies _ hgd s x 27 ho base 3 i0 (.int .i64 0) 1 8 Try.underlying27 hi hz0 hz1 hz2 rfl (by decide) v n (zs.map (Value.int .i64)) hs (hown.alloc _) ⟨wr.heap.size, 0, none⟩ 1 1 [.int .i64 z] hx rfl
    (World.news_of_block (heap_alloc_new wr _)) (by simp [Value.oneCell']) (by decide) (by unfold maxLen; omega) (by omega) (by simp; omega) _ rfl ?_
  intro g cap w1 hown1 hg hl _
  refine h _ w1 (by simpa using hown1) (grown_trans (World.grownBy_alloc wr _ _) hg) fun b hb => ?_
  have hb : g = b := by simpa [Value.ownBlock] using hb
  subst hb
  rcases hl with hl | hl
  · exact .inl hl
  · exact .inr (by rw [hl]; simp)
theorem rwset (f : Nat → Int) {n j : Nat} (x : Int) : (rw_ f n).set j x = rw_ (fun v => if v = j then x else f v) n := by
  unfold rw_
  refine List.ext_getElem (by simp) fun i h1 h2 => ?_
  simp only [List.getElem_set, List.getElem_map, List.getElem_range]
  by_cases e : j = i
  · subst e; simp
  · rw [if_neg e, if_neg (fun h => e h.symm)]
theorem rwcongr {f g : Nat → Int} {n : Nat} (h : ∀ v, v < n → f v = g v) : rw_ f n = rw_ g n := by
  refine List.ext_getElem (by simp [rw_]) fun i h1 h2 => ?_
  simp only [rw_, List.getElem_map, List.getElem_range]
  exact h i (by simpa [rw_] using h1)
theorem ivset (xs : List Int) (j : Nat) (x : Int) : (IV xs).set j (.int .i64 x) = IV (xs.set j x) := (List.map_set ..).symm
/-- Two rows of ints that the call made, in blocks of their own. -/
structure D2 (w wr : World) (vo : Value) (no : Nat) (xo : List Int) (vr : Value) (nr : Nat) (xr : List Int) : Prop where
  o : wr.ownsRow w.heap.size 3 1 vo no (IV xo)
  r : wr.ownsRow w.heap.size 3 1 vr nr (IV xr)
  ap : Ap vo vr
  bl : Below w.heap.size w wr
section
variable {w wr wr' : World} {vo vr : Value} {no nr : Nat} {xo xr : List Int}
theorem D2.keep (h : D2 w wr vo no xo vr nr xr) (hb : Below wr.heap.size wr wr') : D2 w wr' vo no xo vr nr xr :=
  ⟨own_below h.o hb, own_below h.r hb, h.ap, h.bl.trans (hb.mono h.bl.size)⟩
theorem D2.growO (h : D2 w wr vo no xo vr nr xr) {v' : Value} {n' : Nat} {x' : List Int} (ho : wr'.ownsRow w.heap.size 3 1 v' n' (IV x')) (hg : wr.grownBy wr' vo.ownBlock) (hl : ∀ b, v'.ownBlock = some b → vo.ownBlock = some b ∨ wr.heap.size ≤ b) : D2 w wr' v' n' x' vr nr xr :=
  ⟨ho, h.r.kept hg h.ap.ne, h.ap.lies h.r hl, h.bl.grown hg h.bl.size (fun j hj => (h.o.lt j hj).1)⟩
theorem D2.growR (h : D2 w wr vo no xo vr nr xr) {v' : Value} {n' : Nat} {x' : List Int} (ho : wr'.ownsRow w.heap.size 3 1 v' n' (IV x')) (hg : wr.grownBy wr' vr.ownBlock) (hl : ∀ b, v'.ownBlock = some b → vr.ownBlock = some b ∨ wr.heap.size ≤ b) : D2 w wr' vo no xo v' n' x' :=
  ⟨h.o.kept hg h.ap.symm.ne, ho, (h.ap.symm.lies h.o hl).symm, h.bl.grown hg h.bl.size (fun j hj => (h.r.lt j hj).1)⟩
theorem D2.setO (h : D2 w wr vo no xo vr nr xr) {g : Nat} (hg : vo.ownBlock = some g) (j : Nat) (x : Int) : D2 w (wr.setCell ⟨g, j, none⟩ (.int .i64 x)) vo no (xo.set j x) vr nr xr := by
  have ho := own_set h.o hg j (.int .i64 x)
  rw [ivset] at ho
  have hgr := grown_setCell (grown_refl wr (some g)) j none (.int .i64 x)
  exact ⟨ho, h.r.kept hgr (hg ▸ h.ap.ne), h.ap, h.bl.setCell (h.o.lt g hg).1 _⟩
theorem D2.setR (h : D2 w wr vo no xo vr nr xr) {g : Nat} (hg : vr.ownBlock = some g) (j : Nat) (x : Int) : D2 w (wr.setCell ⟨g, j, none⟩ (.int .i64 x)) vo no xo vr nr (xr.set j x) := by
  have ho := own_set h.r hg j (.int .i64 x)
  rw [ivset] at ho
  have hgr := grown_setCell (grown_refl wr (some g)) j none (.int .i64 x)
  exact ⟨h.o.kept hgr (hg ▸ h.ap.symm.ne), ho, h.ap, h.bl.setCell (h.r.lt g hg).1 _⟩
end
end Go.Proofs.Ytopbeacfljoacaa.apart
