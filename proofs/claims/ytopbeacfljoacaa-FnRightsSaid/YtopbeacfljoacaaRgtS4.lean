/- Rights: the specification's SellShare: the memory while it runs. -/
import Derived.Test.YtopbeacfljoacaaRgtS3
import Derived.Test.YtopbeacfljoacaaRgtL3
import Derived.Test.YtopbeacfljoacaaCpy
import Derived.Test.YtopbeacfljoacaaDel
import Derived.Test.YtopbeacfljoacaaTake
namespace Go.Proofs.Ytopbeacfljoacaa.rgt
open Go.RowKit Go.Proofs.Ytopbeacfljoacaa.kit Go.Proofs.Ytopbeacfljoacaa.lawi Go.Proofs.Ytopbeacfljoacaa.own Go.Proofs.Ytopbeacfljoacaa.rain Go.Proofs.Ytopbeacfljoacaa.yrl Go.Proofs.Ytopbeacfljoacaa.frc Go.Proofs.Ytopbeacfljoacaa.stRight Go.Proofs.Ytopbeacfljoacaa.later Go.Proofs.Ytopbeacfljoacaa.apart
/-- 'append(out, x)' onto a row of rights that the call owns, and where the row then lies. -/
theorem appL (wr : World) {B : TypeId} {ops : Array Oper} {rest : List Oper} {o : Oper} {a : Act} {Q : Exit → Act → World → Prop} (hgd : o.guard = none) (s x : Operand)
    (ho : o.op = .call { callee := .builtin .append, args := #[s, x], argTypes := #[24, 24] })
    (base : Nat) {v : Value} {n : Nat} {zs : List Int} (x0 x1 x2 : Int) (hown : wr.ownsRow base TR 3 v n (IV zs)) (hs : a.eval s = v) (H : Nat) (hH : wr.heap.size = H)
    (hx : a.eval x = .slice (some ⟨H, 0, none⟩) 1 1) (hn : n ≤ 1000000000) (hb : base ≤ wr.heap.size)
    (h : ∀ v' w1, (∃ g c, v' = .slice (some ⟨g, 0, none⟩) (n + 1) c) → w1.ownsRow base TR 3 v' (n + 1) (IV (zs ++ [x0, x1, x2])) → wr.grownBy w1 v.ownBlock → (∀ b, v'.ownBlock = some b → v.ownBlock = some b ∨ wr.heap.size ≤ b) → wpList Try.prog ops Q rest (a.put o.dst v') w1) :
    wpList Try.prog ops Q (o :: rest) a (wr.alloc (.cells #[.int .i64 x0, .int .i64 x1, .int .i64 x2] B)) := by
  subst hH
  obtain ⟨i0, hi, hz0, hz1, hz2⟩ := info_parts stRight.info
  refine wpList_append_lies _ hgd s x 24 ho base TR i0 (R 0 0 0) 3 24 Try.underlying24 hi hz0 hz1 hz2 rfl (by decide) v n (IV zs) hs (hown.alloc _) ⟨wr.heap.size, 0, none⟩ 1 1 [.int .i64 x0, .int .i64 x1, .int .i64 x2] hx rfl
    (World.news_of_block (heap_alloc_new wr _)) (by simp [Value.oneCell']) (by decide) (by unfold maxLen; omega) (by omega) (by simp; omega) _ rfl ?_
  intro g cap w1 hown1 hg hl _
  refine h _ w1 ⟨_, _, rfl⟩ (by simpa [IV] using hown1) (grown_trans (World.grownBy_alloc wr _ _) hg) fun b hb => ?_
  have hb : g = b := by simpa [Value.ownBlock] using hb
  subst hb
  rcases hl with hl | hl
  · exact .inl hl
  · exact .inr (by rw [hl]; simp)
theorem row_take {w : World} {b o n ca k : Nat} {zs : List Int} (h : Row 3 w (.slice (some ⟨b, o, none⟩) n ca) n (IV zs)) (hk : k ≤ n) (hn : 0 < n) : Row 3 w (.slice (some ⟨b, o, none⟩) k ca) k (IV (zs.take (k * 3))) := by
  have hl : zs.length = n * 3 := by simpa using h.1
  obtain ⟨b', o', e, hc⟩ := h.at_ hn
  cases e
  refine ⟨by simp [IV]; omega, _, _, rfl, .inr ⟨b, o, rfl, fun j u hu => hc j u ?_⟩⟩
  rw [← hu]
  have hj : j < k * 3 := by
    have := (List.getElem?_eq_some_iff.1 hu).1
    simp [IV] at this
    omega
  unfold IV
  rw [List.map_take, List.getElem?_take_of_lt hj]
theorem row_drop {w : World} {b o n ca c' i : Nat} {zs : List Int} (h : Row 3 w (.slice (some ⟨b, o, none⟩) n ca) n (IV zs)) (hi : i ≤ n) (hn : 0 < n) (A : Addr) (hA : A = ⟨b, o + i * 3, none⟩ ∨ n = i) (hs : A.spot = none) : Row 3 w (.slice (some A) (n - i) c') (n - i) (IV (zs.drop (i * 3))) := by
  have hl : zs.length = n * 3 := by simpa using h.1
  obtain ⟨b', o', e, hc⟩ := h.at_ hn
  cases e
  refine ⟨by simp [IV]; omega, _, _, rfl, ?_⟩
  rcases hA with rfl | hA
  · refine .inr ⟨b, o + i * 3, rfl, fun j u hu => ?_⟩
    have := hc (i * 3 + j) u (by rw [← hu]; unfold IV; rw [List.map_drop, List.getElem?_drop])
    rwa [← Nat.add_assoc] at this
  · exact .inl (by omega)
theorem row_take' {w : World} {base b n ca k : Nat} {zs : List Int} (h : w.ownsRow base TR 3 (.slice (some ⟨b, 0, none⟩) n ca) n (IV zs)) (hk : k ≤ n) : Row 3 w (.slice (some ⟨b, 0, none⟩) k ca) k (IV (zs.take (k * 3))) := by
  by_cases hn : 0 < n
  · exact row_take (Row.of_own h) hk hn
  · obtain rfl : k = 0 := by omega
    exact ⟨by simp [IV], _, _, rfl, .inl rfl⟩
theorem row_drop' {w : World} {base b n ca c' i : Nat} {zs : List Int} (h : w.ownsRow base TR 3 (.slice (some ⟨b, 0, none⟩) n ca) n (IV zs)) (hi : i ≤ n) (A : Addr) (hA : A = ⟨b, 0 + i * 3, none⟩ ∨ n = i) (hs : A.spot = none) : Row 3 w (.slice (some A) (n - i) c') (n - i) (IV (zs.drop (i * 3))) := by
  by_cases hn : 0 < n
  · exact row_drop (Row.of_own h) hi hn A hA hs
  · have hl : zs.length = n * 3 := by simpa using (Row.of_own h).1
    exact ⟨by simp [IV]; omega, _, _, rfl, .inl (by omega)⟩
/-- A row of one right, in a block of its own. -/
theorem row1 {w : World} {g : Nat} {t : TypeId} {x y z : Int} (h : Blk w g t #[.int .i64 x, .int .i64 y, .int .i64 z]) : Row 3 w (.slice (some ⟨g, 0, none⟩) 1 1) 1 (IV [x, y, z]) := by
  refine ⟨rfl, _, _, rfl, .inr ⟨g, 0, rfl, fun j u hu => ?_⟩⟩
  rw [Nat.zero_add, h.cell j, ← hu]
  simp [IV]
theorem own_cap {w : World} {base e sz n : Nat} {a : Option Addr} {c : Nat} {xs : List Value} (h : w.ownsRow base e sz (.slice a n c) n xs) : n ≤ c := by
  rcases h.2 with ⟨e, h2⟩ | ⟨_, cp, _, e, _, _, h2, _⟩
  · omega
  · cases e; exact h2
/-- The memory while a share is sold: the part's box, what is moved, the copy, the new row. -/
structure SW (w wr : World) (vs : Value) (n : Nat) (zs : List Int) (vo : Value) (no : Nat) (xo : List Int) (gm : Nat) (mt mb pt pb : Int) : Prop where
  bp : Blk wr w.heap.size TF #[.int .i64 pt, .int .i64 pb]
  bm : Blk wr gm TF #[.int .i64 mt, .int .i64 mb]
  s : wr.ownsRow w.heap.size TR 3 vs n (IV zs)
  o : wr.ownsRow w.heap.size TR 3 vo no (IV xo)
  ap : Ap vs vo
  lm : w.heap.size < gm
  bl : Below w.heap.size w wr
section
variable {w wr wr' : World} {vs vo : Value} {n no gm : Nat} {zs xo : List Int} {mt mb pt pb : Int}
theorem SW.keep (h : SW w wr vs n zs vo no xo gm mt mb pt pb) (hb : Below wr.heap.size wr wr') : SW w wr' vs n zs vo no xo gm mt mb pt pb :=
  ⟨h.bp.step hb, h.bm.step hb, own_below h.s hb, own_below h.o hb, h.ap, h.lm, h.bl.trans (hb.mono h.bl.size)⟩
theorem blk_ne {W : World} {g base sz m : Nat} {t e : TypeId} {cs : Array Value} {v : Value} {xs : List Value} (h : Blk W g t cs) (ho : W.ownsRow base e sz v m xs) (ht : t ≠ e) : some g ≠ v.ownBlock := fun e => blk_row h ho ht e.symm
theorem SW.growO (h : SW w wr vs n zs vo no xo gm mt mb pt pb) {v' : Value} {n' : Nat} {x' : List Int} (ho : wr'.ownsRow w.heap.size TR 3 v' n' (IV x')) (hg : wr.grownBy wr' vo.ownBlock) (hl : ∀ b, v'.ownBlock = some b → vo.ownBlock = some b ∨ wr.heap.size ≤ b) : SW w wr' vs n zs v' n' x' gm mt mb pt pb :=
  ⟨h.bp.grown hg (blk_ne h.bp h.o (by decide)), h.bm.grown hg (blk_ne h.bm h.o (by decide)), h.s.kept hg h.ap.symm.ne, ho, (h.ap.symm.lies h.s hl).symm, h.lm, h.bl.grown hg h.bl.size (fun j hj => (h.o.lt j hj).1)⟩
theorem SW.setM (h : SW w wr vs n zs vo no xo gm mt mb pt pb) (x y : Int) : SW w ((wr.setCell ⟨gm, 0, none⟩ (.int .i64 x)).setCell ⟨gm, 1, none⟩ (.int .i64 y)) vs n zs vo no xo gm x y pt pb := by
  have hs := grown_trans (grown_setCell (grown_refl wr (some gm)) 0 none (.int .i64 x)) (grown_setCell (grown_refl _ (some gm)) 1 none (.int .i64 y))
  have hlm := h.lm
  exact ⟨h.bp.grown hs (by simp; omega), by simpa using (h.bm.set_ 0 (.int .i64 x)).set_ 1 (.int .i64 y), h.s.kept hs (.inr (blk_row h.bm h.s (by decide))), h.o.kept hs (.inr (blk_row h.bm h.o (by decide))), h.ap, h.lm,
    (h.bl.setCell (by show w.heap.size ≤ gm; omega) _).setCell (by show w.heap.size ≤ gm; omega) _⟩
theorem SW.far (h : SW w wr vs n zs vo no xo gm mt mb pt pb) {g : Nat} (h1 : g ≠ w.heap.size) (h2 : g ≠ gm) (h3 : vs.ownBlock ≠ some g) (h4 : vo.ownBlock ≠ some g) (h5 : w.heap.size ≤ g) (j : Nat) (u : Value) : SW w (wr.setCell ⟨g, j, none⟩ u) vs n zs vo no xo gm mt mb pt pb := by
  have hs := grown_setCell (grown_refl wr (some g)) j none u
  exact ⟨h.bp.grown hs (by simp; omega), h.bm.grown hs (by simp; omega), h.s.kept hs (.inr h3), h.o.kept hs (.inr h4), h.ap, h.lm, h.bl.setCell (by show w.heap.size ≤ g; omega) _⟩
theorem SW.setO (h : SW w wr vs n zs vo no xo gm mt mb pt pb) {g : Nat} (hg : vo.ownBlock = some g) (i : Nat) (x y : Int) : SW w ((wr.setCell ⟨g, i + 1, none⟩ (.int .i64 x)).setCell ⟨g, i + 2, none⟩ (.int .i64 y)) vs n zs vo no ((xo.set (i + 1) x).set (i + 2) y) gm mt mb pt pb := by
  have hs := grown_trans (grown_setCell (grown_refl wr (some g)) (i + 1) none (.int .i64 x)) (grown_setCell (grown_refl _ (some g)) (i + 2) none (.int .i64 y))
  have ho := own_set (own_set h.o hg (i + 1) (.int .i64 x)) hg (i + 2) (.int .i64 y)
  rw [ivset, ivset] at ho
  have hgl := (h.o.lt g hg).1
  exact ⟨h.bp.grown hs (hg ▸ blk_ne h.bp h.o (by decide)), h.bm.grown hs (hg ▸ blk_ne h.bm h.o (by decide)), h.s.kept hs (hg ▸ h.ap.symm.ne), ho, h.ap, h.lm,
    (h.bl.setCell (by show w.heap.size ≤ g; omega) _).setCell (by show w.heap.size ≤ g; omega) _⟩
/-- The new row lies in memory that is new. -/
theorem SW.fresh (h : SW w wr vs n zs vo no xo gm mt mb pt pb) (hb : Below wr.heap.size wr wr') {q n' : Nat} {v' : Value} {x' : List Int} (ho : OwnR wr' q (q + 1) TR 3 v' n' (IV x')) (hq : wr.heap.size ≤ q) : SW w wr' vs n zs v' n' x' gm mt mb pt pb := by
  have hz := h.bl.size
  have h1 := h.keep hb
  exact ⟨h1.bp, h1.bm, h1.s, own_mono ho.1 (by omega), fun b e1 e2 => by
    have := (h.s.lt b e1).2
    have := (ho.1.lt b e2).1
    omega, h1.lm, h1.bl⟩
/-- The same, of a row that lies behind all that was there. -/
theorem SW.fresh2 (h : SW w wr vs n zs vo no xo gm mt mb pt pb) (hb : Below wr.heap.size wr wr') {n' : Nat} {v' : Value} {x' : List Int} (ho : wr'.ownsRow wr.heap.size TR 3 v' n' (IV x')) : SW w wr' vs n zs v' n' x' gm mt mb pt pb := by
  have hz := h.bl.size
  have h1 := h.keep hb
  exact ⟨h1.bp, h1.bm, h1.s, own_mono ho (by omega), fun b e1 e2 => by
    have := (h.s.lt b e1).2
    have := (ho.lt b e2).1
    omega, h1.lm, h1.bl⟩
end
end Go.Proofs.Ytopbeacfljoacaa.rgt
