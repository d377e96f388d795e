/- Nets of pipes: TurnNet of both sides. -/
import Derived.Test.YtilabfmnaegidaaNetB
import Derived.Test.YtilabfmnaegidaaNetD
namespace Go.Proofs.Ytilabfmnaegidaa.nt
open Go.RowKit Go.Proofs.Ytilabfmnaegidaa.kit Go.Proofs.Ytilabfmnaegidaa.lawi Go.Proofs.Ytilabfmnaegidaa.own Go.Proofs.Ytilabfmnaegidaa.rain Go.Proofs.Ytilabfmnaegidaa.yrl Go.Proofs.Ytilabfmnaegidaa.net Go.Proofs.Ytilabfmnaegidaa.cpy
/-- A net's own box and row, beside the argument's box and the answer's. -/
structure TS (w : World) (P : Int) (va u : Value) (g3 lo hi n : Nat) (ys : List Int) (wr : World) : Prop where
  own : OwnR wr lo hi TP 3 u n (IV ys)
  arg : Blk wr w.heap.size TN #[.int .i64 P, va]
  res : Blk wr (w.heap.size + 1) TN #[.int .i64 0, .slice none 0 0]
  out : Blk wr g3 TN #[.int .i64 P, u]
  bel : Below w.heap.size w wr
section
variable {w wr w' : World} {P : Int} {va u : Value} {g3 lo hi n : Nat} {ys : List Int}
theorem TS.step (h : TS w P va u g3 lo hi n ys wr) (hb : Below wr.heap.size wr w') : TS w P va u g3 lo hi n ys w' :=
  ⟨h.own.keep hb, h.arg.step hb, h.res.step hb, h.out.step hb, below_step h.bel hb⟩
theorem TS.drew (h : TS w P va u g3 lo hi n ys wr) : TS w P va u g3 lo hi n ys wr.drew := h.step (below_dr (Below.refl _ _))
theorem TS.set_ (h : TS w P va u g3 lo hi n ys wr) {g : Nat} (hg : u.ownBlock = some g) (h1 : w.heap.size + 2 ≤ lo) (h2 : hi ≤ g3) (j : Nat) (x : Int) (xs : List Int) (e : ys.set j x = xs) : TS w P va u g3 lo hi n xs (wr.setCell ⟨g, j, none⟩ (.int .i64 x)) := by
  have hb := h.own.2.1 g hg
  have hl := (h.own.1.lt g hg).1
  subst e
  refine ⟨⟨?_, h.own.2.1, by simpa using h.own.2.2⟩, h.arg.far (by show w.heap.size ≠ g; omega) _, h.res.far (by show w.heap.size + 1 ≠ g; omega) _, h.out.far (by show g3 ≠ g; omega) _, h.bel.setCell (by show w.heap.size ≤ g; omega) _⟩
  have := own_set h.own.1 hg j (.int .i64 x)
  rwa [← List.map_set] at this
end
theorem set_same {zs : List Int} {m k : Nat} {f t g : Int} (hl : zs.length = m * 3) (hk : k < m) (hg : pW zs k = g) (ys : List Int) (e : (zs.set (k * 3) t).set (k * 3 + 1) f = ys) : ((zs.set (k * 3) t).set (k * 3 + 1) f).set (k * 3 + 2) g = ys := by
  rw [← e, ← hg]
  refine List.ext_getElem? fun i => ?_
  simp only [List.getElem?_set, List.length_set]
  by_cases h : k * 3 + 2 = i
  · subst h
    simp only [show ¬ k * 3 = k * 3 + 2 by omega, show ¬ k * 3 + 1 = k * 3 + 2 by omega, ↓reduceIte, hl, show k * 3 + 2 < m * 3 by omega]
    unfold pW
    rw [List.getD_eq_getElem?_getD, List.getElem?_eq_getElem (by omega)]
    rfl
  · simp [h]
end Go.Proofs.Ytilabfmnaegidaa.nt
