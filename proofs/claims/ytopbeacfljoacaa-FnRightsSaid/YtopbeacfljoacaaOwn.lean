/- Rows of a call's own, told by the interval of blocks in which they lie; what turns inside an interval alone. -/
import Derived.Test.YtopbeacfljoacaaLawI
namespace Go.Proofs.Ytopbeacfljoacaa.own
open Go.RowKit Go.Proofs.Ytopbeacfljoacaa.kit Go.Proofs.Ytopbeacfljoacaa.lawi
/-- A row that lies in blocks from lo to hi - 1. -/
def OwnR (w : World) (lo hi : Nat) (e : TypeId) (sz : Nat) (v : Value) (n : Nat) (xs : List Value) : Prop :=
  w.ownsRow lo e sz v n xs ∧ (∀ b, v.ownBlock = some b → b < hi) ∧ hi ≤ w.heap.size
/-- Of the blocks that were there, only those from lo to hi - 1 have turned. -/
def Chg (lo hi : Nat) (w w' : World) : Prop :=
  w'.os = w.os ∧ w'.tape = w.tape ∧ w'.output = w.output ∧ w.heap.size ≤ w'.heap.size ∧ ∀ b, b < w.heap.size → (b < lo ∨ hi ≤ b) → w'.heap[b]? = w.heap[b]?
section
variable {w w' : World} {lo hi lo' hi' : Nat} {e : TypeId} {sz : Nat} {v : Value} {n : Nat} {xs ys : List Value}
theorem OwnR.of_own (h : w.ownsRow lo e sz v n xs) : OwnR w lo w.heap.size e sz v n xs := ⟨h, fun b hb => (h.lt b hb).2, Nat.le_refl _⟩
theorem OwnR.own (h : OwnR w lo hi e sz v n xs) : w.ownsRow lo e sz v n xs := h.1
theorem OwnR.row (h : OwnR w lo hi e sz v n xs) : Row sz w v n xs := .of_own h.1
theorem OwnR.keep (h : OwnR w lo hi e sz v n xs) (hb : Below w.heap.size w w') : OwnR w' lo hi e sz v n xs := ⟨own_below h.1 hb, h.2.1, Nat.le_trans h.2.2 hb.size⟩
theorem OwnR.cap (h : OwnR w lo hi e sz v n xs) : Cap v := .own h.1
theorem Chg.of_grown {row : Option Nat} (h : w.grownBy w' row) (hr : ∀ b, row = some b → lo ≤ b ∧ b < hi) : Chg lo hi w w' :=
  ⟨h.os, h.tape, h.output, h.size, fun b hb hd => h.block b hb (fun e => by have := hr b e.symm; omega)⟩
theorem Chg.of_below (h : Below w.heap.size w w') : Chg lo hi w w' := ⟨h.os, h.tape, h.output, h.size, fun b hb _ => h.block b hb⟩
theorem Chg.refl : Chg lo hi w w := ⟨rfl, rfl, rfl, Nat.le_refl _, fun _ _ _ => rfl⟩
theorem Chg.trans {w'' : World} (h : Chg lo hi w w') (g : Chg lo hi w' w'') : Chg lo hi w w'' :=
  ⟨g.1.trans h.1, g.2.1.trans h.2.1, g.2.2.1.trans h.2.2.1, Nat.le_trans h.2.2.2.1 g.2.2.2.1, fun b hb hd => (g.2.2.2.2 b (Nat.lt_of_lt_of_le hb h.2.2.2.1) hd).trans (h.2.2.2.2 b hb hd)⟩
theorem Chg.below {B : Nat} (h : Chg lo hi w w') (hB : B ≤ w.heap.size) (hl : B ≤ lo) : Below B w w' :=
  ⟨h.1, h.2.1, h.2.2.1, h.2.2.2.1, fun b hb => h.2.2.2.2 b (by omega) (.inl (by omega))⟩
theorem Chg.set (b o : Nat) (u : Value) (h1 : lo ≤ b) (h2 : b < hi) : Chg lo hi w (w.setCell ⟨b, o, none⟩ u) := .of_grown (grown_setCell (grown_refl w (some b)) o none u) (fun q hq => by cases hq; exact ⟨h1, h2⟩)
theorem Chg.size (h : Chg lo hi w w') : w.heap.size ≤ w'.heap.size := h.2.2.2.1
theorem OwnR.chg (h : OwnR w lo hi e sz v n xs) (hc : Chg lo' hi' w w') (hd : hi ≤ lo' ∨ hi' ≤ lo) : OwnR w' lo hi e sz v n xs := by
  obtain ⟨⟨h1, h2⟩, h3, h4⟩ := h
  refine ⟨⟨h1, ?_⟩, h3, Nat.le_trans h4 hc.size⟩
  rcases h2 with hn | ⟨g, cap, cur, rfl, hb, hgg, rest⟩
  · exact .inl hn
  · refine .inr ⟨g, cap, cur, rfl, hb, ?_, rest⟩
    have := h3 g rfl
    rw [hc.2.2.2.2 g (Array.getElem?_eq_some_iff.1 hgg).1 (by omega)]
    exact hgg
theorem _root_.Go.Proofs.Ytopbeacfljoacaa.kit.Blk.chg {g : Nat} {t : TypeId} {cs : Array Value} (h : Blk w g t cs) (hc : Chg lo hi w w') (hd : g < lo ∨ hi ≤ g) : Blk w' g t cs := h.same (hc.2.2.2.2 g h.lt hd)
/-- A new row that the call owns, the answer. -/
def GotR (e : TypeId) (sz : Nat) (w : World) (n : Nat) (xs : List Value) (en : Ending) (w' : World) : Prop :=
  ∃ v, en = .returned v ∧ w'.ownsRow w.heap.size e sz v n xs ∧ Below w.heap.size w w'
end
theorem eqInt_gives (w : World) (va vb : Value) (n : Nat) (zs : List Int) (hn : n ≤ 1048576) (ha : Row 1 w va n (zs.map (Value.int .i64))) (hb : Row 1 w vb n (zs.map (Value.int .i64))) :
    Calls Try.prog 25 #[va, vb] w (Gives w (.bool true)) :=
  (eqI_yes w va vb n zs (by omega) ha hb).mono fun _ _ ⟨he, q, hw⟩ => ⟨he, by rw [hw]; exact below_drN (Below.refl _ _) q⟩
/-- Marks laid into an owned row of ints. -/
def MarkR (lo hi : Nat) (e : TypeId) (sz : Nat) (v : Value) (n : Nat) (xs : List Value) (K : Int) (w : World) (en : Ending) (w' : World) : Prop :=
  en = .returned (.int .i64 K) ∧ OwnR w' lo hi e sz v n xs ∧ Chg lo hi w w'
theorem markInt_own (w : World) (lo hi : Nat) (v : Value) (n : Nat) (xs : List Value) (k : Nat) (K : Int) (hK : K = k) (hk : k + n ≤ 4611686018427387904) (h : OwnR w lo hi 3 1 v n xs) :
    Calls Try.prog 27 #[v, .int .i64 K] w (MarkR lo hi 3 1 v n (marks k n) (K + n) w) :=
  (markI_any w lo v n xs k K hK hk h.1).mono fun _ _ ⟨he, ho, hg⟩ => ⟨he, ⟨ho, h.2.1, Nat.le_trans h.2.2 hg.size⟩, .of_grown hg (fun b hb => ⟨(h.1.lt b hb).1, h.2.1 b hb⟩)⟩
theorem heldInt_gives (w : World) (v : Value) (n k : Nat) (K : Int) (hK : K = k) (hk : k + n ≤ 4611686018427387904) (h : Row 1 w v n (marks k n)) :
    Calls Try.prog 28 #[v, .int .i64 K] w (Gives w (.int .i64 (K + n))) :=
  (heldI_yes w v n k K hK hk h).mono fun _ _ ⟨he, hw⟩ => ⟨he, by rw [← hw]; exact Below.refl _ _⟩
end Go.Proofs.Ytopbeacfljoacaa.own
