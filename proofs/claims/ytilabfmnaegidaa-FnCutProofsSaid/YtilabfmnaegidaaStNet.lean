/- The laws' own helpers on Net: copied, found equal, marked, found again (tools/mixgen.py). -/
import Derived.Test.YtilabfmnaegidaaStPipe
import Derived.Test.YtilabfmnaegidaaOpenS
import Derived.Deep.RegionHeld3
import Derived.Handy
namespace Go.Proofs.Ytilabfmnaegidaa.stNet
open Go.RowKit Go.Proofs.Ytilabfmnaegidaa.kit Go.Proofs.Ytilabfmnaegidaa.lawi Go.Proofs.Ytilabfmnaegidaa.own
abbrev R (x0 : Int) (v : Value) : Value := .agg #[.int .i64 x0, v]
abbrev TL : TypeId := 44
abbrev TI : TypeId := 26
/-- A new struct, its slice a row of the call's own. -/
def Got (w : World) (x0 : Int) (n : Nat) (zs : List Int) (K : Value → Value) (en : Ending) (w' : World) : Prop :=
  ∃ u lo hi, en = .returned (K (R x0 u)) ∧ (OwnR w' lo hi 63 3 u n (zs.map (Value.int .i64)) ∧ w.heap.size ≤ lo) ∧ Below w.heap.size w w'
theorem blk_ {w : World} {g : Nat} {t : TypeId} {a0 a1 : Value} (h : Blk w g t #[a0, a1]) : w.cell? ⟨g, 0, none⟩ = some a0 ∧ w.cell? ⟨g, 1, none⟩ = some a1 := ⟨h.cell 0, h.cell 1⟩
theorem fz_ {w : World} {g : Nat} {t : TypeId} {a0 a1 : Value} (h : Blk w g t #[a0, a1]) : w.frozen? ⟨g, 0, none⟩ = false ∧ w.frozen? ⟨g, 1, none⟩ = false := ⟨h.frozen 0, h.frozen 1⟩
set_option maxHeartbeats 1000000 in
theorem to_got (w : World) (x0 : Int) (v : Value) (n : Nat) (zs : List Int) (hn : n ≤ 1048576) (h : Row 3 w v n (zs.map (Value.int .i64))) :
    Calls Try.prog 25 #[R x0 v] w (Got w x0 n zs id) := by
  obtain ⟨a, c, rfl⟩ := h.shape
  have hA : Below w.heap.size w (((w.alloc (.cells #[.int .i64 x0, .slice a n c] TL)).alloc (.cells #[.int .i64 0, .slice none 0 0] TI)).alloc (.cells #[.int .i64 x0, .slice none 0 0] TI)) := below_al (below_al (below_al (Below.refl _ _) _) _) _
  have hr0 := h.keep hA
  have HA := Lib.hid hA
  clear h hA
  go_enter Try.func25, Try.ntmps25
  go_wp2_with fail
  refine (stPipe.toS_got _ _ n zs hn hr0).mono ?_; rintro e w1 ⟨u0, rfl, ho0, hb⟩
  have X0 : Blk w1 w.heap.size TL #[.int .i64 x0, .slice a n c] := (((Blk.new w TL _).alloc _).alloc _).step hb
  have XR : Blk w1 (w.heap.size + 1) TI #[.int .i64 0, .slice none 0 0] := ((Blk.new1 w TI #[.int .i64 0, .slice none 0 0] _).alloc _).step hb
  have X2 : Blk w1 (w.heap.size + 2) TI #[.int .i64 x0, .slice none 0 0] := (by
    have := Blk.new1 (w.alloc (.cells #[.int .i64 x0, .slice a n c] TL)) TI #[.int .i64 x0, .slice none 0 0] (.cells #[.int .i64 0, .slice none 0 0] TI)
    simpa using this : Blk _ (w.heap.size + 2) TI #[.int .i64 x0, .slice none 0 0]).step hb
  obtain ⟨a2, c2, rfl⟩ := own_shape ho0
  have O0 := OwnR.of_own ho0
  have zs := hb.size
  have zl : (((w.alloc (.cells #[.int .i64 x0, .slice a n c] TL)).alloc (.cells #[.int .i64 0, .slice none 0 0] TI)).alloc (.cells #[.int .i64 x0, .slice none 0 0] TI)).heap.size = w.heap.size + 3 := by simp
  rw [zl] at O0 zs
  have B := Lib.hid (below_step HA.out hb)
  have HO := Lib.hid O0
  obtain ⟨p0, p1⟩ := blk_ X0
  obtain ⟨q0, q1⟩ := blk_ XR
  obtain ⟨f0, f1⟩ := fz_ XR
  obtain ⟨r0, r1⟩ := blk_ X2
  obtain ⟨g0, g1⟩ := fz_ X2
  clear hr0 hb ho0 HA X0 XR X2 O0 zl
  go_wp2
  refine bodyPost_ret (v := R x0 (.slice a2 n c2)) (by simp [*, results, Try.results25, go_sem]) rfl ⟨_, _, _, rfl, ⟨HO.out.chg (lo' := w.heap.size + 1) (hi' := w.heap.size + 3) ?_ (.inr (Nat.le_refl _)), by omega⟩, ?_⟩
  · repeat (refine Chg.trans ?_ (Chg.set _ _ _ (by omega) (by omega)))
    exact Chg.refl
  · have hB := B.out
    repeat (refine Below.setCell ?_ (by simp only []; omega) _)
    exact hB
theorem sz_yes (w : World) (x0 : Int) (a : Option Addr) (n c : Nat) (L : Int) (h1 : n ≤ L) (h2 : L ≤ 1048576) :
    Calls Try.prog 23 #[R x0 (.slice a n c), .int .i64 L] w (Gives w (.int .i64 (L - n))) := by
  go_enter Try.func23, Try.ntmps23
  go_wp2_with fail
  refine (stPipe.szS_yes _ _ n c _ h1 h2).mono ?_; rintro e w1 ⟨rfl, rfl⟩
  go_wp2
  go_ret
  exact ⟨rfl, below_al (Below.refl _ _) _⟩
theorem sz_no (w : World) (x0 : Int) (a : Option Addr) (n c : Nat) (L : Int) (h1 : L < n) (h2 : 0 ≤ L) (m : n ≤ 9223372036854775807) :
    Calls Try.prog 23 #[R x0 (.slice a n c), .int .i64 L] w (Gives w (.int .i64 (-1))) := by
  go_enter Try.func23, Try.ntmps23
  go_wp2_with fail
  refine (stPipe.szS_no _ _ n c _ h1 h2 m).mono ?_; rintro e w1 ⟨rfl, rfl⟩
  go_wp2
  go_ret
  exact ⟨rfl, below_al (Below.refl _ _) _⟩
theorem eq_yes (w : World) (x0 : Int) (va vb : Value) (n : Nat) (zs : List Int) (hn : n ≤ 1048576) (ha : Row 3 w va n (zs.map (Value.int .i64))) (hb : Row 3 w vb n (zs.map (Value.int .i64))) :
    Calls Try.prog 26 #[R x0 va, R x0 vb] w (Gives w (.bool true)) := by
  obtain ⟨a, c, rfl⟩ := ha.shape
  obtain ⟨b, d, rfl⟩ := hb.shape
  have B0 : Below w.heap.size w ((w.alloc (.cells #[.int .i64 x0, .slice a n c] TI)).alloc (.cells #[.int .i64 x0, .slice b n d] TI)) := below_al (below_al (Below.refl _ _) _) _
  have X := Lib.hid (ha.keep B0)
  have Y := Lib.hid (hb.keep B0)
  have HB := Lib.hid B0
  clear ha hb B0
  go_enter Try.func26, Try.ntmps26
  go_wp2_with fail
  refine (stPipe.eqS_yes _ _ _ n zs hn X.out Y.out).mono ?_; rintro e w1 ⟨rfl, hb⟩
  have Z0 := ((Blk.new w TI #[.int .i64 x0, .slice a n c]).alloc (.cells #[.int .i64 x0, .slice b n d] TI)).step hb
  have Z1 := (Blk.new1 w TI #[.int .i64 x0, .slice b n d] (.cells #[.int .i64 x0, .slice a n c] TI)).step hb
  obtain ⟨p0, p1⟩ := blk_ Z0
  obtain ⟨q0, q1⟩ := blk_ Z1
  have HB1 := Lib.hid (below_step HB.out hb)
  clear X Y HB hb Z0 Z1
  go_wp2
  go_ret
  exact ⟨rfl, HB1.out⟩
theorem mark_own (w : World) (x0 : Int) (k : Nat) (K : Int) (hK : K = k) (lo hi : Nat) (v : Value) (n : Nat) (xs : List Value) (h : OwnR w lo hi 63 3 v n xs) (hk : k + n * 3 ≤ 4611686018427387904) :
    Calls Try.prog 34 #[R x0 v, .int .i64 K] w fun en w' => en = .returned (.int .i64 (K + (n * 3 : Nat))) ∧ OwnR w' lo hi 63 3 v n (marks k (n * 3)) ∧ Chg lo hi w w' := by
  subst hK
  have HK : Hid (k + n * 3 ≤ 4611686018427387904) := hk
  clear hk
  obtain ⟨a0, c0, rfl⟩ := own_shape h.own
  have B0 : Below w.heap.size w (w.alloc (.cells #[.int .i64 x0, .slice a0 n c0] TI)) := below_al (Below.refl _ _) _
  have X0 := Lib.hid (h.keep B0)
  have HB := Lib.hid B0
  clear h B0
  go_enter Try.func34, Try.ntmps34
  go_wp2_with fail
  refine (stPipe.markS_own _ _ _ _ n _ k _ rfl HK.out X0.out).mono ?_; rintro e w1 ⟨rfl, om, ch⟩
  have CH := Lib.hid ch
  have OM := Lib.hid om
  clear ch om X0
  go_wp2
  go_ret
  exact ⟨rfl, OM.out, (Chg.of_below HB.out).trans CH.out⟩
section
open Go.ChangeShapes Go.WideShapes Go.Deep Go.Proofs.Ytilabfmnaegidaa.opens
variable {H : Type} {enc : TypeId × Value → H} {w : World} {base : Nat} {spare : Nat → Bool} {held : Bool}
theorem cells_law : Try.prog.cellsOf 44 = 2 := by kernel_rfl
theorem cells0 : Try.prog.cellsOf 42 = 1 := by kernel_rfl
theorem cells_int : Try.prog.cellsOf 3 = 1 := by kernel_rfl
/-- The struct by value, opened. -/
theorem open_ {r : Reach} {b0 : Nat} {v : Value} {d : DataW H} {p : List MemPlace} (hv : Value.okWide Try.prog w r b0 44 v) (h : DataW.Trod enc Try.prog w base spare held 44 v d p) :
    ∃ (x0 : Int) (v0 : Value) (n0 : Nat) (zs0 : List Int), v = R x0 v0 ∧ (Row 3 w v0 n0 (zs0.map (Value.int .i64)) ∧ n0 ≤ 9223372036854775807) ∧ (Lit.int .i64 x0).wf = true := by
  obtain ⟨cs, rfl, hs⟩ := okWide_struct Try.underlying44 hv
  obtain ⟨fuel, hf⟩ := h
  obtain ⟨xs, n, _, _, hl, hlen, hg⟩ := DataW.trod_struct Try.underlying44 hf
  rw [cells_law] at hs
  obtain ⟨l⟩ := cs
  match l, hs, xs, hlen, hg with
  | [c0, c1], _, [y0, y1], _, hg =>
    have g0 := hg 0 _ rfl
    have g1 := hg 1 _ rfl
    obtain ⟨z0, e0, _, w0⟩ := DataW.trod_int Try.underlying3 (by simpa [Value.cells, cells_int, cells0] using g0 : DataW.trod enc Try.prog w base spare held n 3 [c0] = some y0)
    obtain ⟨a0, len0, cap0, zs0, e1, hr0, hm0, _, _⟩ := rows_of Try.underlying42 3 (by decide) stPipe.cells_law (stPipe.flat) (by simpa [Value.cells, cells0, cells_int] using g1 : DataW.trod enc Try.prog w base spare held n 42 [c1] = some y1)
    simp at e0 e1
    subst e0 e1
    exact ⟨z0, _, len0, zs0, rfl, ⟨hr0, hm0⟩, w0⟩
end
end Go.Proofs.Ytilabfmnaegidaa.stNet
