/- The laws' own helpers on Chain: copied, found equal, marked, found again. -/
import Derived.Test.YtmffhogefchpbaaStCistern
import Derived.Handy
namespace Go.Proofs.Ytmffhogefchpbaa.stChain
open Go.RowKit Go.Proofs.Ytmffhogefchpbaa.kit Go.Proofs.Ytmffhogefchpbaa.lawi Go.Proofs.Ytmffhogefchpbaa.own
abbrev R (v0 v1 : Value) : Value := .agg #[v0, v1]
abbrev TL : TypeId := 43
abbrev TI : TypeId := 27
/-- A new struct, its slices rows of the call's own. -/
def Got (w : World) (n0 : Nat) (zs0 : List Int) (n1 : Nat) (zs1 : List Int) (K : Value → Value) (en : Ending) (w' : World) : Prop :=
  ∃ u0 u1 lo0 hi0 lo1 hi1, en = .returned (K (R u0 u1)) ∧ (OwnR w' lo0 hi0 36 2 u0 n0 (zs0.map (Value.int .i64)) ∧ w.heap.size ≤ lo0) ∧ (OwnR w' lo1 hi1 3 1 u1 n1 (zs1.map (Value.int .i64)) ∧ w.heap.size ≤ lo1) ∧
    (hi0 ≤ lo1 ∨ hi1 ≤ lo0) ∧ Below w.heap.size w w'
theorem got_of {w w2 W : World} {n0 n1 : Nat} {zs0 zs1 : List Int} {K : Value → Value} {u0 u1 : Value} {lo0 hi0 lo1 hi1 : Nat} (lo hi : Nat) (h0 : OwnR w2 lo0 hi0 36 2 u0 n0 (zs0.map (Value.int .i64))) (h1 : OwnR w2 lo1 hi1 3 1 u1 n1 (zs1.map (Value.int .i64)))
    (hc : Chg lo hi w2 W) (d0 : hi0 ≤ lo ∨ hi ≤ lo0) (d1 : hi1 ≤ lo ∨ hi ≤ lo1) (l0 : w.heap.size ≤ lo0) (l1 : w.heap.size ≤ lo1) (l2 : w.heap.size ≤ lo) (hd : hi0 ≤ lo1 ∨ hi1 ≤ lo0) (hb : Below w.heap.size w w2) :
    Got w n0 zs0 n1 zs1 K (.returned (K (R u0 u1))) W :=
  ⟨u0, u1, lo0, hi0, lo1, hi1, rfl, ⟨h0.chg hc d0, l0⟩, ⟨h1.chg hc d1, l1⟩, hd, hb.trans (hc.below hb.size l2)⟩
theorem to_got (w : World) (v0 : Value) (n0 : Nat) (zs0 : List Int) (hn0 : n0 ≤ 1048576) (h0 : Row 2 w v0 n0 (zs0.map (Value.int .i64))) (v1 : Value) (n1 : Nat) (zs1 : List Int) (hn1 : n1 ≤ 1048576) (h1 : Row 1 w v1 n1 (zs1.map (Value.int .i64))) :
    Calls Try.prog 23 #[R v0 v1] w (Got w n0 zs0 n1 zs1 id) := by
  obtain ⟨a0, c0, rfl⟩ := h0.shape
  obtain ⟨a1, c1, rfl⟩ := h1.shape
  have hA : Below w.heap.size w (((w.alloc (.cells #[.slice a0 n0 c0, .slice a1 n1 c1] TL)).alloc (.cells #[.slice none 0 0, .slice none 0 0] TI)).alloc (.cells #[.slice none 0 0, .slice none 0 0] TI)) := below_al (below_al (below_al (Below.refl _ _) _) _) _
  have hr0 := h0.keep hA
  have H1 := Lib.hid h1
  have HA := Lib.hid hA
  clear h0 h1 hA
  go_enter Try.func23, Try.ntmps23
  go_wp2_with fail
  refine (stCistern.toS_got _ _ n0 zs0 hn0 hr0).mono ?_; rintro e w1 ⟨u0, rfl, ho0, hb⟩
  have X0 : Blk w1 w.heap.size TL #[.slice a0 n0 c0, .slice a1 n1 c1] := (((Blk.new w TL _).alloc _).alloc _).step hb
  have XR : Blk w1 (w.heap.size + 1) TI #[.slice none 0 0, .slice none 0 0] := ((Blk.new1 w TI #[.slice none 0 0, .slice none 0 0] _).alloc _).step hb
  have X2 : Blk w1 (w.heap.size + 2) TI #[.slice none 0 0, .slice none 0 0] := (by
    have := Blk.new1 (w.alloc (.cells #[.slice a0 n0 c0, .slice a1 n1 c1] TL)) TI #[.slice none 0 0, .slice none 0 0] (.cells #[.slice none 0 0, .slice none 0 0] TI)
    simpa using this : Blk _ (w.heap.size + 2) TI #[.slice none 0 0, .slice none 0 0]).step hb
  obtain ⟨a2, c2, rfl⟩ := own_shape ho0
  have O0 := OwnR.of_own ho0
  have zs := hb.size
  have zl : (((w.alloc (.cells #[.slice a0 n0 c0, .slice a1 n1 c1] TL)).alloc (.cells #[.slice none 0 0, .slice none 0 0] TI)).alloc (.cells #[.slice none 0 0, .slice none 0 0] TI)).heap.size = w.heap.size + 3 := by simp
  rw [zl] at O0 zs
  have B := below_step HA.out hb
  have hr1 : Row 1 (w1.setCell ⟨w.heap.size + 2, 0, none⟩ (.slice a2 n0 c2)) (.slice a1 n1 c1) n1 (zs1.map (Value.int .i64)) := H1.out.keep (B.setCell (by show w.heap.size ≤ w.heap.size + 2; omega) _)
  have q0 : w1.cell? ⟨w.heap.size + 2, 0, none⟩ = some (.slice none 0 0) := X2.cell 0
  have q1 : w1.frozen? ⟨w.heap.size + 2, 0, none⟩ = false := X2.frozen 0
  have q2 : (w1.setCell ⟨w.heap.size + 2, 0, none⟩ (.slice a2 n0 c2)).cell? ⟨w.heap.size, 1, none⟩ = some (.slice a1 n1 c1) := (X0.far (p := ⟨w.heap.size + 2, 0, none⟩) (by simp) _).cell 1
  clear hr0 hb ho0 H1 HA
  go_wp2_with fail
  refine (toInt_got _ _ n1 zs1 hn1 hr1).mono ?_; rintro e w2 ⟨u1, rfl, ho1, hb2⟩
  obtain ⟨a3, c3, rfl⟩ := own_shape ho1
  have O1 := OwnR.of_own ho1
  have zs2 := hb2.size
  have sz1 : (w1.setCell ⟨w.heap.size + 2, 0, none⟩ (.slice a2 n0 c2)).heap.size = w1.heap.size := by simp
  rw [sz1] at O1 zs2
  have X2' : Blk w2 (w.heap.size + 2) TI #[.slice a2 n0 c2, .slice none 0 0] := (X2.set_ 0 (.slice a2 n0 c2)).step hb2
  have XR' : Blk w2 (w.heap.size + 1) TI #[.slice none 0 0, .slice none 0 0] := (XR.far (p := ⟨w.heap.size + 2, 0, none⟩) (by show w.heap.size + 1 ≠ w.heap.size + 2; omega) _).step hb2
  have P0 : OwnR w2 (w.heap.size + 3) w1.heap.size 36 2 (.slice a2 n0 c2) n0 (zs0.map (Value.int .i64)) :=
    (O0.chg (Chg.of_grown (lo := w.heap.size + 2) (hi := w.heap.size + 3) (grown_setCell (grown_refl w1 (some (w.heap.size + 2))) 0 none (.slice a2 n0 c2)) (fun b hb => by cases hb; omega)) (.inr (Nat.le_refl _))).keep hb2
  have B2 : Below w.heap.size w w2 := below_step (B.setCell (show w.heap.size ≤ w.heap.size + 2 by omega) _) hb2
  have r0 : w2.cell? ⟨w.heap.size + 2, 0, none⟩ = some (.slice a2 n0 c2) := X2'.cell 0
  have r1 : w2.cell? ⟨w.heap.size + 2, 1, none⟩ = some (.slice none 0 0) := X2'.cell 1
  have r2 : w2.frozen? ⟨w.heap.size + 2, 1, none⟩ = false := X2'.frozen 1
  have r3 : w2.cell? ⟨w.heap.size + 1, 0, none⟩ = some (.slice none 0 0) := XR'.cell 0
  have r4 : w2.cell? ⟨w.heap.size + 1, 1, none⟩ = some (.slice none 0 0) := XR'.cell 1
  have r5 : w2.frozen? ⟨w.heap.size + 1, 0, none⟩ = false := XR'.frozen 0
  have r6 : w2.frozen? ⟨w.heap.size + 1, 1, none⟩ = false := XR'.frozen 1
  clear hr1 q0 q1 q2 X0 X2 XR O0 ho1 hb2 B
  go_wp2
  refine bodyPost_ret (v := R (.slice a2 n0 c2) (.slice a3 n1 c3)) (by simp [*, results, Try.results23, go_sem]) rfl (got_of (K := id) (w.heap.size + 1) (w.heap.size + 3) P0 O1 ?_ (.inr (Nat.le_refl _)) (.inr zs) (by omega) (by omega) (by omega) (.inl (Nat.le_refl _)) B2)
  repeat (refine Chg.trans ?_ (Chg.set _ _ _ (by omega) (by omega)))
  exact Chg.refl
theorem sz_yes (w : World) (a0 : Option Addr) (n0 c0 : Nat) (a1 : Option Addr) (n1 c1 : Nat) (L : Int) (h1 : n0 + n1 ≤ L) (h2 : L ≤ 1048576) :
    Calls Try.prog 21 #[R (.slice a0 n0 c0) (.slice a1 n1 c1), .int .i64 L] w (Gives w (.int .i64 (L - n0 - n1))) := by
  go_enter Try.func21, Try.ntmps21
  go_wp2_with fail
  refine (stCistern.szS_yes _ _ n0 c0 _ (by omega) (by omega)).mono ?_; rintro e w1 ⟨rfl, rfl⟩
  go_wp2_with fail
  refine (szIntS_yes _ _ n1 c1 _ (by omega) (by omega)).mono ?_; rintro e w1 ⟨rfl, rfl⟩
  go_wp2
  go_ret
  exact ⟨rfl, below_al (Below.refl _ _) _⟩
theorem sz_no (w : World) (a0 : Option Addr) (n0 c0 : Nat) (a1 : Option Addr) (n1 c1 : Nat) (L : Int) (h1 : L < n0 + n1) (h2 : 0 ≤ L) (h3 : L ≤ 1048576) (m0 : n0 ≤ 9223372036854775807) (m1 : n1 ≤ 9223372036854775807) :
    Calls Try.prog 21 #[R (.slice a0 n0 c0) (.slice a1 n1 c1), .int .i64 L] w (Gives w (.int .i64 (-1))) := by
  by_cases h : L < n0
  · go_enter Try.func21, Try.ntmps21
    go_wp2_with fail
    refine (stCistern.szS_no _ _ n0 c0 _ h h2 m0).mono ?_; rintro e w1 ⟨rfl, rfl⟩
    go_wp2
    go_ret
    exact ⟨rfl, below_al (Below.refl _ _) _⟩
  · go_enter Try.func21, Try.ntmps21
    go_wp2_with fail
    refine (stCistern.szS_yes _ _ n0 c0 _ (by omega) (by omega)).mono ?_; rintro e w1 ⟨rfl, rfl⟩
    go_wp2_with fail
    refine (szIntS_no _ _ n1 c1 _ (by omega) (by omega) m1).mono ?_; rintro e w1 ⟨rfl, rfl⟩
    go_wp2
    go_ret
    exact ⟨rfl, below_al (Below.refl _ _) _⟩
theorem blk2 {w : World} {g : Nat} {t : TypeId} {a b : Value} (h : Blk w g t #[a, b]) : w.cell? ⟨g, 0, none⟩ = some a ∧ w.cell? ⟨g, 1, none⟩ = some b ∧ w.frozen? ⟨g, 0, none⟩ = false ∧ w.frozen? ⟨g, 1, none⟩ = false := ⟨h.cell 0, h.cell 1, h.frozen 0, h.frozen 1⟩
theorem eq_yes (w : World) (va0 va1 vb0 vb1 : Value) (n0 : Nat) (zs0 : List Int) (hn0 : n0 ≤ 1048576) (ha0 : Row 2 w va0 n0 (zs0.map (Value.int .i64))) (hb0 : Row 2 w vb0 n0 (zs0.map (Value.int .i64)))
    (n1 : Nat) (zs1 : List Int) (hn1 : n1 ≤ 1048576) (ha1 : Row 1 w va1 n1 (zs1.map (Value.int .i64))) (hb1 : Row 1 w vb1 n1 (zs1.map (Value.int .i64))) :
    Calls Try.prog 24 #[R va0 va1, R vb0 vb1] w (Gives w (.bool true)) := by
  obtain ⟨a0, c0, rfl⟩ := ha0.shape
  obtain ⟨a1, c1, rfl⟩ := ha1.shape
  obtain ⟨b0, d0, rfl⟩ := hb0.shape
  obtain ⟨b1, d1, rfl⟩ := hb1.shape
  have B0 : Below w.heap.size w ((w.alloc (.cells #[.slice a0 n0 c0, .slice a1 n1 c1] TI)).alloc (.cells #[.slice b0 n0 d0, .slice b1 n1 d1] TI)) := below_al (below_al (Below.refl _ _) _) _
  have X := Lib.hid (ha0.keep B0)
  have Y := Lib.hid (hb0.keep B0)
  have X1 := Lib.hid ha1
  have Y1 := Lib.hid hb1
  have HB := Lib.hid B0
  clear ha0 hb0 ha1 hb1 B0
  go_enter Try.func24, Try.ntmps24
  go_wp2_with fail
  refine (stCistern.eqS_yes _ _ _ n0 zs0 hn0 X.out Y.out).mono ?_; rintro e w1 ⟨rfl, hb⟩
  have Z0 := ((Blk.new w TI #[.slice a0 n0 c0, .slice a1 n1 c1]).alloc (.cells #[.slice b0 n0 d0, .slice b1 n1 d1] TI)).step hb
  have Z1 := (Blk.new1 w TI #[.slice b0 n0 d0, .slice b1 n1 d1] (.cells #[.slice a0 n0 c0, .slice a1 n1 c1] TI)).step hb
  obtain ⟨_, q0, _⟩ := blk2 Z0
  obtain ⟨_, q1, _⟩ := blk2 Z1
  have B := below_step HB.out hb
  have hx := X1.out.keep B
  have hy := Y1.out.keep B
  have HB1 := Lib.hid B
  clear X Y X1 Y1 HB hb Z0 Z1 B
  go_wp2_with fail
  refine (eqInt_gives _ _ _ n1 zs1 hn1 hx hy).mono ?_; rintro e w2 ⟨rfl, hb⟩
  go_wp2
  go_ret
  exact ⟨rfl, below_step HB1.out hb⟩
set_option maxHeartbeats 1000000 in
theorem mark_own (w : World) (k : Nat) (K : Int) (hK : K = k) (lo0 hi0 : Nat) (v0 : Value) (n0 : Nat) (xs0 : List Value) (h0 : OwnR w lo0 hi0 36 2 v0 n0 xs0)
    (lo1 hi1 : Nat) (v1 : Value) (n1 : Nat) (xs1 : List Value) (h1 : OwnR w lo1 hi1 3 1 v1 n1 xs1) (hd : hi0 ≤ lo1 ∨ hi1 ≤ lo0) (hk : k + n0 * 2 + n1 ≤ 4611686018427387904) :
    Calls Try.prog 26 #[R v0 v1, .int .i64 K] w fun en w' => en = .returned (.int .i64 (K + (n0 * 2 : Nat) + n1)) ∧ OwnR w' lo0 hi0 36 2 v0 n0 (marks k (n0 * 2)) ∧ OwnR w' lo1 hi1 3 1 v1 n1 (marks (k + n0 * 2) n1) ∧ ∃ wm, Chg lo0 hi0 w wm ∧ Chg lo1 hi1 wm w' := by
  subst hK
  have HK : Hid (k + n0 * 2 + n1 ≤ 4611686018427387904) := hk
  have HD : Hid (hi0 ≤ lo1 ∨ hi1 ≤ lo0) := hd
  clear hk hd
  obtain ⟨a0, c0, rfl⟩ := own_shape h0.own
  obtain ⟨a1, c1, rfl⟩ := own_shape h1.own
  have B0 : Below w.heap.size w (w.alloc (.cells #[.slice a0 n0 c0, .slice a1 n1 c1] TI)) := below_al (Below.refl _ _) _
  have X0 := Lib.hid (h0.keep B0)
  have X1 := Lib.hid (h1.keep B0)
  have zh0 := h0.2.2
  have HB := Lib.hid B0
  clear h0 h1 B0
  go_enter Try.func26, Try.ntmps26
  go_wp2_with fail
  refine (stCistern.markS_own _ _ _ _ n0 _ k _ rfl (by have := HK.out; omega) X0.out).mono ?_; rintro e w1 ⟨rfl, om, ch⟩
  have hsz := ch.size
  have h00 : (w.alloc (.cells #[.slice a0 n0 c0, .slice a1 n1 c1] TI)).heap.size = w.heap.size + 1 := by simp
  have Z0 : Blk w1 w.heap.size TI #[.slice a0 n0 c0, .slice a1 n1 c1] := (Blk.new w TI #[.slice a0 n0 c0, .slice a1 n1 c1]).same (ch.2.2.2.2 _ (by omega) (.inr zh0))
  obtain ⟨_, q1, _⟩ := blk2 Z0
  have Y1 := X1.out.chg ch (by have := HD.out; omega)
  clear X1 X0 Z0
  have CH := Lib.hid ch
  have OM := Lib.hid om
  clear ch hsz h00 om
  go_wp2_with fail
  refine (markInt_own _ _ _ _ n1 _ (k + n0 * 2) _ (by omega) (by have := HK.out; omega) Y1).mono ?_; rintro e w2 ⟨rfl, om1, ch1⟩
  go_wp2
  go_ret
  exact ⟨rfl, OM.out.chg ch1 (by have := HD.out; omega), om1, w1, (Chg.of_below HB.out).trans CH.out, ch1⟩
set_option maxHeartbeats 1000000 in
theorem held_gives (w : World) (k : Nat) (K : Int) (hK : K = k) (v0 : Value) (n0 : Nat) (h0 : Row 2 w v0 n0 (marks k (n0 * 2))) (v1 : Value) (n1 : Nat) (h1 : Row 1 w v1 n1 (marks (k + n0 * 2) n1)) (hk : k + n0 * 2 + n1 ≤ 4611686018427387904) :
    Calls Try.prog 27 #[R v0 v1, .int .i64 K] w (Gives w (.int .i64 (K + (n0 * 2 : Nat) + n1))) := by
  subst hK
  have HK : Hid (k + n0 * 2 + n1 ≤ 4611686018427387904) := hk
  clear hk
  obtain ⟨a0, c0, rfl⟩ := h0.shape
  obtain ⟨a1, c1, rfl⟩ := h1.shape
  have B0 : Below w.heap.size w (w.alloc (.cells #[.slice a0 n0 c0, .slice a1 n1 c1] TI)) := below_al (Below.refl _ _) _
  have X0 := Lib.hid (h0.keep B0)
  have X1 := Lib.hid h1
  have HB := Lib.hid B0
  clear h0 h1 B0
  go_enter Try.func27, Try.ntmps27
  go_wp2_with fail
  refine (stCistern.heldS_gives _ _ n0 k _ rfl (by have := HK.out; omega) X0.out).mono ?_; rintro e w1 ⟨rfl, hb⟩
  have Z0 := (Blk.new w TI #[.slice a0 n0 c0, .slice a1 n1 c1]).step hb
  obtain ⟨_, q1, _⟩ := blk2 Z0
  have B := below_step HB.out hb
  have Y1 := X1.out.keep B
  have HB1 := Lib.hid B
  clear X1 X0 Z0 HB B
  have z0 : ¬ (k : Int) + (n0 * 2 : Nat) < 0 := by omega
  have z1 : ¬ (k : Int) + (n0 * 2 : Nat) + (n1 : Int) < 0 := by omega
  go_wp2_with fail
  refine (heldInt_gives _ _ n1 (k + n0 * 2) _ (by omega) (by have := HK.out; omega) Y1).mono ?_; rintro e w2 ⟨rfl, hb2⟩
  go_wp2
  go_ret
  exact ⟨rfl, below_step HB1.out hb2⟩
section
open Go.ChangeShapes Go.WideShapes Go.Deep Go.Proofs.Ytmffhogefchpbaa.opens
variable {H : Type} {enc : TypeId × Value → H} {w : World} {base : Nat} {spare : Nat → Bool} {held : Bool}
theorem cells_law : Try.prog.cellsOf 43 = 2 := by kernel_rfl
theorem cells0 : Try.prog.cellsOf 41 = 1 := by kernel_rfl
theorem cells1 : Try.prog.cellsOf 25 = 1 := by kernel_rfl
theorem cells_int : Try.prog.cellsOf 3 = 1 := by kernel_rfl
/-- The struct by value, opened. -/
theorem open_ {r : Reach} {b0 : Nat} {v : Value} {d : DataW H} {p : List MemPlace} (hv : Value.okWide Try.prog w r b0 43 v) (h : DataW.Trod enc Try.prog w base spare held 43 v d p) :
    ∃ (v0 : Value) (n0 : Nat) (zs0 : List Int) (v1 : Value) (n1 : Nat) (zs1 : List Int), v = R v0 v1 ∧ (Row 2 w v0 n0 (zs0.map (Value.int .i64)) ∧ n0 ≤ 9223372036854775807) ∧ (Row 1 w v1 n1 (zs1.map (Value.int .i64)) ∧ n1 ≤ 9223372036854775807) := by
  obtain ⟨cs, rfl, hs⟩ := okWide_struct Try.underlying43 hv
  obtain ⟨fuel, hf⟩ := h
  obtain ⟨xs, n, _, _, hl, hlen, hg⟩ := DataW.trod_struct Try.underlying43 hf
  rw [cells_law] at hs
  obtain ⟨l⟩ := cs
  match l, hs, xs, hlen, hg with
  | [c0, c1], _, [y0, y1], _, hg =>
    have g0 := hg 0 _ rfl
    have g1 := hg 1 _ rfl
    obtain ⟨a0, len0, cap0, zs0, e0, hr0, hm0, _, _⟩ := rows_of Try.underlying41 2 (by decide) stCistern.cells_law stCistern.flat (by simpa [Value.cells, cells0] using g0 : DataW.trod enc Try.prog w base spare held n 41 [c0] = some y0)
    obtain ⟨a1, len1, cap1, zs1, e1, hr1, hm1, _, _⟩ := rows_of Try.underlying25 1 (by decide) cells_int (Flat.int Try.underlying3) (by simpa [Value.cells, cells1] using g1 : DataW.trod enc Try.prog w base spare held n 25 [c1] = some y1)
    simp at e0 e1
    subst e0 e1
    exact ⟨_, len0, zs0, _, len1, zs1, rfl, ⟨hr0, hm0⟩, ⟨hr1, hm1⟩⟩
end
end Go.Proofs.Ytmffhogefchpbaa.stChain
