/- Drawn nets with two of their places. -/
import Derived.Test.YtilabfmnaegidaaNetR
namespace Go.Proofs.Ytilabfmnaegidaa.nt
open Go.RowKit Go.Proofs.Ytilabfmnaegidaa.kit Go.Proofs.Ytilabfmnaegidaa.lawi Go.Proofs.Ytilabfmnaegidaa.own Go.Proofs.Ytilabfmnaegidaa.rain Go.Proofs.Ytilabfmnaegidaa.yrl Go.Proofs.Ytilabfmnaegidaa.net Go.Proofs.Ytilabfmnaegidaa.draw
/-- What is drawn: a net and two places of it. -/
def DrewE (w : World) (e : Ending) (w' : World) : Prop :=
  ∃ (P : Int) (n : Nat) (zs : List Int) (v : Value) (A B : Int), e = .returned (.tuple #[Nv P v, .int .i64 A, .int .i64 B]) ∧ 2 ≤ P ∧ P ≤ 6 ∧ n ≤ 9 ∧ FairN P n zs ∧ (0 ≤ A ∧ A < P) ∧ (0 ≤ B ∧ B < P) ∧ A ≠ B ∧ Row 3 w' v n (IV zs) ∧ Below w.heap.size w w'
/-- The same, and the row of pipes is no longer than it has room. -/
def DrewE2 (w : World) (e : Ending) (w' : World) : Prop :=
  ∃ (P : Int) (n : Nat) (zs : List Int) (v : Value) (A B : Int), e = .returned (.tuple #[Nv P v, .int .i64 A, .int .i64 B]) ∧ 2 ≤ P ∧ P ≤ 6 ∧ n ≤ 9 ∧ FairN P n zs ∧ (0 ≤ A ∧ A < P) ∧ (0 ≤ B ∧ B < P) ∧ A ≠ B ∧ Cap v ∧ Row 3 w' v n (IV zs) ∧ Below w.heap.size w w'
set_option maxHeartbeats 4000000 in
theorem drawEnds2 (w : World) (a : Option Addr) (len cap : Nat) (hb : Bytes w a len) (hl : len ≤ 1048576) (hx : ∀ x, a = some x → 0 < len → x.block < w.heap.size) :
    Calls Try.prog 11 #[.slice a len cap] w (DrewE2 w) := by
  have x0 := Blk.new w TN #[.int .i64 0, .slice none 0 0]
  have hb0 : Below w.heap.size w (w.alloc (.cells #[.int .i64 0, .slice none 0 0] TN)) := below_al (Below.refl _ _) _
  go_enter Try.func11, Try.ntmps11
  go_wp2_with fail
  refine (new_any _ a len cap (hb.grown (World.grownBy_alloc w _ none) (by simp)) hl (fun x e h0 => by have := hx x e h0; simp; omega)).mono ?_; rintro e w1 ⟨c, rfl, hlc, hc1, hg1⟩
  have hb1 : Below w.heap.size w w1 := hb0.grown hg1 hb0.size (by simp)
  have x1 := x0.grown hg1 (by simp)
  have hcw : w.heap.size < c := by simp at hlc; omega
  have hz1 := hb1.size
  have hlt1 := hc1.lt
  have hlo1 := hc1.low
  go_wp2_with fail
  refine (net_any w1 c a len cap hc1).mono ?_; rintro e w2 ⟨P, n, zs, v, rfl, P1, P2, n9, hF, oo, hc2, hg2⟩
  have hb2 : Below w.heap.size w w2 := hb1.grown hg2 hb1.size (by rintro k ⟨⟩; omega)
  have x2 := x1.grown hg2 (by simp; omega)
  have hz2 := hg2.size
  obtain ⟨aI, cI, rfl⟩ := own_shape oo
  have hcA := hc2.above (World.grownBy_alloc w2 (.cells #[.int .i64 P, .slice aI n cI] TN) none) (B := w1.heap.size) (by simp) hlt1 hlo1
  have xg := Blk.new w2 TN #[.int .i64 P, .slice aI n cI]
  have oA := oo.alloc (.cells #[.int .i64 P, .slice aI n cI] TN)
  have xA := x2.alloc (.cells #[.int .i64 P, .slice aI n cI] TN)
  have hbA := below_al hb2 (.cells #[.int .i64 P, .slice aI n cI] TN)
  have hzA : (w2.alloc (.cells #[.int .i64 P, .slice aI n cI] TN)).heap.size = w2.heap.size + 1 := by simp
  have hcg : c < w2.heap.size := by omega
  have hwg : w.heap.size < w2.heap.size := by omega
  have HF := Lib.hid hF
  obtain ⟨g, hg⟩ : ∃ g, w2.heap.size = g := ⟨_, rfl⟩
  rw [hg] at xg hcg hwg
  obtain ⟨p0, p1⟩ := stNet.blk_ xg
  clear x0 x1 hb0 hb1 hc1 hg1 hc2 hg2 hF hb hx x2 hb2 oo hz1 hz2 hlo1 hlc
  go_wp2_with fail
  refine (below_any _ c a len cap P (by omega) hcA).mono ?_; rintro e w3 ⟨A, hA, rfl, hc3, hg3⟩
  obtain ⟨A0, A1⟩ := hA.of (by omega)
  have xg3 := xg.grown hg3 (by simp; omega)
  have x3 := xA.grown hg3 (by simp; omega)
  have o3 := oA.kept hg3 (own_not oA (by omega))
  have b3 := hbA.grown hg3 hbA.size (by rintro k ⟨⟩; omega)
  have hP0 : ¬ P = 0 := by omega
  have hw1 : IntKind.i64.wrap (P - 1) = P - 1 := IntWalk.i64_in _ (by omega)
  have hw2 : IntKind.i64.wrap (A + 1) = A + 1 := IntWalk.i64_in _ (by omega)
  clear p0 p1 hA xA oA hbA hzA hcA xg hg3
  obtain ⟨p0, p1⟩ := stNet.blk_ xg3
  go_wp2
  go_region_held3 (fun W => W.cell? ⟨g, 0, none⟩ = some (.int .i64 P) ∧ W.cell? ⟨g, 1, none⟩ = some (.slice aI n cI)) (first | assumption | exact ⟨p0, p1⟩ | exact ⟨p5, p6⟩ | exact ⟨p8, p9⟩ | fail)
    (first
      | (go_at_call 39; refine (below_any _ c a len cap (P - 1) (by omega) (hc3.drewN 1)).mono ?_; rintro e w5 ⟨y, hy, rfl, hc5, hg5⟩
         have xg5 := xg3.drew.grown hg5 (by simp; omega)
         have x5 := x3.drew.grown hg5 (by simp; omega)
         have o5 : w5.ownsRow w1.heap.size TP 3 (.slice aI n cI) n (IV zs) := World.ownsRow.kept (w := w3.drew) o3 hg5 (own_not o3 (by omega))
         have b5 : Below w.heap.size w w5 := (below_dr b3).grown hg5 b3.size (by rintro k ⟨⟩; omega)
         have xg8 := (xg5.far (p := ⟨w.heap.size, 0, none⟩) (by show g ≠ w.heap.size; omega) (.int .i64 P)).far (p := ⟨w.heap.size, 1, none⟩) (by show g ≠ w.heap.size; omega) (.slice aI n cI)
         have HO := Lib.hid o5
         have HB := Lib.hid b5
         have HX := Lib.hid x5
         obtain ⟨p5, p6⟩ := stNet.blk_ xg5
         obtain ⟨p8, p9⟩ := stNet.blk_ xg8
         obtain ⟨q0, q1⟩ := stNet.blk_ x5
         obtain ⟨f0, f1⟩ := stNet.fz_ x5
         obtain ⟨y0, y1⟩ := hy.of (by omega)
         have hrot := rot A0 A1 y0 y1
         obtain ⟨B, hB⟩ : ∃ B, (A + 1 + y).tmod P = B := ⟨_, rfl⟩
         rw [hB] at hrot
         have hw3 : IntKind.i64.wrap (A + 1 + y) = A + 1 + y := IntWalk.i64_in _ (by omega)
         clear hc5 hg5 hy o5 b5 x5 xg5 xg8)
      | fail)
  all_goals
    rename_i hheld
    clear hheld p0 p1 p5 p6 p8 p9 hw1 hw2 hw3 hB
    go_wp2
    refine bodyPost_ret (v := .tuple #[Nv P (.slice aI n cI), .int .i64 A, .int .i64 B]) (by simp [*, results, Try.results11, go_sem]) rfl ?_
    have hs := grown_trans (grown_setCell (grown_refl w5 (some w.heap.size)) 0 none (.int .i64 P)) (grown_setCell (grown_refl _ (some w.heap.size)) 1 none (.slice aI n cI))
    exact ⟨P, n, zs, _, A, B, rfl, P1, P2, n9, HF.out, ⟨A0, A1⟩, ⟨hrot.1, hrot.2.1⟩, hrot.2.2, .own HO.out, .of_own (HO.out.kept hs (.inr (blk_row HX.out HO.out (by decide)))), (HB.out.setCell (Nat.le_refl _) _).setCell (Nat.le_refl _) _⟩
theorem drawEnds (w : World) (a : Option Addr) (len cap : Nat) (hb : Bytes w a len) (hl : len ≤ 1048576) (hx : ∀ x, a = some x → 0 < len → x.block < w.heap.size) :
    Calls Try.prog 11 #[.slice a len cap] w (DrewE w) :=
  (drawEnds2 w a len cap hb hl hx).mono fun _ _ ⟨P, n, zs, v, A, B, h1, h2, h3, h4, h5, h6, h7, h8, _, h9, h10⟩ => ⟨P, n, zs, v, A, B, h1, h2, h3, h4, h5, h6, h7, h8, h9, h10⟩
end Go.Proofs.Ytilabfmnaegidaa.nt
