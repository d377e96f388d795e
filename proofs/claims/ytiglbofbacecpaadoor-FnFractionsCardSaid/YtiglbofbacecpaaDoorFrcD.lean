/- Drawn fractions. -/
import Derived.Test.YtiglbofbacecpaaDoorDrawN
import Derived.Test.YtiglbofbacecpaaDoorFrcS
namespace Go.Proofs.YtiglbofbacecpaaDoor.frc
open Go.RowKit Go.Proofs.YtiglbofbacecpaaDoor.kit Go.Proofs.YtiglbofbacecpaaDoor.lawi Go.Proofs.YtiglbofbacecpaaDoor.own Go.Proofs.YtiglbofbacecpaaDoor.rain Go.Proofs.YtiglbofbacecpaaDoor.stFraction Go.Proofs.YtiglbofbacecpaaDoor.draw
/-- A drawn fraction: valid and small. -/
def FairF (t b : Int) : Prop := Fk t b ∧ t ≤ 39 ∧ b ≤ 40
theorem grown_of {w w' : World} (h : Below w.heap.size w w') : w.grownBy w' none := ⟨h.os, h.tape, h.output, h.size, fun k hk _ => h.block k hk⟩
theorem fair_made {x y : Int} (x0 : 0 ≤ x) (x1 : x < 40) (y0 : 0 ≤ y) (y1 : y < 40) : ∃ t b, Mk x (1 + y) t b true ∧ FairF t b := by
  obtain ⟨T, rfl⟩ : ∃ T : Nat, x = T := ⟨x.toNat, by omega⟩
  obtain ⟨B, hB⟩ : ∃ B : Nat, 1 + y = B := ⟨(1 + y).toNat, by omega⟩
  rw [hB]
  obtain ⟨t, b, r, hr⟩ := Red.ex T B
  obtain ⟨rfl, e1, e2⟩ := hr.small (by omega) (by omega)
  have h1 := rT_le T B
  have h2 := rB_le T B
  refine ⟨t, b, ⟨fun _ => hr, fun hn => absurd ⟨⟨by omega, by omega⟩, by omega, by omega⟩ hn⟩, (hr.ok (by omega)).1, by omega, by omega⟩
def DrewF (w : World) (c : Nat) (a : Option Addr) (len cap : Nat) (e : Ending) (w' : World) : Prop :=
  ∃ t b, e = .returned (R t b) ∧ FairF t b ∧ Cur w' c a len cap ∧ w.grownBy w' (some c)
set_option maxHeartbeats 1000000 in
theorem frac_any (w : World) (c : Nat) (a : Option Addr) (len cap : Nat) (hcur : Cur w c a len cap) :
    Calls Tryd.prog 19 #[.pointer (some ⟨c, 0, none⟩)] w (DrewF w c a len cap) := by
  have hclt := hcur.lt
  have hlow := hcur.low
  have x0 := Blk.new w TF #[.int .i64 0, .int .i64 0]
  go_enter Tryd.func19, Tryd.ntmps19
  go_wp2_with fail
  refine (below_any _ c a len cap 40 (by omega) (hcur.above (World.grownBy_alloc w _ none) (by simp) hclt hlow)).mono ?_; rintro e w1 ⟨x, hx, rfl, hc1, hg1⟩
  obtain ⟨u0, u1⟩ := hx.of (by omega)
  have y0 := x0.grown hg1 (by simp; omega)
  have hl1 := hc1.lt
  have G1 : w.grownBy w1 (some c) := grown_trans (World.grownBy_alloc w _ _) hg1
  clear hg1 x0
  go_wp2_with fail
  refine (below_any _ c a len cap 40 (by omega) hc1).mono ?_; rintro e w2 ⟨y, hy, rfl, hc2, hg2⟩
  obtain ⟨v0, v1⟩ := hy.of (by omega)
  have y3 := y0.grown hg2 (by simp; omega)
  have G2 : w.grownBy w2 (some c) := grown_trans G1 hg2
  have hl2 := hc2.lt
  clear hg2 y0 G1 hc1
  obtain ⟨t, b, hmk, hF⟩ := fair_made u0 u1 v0 v1
  have e1 : IntKind.i64.wrap (1 + y) = 1 + y := IntWalk.i64_in _ (by omega)
  have HMK := Lib.hid hmk
  have HF := Lib.hid hF
  clear hmk hF hx hy
  go_wp2_with fail
  refine (spec_mk _ _ _ _ _ _ HMK.out).mono ?_; rintro e w3 ⟨rfl, hb3⟩
  have hg3 := grown_of hb3
  have z3 := hb3.size
  have hc3 := hc2.grown hg3 (by simp) (by simp)
  have y4 := y3.grown hg3 (by simp)
  have G3 : w.grownBy w3 (some c) := grown_above G2 hg3 (by simp)
  have hl3 := hc3.lt
  clear hg3 hb3 hc2 y3 G2
  obtain ⟨p0, p1, p2, p3⟩ := fcell y4
  have hlw : w.heap.size < w3.heap.size := y4.lt
  obtain ⟨w4, hw4⟩ : ∃ w4, w3.alloc (.cells #[.int .i64 t, .int .i64 b] TF) = w4 := ⟨_, rfl⟩
  have hg4 : w3.grownBy w4 none := hw4 ▸ World.grownBy_alloc w3 _ none
  have hc4 := hc3.grown hg4 (by simp) (by simp)
  have y5 := y4.grown hg4 (by simp)
  have q : Blk w4 w3.heap.size TF #[.int .i64 t, .int .i64 b] := hw4 ▸ Blk.new w3 TF #[.int .i64 t, .int .i64 b]
  have G4 : w.grownBy w4 (some c) := grown_above G3 hg4 (by simp)
  obtain ⟨p0, p1, p2, p3⟩ := fcell y5
  obtain ⟨q0, q1, _⟩ := fcell q
  have z := (y5.set_ 0 (.int .i64 t)).set_ 1 (.int .i64 b)
  have c0 : ((w4.setCell ⟨w.heap.size, 0, none⟩ (.int .i64 t)).setCell ⟨w.heap.size, 1, none⟩ (.int .i64 b)).cell? ⟨w.heap.size, 0, none⟩ = some (.int .i64 t) := by rw [z.cell]; rfl
  have c1 : ((w4.setCell ⟨w.heap.size, 0, none⟩ (.int .i64 t)).setCell ⟨w.heap.size, 1, none⟩ (.int .i64 b)).cell? ⟨w.heap.size, 1, none⟩ = some (.int .i64 b) := by rw [z.cell]; rfl
  have C0 := Lib.hid c0; have C1 := Lib.hid c1; have HC := Lib.hid hc4; have HG := Lib.hid G4
  clear z c0 c1 y4 y5 q hg4 G3 hc3 G4 hc4
  go_wp2
  refine bodyPost_ret (v := R t b) (by simp [results, Tryd.results19, go_sem, C0.out, C1.out]) rfl ⟨t, b, rfl, HF.out, ?_, ?_⟩
  · exact (HC.out.grown (grown_setCell (grown_refl _ _) 0 none _) (by simp; omega) (fun u e h0 => by have := hlow u e h0; simp; omega)).grown (grown_setCell (grown_refl _ _) 1 none _) (by simp; omega) (fun u e h0 => by have := hlow u e h0; simp; omega)
  · have e2 := grown_above HG.out (grown_setCell (grown_refl w4 (some w.heap.size)) 0 none (.int .i64 t)) (by rintro _ ⟨⟩; exact Nat.le_refl _)
    exact grown_above e2 (grown_setCell (grown_refl _ (some w.heap.size)) 1 none (.int .i64 b)) (by rintro _ ⟨⟩; exact Nat.le_refl _)
/-- What is drawn: two fractions. -/
def DrewFF (w : World) (e : Ending) (w' : World) : Prop := ∃ t b t' b', e = .returned (.tuple #[R t b, R t' b']) ∧ FairF t b ∧ FairF t' b' ∧ Below w.heap.size w w'
set_option maxHeartbeats 4000000 in
theorem drawFracs (w : World) (a : Option Addr) (len cap : Nat) (hb : Bytes w a len) (hl : len ≤ 1048576) (hx : ∀ x, a = some x → 0 < len → x.block < w.heap.size) :
    Calls Tryd.prog 6 #[.slice a len cap] w (DrewFF w) := by
  obtain ⟨w0, hw0⟩ : ∃ w0, (w.alloc (.cells #[.int .i64 0, .int .i64 0] TF)).alloc (.cells #[.int .i64 0, .int .i64 0] TF) = w0 := ⟨_, rfl⟩
  have x0 : Blk w0 w.heap.size TF #[.int .i64 0, .int .i64 0] := hw0 ▸ (Blk.new w TF #[.int .i64 0, .int .i64 0]).alloc _
  have y0 : Blk w0 (w.heap.size + 1) TF #[.int .i64 0, .int .i64 0] := hw0 ▸ Blk.new1 w TF #[.int .i64 0, .int .i64 0] _
  have hb0 : Below w.heap.size w w0 := hw0 ▸ below_al (below_al (Below.refl _ _) _) _
  have hs0 : w0.heap.size = w.heap.size + 2 := by rw [← hw0]; simp
  go_enter Tryd.func6, Tryd.ntmps6
  go_wp2_with fail
  refine (new_any _ a len cap (hb.grown (grown_of (hb0.mono (Nat.le_refl _))) (by simp)) hl (fun x e h0 => by have := hx x e h0; omega)).mono ?_; rintro e w1 ⟨c, rfl, hlc, hc1, hg1⟩
  have hb1 : Below w.heap.size w w1 := hb0.grown hg1 hb0.size (by simp)
  have x1 := x0.grown hg1 (by simp)
  have y1 := y0.grown hg1 (by simp)
  have hz1 := hg1.size
  have hlt1 := hc1.lt
  clear hw0 x0 y0 hb0 hg1
  go_wp2_with fail
  refine (frac_any w1 c a len cap hc1).mono ?_; rintro e w2 ⟨t, b, rfl, hF, hc2, hg2⟩
  have hb2 : Below w.heap.size w w2 := hb1.grown hg2 hb1.size (by rintro k ⟨⟩; omega)
  have x2 := x1.grown hg2 (by simp; omega)
  have y2 := y1.grown hg2 (by simp; omega)
  have hz2 := hg2.size
  have hlt2 := hc2.lt
  have hlo2 := hc2.low
  clear x1 y1 hb1 hc1 hg2
  obtain ⟨wA, hwA⟩ : ∃ wA, w2.alloc (.cells #[.int .i64 t, .int .i64 b] TF) = wA := ⟨_, rfl⟩
  have hgA : w2.grownBy wA none := hwA ▸ World.grownBy_alloc w2 _ none
  have hcA := hc2.grown hgA (by simp) (by simp)
  have xA := x2.grown hgA (by simp)
  have yA := y2.grown hgA (by simp)
  have gA : Blk wA w2.heap.size TF #[.int .i64 t, .int .i64 b] := hwA ▸ Blk.new w2 TF #[.int .i64 t, .int .i64 b]
  have hbA := hb2.grown hgA hb2.size (by simp)
  obtain ⟨g, hg⟩ : ∃ g, w2.heap.size = g := ⟨_, rfl⟩
  have hzA : w2.heap.size < wA.heap.size := gA.lt
  rw [hg] at gA
  have hcg : c < g := by omega
  have HF := Lib.hid hF
  obtain ⟨p0, p1, _⟩ := fcell gA
  clear hF x2 y2 hb2 hc2 hgA
  go_wp2_with fail
  go_region_held3 (fun W => W.cell? ⟨g, 0, none⟩ = some (.int .i64 t) ∧ W.cell? ⟨g, 1, none⟩ = some (.int .i64 b)) (first | assumption | exact ⟨p0, p1⟩ | exact ⟨p5, p6⟩ | exact ⟨p8, p9⟩ | exact ⟨r8, r9⟩ | fail)
    (first
      | (go_at_call 19; refine (frac_any _ c a len cap (hcA.drewN 1)).mono ?_; rintro e w5 ⟨t', b', rfl, hF', hc5, hg5⟩
         have g5 := gA.drew.grown hg5 (by simp; omega)
         have x5 := xA.drew.grown hg5 (by simp; omega)
         have y5 := yA.drew.grown hg5 (by simp; omega)
         have b5 : Below w.heap.size w w5 := (below_dr hbA).grown hg5 hbA.size (by rintro k ⟨⟩; omega)
         have g8 := (g5.far (p := ⟨w.heap.size, 0, none⟩) (by show g ≠ w.heap.size; omega) (.int .i64 t)).far (p := ⟨w.heap.size, 1, none⟩) (by show g ≠ w.heap.size; omega) (.int .i64 b)
         have g9 := (g8.far (p := ⟨w.heap.size + 1, 0, none⟩) (by show g ≠ w.heap.size + 1; omega) (.int .i64 t')).far (p := ⟨w.heap.size + 1, 1, none⟩) (by show g ≠ w.heap.size + 1; omega) (.int .i64 b')
         have HF2 := Lib.hid hF'
         have HB := Lib.hid b5
         obtain ⟨p5, p6, _⟩ := fcell g5
         obtain ⟨p8, p9, _⟩ := fcell g8
         obtain ⟨r8, r9, _⟩ := fcell g9
         obtain ⟨q0, q1, q2, q3⟩ := fcell x5
         obtain ⟨s0, s1, s2, s3⟩ := fcell y5
         clear hc5 hg5 b5 hF' g5 g8 g9)
      | fail)
  all_goals
    rename_i hheld
    clear hheld p0 p1 p5 p6 p8 p9 r8 r9
    go_wp2
    refine bodyPost_ret (v := .tuple #[R t b, R t' b']) (by simp [*, results, Tryd.results6, go_sem]) rfl ⟨t, b, t', b', rfl, HF.out, HF2.out, ?_⟩
    have B1 := HB.out
    go_grown
end Go.Proofs.YtiglbofbacecpaaDoor.frc
