/- Fractions: two fractions taken as valid. -/
import Derived.Test.YtopbeacfljoacaaFrcJ
namespace Go.Proofs.Ytopbeacfljoacaa.frc
open Go.RowKit Go.Proofs.Ytopbeacfljoacaa.kit Go.Proofs.Ytopbeacfljoacaa.lawi Go.Proofs.Ytopbeacfljoacaa.own Go.Proofs.Ytopbeacfljoacaa.rain Go.Proofs.Ytopbeacfljoacaa.stFraction
/-- Two fractions put into memory, and room for two valid ones. -/
theorem box4 (w : World) (a b c d : Value) : ∃ w0, (((w.alloc (.cells #[a, b] TF)).alloc (.cells #[c, d] TF)).alloc (.cells #[.int .i64 0, .int .i64 0] TV)).alloc (.cells #[.int .i64 0, .int .i64 0] TV) = w0 ∧ Hid (Blk w0 w.heap.size TF #[a, b]) ∧ Hid (Blk w0 (w.heap.size + 1) TF #[c, d]) ∧ Hid (Blk w0 (w.heap.size + 1 + 1) TV #[.int .i64 0, .int .i64 0]) ∧ Hid (Blk w0 (w.heap.size + 1 + 1 + 1) TV #[.int .i64 0, .int .i64 0]) ∧ Hid (Below w.heap.size w w0) := by
  refine ⟨_, rfl, Lib.hid ((((Blk.new w TF #[a, b]).alloc _).alloc _).alloc _), Lib.hid (((Blk.new1 w TF #[c, d] _).alloc _).alloc _), Lib.hid (Blk.alloc ?_ _), Lib.hid ?_, Lib.hid (below_al (below_al (below_al (below_al (Below.refl _ _) _) _) _) _)⟩
  · have h := Blk.new ((w.alloc (.cells #[a, b] TF)).alloc (.cells #[c, d] TF)) TV #[.int .i64 0, .int .i64 0]
    simpa using h
  · have h := Blk.new (((w.alloc (.cells #[a, b] TF)).alloc (.cells #[c, d] TF)).alloc (.cells #[.int .i64 0, .int .i64 0] TV)) TV #[.int .i64 0, .int .i64 0]
    simpa using h
/-- A world behind a region: a new valid fraction lies in it. -/
def MadeV (w : World) (x y : Int) (s : Value) (wx : World) : Prop :=
  ∃ g : Nat, s = .pointer (some ⟨g, 0, none⟩) ∧ w.heap.size ≤ g ∧ Below w.heap.size w wx ∧ wx.cell? ⟨g, 0, none⟩ = some (.int .i64 x) ∧ wx.cell? ⟨g, 1, none⟩ = some (.int .i64 y)
set_option maxHeartbeats 4000000 in
theorem impl_bv (w : World) (t b t' b' x y x' y' : Int) (r r' : Bool) (h : Av t b x y r) (h' : Av t' b' x' y' r') : Calls Try.prog 59 #[R t b, R t' b'] w (Gives w (.tuple #[R x y, R x' y', .bool (r && r')])) := by
  obtain ⟨w0, hw0, XA, XB, XU, XV, HB⟩ := box4 w (.int .i64 t) (.int .i64 b) (.int .i64 t') (.int .i64 b')
  obtain ⟨a0, a1, _⟩ := fcell XA.out
  have H := Lib.hid h
  have H' := Lib.hid h'
  clear h h'
  go_enter Try.func59, Try.ntmps59
  go_upto_region 1 with fail
  go_cut [7, 8] (fun s1 s2 wx => MadeV w0 x y s1 wx ∧ s2 = .bool r)
  case first =>
    go_wp2_with fail
    refine (impl_av _ _ _ _ _ _ H.out).mono ?_; rintro e w1 ⟨rfl, hb1⟩
    go_wp2_with fail
    go_meet
    refine ⟨⟨_, rfl, hb1.size, ?_, ?_, ?_⟩, rfl⟩
    · go_simp
      exact below_step hb1 (below_al (Below.refl _ _) _)
    · go_simp
    · go_simp
  case rest =>
    obtain ⟨⟨g, rfl, hg, B1, c0, c1⟩, rfl⟩ := hcut
    have L1 := Lib.hid B1
    obtain ⟨b0, b1, _⟩ := fcell (XB.out.step B1)
    clear B1 a0 a1 hw0
    obtain ⟨w1, rfl⟩ : ∃ w1, w1 = wc := ⟨_, rfl⟩
    go_upto_region 2 with fail
    go_cut [9, 10] (fun s1 s2 wx => MadeV w1 x' y' s1 wx ∧ s2 = .bool r')
    case first =>
      go_wp2_with fail
      refine (impl_av _ _ _ _ _ _ H'.out).mono ?_; rintro e w2 ⟨rfl, hb2⟩
      go_wp2_with fail
      go_meet
      refine ⟨⟨_, rfl, hb2.size, ?_, ?_, ?_⟩, rfl⟩
      · go_simp
        exact below_step hb2 (below_al (Below.refl _ _) _)
      · go_simp
      · go_simp
    case rest =>
      obtain ⟨⟨g', rfl, hg', B2, d0, d1⟩, rfl⟩ := hcut
      replace c0 := keep1 c0 B2
      replace c1 := keep1 c1 B2
      have L2 := Lib.hid (below_step L1.out B2)
      obtain ⟨u0, u1, u2, u3⟩ := fcell (XU.out.step L2.out)
      obtain ⟨v0, v1, v2, v3⟩ := fcell (XV.out.step L2.out)
      clear B2 b0 b1
      have z1 := XU.out.lt
      have z2 := XV.out.lt
      have z3 := L1.out.size
      have e1 : w.heap.size + 1 + 1 ≠ g := by omega
      have e2 : w.heap.size + 1 + 1 + 1 ≠ g := by omega
      have e3 : w.heap.size + 1 + 1 ≠ g' := by omega
      have e4 : w.heap.size + 1 + 1 + 1 ≠ g' := by omega
      have HG := Lib.hid (HB.out.trans (L2.out.mono HB.out.size))
      clear L1 L2 z1 z2 z3 hg hg'
      cases r
      all_goals
        go_wp2
        go_region
        all_goals
          go_wp2
          refine bodyPost_ret (by simp [*, results, Try.results59, go_sem]) rfl ⟨rfl, ?_⟩
          have B1 := HG.out
          go_grown
end Go.Proofs.Ytopbeacfljoacaa.frc
