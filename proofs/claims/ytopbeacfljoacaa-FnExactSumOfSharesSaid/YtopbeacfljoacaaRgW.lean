/- The exact laws on rights return true. -/
import Derived.Test.YtopbeacfljoacaaRgtI
set_option linter.unusedVariables false
namespace Go.Proofs.Ytopbeacfljoacaa.wFnExactRightsOk
open Go.RowKit Go.Proofs.Ytopbeacfljoacaa.kit Go.Proofs.Ytopbeacfljoacaa.lawi Go.Proofs.Ytopbeacfljoacaa.own Go.Proofs.Ytopbeacfljoacaa.rain Go.Proofs.Ytopbeacfljoacaa.frc Go.Proofs.Ytopbeacfljoacaa.rgt
set_option maxRecDepth 100000 in
set_option maxHeartbeats 2000000 in
theorem core (w : World) (v0 : Value) (n0 : Nat) (zs0 : List Int) (hn0 : n0 ≤ 1048576) (h0 : Row 3 w v0 n0 (zs0.map (Value.int .i64))) (r0 : Bool)
    (hs : ∀ W u0, Row 3 W u0 n0 (zs0.map (Value.int .i64)) → Calls Try.prog 19 #[u0] W (Gives W (.bool r0)))
    (hi : ∀ W u0, Row 3 W u0 n0 (zs0.map (Value.int .i64)) → Calls Try.prog 17 #[u0] W (Gives W (.bool r0))) :
    Calls Try.prog 4 #[v0] w (Gives w (.bool true)) := by
  obtain ⟨b0, c0, rfl⟩ := h0.shape
  have H0 := Lib.hid h0
  clear h0
  have HS := Lib.hid hs
  have HI := Lib.hid hi
  clear hs hi
  have B0 : Below w.heap.size w w := Below.refl _ _
  go_enter Try.func4, Try.ntmps4
  go_wp2_with fail
  refine (stRight.szS_yes _ _ n0 c0 _ (by omega) (by omega)).mono ?_; rintro e w' ⟨rfl, rfl⟩
  go_wp2_with fail
  refine (stRight.toS_got _ _ n0 zs0 hn0 (H0.out.keep B0)).mono ?_; rintro e w1 ⟨c_o1, rfl, ho, hb⟩
  have o1 := OwnR.of_own ho
  have B : Below w.heap.size w w1 := below_step B0 hb
  have CB : Below w.heap.size w w1 := hb
  clear hb ho
  go_wp2_with fail
  refine (HS.out _ _ o1.row).mono ?_; rintro e w2 ⟨rfl, hb⟩
  replace o1 := o1.keep hb
  replace B := below_step B hb
  replace CB := below_step CB hb
  clear hb
  clear o1
  go_wp2_with fail
  refine (stRight.toS_got _ _ n0 zs0 hn0 (H0.out.keep B)).mono ?_; rintro e w3 ⟨c_x0, rfl, ho, hb⟩
  have x0 := OwnR.of_own ho
  replace B := below_step B hb
  replace CB := below_step CB hb
  clear hb ho
  go_wp2_with fail
  refine (HI.out _ _ x0.row).mono ?_; rintro e w4 ⟨rfl, hb⟩
  replace x0 := x0.keep hb
  replace B := below_step B hb
  replace CB := below_step CB hb
  clear hb
  go_wp2_with fail
  refine (stRight.toS_got _ _ n0 zs0 hn0 (H0.out.keep B)).mono ?_; rintro e w5 ⟨c_o3, rfl, ho, hb⟩
  replace x0 := x0.keep hb
  have o3 := OwnR.of_own ho
  replace B := below_step B hb
  replace CB := below_step CB hb
  clear hb ho
  go_wp2_with fail
  refine (stRight.eqS_yes _ _ _ n0 zs0 hn0 x0.row o3.row).mono ?_; rintro e w6 ⟨rfl, hb⟩
  replace x0 := x0.keep hb
  replace o3 := o3.keep hb
  replace B := below_step B hb
  replace CB := below_step CB hb
  clear hb
  clear o3
  go_wp2
  go_ret
  exact ⟨rfl, B⟩
theorem walk (w : World) (v0 : Value) (n0 : Nat) (zs0 : List Int) (h0 : Row 3 w v0 n0 (zs0.map (Value.int .i64))) (hm0 : n0 ≤ 9223372036854775807) : Calls Try.prog 4 #[v0] w fun e w' => e = .returned (.bool true) ∧ Below w.heap.size w w' := by
  by_cases hl : n0 ≤ 1048576
  · by_cases h : Ro n0 zs0
    · exact core w v0 n0 zs0 hl h0 true (fun W u hu => spec_ro W u n0 zs0 hl hu true ⟨fun _ => h, fun _ => rfl⟩) (fun W u hu => impl_ro W u n0 zs0 hl hu true ⟨fun _ => h, fun _ => rfl⟩)
    · exact core w v0 n0 zs0 hl h0 false (fun W u hu => spec_ro W u n0 zs0 hl hu false ⟨fun e => (by cases e), fun e => absurd e h⟩) (fun W u hu => impl_ro W u n0 zs0 hl hu false ⟨fun e => (by cases e), fun e => absurd e h⟩)
  · obtain ⟨a, c, rfl⟩ := h0.shape
    go_enter Try.func4, Try.ntmps4
    go_wp2_with fail
    refine (stRight.szS_no _ _ n0 c _ (by omega) (by omega) hm0).mono ?_; rintro e w' ⟨rfl, rfl⟩
    go_wp2
    go_ret
    exact ⟨rfl, Below.refl _ _⟩
end Go.Proofs.Ytopbeacfljoacaa.wFnExactRightsOk
namespace Go.Proofs.Ytopbeacfljoacaa.wFnExactLargestOwner
open Go.RowKit Go.Proofs.Ytopbeacfljoacaa.kit Go.Proofs.Ytopbeacfljoacaa.lawi Go.Proofs.Ytopbeacfljoacaa.own Go.Proofs.Ytopbeacfljoacaa.rain Go.Proofs.Ytopbeacfljoacaa.frc Go.Proofs.Ytopbeacfljoacaa.rgt
set_option maxRecDepth 100000 in
set_option maxHeartbeats 2000000 in
theorem core (w : World) (v0 : Value) (n0 : Nat) (zs0 : List Int) (hn0 : n0 ≤ 1048576) (h0 : Row 3 w v0 n0 (zs0.map (Value.int .i64))) (r0 : Int)
    (hs : ∀ W u0, Row 3 W u0 n0 (zs0.map (Value.int .i64)) → Calls Try.prog 32 #[u0] W (Gives W (.int .i64 r0)))
    (hi : ∀ W u0, Row 3 W u0 n0 (zs0.map (Value.int .i64)) → Calls Try.prog 15 #[u0] W (Gives W (.int .i64 r0))) :
    Calls Try.prog 8 #[v0] w (Gives w (.bool true)) := by
  obtain ⟨b0, c0, rfl⟩ := h0.shape
  have H0 := Lib.hid h0
  clear h0
  have HS := Lib.hid hs
  have HI := Lib.hid hi
  clear hs hi
  have B0 : Below w.heap.size w w := Below.refl _ _
  go_enter Try.func8, Try.ntmps8
  go_wp2_with fail
  refine (stRight.szS_yes _ _ n0 c0 _ (by omega) (by omega)).mono ?_; rintro e w' ⟨rfl, rfl⟩
  go_wp2_with fail
  refine (stRight.toS_got _ _ n0 zs0 hn0 (H0.out.keep B0)).mono ?_; rintro e w1 ⟨c_o1, rfl, ho, hb⟩
  have o1 := OwnR.of_own ho
  have B : Below w.heap.size w w1 := below_step B0 hb
  have CB : Below w.heap.size w w1 := hb
  clear hb ho
  go_wp2_with fail
  refine (HS.out _ _ o1.row).mono ?_; rintro e w2 ⟨rfl, hb⟩
  replace o1 := o1.keep hb
  replace B := below_step B hb
  replace CB := below_step CB hb
  clear hb
  clear o1
  go_wp2_with fail
  refine (stRight.toS_got _ _ n0 zs0 hn0 (H0.out.keep B)).mono ?_; rintro e w3 ⟨c_x0, rfl, ho, hb⟩
  have x0 := OwnR.of_own ho
  replace B := below_step B hb
  replace CB := below_step CB hb
  clear hb ho
  go_wp2_with fail
  refine (HI.out _ _ x0.row).mono ?_; rintro e w4 ⟨rfl, hb⟩
  replace x0 := x0.keep hb
  replace B := below_step B hb
  replace CB := below_step CB hb
  clear hb
  go_wp2_with fail
  refine (stRight.toS_got _ _ n0 zs0 hn0 (H0.out.keep B)).mono ?_; rintro e w5 ⟨c_o3, rfl, ho, hb⟩
  replace x0 := x0.keep hb
  have o3 := OwnR.of_own ho
  replace B := below_step B hb
  replace CB := below_step CB hb
  clear hb ho
  go_wp2_with fail
  refine (stRight.eqS_yes _ _ _ n0 zs0 hn0 x0.row o3.row).mono ?_; rintro e w6 ⟨rfl, hb⟩
  replace x0 := x0.keep hb
  replace o3 := o3.keep hb
  replace B := below_step B hb
  replace CB := below_step CB hb
  clear hb
  clear o3
  go_wp2
  go_ret
  exact ⟨rfl, B⟩
theorem walk (w : World) (v0 : Value) (n0 : Nat) (zs0 : List Int) (h0 : Row 3 w v0 n0 (zs0.map (Value.int .i64))) (hm0 : n0 ≤ 9223372036854775807) : Calls Try.prog 8 #[v0] w fun e w' => e = .returned (.bool true) ∧ Below w.heap.size w w' := by
  by_cases hl : n0 ≤ 1048576
  · obtain ⟨x, hx⟩ := Lo.ex n0 zs0
    exact core w v0 n0 zs0 hl h0 x (fun W u hu => spec_lo W u n0 zs0 hl hu x hx) (fun W u hu => impl_lo W u n0 zs0 hl hu x hx)
  · obtain ⟨a, c, rfl⟩ := h0.shape
    go_enter Try.func8, Try.ntmps8
    go_wp2_with fail
    refine (stRight.szS_no _ _ n0 c _ (by omega) (by omega) hm0).mono ?_; rintro e w' ⟨rfl, rfl⟩
    go_wp2
    go_ret
    exact ⟨rfl, Below.refl _ _⟩
end Go.Proofs.Ytopbeacfljoacaa.wFnExactLargestOwner
namespace Go.Proofs.Ytopbeacfljoacaa.wFnExactDivide
open Go.RowKit Go.Proofs.Ytopbeacfljoacaa.kit Go.Proofs.Ytopbeacfljoacaa.lawi Go.Proofs.Ytopbeacfljoacaa.own Go.Proofs.Ytopbeacfljoacaa.rain Go.Proofs.Ytopbeacfljoacaa.frc Go.Proofs.Ytopbeacfljoacaa.rgt
set_option maxRecDepth 100000 in
set_option maxHeartbeats 4000000 in
theorem core (w : World) (v0 : Value) (n0 : Nat) (zs0 : List Int) (hn0 : n0 ≤ 1048576) (h0 : Row 3 w v0 n0 (zs0.map (Value.int .i64))) (a1 : Int) (m0 : Nat) (ys0 : List Int) (hm0 : m0 ≤ 1048576)
    (hsum : n0 ≤ 1048576)
    (hs : ∀ W u0, Row 3 W u0 n0 (zs0.map (Value.int .i64)) → Calls Try.prog 24 #[u0, .int .i64 a1] W (fun e W' => ∃ t, e = .returned (t) ∧ W'.ownsRow W.heap.size 3 1 t m0 (ys0.map (Value.int .i64)) ∧ Below W.heap.size W W'))
    (hi : ∀ W u0, Row 3 W u0 n0 (zs0.map (Value.int .i64)) → Calls Try.prog 12 #[u0, .int .i64 a1] W (fun e W' => ∃ t, e = .returned (t) ∧ W'.ownsRow W.heap.size 3 1 t m0 (ys0.map (Value.int .i64)) ∧ Below W.heap.size W W')) :
    Calls Try.prog 6 #[v0, .int .i64 a1] w (Gives w (.bool true)) := by
  obtain ⟨b0, c0, rfl⟩ := h0.shape
  have H0 := Lib.hid h0
  clear h0
  have HS := Lib.hid hs
  have HI := Lib.hid hi
  clear hs hi
  have B : Below w.heap.size w w := Below.refl _ _
  go_enter Try.func6, Try.ntmps6
  go_wp2_with fail
  refine (stRight.szS_yes _ _ n0 c0 _ (by omega) (by omega)).mono ?_; rintro e w' ⟨rfl, rfl⟩
  go_wp2_with fail
  refine (stRight.toS_got _ _ n0 zs0 hn0 (H0.out.keep B)).mono ?_; rintro e w1 ⟨t1, rfl, ho, hb⟩
  replace B := below_step B hb
  have zz1 := hb.size
  have o0 := OwnR.of_own ho
  clear hb ho
  go_wp2_with fail
  refine (HS.out _ _ o0.row).mono ?_; rintro e w2 ⟨t2, rfl, ho, hb⟩
  replace o0 := o0.keep hb
  replace B := below_step B hb
  have zz2 := hb.size
  have s := OwnR.of_own ho
  clear hb ho
  clear o0
  go_wp2_with fail
  refine (stRight.toS_got _ _ n0 zs0 hn0 (H0.out.keep B)).mono ?_; rintro e w3 ⟨t3, rfl, ho, hb⟩
  replace s := s.keep hb
  replace B := below_step B hb
  have zz3 := hb.size
  have x0 := OwnR.of_own ho
  clear hb ho
  go_wp2_with fail
  refine (HI.out _ _ x0.row).mono ?_; rintro e w4 ⟨t4, rfl, ho, hb⟩
  replace s := s.keep hb
  replace x0 := x0.keep hb
  replace B := below_step B hb
  have zz4 := hb.size
  have g := OwnR.of_own ho
  clear hb ho
  go_wp2_with fail
  refine (eqInt_gives _ _ _ m0 ys0 hm0 g.row s.row).mono ?_; rintro e w5 ⟨rfl, hb⟩
  replace s := s.keep hb
  replace x0 := x0.keep hb
  replace g := g.keep hb
  replace B := below_step B hb
  have zz5 := hb.size
  clear hb
  go_wp2_with fail
  refine (stRight.toS_got _ _ n0 zs0 hn0 (H0.out.keep B)).mono ?_; rintro e w6 ⟨t5, rfl, ho, hb⟩
  replace s := s.keep hb
  replace x0 := x0.keep hb
  replace g := g.keep hb
  replace B := below_step B hb
  have zz6 := hb.size
  have oe0 := OwnR.of_own ho
  clear hb ho
  go_wp2_with fail
  refine (stRight.eqS_yes _ _ _ n0 zs0 hn0 x0.row oe0.row).mono ?_; rintro e w7 ⟨rfl, hb⟩
  replace s := s.keep hb
  replace x0 := x0.keep hb
  replace g := g.keep hb
  replace oe0 := oe0.keep hb
  replace B := below_step B hb
  have zz7 := hb.size
  clear hb
  clear oe0
  go_wp2_with fail
  refine (stRight.markS_own _ _ _ _ n0 _ 1 _ (by omega) (by omega) x0).mono ?_; rintro e w8 ⟨rfl, om, ch⟩
  have zz8_0 := ch.size
  replace s := s.chg ch (by omega)
  replace g := g.chg ch (by omega)
  replace B := B.trans (ch.below (B := w.heap.size) (by omega) (by omega))
  replace x0 := om
  clear om ch
  go_wp2_with fail
  refine (eqInt_gives _ _ _ m0 ys0 hm0 g.row s.row).mono ?_; rintro e w9 ⟨rfl, hb⟩
  replace s := s.keep hb
  replace x0 := x0.keep hb
  replace g := g.keep hb
  replace B := below_step B hb
  have zz9 := hb.size
  clear hb
  clear x0
  go_wp2_with fail
  refine (markInt_own _ _ _ _ m0 _ 1 _ (by omega) (by omega) g).mono ?_; rintro e w10 ⟨rfl, om, ch⟩
  have zz10_0 := ch.size
  replace s := s.chg ch (by omega)
  replace B := B.trans (ch.below (B := w.heap.size) (by omega) (by omega))
  replace g := om
  clear om ch
  go_wp2_with fail
  refine (heldInt_gives _ _ m0 1 _ rfl (by omega) g.row).mono ?_; rintro e w11 ⟨rfl, hb⟩
  replace s := s.keep hb
  replace g := g.keep hb
  replace B := below_step B hb
  have zz11 := hb.size
  clear hb
  go_wp2_with fail
  refine (stRight.toS_got _ _ n0 zs0 hn0 (H0.out.keep B)).mono ?_; rintro e w12 ⟨t6, rfl, ho, hb⟩
  replace s := s.keep hb
  replace g := g.keep hb
  replace B := below_step B hb
  have zz12 := hb.size
  have p0 := OwnR.of_own ho
  clear hb ho
  go_wp2_with fail
  refine (HI.out _ _ p0.row).mono ?_; rintro e w13 ⟨t7, rfl, ho, hb⟩
  replace s := s.keep hb
  replace g := g.keep hb
  replace p0 := p0.keep hb
  replace B := below_step B hb
  have zz13 := hb.size
  have h := OwnR.of_own ho
  clear hb ho
  clear p0
  go_wp2_with fail
  refine (eqInt_gives _ _ _ m0 ys0 hm0 h.row s.row).mono ?_; rintro e w14 ⟨rfl, hb⟩
  replace s := s.keep hb
  replace g := g.keep hb
  replace h := h.keep hb
  replace B := below_step B hb
  have zz14 := hb.size
  clear hb
  clear h
  clear s
  go_wp2_with fail
  refine (heldInt_gives _ _ m0 1 _ rfl (by omega) g.row).mono ?_; rintro e w15 ⟨rfl, hb⟩
  replace g := g.keep hb
  replace B := below_step B hb
  have zz15 := hb.size
  clear hb
  go_wp2
  go_ret
  exact ⟨rfl, B⟩
theorem walk (w : World) (v0 : Value) (n0 : Nat) (zs0 : List Int) (h0 : Row 3 w v0 n0 (zs0.map (Value.int .i64))) (hm0 : n0 ≤ 9223372036854775807) (a1 : Int) (_ : (Lit.int .i64 a1).wf = true) : Calls Try.prog 6 #[v0, .int .i64 a1] w fun e w' => e = .returned (.bool true) ∧ Below w.heap.size w w' := by
  by_cases hl : n0 ≤ 1048576
  · obtain ⟨ys, hy⟩ := Dva.ex n0 zs0 a1
    have hyl : ys.length ≤ 1048576 := by
      by_cases hc : Ro n0 zs0 ∧ 0 ≤ a1 ∧ a1 ≤ 1000000
      · have := (hy.1 hc).1; omega
      · rw [hy.2 hc]; simp
    exact core w v0 n0 zs0 hl h0 a1 ys.length ys hyl hl (fun W u hu => spec_dv W u n0 zs0 a1 ys hl hu hy) (fun W u hu => impl_dv W u n0 zs0 a1 ys hl hu hy)
  · obtain ⟨a, c, rfl⟩ := h0.shape
    go_enter Try.func6, Try.ntmps6
    go_wp2_with fail
    refine (stRight.szS_no _ _ n0 c _ (by omega) (by omega) hm0).mono ?_; rintro e w' ⟨rfl, rfl⟩
    go_wp2
    go_ret
    exact ⟨rfl, Below.refl _ _⟩
end Go.Proofs.Ytopbeacfljoacaa.wFnExactDivide
namespace Go.Proofs.Ytopbeacfljoacaa.wFnExactSumOfShares
open Go.RowKit Go.Proofs.Ytopbeacfljoacaa.kit Go.Proofs.Ytopbeacfljoacaa.lawi Go.Proofs.Ytopbeacfljoacaa.own Go.Proofs.Ytopbeacfljoacaa.rain Go.Proofs.Ytopbeacfljoacaa.frc Go.Proofs.Ytopbeacfljoacaa.rgt
set_option maxRecDepth 100000 in
set_option maxHeartbeats 2000000 in
theorem core (w : World) (v0 : Value) (n0 : Nat) (zs0 : List Int) (hn0 : n0 ≤ 1048576) (h0 : Row 3 w v0 n0 (zs0.map (Value.int .i64))) (y0_0 y0_1 : Int) (r1 : Bool)
    (hs : ∀ W u0, Row 3 W u0 n0 (zs0.map (Value.int .i64)) → Calls Try.prog 22 #[u0] W (Gives W (.tuple #[stFraction.R y0_0 y0_1, .bool r1])))
    (hi : ∀ W u0, Row 3 W u0 n0 (zs0.map (Value.int .i64)) → Calls Try.prog 13 #[u0] W (Gives W (.tuple #[stFraction.R y0_0 y0_1, .bool r1]))) :
    Calls Try.prog 5 #[v0] w (Gives w (.bool true)) := by
  obtain ⟨b0, c0, rfl⟩ := h0.shape
  have H0 := Lib.hid h0
  clear h0
  have HS := Lib.hid hs
  have HI := Lib.hid hi
  clear hs hi
  have B0 : Below w.heap.size w w := Below.refl _ _
  go_enter Try.func5, Try.ntmps5
  go_wp2_with fail
  refine (stRight.szS_yes _ _ n0 c0 _ (by omega) (by omega)).mono ?_; rintro e w' ⟨rfl, rfl⟩
  go_wp2_with fail
  refine (stRight.toS_got _ _ n0 zs0 hn0 (H0.out.keep B0)).mono ?_; rintro e w1 ⟨c_o1, rfl, ho, hb⟩
  have o1 := OwnR.of_own ho
  have B : Below w.heap.size w w1 := below_step B0 hb
  clear hb ho
  go_wp2_with fail
  refine (HS.out _ _ o1.row).mono ?_; rintro e w2 ⟨rfl, hb⟩
  replace B := below_step B hb
  clear hb o1
  obtain ⟨wA, hwA⟩ : ∃ wA, w2.alloc (.cells #[.int .i64 y0_0, .int .i64 y0_1] TF) = wA := ⟨_, rfl⟩
  have S0 : Hid (Blk wA w2.heap.size TF #[.int .i64 y0_0, .int .i64 y0_1]) := Lib.hid (hwA ▸ Blk.new w2 TF #[.int .i64 y0_0, .int .i64 y0_1])
  replace B : Below w.heap.size w wA := hwA ▸ below_al B _
  go_wp2_with fail
  refine (stRight.toS_got _ _ n0 zs0 hn0 (H0.out.keep B)).mono ?_; rintro e w3 ⟨c_x0, rfl, ho, hb⟩
  have x0 := OwnR.of_own ho
  replace S0 := Lib.hid (S0.out.step hb)
  replace B := below_step B hb
  clear hb ho hwA
  go_wp2_with fail
  refine (HI.out _ _ x0.row).mono ?_; rintro e w4 ⟨rfl, hb⟩
  replace S0 := Lib.hid (S0.out.step hb)
  replace x0 := x0.keep hb
  replace B := below_step B hb
  clear hb
  obtain ⟨wB, hwB⟩ : ∃ wB, w4.alloc (.cells #[.int .i64 y0_0, .int .i64 y0_1] TF) = wB := ⟨_, rfl⟩
  have bB : Below w4.heap.size w4 wB := hwB ▸ below_al (Below.refl _ _) _
  have S1 : Hid (Blk wB w4.heap.size TF #[.int .i64 y0_0, .int .i64 y0_1]) := Lib.hid (hwB ▸ Blk.new w4 TF #[.int .i64 y0_0, .int .i64 y0_1])
  replace S0 := Lib.hid (S0.out.step bB)
  replace x0 := x0.keep bB
  replace B := below_step B bB
  clear bB
  obtain ⟨s0, s1, _⟩ := fcell S0.out
  obtain ⟨s2, s3, _⟩ := fcell S1.out
  go_wp2_with fail
  refine (stFraction.eq_yes _ _ _).mono ?_; rintro e w5 ⟨rfl, hb⟩
  replace x0 := x0.keep hb
  replace B := below_step B hb
  clear hb hwB s0 s1 s2 s3 S0 S1
  cases r1
  all_goals
    go_wp2_with fail
    refine (stRight.toS_got _ _ n0 zs0 hn0 (H0.out.keep B)).mono ?_; rintro e w6 ⟨c_o3, rfl, ho, hb⟩
    replace x0 := x0.keep hb
    have o3 := OwnR.of_own ho
    replace B := below_step B hb
    clear hb ho
    go_wp2_with fail
    refine (stRight.eqS_yes _ _ _ n0 zs0 hn0 x0.row o3.row).mono ?_; rintro e w7 ⟨rfl, hb⟩
    replace B := below_step B hb
    clear hb o3 x0
    go_wp2
    go_ret
    exact ⟨rfl, B⟩
theorem walk (w : World) (v0 : Value) (n0 : Nat) (zs0 : List Int) (h0 : Row 3 w v0 n0 (zs0.map (Value.int .i64))) (hm0 : n0 ≤ 9223372036854775807) : Calls Try.prog 5 #[v0] w fun e w' => e = .returned (.bool true) ∧ Below w.heap.size w w' := by
  by_cases hl : n0 ≤ 1048576
  · obtain ⟨x, y, r, h⟩ := Su.ex n0 zs0
    exact core w v0 n0 zs0 hl h0 x y r (fun W u hu => spec_sum W u n0 zs0 hl hu x y r h) (fun W u hu => impl_sum W u n0 zs0 hl hu x y r h)
  · obtain ⟨a, c, rfl⟩ := h0.shape
    go_enter Try.func5, Try.ntmps5
    go_wp2_with fail
    refine (stRight.szS_no _ _ n0 c _ (by omega) (by omega) hm0).mono ?_; rintro e w' ⟨rfl, rfl⟩
    go_wp2
    go_ret
    exact ⟨rfl, Below.refl _ _⟩
end Go.Proofs.Ytopbeacfljoacaa.wFnExactSumOfShares
