/- The exact laws on roofs return true. -/
import Derived.Test.YteogonlclldjlaaRoof3
import Derived.Test.YteogonlclldjlaaStRoof
set_option linter.unusedVariables false
namespace Go.Proofs.Yteogonlclldjlaa.wFnExactRoofOk
open Go.RowKit Go.Proofs.Yteogonlclldjlaa.kit Go.Proofs.Yteogonlclldjlaa.lawi Go.Proofs.Yteogonlclldjlaa.own Go.Proofs.Yteogonlclldjlaa.rainl Go.Proofs.Yteogonlclldjlaa.rain Go.Proofs.Yteogonlclldjlaa.plain Go.Proofs.Yteogonlclldjlaa.roof
set_option maxRecDepth 100000 in
set_option maxHeartbeats 2000000 in
theorem core (w : World) (x0_0 x0_1 : Int) (r0 : Bool)
    (hs : ∀ W, Calls Try.prog 22 #[stRoof.R x0_0 x0_1] W (Gives W (.bool r0)))
    (hi : ∀ W, Calls Try.prog 21 #[stRoof.R x0_0 x0_1] W (Gives W (.bool r0))) :
    Calls Try.prog 4 #[stRoof.R x0_0 x0_1] w (Gives w (.bool true)) := by
  have HS := Lib.hid hs
  have HI := Lib.hid hi
  clear hs hi
  have Y0 : Blk (w.alloc (.cells #[.int .i64 x0_0, .int .i64 x0_1] 39)) w.heap.size 39 #[.int .i64 x0_0, .int .i64 x0_1] := by
    have := Blk.new w 39 #[.int .i64 x0_0, .int .i64 x0_1]
    simpa using this
  have X0 := Lib.hid Y0
  clear Y0
  have B0 : Below w.heap.size w (w.alloc (.cells #[.int .i64 x0_0, .int .i64 x0_1] 39)) := below_al (Below.refl _ _) _
  go_enter Try.func4, Try.ntmps4
  have q0_0 := (X0.out).cell 0
  have q0_1 := (X0.out).cell 1
  go_wp2_with fail
  refine (stRoof.to_any _ _ _).mono ?_; rintro e w1 ⟨rfl, hb⟩
  clear q0_0 q0_1
  have B : Below w.heap.size w w1 := below_step B0 hb
  have CB : Below (w.alloc (.cells #[.int .i64 x0_0, .int .i64 x0_1] 39)).heap.size (w.alloc (.cells #[.int .i64 x0_0, .int .i64 x0_1] 39)) w1 := hb
  clear hb
  go_wp2_with fail
  refine (HS.out _ ).mono ?_; rintro e w2 ⟨rfl, hb⟩
  replace B := below_step B hb
  replace CB := below_step CB hb
  clear hb
  have q0_0 := (X0.out.step CB).cell 0
  have q0_1 := (X0.out.step CB).cell 1
  go_wp2_with fail
  refine (stRoof.to_any _ _ _).mono ?_; rintro e w3 ⟨rfl, hb⟩
  clear q0_0 q0_1
  replace B := below_step B hb
  replace CB := below_step CB hb
  clear hb
  go_wp2_with fail
  refine (HI.out _ ).mono ?_; rintro e w4 ⟨rfl, hb⟩
  replace B := below_step B hb
  replace CB := below_step CB hb
  clear hb
  go_wp2
  go_ret
  exact ⟨rfl, B⟩
theorem walk (w : World) (x0 y0 : Int) (_ : (Lit.int .i64 x0).wf = true) (_ : (Lit.int .i64 y0).wf = true) : Calls Try.prog 4 #[R x0 y0] w fun e w' => e = .returned (.bool true) ∧ Below w.heap.size w w' := by
  by_cases h : ROk x0 y0
  · exact core w _ _ _ (fun W => spec_rok_yes W _ _ h) (fun W => impl_rok_yes W _ _ h)
  · exact core w _ _ _ (fun W => spec_rok_no W _ _ h) (fun W => impl_rok_no W _ _ h)
end Go.Proofs.Yteogonlclldjlaa.wFnExactRoofOk
namespace Go.Proofs.Yteogonlclldjlaa.wFnExactCatch
open Go.RowKit Go.Proofs.Yteogonlclldjlaa.kit Go.Proofs.Yteogonlclldjlaa.lawi Go.Proofs.Yteogonlclldjlaa.own Go.Proofs.Yteogonlclldjlaa.rainl Go.Proofs.Yteogonlclldjlaa.rain Go.Proofs.Yteogonlclldjlaa.plain Go.Proofs.Yteogonlclldjlaa.roof
set_option maxRecDepth 100000 in
set_option maxHeartbeats 2000000 in
theorem core (w : World) (x0_0 x0_1 : Int) (a1 : Int) (r0 : Int)
    (hs : ∀ W, Calls Try.prog 24 #[stRoof.R x0_0 x0_1, .int .i64 a1] W (Gives W (.int .i64 r0)))
    (hi : ∀ W, Calls Try.prog 15 #[stRoof.R x0_0 x0_1, .int .i64 a1] W (Gives W (.int .i64 r0))) :
    Calls Try.prog 5 #[stRoof.R x0_0 x0_1, .int .i64 a1] w (Gives w (.bool true)) := by
  have HS := Lib.hid hs
  have HI := Lib.hid hi
  clear hs hi
  have Y0 : Blk (w.alloc (.cells #[.int .i64 x0_0, .int .i64 x0_1] 39)) w.heap.size 39 #[.int .i64 x0_0, .int .i64 x0_1] := by
    have := Blk.new w 39 #[.int .i64 x0_0, .int .i64 x0_1]
    simpa using this
  have X0 := Lib.hid Y0
  clear Y0
  have B0 : Below w.heap.size w (w.alloc (.cells #[.int .i64 x0_0, .int .i64 x0_1] 39)) := below_al (Below.refl _ _) _
  go_enter Try.func5, Try.ntmps5
  have q0_0 := (X0.out).cell 0
  have q0_1 := (X0.out).cell 1
  go_wp2_with fail
  refine (stRoof.to_any _ _ _).mono ?_; rintro e w1 ⟨rfl, hb⟩
  clear q0_0 q0_1
  have B : Below w.heap.size w w1 := below_step B0 hb
  have CB : Below (w.alloc (.cells #[.int .i64 x0_0, .int .i64 x0_1] 39)).heap.size (w.alloc (.cells #[.int .i64 x0_0, .int .i64 x0_1] 39)) w1 := hb
  clear hb
  go_wp2_with fail
  refine (HS.out _ ).mono ?_; rintro e w2 ⟨rfl, hb⟩
  replace B := below_step B hb
  replace CB := below_step CB hb
  clear hb
  have q0_0 := (X0.out.step CB).cell 0
  have q0_1 := (X0.out.step CB).cell 1
  go_wp2_with fail
  refine (stRoof.to_any _ _ _).mono ?_; rintro e w3 ⟨rfl, hb⟩
  clear q0_0 q0_1
  replace B := below_step B hb
  replace CB := below_step CB hb
  clear hb
  go_wp2_with fail
  refine (HI.out _ ).mono ?_; rintro e w4 ⟨rfl, hb⟩
  replace B := below_step B hb
  replace CB := below_step CB hb
  clear hb
  go_wp2
  go_ret
  exact ⟨rfl, B⟩
theorem walk (w : World) (x0 y0 : Int) (_ : (Lit.int .i64 x0).wf = true) (_ : (Lit.int .i64 y0).wf = true) (a1 : Int) (_ : (Lit.int .i64 a1).wf = true) : Calls Try.prog 5 #[R x0 y0, .int .i64 a1] w fun e w' => e = .returned (.bool true) ∧ Below w.heap.size w w' := by
  by_cases h : ROk x0 y0 ∧ 0 ≤ a1 ∧ a1 ≤ 300
  · exact core w _ _ _ _ (fun W => spec_catch_yes W _ _ _ h.1 h.2.1 h.2.2) (fun W => impl_catch_yes W _ _ _ h.1 h.2.1 h.2.2)
  · exact core w _ _ _ _ (fun W => spec_catch_no W _ _ _ h) (fun W => impl_catch_no W _ _ _ h)
end Go.Proofs.Yteogonlclldjlaa.wFnExactCatch
namespace Go.Proofs.Yteogonlclldjlaa.wFnExactBetterRoof
open Go.RowKit Go.Proofs.Yteogonlclldjlaa.kit Go.Proofs.Yteogonlclldjlaa.lawi Go.Proofs.Yteogonlclldjlaa.own Go.Proofs.Yteogonlclldjlaa.rainl Go.Proofs.Yteogonlclldjlaa.rain Go.Proofs.Yteogonlclldjlaa.plain Go.Proofs.Yteogonlclldjlaa.roof
set_option maxRecDepth 100000 in
set_option maxHeartbeats 2000000 in
theorem core (w : World) (x0_0 x0_1 : Int) (x1_0 x1_1 : Int) (r0 : Int)
    (hs : ∀ W, Calls Try.prog 35 #[stRoof.R x0_0 x0_1, stRoof.R x1_0 x1_1] W (Gives W (.int .i64 r0)))
    (hi : ∀ W, Calls Try.prog 19 #[stRoof.R x0_0 x0_1, stRoof.R x1_0 x1_1] W (Gives W (.int .i64 r0))) :
    Calls Try.prog 9 #[stRoof.R x0_0 x0_1, stRoof.R x1_0 x1_1] w (Gives w (.bool true)) := by
  have HS := Lib.hid hs
  have HI := Lib.hid hi
  clear hs hi
  have Y0 : Blk ((w.alloc (.cells #[.int .i64 x0_0, .int .i64 x0_1] 39)).alloc (.cells #[.int .i64 x1_0, .int .i64 x1_1] 39)) w.heap.size 39 #[.int .i64 x0_0, .int .i64 x0_1] := by
    have := (Blk.new w 39 #[.int .i64 x0_0, .int .i64 x0_1]).alloc (.cells #[.int .i64 x1_0, .int .i64 x1_1] 39)
    simpa using this
  have X0 := Lib.hid Y0
  clear Y0
  have Y1 : Blk ((w.alloc (.cells #[.int .i64 x0_0, .int .i64 x0_1] 39)).alloc (.cells #[.int .i64 x1_0, .int .i64 x1_1] 39)) (w.heap.size + 1) 39 #[.int .i64 x1_0, .int .i64 x1_1] := by
    have := Blk.new (w.alloc (.cells #[.int .i64 x0_0, .int .i64 x0_1] 39)) 39 #[.int .i64 x1_0, .int .i64 x1_1]
    simpa using this
  have X1 := Lib.hid Y1
  clear Y1
  have B0 : Below w.heap.size w ((w.alloc (.cells #[.int .i64 x0_0, .int .i64 x0_1] 39)).alloc (.cells #[.int .i64 x1_0, .int .i64 x1_1] 39)) := below_al (below_al (Below.refl _ _) _) _
  go_enter Try.func9, Try.ntmps9
  have q0_0 : ((w.alloc (.cells #[.int .i64 x0_0, .int .i64 x0_1] 39)).alloc (.cells #[.int .i64 x1_0, .int .i64 x1_1] 39)).cell? ⟨w.heap.size, 0, none⟩ = some (.int .i64 x0_0) := (X0.out).cell 0
  have q0_1 : ((w.alloc (.cells #[.int .i64 x0_0, .int .i64 x0_1] 39)).alloc (.cells #[.int .i64 x1_0, .int .i64 x1_1] 39)).cell? ⟨w.heap.size, 1, none⟩ = some (.int .i64 x0_1) := (X0.out).cell 1
  have q1_0 : ((w.alloc (.cells #[.int .i64 x0_0, .int .i64 x0_1] 39)).alloc (.cells #[.int .i64 x1_0, .int .i64 x1_1] 39)).cell? ⟨w.heap.size + 1, 0, none⟩ = some (.int .i64 x1_0) := (X1.out).cell 0
  have q1_1 : ((w.alloc (.cells #[.int .i64 x0_0, .int .i64 x0_1] 39)).alloc (.cells #[.int .i64 x1_0, .int .i64 x1_1] 39)).cell? ⟨w.heap.size + 1, 1, none⟩ = some (.int .i64 x1_1) := (X1.out).cell 1
  go_wp2
  go_region_held3 (fun W => W.cell? ⟨w.heap.size, 0, none⟩ = some (.int .i64 x0_0) ∧ W.cell? ⟨w.heap.size, 1, none⟩ = some (.int .i64 x0_1) ∧ W.cell? ⟨w.heap.size + 1, 0, none⟩ = some (.int .i64 x1_0) ∧ W.cell? ⟨w.heap.size + 1, 1, none⟩ = some (.int .i64 x1_1)) (first | assumption | exact ⟨q0_0, q0_1, q1_0, q1_1⟩ | exact keep4 (by assumption) (by assumption) | fail)
    (first
      | (go_at_call 23; refine (stRoof.to_any _ _ _).mono ?_; rintro e wt ⟨rfl, hb⟩)
      | (go_at_call 35; refine (HS.out _).mono ?_; rintro e w1 ⟨rfl, hb⟩)
      | fail)
  have CB1 : Below ((w.alloc (.cells #[.int .i64 x0_0, .int .i64 x0_1] 39)).alloc (.cells #[.int .i64 x1_0, .int .i64 x1_1] 39)).heap.size ((w.alloc (.cells #[.int .i64 x0_0, .int .i64 x0_1] 39)).alloc (.cells #[.int .i64 x1_0, .int .i64 x1_1] 39)) w1 := (by repeat (first | (with_reducible exact Below.refl _ _) | (with_reducible refine below_dr ?_) | (with_reducible refine below_al ?_ _) | (with_reducible refine below_step ?_ (by assumption)) | fail))
  clear q0_0 q0_1 q1_0 q1_1
  have CB := CB1; clear CB1; have B := below_step B0 CB
  have q0_0 : w1.cell? ⟨w.heap.size, 0, none⟩ = some (.int .i64 x0_0) := (X0.out.step CB).cell 0
  have q0_1 : w1.cell? ⟨w.heap.size, 1, none⟩ = some (.int .i64 x0_1) := (X0.out.step CB).cell 1
  have q1_0 : w1.cell? ⟨w.heap.size + 1, 0, none⟩ = some (.int .i64 x1_0) := (X1.out.step CB).cell 0
  have q1_1 : w1.cell? ⟨w.heap.size + 1, 1, none⟩ = some (.int .i64 x1_1) := (X1.out.step CB).cell 1
  go_wp2
  go_region_held3 (fun W => W.cell? ⟨w.heap.size, 0, none⟩ = some (.int .i64 x0_0) ∧ W.cell? ⟨w.heap.size, 1, none⟩ = some (.int .i64 x0_1) ∧ W.cell? ⟨w.heap.size + 1, 0, none⟩ = some (.int .i64 x1_0) ∧ W.cell? ⟨w.heap.size + 1, 1, none⟩ = some (.int .i64 x1_1)) (first | assumption | exact ⟨q0_0, q0_1, q1_0, q1_1⟩ | exact keep4 (by assumption) (by assumption) | fail)
    (first
      | (go_at_call 23; refine (stRoof.to_any _ _ _).mono ?_; rintro e wt ⟨rfl, hb⟩)
      | (go_at_call 19; refine (HI.out _).mono ?_; rintro e w2 ⟨rfl, hb⟩)
      | fail)
  clear B
  have CB2 : Below ((w.alloc (.cells #[.int .i64 x0_0, .int .i64 x0_1] 39)).alloc (.cells #[.int .i64 x1_0, .int .i64 x1_1] 39)).heap.size ((w.alloc (.cells #[.int .i64 x0_0, .int .i64 x0_1] 39)).alloc (.cells #[.int .i64 x1_0, .int .i64 x1_1] 39)) w2 := (by repeat (first | (with_reducible exact Below.refl _ _) | (with_reducible refine below_dr ?_) | (with_reducible refine below_al ?_ _) | (with_reducible refine below_step ?_ (by assumption)) | fail))
  clear q0_0 q0_1 q1_0 q1_1
  clear CB
  have CB := CB2; clear CB2; have B := below_step B0 CB
  go_wp2
  go_ret
  exact ⟨rfl, B⟩
theorem walk (w : World) (x0 y0 : Int) (_ : (Lit.int .i64 x0).wf = true) (_ : (Lit.int .i64 y0).wf = true) (x1 y1 : Int) (_ : (Lit.int .i64 x1).wf = true) (_ : (Lit.int .i64 y1).wf = true) : Calls Try.prog 9 #[R x0 y0, R x1 y1] w fun e w' => e = .returned (.bool true) ∧ Below w.heap.size w w' := by
  by_cases h : ROk x0 y0 ∧ ROk x1 y1
  · exact core w _ _ _ _ _ (fun W => spec_better_yes W _ _ _ _ h.1 h.2) (fun W => impl_better_yes W _ _ _ _ h.1 h.2)
  · exact core w _ _ _ _ _ (fun W => spec_better_no W _ _ _ _ h) (fun W => impl_better_no W _ _ _ _ h)
end Go.Proofs.Yteogonlclldjlaa.wFnExactBetterRoof
namespace Go.Proofs.Yteogonlclldjlaa.wFnExactAreaFor
open Go.RowKit Go.Proofs.Yteogonlclldjlaa.kit Go.Proofs.Yteogonlclldjlaa.lawi Go.Proofs.Yteogonlclldjlaa.own Go.Proofs.Yteogonlclldjlaa.rainl Go.Proofs.Yteogonlclldjlaa.rain Go.Proofs.Yteogonlclldjlaa.plain Go.Proofs.Yteogonlclldjlaa.roof
set_option maxRecDepth 100000 in
set_option maxHeartbeats 2000000 in
theorem core (w : World) (a0 : Int) (a1 : Int) (a2 : Int) (r0 : Int)
    (hs : ∀ W, Calls Try.prog 34 #[.int .i64 a0, .int .i64 a1, .int .i64 a2] W (Gives W (.int .i64 r0)))
    (hi : ∀ W, Calls Try.prog 18 #[.int .i64 a0, .int .i64 a1, .int .i64 a2] W (Gives W (.int .i64 r0))) :
    Calls Try.prog 8 #[.int .i64 a0, .int .i64 a1, .int .i64 a2] w (Gives w (.bool true)) := by
  have HS := Lib.hid hs
  have HI := Lib.hid hi
  clear hs hi
  have B0 : Below w.heap.size w w := Below.refl _ _
  go_enter Try.func8, Try.ntmps8
  go_wp2_with fail
  refine (HS.out _ ).mono ?_; rintro e w1 ⟨rfl, hb⟩
  have B : Below w.heap.size w w1 := below_step B0 hb
  have CB : Below w.heap.size w w1 := hb
  clear hb
  go_wp2_with fail
  refine (HI.out _ ).mono ?_; rintro e w2 ⟨rfl, hb⟩
  replace B := below_step B hb
  replace CB := below_step CB hb
  clear hb
  go_wp2
  go_ret
  exact ⟨rfl, B⟩
theorem walk (w : World) (a0 : Int) (_ : (Lit.int .i64 a0).wf = true) (a1 : Int) (_ : (Lit.int .i64 a1).wf = true) (a2 : Int) (_ : (Lit.int .i64 a2).wf = true) : Calls Try.prog 8 #[.int .i64 a0, .int .i64 a1, .int .i64 a2] w fun e w' => e = .returned (.bool true) ∧ Below w.heap.size w w' := by
  by_cases h : AreaIn a0 a1 a2
  · obtain ⟨A, hA⟩ := FirstIn.ex (Enough a0 a1 a2) 1 1000
    exact core w _ _ _ _ (fun W => spec_area_yes W _ _ _ h A hA) (fun W => impl_area_yes W _ _ _ h A hA)
  · exact core w _ _ _ _ (fun W => spec_area_no W _ _ _ h) (fun W => impl_area_no W _ _ _ h)
end Go.Proofs.Yteogonlclldjlaa.wFnExactAreaFor
namespace Go.Proofs.Yteogonlclldjlaa.wFnExactCatchAll
open Go.RowKit Go.Proofs.Yteogonlclldjlaa.kit Go.Proofs.Yteogonlclldjlaa.lawi Go.Proofs.Yteogonlclldjlaa.own Go.Proofs.Yteogonlclldjlaa.rainl Go.Proofs.Yteogonlclldjlaa.rain Go.Proofs.Yteogonlclldjlaa.plain Go.Proofs.Yteogonlclldjlaa.roof
set_option maxRecDepth 100000 in
set_option maxHeartbeats 2000000 in
theorem core (w : World) (v0 : Value) (n0 : Nat) (zs0 : List Int) (hn0 : n0 ≤ 1048576) (h0 : Row 2 w v0 n0 (zs0.map (Value.int .i64))) (a1 : Int) (r0 : Int)
    (hs : ∀ W u0, Row 2 W u0 n0 (zs0.map (Value.int .i64)) → Calls Try.prog 26 #[u0, .int .i64 a1] W (Gives W (.int .i64 r0)))
    (hi : ∀ W u0, Row 2 W u0 n0 (zs0.map (Value.int .i64)) → Calls Try.prog 14 #[u0, .int .i64 a1] W (Gives W (.int .i64 r0))) :
    Calls Try.prog 6 #[v0, .int .i64 a1] w (Gives w (.bool true)) := by
  obtain ⟨b0, c0, rfl⟩ := h0.shape
  have H0 := Lib.hid h0
  clear h0
  have HS := Lib.hid hs
  have HI := Lib.hid hi
  clear hs hi
  have B0 : Below w.heap.size w w := Below.refl _ _
  go_enter Try.func6, Try.ntmps6
  go_wp2_with fail
  refine (stRoof.szS_yes _ _ n0 c0 _ (by omega) (by omega)).mono ?_; rintro e w' ⟨rfl, rfl⟩
  go_wp2_with fail
  refine (stRoof.toS_got _ _ n0 zs0 hn0 (H0.out.keep B0)).mono ?_; rintro e w1 ⟨c_o1, rfl, ho, hb⟩
  have o1 := OwnR.of_own ho
  have B : Below w.heap.size w w1 := below_step B0 hb
  have CB : Below w.heap.size w w1 := hb
  clear hb ho
  go_wp2_with fail
  refine (HS.out _ _ o1.row).mono ?_; rintro e w2 ⟨rfl, hb⟩
  replace o1 := o1.keep hb
  replace B := below_step B hb
  replace CB := below_step CB hb
  clear hb
  clear o1
  go_wp2_with fail
  refine (stRoof.toS_got _ _ n0 zs0 hn0 (H0.out.keep B)).mono ?_; rintro e w3 ⟨c_x0, rfl, ho, hb⟩
  have x0 := OwnR.of_own ho
  replace B := below_step B hb
  replace CB := below_step CB hb
  clear hb ho
  go_wp2_with fail
  refine (HI.out _ _ x0.row).mono ?_; rintro e w4 ⟨rfl, hb⟩
  replace x0 := x0.keep hb
  replace B := below_step B hb
  replace CB := below_step CB hb
  clear hb
  go_wp2_with fail
  refine (stRoof.toS_got _ _ n0 zs0 hn0 (H0.out.keep B)).mono ?_; rintro e w5 ⟨c_o3, rfl, ho, hb⟩
  replace x0 := x0.keep hb
  have o3 := OwnR.of_own ho
  replace B := below_step B hb
  replace CB := below_step CB hb
  clear hb ho
  go_wp2_with fail
  refine (stRoof.eqS_yes _ _ _ n0 zs0 hn0 x0.row o3.row).mono ?_; rintro e w6 ⟨rfl, hb⟩
  replace x0 := x0.keep hb
  replace o3 := o3.keep hb
  replace B := below_step B hb
  replace CB := below_step CB hb
  clear hb
  clear o3
  go_wp2
  go_ret
  exact ⟨rfl, B⟩
theorem walk (w : World) (v0 : Value) (n0 : Nat) (zs0 : List Int) (h0 : Row 2 w v0 n0 (zs0.map (Value.int .i64))) (hm0 : n0 ≤ 9223372036854775807) (a1 : Int) (_ : (Lit.int .i64 a1).wf = true) : Calls Try.prog 6 #[v0, .int .i64 a1] w fun e w' => e = .returned (.bool true) ∧ Below w.heap.size w w' := by
  by_cases hl : n0 ≤ 1048576
  · by_cases h : AllR zs0 a1 n0 ∧ n0 ≤ 20
    · exact core w v0 n0 zs0 hl h0 a1 _ (fun W u hu => spec_all_yes W u n0 zs0 _ hu h.2 h.1) (fun W u hu => impl_all_yes W u n0 zs0 _ hu h.2 h.1)
    · exact core w v0 n0 zs0 hl h0 a1 _ (fun W u hu => spec_all_no W u n0 zs0 _ hu hl h) (fun W u hu => impl_all_no W u n0 zs0 _ hu hl h)
  · obtain ⟨a, c, rfl⟩ := h0.shape
    go_enter Try.func6, Try.ntmps6
    go_wp2_with fail
    refine (stRoof.szS_no _ _ n0 c _ (by omega) (by omega) hm0).mono ?_; rintro e w' ⟨rfl, rfl⟩
    go_wp2
    go_ret
    exact ⟨rfl, Below.refl _ _⟩
end Go.Proofs.Yteogonlclldjlaa.wFnExactCatchAll
namespace Go.Proofs.Yteogonlclldjlaa.wFnExactCatchDays
open Go.RowKit Go.Proofs.Yteogonlclldjlaa.kit Go.Proofs.Yteogonlclldjlaa.lawi Go.Proofs.Yteogonlclldjlaa.own Go.Proofs.Yteogonlclldjlaa.rainl Go.Proofs.Yteogonlclldjlaa.rain Go.Proofs.Yteogonlclldjlaa.plain Go.Proofs.Yteogonlclldjlaa.roof
set_option maxRecDepth 100000 in
set_option maxHeartbeats 2000000 in
theorem core (w : World) (x0_0 x0_1 : Int) (v1 : Value) (n1 : Nat) (zs1 : List Int) (hn1 : n1 ≤ 1048576) (h1 : Row 1 w v1 n1 (zs1.map (Value.int .i64))) (m0 : Nat) (ys0 : List Int) (hm0 : m0 ≤ 1048576)
    (hs : ∀ W u1, Row 1 W u1 n1 (zs1.map (Value.int .i64)) → Calls Try.prog 29 #[stRoof.R x0_0 x0_1, u1] W (GotR 3 1 W m0 (ys0.map (Value.int .i64))))
    (hi : ∀ W u1, Row 1 W u1 n1 (zs1.map (Value.int .i64)) → Calls Try.prog 17 #[stRoof.R x0_0 x0_1, u1] W (GotR 3 1 W m0 (ys0.map (Value.int .i64)))) :
    Calls Try.prog 7 #[stRoof.R x0_0 x0_1, v1] w (Gives w (.bool true)) := by
  obtain ⟨b1, c1, rfl⟩ := h1.shape
  have H1 := Lib.hid h1
  clear h1
  have HS := Lib.hid hs
  have HI := Lib.hid hi
  clear hs hi
  have Y0 : Blk (w.alloc (.cells #[.int .i64 x0_0, .int .i64 x0_1] 39)) w.heap.size 39 #[.int .i64 x0_0, .int .i64 x0_1] := by
    have := Blk.new w 39 #[.int .i64 x0_0, .int .i64 x0_1]
    simpa using this
  have X0 := Lib.hid Y0
  clear Y0
  have B0 : Below w.heap.size w (w.alloc (.cells #[.int .i64 x0_0, .int .i64 x0_1] 39)) := below_al (Below.refl _ _) _
  go_enter Try.func7, Try.ntmps7
  have q0_0 := (X0.out).cell 0
  have q0_1 := (X0.out).cell 1
  go_wp2_with fail
  refine (stRoof.to_any _ _ _).mono ?_; rintro e w1 ⟨rfl, hb⟩
  clear q0_0 q0_1
  have zz1 := hb.size
  have B : Below w.heap.size w w1 := below_step B0 hb
  have CB : Below (w.alloc (.cells #[.int .i64 x0_0, .int .i64 x0_1] 39)).heap.size (w.alloc (.cells #[.int .i64 x0_0, .int .i64 x0_1] 39)) w1 := hb
  have zB := B.size
  clear hb
  go_wp2_with fail
  refine (toInt_got _ _ n1 zs1 hn1 (H1.out.keep B)).mono ?_; rintro e w2 ⟨c_o1, rfl, ho, hb⟩
  have o1 := OwnR.of_own ho
  have zz2 := hb.size
  replace B := below_step B hb
  replace CB := below_step CB hb
  clear hb ho
  go_wp2_with fail
  refine (HS.out _ _ o1.row).mono ?_; rintro e w3 ⟨t_s, rfl, ho, hb⟩
  replace o1 := o1.keep hb
  have s := OwnR.of_own ho
  have zz3 := hb.size
  replace B := below_step B hb
  replace CB := below_step CB hb
  clear hb ho
  clear o1
  go_wp2_with fail
  refine (toInt_got _ _ n1 zs1 hn1 (H1.out.keep B)).mono ?_; rintro e w4 ⟨c_x1, rfl, ho, hb⟩
  replace s := s.keep hb
  have x1 := OwnR.of_own ho
  have zz4 := hb.size
  replace B := below_step B hb
  replace CB := below_step CB hb
  clear hb ho
  have q0_0 := (X0.out.step CB).cell 0
  have q0_1 := (X0.out.step CB).cell 1
  go_wp2_with fail
  refine (stRoof.to_any _ _ _).mono ?_; rintro e w5 ⟨rfl, hb⟩
  clear q0_0 q0_1
  replace s := s.keep hb
  replace x1 := x1.keep hb
  have zz5 := hb.size
  replace B := below_step B hb
  replace CB := below_step CB hb
  clear hb
  go_wp2_with fail
  refine (HI.out _ _ x1.row).mono ?_; rintro e w6 ⟨t_g, rfl, ho, hb⟩
  replace s := s.keep hb
  replace x1 := x1.keep hb
  have g := OwnR.of_own ho
  have zz6 := hb.size
  replace B := below_step B hb
  replace CB := below_step CB hb
  clear hb ho
  go_wp2_with fail
  refine (eqInt_gives _ _ _ m0 ys0 hm0 g.row s.row).mono ?_; rintro e w7 ⟨rfl, hb⟩
  replace s := s.keep hb
  replace x1 := x1.keep hb
  replace g := g.keep hb
  have zz7 := hb.size
  replace B := below_step B hb
  replace CB := below_step CB hb
  clear hb
  go_wp2_with fail
  refine (toInt_got _ _ n1 zs1 hn1 (H1.out.keep B)).mono ?_; rintro e w8 ⟨c_o3, rfl, ho, hb⟩
  replace s := s.keep hb
  replace x1 := x1.keep hb
  replace g := g.keep hb
  have o3 := OwnR.of_own ho
  have zz8 := hb.size
  replace B := below_step B hb
  replace CB := below_step CB hb
  clear hb ho
  go_wp2_with fail
  refine (eqInt_gives _ _ _ n1 zs1 hn1 x1.row o3.row).mono ?_; rintro e w9 ⟨rfl, hb⟩
  replace s := s.keep hb
  replace x1 := x1.keep hb
  replace g := g.keep hb
  replace o3 := o3.keep hb
  have zz9 := hb.size
  replace B := below_step B hb
  replace CB := below_step CB hb
  clear hb
  clear o3
  -- marks
  go_wp2_with fail
  refine (markInt_own _ _ _ _ n1 _ 1 _ (by omega) (by omega) x1).mono ?_; rintro e w10 ⟨rfl, om, ch⟩
  have zz10 := ch.size
  replace s := s.chg ch (by omega)
  replace g := g.chg ch (by omega)
  replace x1 := om
  have hb := ch.below (B := w.heap.size) (by omega) (by omega)
  replace B := B.trans hb
  clear hb
  have hc := ch.below (B := (w.alloc (.cells #[.int .i64 x0_0, .int .i64 x0_1] 39)).heap.size) (by omega) (by omega)
  replace CB := CB.trans hc
  clear hc
  clear om ch
  go_wp2_with fail
  refine (eqInt_gives _ _ _ m0 ys0 hm0 g.row s.row).mono ?_; rintro e w11 ⟨rfl, hb⟩
  replace s := s.keep hb
  replace x1 := x1.keep hb
  replace g := g.keep hb
  have zz11 := hb.size
  replace B := below_step B hb
  replace CB := below_step CB hb
  clear hb
  clear x1
  go_wp2_with fail
  refine (markInt_own _ _ _ _ m0 _ 1 _ (by omega) (by omega) g).mono ?_; rintro e w12 ⟨rfl, om, ch⟩
  have zz12 := ch.size
  replace s := s.chg ch (by omega)
  replace g := om
  have hb := ch.below (B := w.heap.size) (by omega) (by omega)
  replace B := B.trans hb
  clear hb
  have hc := ch.below (B := (w.alloc (.cells #[.int .i64 x0_0, .int .i64 x0_1] 39)).heap.size) (by omega) (by omega)
  replace CB := CB.trans hc
  clear hc
  clear om ch
  go_wp2_with fail
  refine (heldInt_gives _ _ m0 1 _ rfl (by omega) g.row).mono ?_; rintro e w13 ⟨rfl, hb⟩
  replace s := s.keep hb
  replace g := g.keep hb
  have zz13 := hb.size
  replace B := below_step B hb
  replace CB := below_step CB hb
  clear hb
  have q0_0 := (X0.out.step CB).cell 0
  have q0_1 := (X0.out.step CB).cell 1
  go_wp2_with fail
  refine (stRoof.to_any _ _ _).mono ?_; rintro e w14 ⟨rfl, hb⟩
  clear q0_0 q0_1
  replace s := s.keep hb
  replace g := g.keep hb
  have zz14 := hb.size
  replace B := below_step B hb
  replace CB := below_step CB hb
  clear hb
  go_wp2_with fail
  refine (toInt_got _ _ n1 zs1 hn1 (H1.out.keep B)).mono ?_; rintro e w15 ⟨c_o4, rfl, ho, hb⟩
  replace s := s.keep hb
  replace g := g.keep hb
  have o4 := OwnR.of_own ho
  have zz15 := hb.size
  replace B := below_step B hb
  replace CB := below_step CB hb
  clear hb ho
  go_wp2_with fail
  refine (HI.out _ _ o4.row).mono ?_; rintro e w16 ⟨t_h, rfl, ho, hb⟩
  replace s := s.keep hb
  replace g := g.keep hb
  replace o4 := o4.keep hb
  have h := OwnR.of_own ho
  have zz16 := hb.size
  replace B := below_step B hb
  replace CB := below_step CB hb
  clear hb ho
  clear o4
  go_wp2_with fail
  refine (eqInt_gives _ _ _ m0 ys0 hm0 h.row s.row).mono ?_; rintro e w17 ⟨rfl, hb⟩
  replace s := s.keep hb
  replace g := g.keep hb
  replace h := h.keep hb
  have zz17 := hb.size
  replace B := below_step B hb
  replace CB := below_step CB hb
  clear hb
  clear h
  clear s
  go_wp2_with fail
  refine (heldInt_gives _ _ m0 1 _ rfl (by omega) g.row).mono ?_; rintro e w18 ⟨rfl, hb⟩
  replace g := g.keep hb
  have zz18 := hb.size
  replace B := below_step B hb
  replace CB := below_step CB hb
  clear hb
  go_wp2
  go_ret
  exact ⟨rfl, B⟩
theorem walk (w : World) (x0 y0 : Int) (_ : (Lit.int .i64 x0).wf = true) (_ : (Lit.int .i64 y0).wf = true) (a1 : Option Addr) (len1 cap1 : Nat) (z1 : List Int) (w1 : IsRow .i64 w a1 len1 cap1 z1) : Calls Try.prog 7 #[R x0 y0, .slice a1 len1 cap1] w fun e w' => e = .returned (.bool true) ∧ Below w.heap.size w w' := by
  by_cases hl : len1 ≤ 1048576
  · have hz : (z1.take len1).length = len1 := by simpa using w1.row.1
    by_cases h : ROk x0 y0 ∧ Ok (z1.take len1)
    · exact core w _ _ _ len1 _ hl w1.row len1 _ hl (fun W u hu => spec_days_yes W _ _ u len1 _ h.1 hu h.2) (fun W u hu => impl_days_yes W _ _ u len1 _ h.1 hu h.2)
    · exact core w _ _ _ len1 _ hl w1.row 0 [] (by omega) (fun W u hu => spec_days_no W _ _ u len1 _ hl hu h) (fun W u hu => impl_days_no W _ _ u len1 _ hl hu h)
  · go_enter Try.func7, Try.ntmps7
    go_wp2
    go_ret
    exact ⟨rfl, below_al (Below.refl _ _) _⟩
end Go.Proofs.Yteogonlclldjlaa.wFnExactCatchDays
