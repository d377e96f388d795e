/- The exact laws on fractions return true. -/
import Derived.Test.YtiglbofbacecpaaFrcI
import Derived.Deep.DeepCutAuto
import Derived.Deep.DrawnRows
set_option linter.unusedVariables false
namespace Go.Proofs.Ytiglbofbacecpaa.wFnExactFractionOk
open Go.RowKit Go.Proofs.Ytiglbofbacecpaa.kit Go.Proofs.Ytiglbofbacecpaa.lawi Go.Proofs.Ytiglbofbacecpaa.own Go.Proofs.Ytiglbofbacecpaa.rain Go.Proofs.Ytiglbofbacecpaa.frc
set_option maxRecDepth 100000 in
set_option maxHeartbeats 2000000 in
theorem core (w : World) (x0_0 x0_1 : Int) (r0 : Bool)
    (hs : ∀ W, Calls Try.prog 9 #[stFraction.R x0_0 x0_1] W (Gives W (.bool r0)))
    (hi : ∀ W, Calls Try.prog 11 #[stFraction.R x0_0 x0_1] W (Gives W (.bool r0))) :
    Calls Try.prog 3 #[stFraction.R x0_0 x0_1] w (Gives w (.bool true)) := by
  have HS := Lib.hid hs
  have HI := Lib.hid hi
  clear hs hi
  have Y0 : Blk (w.alloc (.cells #[.int .i64 x0_0, .int .i64 x0_1] 23)) w.heap.size 23 #[.int .i64 x0_0, .int .i64 x0_1] := by
    have := Blk.new w 23 #[.int .i64 x0_0, .int .i64 x0_1]
    simpa using this
  have X0 := Lib.hid Y0
  clear Y0
  have B0 : Below w.heap.size w (w.alloc (.cells #[.int .i64 x0_0, .int .i64 x0_1] 23)) := below_al (Below.refl _ _) _
  go_enter Try.func3, Try.ntmps3
  have q0_0 := (X0.out).cell 0
  have q0_1 := (X0.out).cell 1
  go_wp2_with fail
  refine (stFraction.to_any _ _ _).mono ?_; rintro e w1 ⟨rfl, hb⟩
  clear q0_0 q0_1
  have B : Below w.heap.size w w1 := below_step B0 hb
  have CB : Below (w.alloc (.cells #[.int .i64 x0_0, .int .i64 x0_1] 23)).heap.size (w.alloc (.cells #[.int .i64 x0_0, .int .i64 x0_1] 23)) w1 := hb
  clear hb
  go_wp2_with fail
  refine (HS.out _ ).mono ?_; rintro e w2 ⟨rfl, hb⟩
  replace B := below_step B hb
  replace CB := below_step CB hb
  clear hb
  have q0_0 := (X0.out.step CB).cell 0
  have q0_1 := (X0.out.step CB).cell 1
  go_wp2_with fail
  refine (stFraction.to_any _ _ _).mono ?_; rintro e w3 ⟨rfl, hb⟩
  clear q0_0 q0_1
  replace B := below_step B hb
  replace CB := below_step CB hb
  clear hb
  go_wp2_with fail
  refine (HI.out _ ).mono ?_; rintro e w4 ⟨rfl, hb⟩
  replace B := below_step B hb
  replace CB := below_step CB hb
  clear hb
  go_wp2
  go_ret
  exact ⟨rfl, B⟩
theorem walk (w : World) (x0 y0 : Int) (_ : (Lit.int .i64 x0).wf = true) (_ : (Lit.int .i64 y0).wf = true) : Calls Try.prog 3 #[stFraction.R x0 y0] w fun e w' => e = .returned (.bool true) ∧ Below w.heap.size w w' := by
  by_cases h : Fk x0 y0
  · exact core w _ _ true (fun W => spec_fok W _ _ true ⟨fun _ => h, fun _ => rfl⟩) (fun W => impl_fok W _ _ true ⟨fun _ => h, fun _ => rfl⟩)
  · exact core w _ _ false (fun W => spec_fok W _ _ false ⟨fun e => (by cases e), fun e => absurd e h⟩) (fun W => impl_fok W _ _ false ⟨fun e => (by cases e), fun e => absurd e h⟩)
end Go.Proofs.Ytiglbofbacecpaa.wFnExactFractionOk
namespace Go.Proofs.Ytiglbofbacecpaa.wFnExactPartOf
open Go.RowKit Go.Proofs.Ytiglbofbacecpaa.kit Go.Proofs.Ytiglbofbacecpaa.lawi Go.Proofs.Ytiglbofbacecpaa.own Go.Proofs.Ytiglbofbacecpaa.rain Go.Proofs.Ytiglbofbacecpaa.frc
set_option maxRecDepth 100000 in
set_option maxHeartbeats 2000000 in
theorem core (w : World) (x0_0 x0_1 : Int) (a1 : Int) (r0 : Int)
    (hs : ∀ W, Calls Try.prog 21 #[stFraction.R x0_0 x0_1, .int .i64 a1] W (Gives W (.int .i64 r0)))
    (hi : ∀ W, Calls Try.prog 22 #[stFraction.R x0_0 x0_1, .int .i64 a1] W (Gives W (.int .i64 r0))) :
    Calls Try.prog 8 #[stFraction.R x0_0 x0_1, .int .i64 a1] w (Gives w (.bool true)) := by
  have HS := Lib.hid hs
  have HI := Lib.hid hi
  clear hs hi
  have Y0 : Blk (w.alloc (.cells #[.int .i64 x0_0, .int .i64 x0_1] 23)) w.heap.size 23 #[.int .i64 x0_0, .int .i64 x0_1] := by
    have := Blk.new w 23 #[.int .i64 x0_0, .int .i64 x0_1]
    simpa using this
  have X0 := Lib.hid Y0
  clear Y0
  have B0 : Below w.heap.size w (w.alloc (.cells #[.int .i64 x0_0, .int .i64 x0_1] 23)) := below_al (Below.refl _ _) _
  go_enter Try.func8, Try.ntmps8
  have q0_0 := (X0.out).cell 0
  have q0_1 := (X0.out).cell 1
  go_wp2_with fail
  refine (stFraction.to_any _ _ _).mono ?_; rintro e w1 ⟨rfl, hb⟩
  clear q0_0 q0_1
  have B : Below w.heap.size w w1 := below_step B0 hb
  have CB : Below (w.alloc (.cells #[.int .i64 x0_0, .int .i64 x0_1] 23)).heap.size (w.alloc (.cells #[.int .i64 x0_0, .int .i64 x0_1] 23)) w1 := hb
  clear hb
  go_wp2_with fail
  refine (HS.out _ ).mono ?_; rintro e w2 ⟨rfl, hb⟩
  replace B := below_step B hb
  replace CB := below_step CB hb
  clear hb
  have q0_0 := (X0.out.step CB).cell 0
  have q0_1 := (X0.out.step CB).cell 1
  go_wp2_with fail
  refine (stFraction.to_any _ _ _).mono ?_; rintro e w3 ⟨rfl, hb⟩
  clear q0_0 q0_1
  replace B := below_step B hb
  replace CB := below_step CB hb
  clear hb
  go_wp2_with fail
  refine (HI.out _ ).mono ?_; rintro e w4 ⟨rfl, hb⟩
  replace B := below_step B hb
  replace CB := below_step CB hb
  clear hb
  go_wp2
  go_ret
  exact ⟨rfl, B⟩
theorem walk (w : World) (x0 y0 : Int) (_ : (Lit.int .i64 x0).wf = true) (_ : (Lit.int .i64 y0).wf = true) (a1 : Int) (_ : (Lit.int .i64 a1).wf = true) : Calls Try.prog 8 #[stFraction.R x0 y0, .int .i64 a1] w fun e w' => e = .returned (.bool true) ∧ Below w.heap.size w w' := by
  obtain ⟨m, hm⟩ := Po.ex x0 y0 a1
  exact core w _ _ _ _ (fun W => spec_po W _ _ _ _ hm) (fun W => impl_po W _ _ _ _ hm)
end Go.Proofs.Ytiglbofbacecpaa.wFnExactPartOf
namespace Go.Proofs.Ytiglbofbacecpaa.wFnExactCompareFractions
open Go.RowKit Go.Proofs.Ytiglbofbacecpaa.kit Go.Proofs.Ytiglbofbacecpaa.lawi Go.Proofs.Ytiglbofbacecpaa.own Go.Proofs.Ytiglbofbacecpaa.rain Go.Proofs.Ytiglbofbacecpaa.frc
set_option maxRecDepth 100000 in
set_option maxHeartbeats 2000000 in
theorem core (w : World) (x0_0 x0_1 : Int) (x1_0 x1_1 : Int) (r0 : Int)
    (hs : ∀ W, Calls Try.prog 19 #[stFraction.R x0_0 x0_1, stFraction.R x1_0 x1_1] W (Gives W (.int .i64 r0)))
    (hi : ∀ W, Calls Try.prog 20 #[stFraction.R x0_0 x0_1, stFraction.R x1_0 x1_1] W (Gives W (.int .i64 r0))) :
    Calls Try.prog 7 #[stFraction.R x0_0 x0_1, stFraction.R x1_0 x1_1] w (Gives w (.bool true)) := by
  have HS := Lib.hid hs
  have HI := Lib.hid hi
  clear hs hi
  have Y0 : Blk ((w.alloc (.cells #[.int .i64 x0_0, .int .i64 x0_1] 23)).alloc (.cells #[.int .i64 x1_0, .int .i64 x1_1] 23)) w.heap.size 23 #[.int .i64 x0_0, .int .i64 x0_1] := by
    have := (Blk.new w 23 #[.int .i64 x0_0, .int .i64 x0_1]).alloc (.cells #[.int .i64 x1_0, .int .i64 x1_1] 23)
    simpa using this
  have X0 := Lib.hid Y0
  clear Y0
  have Y1 : Blk ((w.alloc (.cells #[.int .i64 x0_0, .int .i64 x0_1] 23)).alloc (.cells #[.int .i64 x1_0, .int .i64 x1_1] 23)) (w.heap.size + 1) 23 #[.int .i64 x1_0, .int .i64 x1_1] := by
    have := Blk.new (w.alloc (.cells #[.int .i64 x0_0, .int .i64 x0_1] 23)) 23 #[.int .i64 x1_0, .int .i64 x1_1]
    simpa using this
  have X1 := Lib.hid Y1
  clear Y1
  have B0 : Below w.heap.size w ((w.alloc (.cells #[.int .i64 x0_0, .int .i64 x0_1] 23)).alloc (.cells #[.int .i64 x1_0, .int .i64 x1_1] 23)) := below_al (below_al (Below.refl _ _) _) _
  go_enter Try.func7, Try.ntmps7
  have q0_0 : ((w.alloc (.cells #[.int .i64 x0_0, .int .i64 x0_1] 23)).alloc (.cells #[.int .i64 x1_0, .int .i64 x1_1] 23)).cell? ⟨w.heap.size, 0, none⟩ = some (.int .i64 x0_0) := (X0.out).cell 0
  have q0_1 : ((w.alloc (.cells #[.int .i64 x0_0, .int .i64 x0_1] 23)).alloc (.cells #[.int .i64 x1_0, .int .i64 x1_1] 23)).cell? ⟨w.heap.size, 1, none⟩ = some (.int .i64 x0_1) := (X0.out).cell 1
  have q1_0 : ((w.alloc (.cells #[.int .i64 x0_0, .int .i64 x0_1] 23)).alloc (.cells #[.int .i64 x1_0, .int .i64 x1_1] 23)).cell? ⟨w.heap.size + 1, 0, none⟩ = some (.int .i64 x1_0) := (X1.out).cell 0
  have q1_1 : ((w.alloc (.cells #[.int .i64 x0_0, .int .i64 x0_1] 23)).alloc (.cells #[.int .i64 x1_0, .int .i64 x1_1] 23)).cell? ⟨w.heap.size + 1, 1, none⟩ = some (.int .i64 x1_1) := (X1.out).cell 1
  go_wp2
  go_region_held3 (fun W => W.cell? ⟨w.heap.size, 0, none⟩ = some (.int .i64 x0_0) ∧ W.cell? ⟨w.heap.size, 1, none⟩ = some (.int .i64 x0_1) ∧ W.cell? ⟨w.heap.size + 1, 0, none⟩ = some (.int .i64 x1_0) ∧ W.cell? ⟨w.heap.size + 1, 1, none⟩ = some (.int .i64 x1_1)) (first | assumption | exact ⟨q0_0, q0_1, q1_0, q1_1⟩ | exact keep4 (by assumption) (by assumption) | fail)
    (first
      | (go_at_call 10; refine (stFraction.to_any _ _ _).mono ?_; rintro e wt ⟨rfl, hb⟩)
      | (go_at_call 19; refine (HS.out _).mono ?_; rintro e w1 ⟨rfl, hb⟩)
      | fail)
  have CB1 : Below ((w.alloc (.cells #[.int .i64 x0_0, .int .i64 x0_1] 23)).alloc (.cells #[.int .i64 x1_0, .int .i64 x1_1] 23)).heap.size ((w.alloc (.cells #[.int .i64 x0_0, .int .i64 x0_1] 23)).alloc (.cells #[.int .i64 x1_0, .int .i64 x1_1] 23)) w1 := (by repeat (first | (with_reducible exact Below.refl _ _) | (with_reducible refine below_dr ?_) | (with_reducible refine below_al ?_ _) | (with_reducible refine below_step ?_ (by assumption)) | fail))
  clear q0_0 q0_1 q1_0 q1_1
  have CB := CB1; clear CB1; have B := below_step B0 CB
  have q0_0 : w1.cell? ⟨w.heap.size, 0, none⟩ = some (.int .i64 x0_0) := (X0.out.step CB).cell 0
  have q0_1 : w1.cell? ⟨w.heap.size, 1, none⟩ = some (.int .i64 x0_1) := (X0.out.step CB).cell 1
  have q1_0 : w1.cell? ⟨w.heap.size + 1, 0, none⟩ = some (.int .i64 x1_0) := (X1.out.step CB).cell 0
  have q1_1 : w1.cell? ⟨w.heap.size + 1, 1, none⟩ = some (.int .i64 x1_1) := (X1.out.step CB).cell 1
  go_wp2
  go_region_held3 (fun W => W.cell? ⟨w.heap.size, 0, none⟩ = some (.int .i64 x0_0) ∧ W.cell? ⟨w.heap.size, 1, none⟩ = some (.int .i64 x0_1) ∧ W.cell? ⟨w.heap.size + 1, 0, none⟩ = some (.int .i64 x1_0) ∧ W.cell? ⟨w.heap.size + 1, 1, none⟩ = some (.int .i64 x1_1)) (first | assumption | exact ⟨q0_0, q0_1, q1_0, q1_1⟩ | exact keep4 (by assumption) (by assumption) | fail)
    (first
      | (go_at_call 10; refine (stFraction.to_any _ _ _).mono ?_; rintro e wt ⟨rfl, hb⟩)
      | (go_at_call 20; refine (HI.out _).mono ?_; rintro e w2 ⟨rfl, hb⟩)
      | fail)
  clear B
  have CB2 : Below ((w.alloc (.cells #[.int .i64 x0_0, .int .i64 x0_1] 23)).alloc (.cells #[.int .i64 x1_0, .int .i64 x1_1] 23)).heap.size ((w.alloc (.cells #[.int .i64 x0_0, .int .i64 x0_1] 23)).alloc (.cells #[.int .i64 x1_0, .int .i64 x1_1] 23)) w2 := (by repeat (first | (with_reducible exact Below.refl _ _) | (with_reducible refine below_dr ?_) | (with_reducible refine below_al ?_ _) | (with_reducible refine below_step ?_ (by assumption)) | fail))
  clear q0_0 q0_1 q1_0 q1_1
  clear CB
  have CB := CB2; clear CB2; have B := below_step B0 CB
  go_wp2
  go_ret
  exact ⟨rfl, B⟩
theorem walk (w : World) (x0 y0 : Int) (_ : (Lit.int .i64 x0).wf = true) (_ : (Lit.int .i64 y0).wf = true) (x1 y1 : Int) (_ : (Lit.int .i64 x1).wf = true) (_ : (Lit.int .i64 y1).wf = true) : Calls Try.prog 7 #[stFraction.R x0 y0, stFraction.R x1 y1] w fun e w' => e = .returned (.bool true) ∧ Below w.heap.size w w' := by
  obtain ⟨c, hc⟩ := Cp.ex x0 y0 x1 y1
  exact core w _ _ _ _ _ (fun W => spec_cp W _ _ _ _ _ hc) (fun W => impl_cp W _ _ _ _ _ hc)
end Go.Proofs.Ytiglbofbacecpaa.wFnExactCompareFractions
namespace Go.Proofs.Ytiglbofbacecpaa.wFnExactMakeFraction
open Go.RowKit Go.Proofs.Ytiglbofbacecpaa.kit Go.Proofs.Ytiglbofbacecpaa.lawi Go.Proofs.Ytiglbofbacecpaa.own Go.Proofs.Ytiglbofbacecpaa.rain Go.Proofs.Ytiglbofbacecpaa.frc
set_option maxHeartbeats 2000000 in
theorem core (w : World) (a0 a1 x y : Int) (r : Bool)
    (hs : ∀ W, Calls Try.prog 12 #[.int .i64 a0, .int .i64 a1] W (Gives W (.tuple #[stFraction.R x y, .bool r])))
    (hi : ∀ W, Calls Try.prog 13 #[.int .i64 a0, .int .i64 a1] W (Gives W (.tuple #[stFraction.R x y, .bool r]))) :
    Calls Try.prog 4 #[.int .i64 a0, .int .i64 a1] w (Gives w (.bool true)) := by
  have HS := Lib.hid hs
  have HI := Lib.hid hi
  clear hs hi
  go_enter Try.func4, Try.ntmps4
  go_wp2_with fail
  refine (HS.out _).mono ?_; rintro e w1 ⟨rfl, hb⟩
  obtain ⟨wA, hwA⟩ : ∃ wA, w1.alloc (.cells #[.int .i64 x, .int .i64 y] TF) = wA := ⟨_, rfl⟩
  have S0 : Hid (Blk wA w1.heap.size TF #[.int .i64 x, .int .i64 y]) := Lib.hid (hwA ▸ Blk.new w1 TF #[.int .i64 x, .int .i64 y])
  have CB : Hid (Below w.heap.size w wA) := Lib.hid (hwA ▸ below_al hb _)
  clear hb
  go_wp2_with fail
  refine (HI.out _).mono ?_; rintro e w2 ⟨rfl, hb⟩
  clear hwA
  obtain ⟨wB, hwB⟩ : ∃ wB, w2.alloc (.cells #[.int .i64 x, .int .i64 y] TF) = wB := ⟨_, rfl⟩
  have S1 : Hid (Blk wB w2.heap.size TF #[.int .i64 x, .int .i64 y]) := Lib.hid (hwB ▸ Blk.new w2 TF #[.int .i64 x, .int .i64 y])
  have L : Hid (Below wA.heap.size wA wB) := Lib.hid (hwB ▸ below_al hb _)
  clear hb
  obtain ⟨s0, s1, _⟩ := fcell (S0.out.step L.out)
  obtain ⟨s2, s3, _⟩ := fcell S1.out
  go_wp2_with fail
  refine (stFraction.eq_yes _ _ _).mono ?_; rintro e w3 ⟨rfl, hb⟩
  have L3 := Lib.hid (below_step L.out hb)
  clear hb hwB s0 s1 s2 s3
  cases r
  all_goals
    go_wp2
    go_ret
    exact ⟨rfl, CB.out.trans (L3.out.mono CB.out.size)⟩
theorem walk (w : World) (a0 : Int) (_ : (Lit.int .i64 a0).wf = true) (a1 : Int) (_ : (Lit.int .i64 a1).wf = true) : Calls Try.prog 4 #[.int .i64 a0, .int .i64 a1] w fun e w' => e = .returned (.bool true) ∧ Below w.heap.size w w' := by
  obtain ⟨x, y, r, hr⟩ := Mk.ex a0 a1
  exact core w _ _ _ _ _ (fun W => spec_mk W _ _ _ _ _ hr) (fun W => impl_mk W _ _ _ _ _ hr)
end Go.Proofs.Ytiglbofbacecpaa.wFnExactMakeFraction
namespace Go.Proofs.Ytiglbofbacecpaa.wFnExactAddFractions
open Go.RowKit Go.Proofs.Ytiglbofbacecpaa.kit Go.Proofs.Ytiglbofbacecpaa.lawi Go.Proofs.Ytiglbofbacecpaa.own Go.Proofs.Ytiglbofbacecpaa.rain Go.Proofs.Ytiglbofbacecpaa.frc
attribute [local go_sem ↓] Go.wp_at_zero Go.wp_at_succ
set_option maxRecDepth 100000 in
set_option maxHeartbeats 4000000 in
theorem core (w : World) (x0_0 x0_1 x1_0 x1_1 x y : Int) (r : Bool)
    (hs : ∀ W, Calls Try.prog 15 #[stFraction.R x0_0 x0_1, stFraction.R x1_0 x1_1] W (Gives W (.tuple #[stFraction.R x y, .bool r])))
    (hi : ∀ W, Calls Try.prog 16 #[stFraction.R x0_0 x0_1, stFraction.R x1_0 x1_1] W (Gives W (.tuple #[stFraction.R x y, .bool r]))) :
    Calls Try.prog 5 #[stFraction.R x0_0 x0_1, stFraction.R x1_0 x1_1] w (Gives w (.bool true)) := by
  have HS := Lib.hid hs
  have HI := Lib.hid hi
  clear hs hi
  have X0 := Lib.hid ((Blk.new w 23 #[.int .i64 x0_0, .int .i64 x0_1]).alloc (.cells #[.int .i64 x1_0, .int .i64 x1_1] 23))
  have X1 := Lib.hid (Blk.new1 w 23 #[.int .i64 x1_0, .int .i64 x1_1] (.cells #[.int .i64 x0_0, .int .i64 x0_1] 23))
  have CB : Below w.heap.size w ((w.alloc (.cells #[.int .i64 x0_0, .int .i64 x0_1] 23)).alloc (.cells #[.int .i64 x1_0, .int .i64 x1_1] 23)) := below_al (below_al (Below.refl _ _) _) _
  go_enter Try.func5, Try.ntmps5
  go_upto_region 1 with fail
  obtain ⟨wb, hwb⟩ : ∃ wb, (w.alloc (.cells #[.int .i64 x0_0, .int .i64 x0_1] 23)).alloc (.cells #[.int .i64 x1_0, .int .i64 x1_1] 23) = wb := ⟨_, rfl⟩
  rw [hwb] at X0 X1 CB
  rw [hwb]
  clear hwb
  have q0 : wb.cell? ⟨w.heap.size, 0, none⟩ = some (.int .i64 x0_0) := X0.out.cell 0
  have q1 : wb.cell? ⟨w.heap.size, 1, none⟩ = some (.int .i64 x0_1) := X0.out.cell 1
  have q2 : wb.cell? ⟨w.heap.size + 1, 0, none⟩ = some (.int .i64 x1_0) := X1.out.cell 0
  have q3 : wb.cell? ⟨w.heap.size + 1, 1, none⟩ = some (.int .i64 x1_1) := X1.out.cell 1
  clear X0 X1
  go_cut [5, 6] (fun s1 s2 wx => Made wb x y s1 wx ∧ s2 = .bool r)
  case first =>
    go_region_held3 (fun W => W.cell? ⟨w.heap.size, 0, none⟩ = some (.int .i64 x0_0) ∧ W.cell? ⟨w.heap.size, 1, none⟩ = some (.int .i64 x0_1) ∧ W.cell? ⟨w.heap.size + 1, 0, none⟩ = some (.int .i64 x1_0) ∧ W.cell? ⟨w.heap.size + 1, 1, none⟩ = some (.int .i64 x1_1))
      (first | exact keep4 ⟨q0, q1, q2, q3⟩ (by repeat (first | (with_reducible exact Below.refl _ _) | (with_reducible refine below_dr ?_) | (with_reducible refine below_al ?_ _) | (with_reducible refine below_step ?_ (by assumption)) | (with_reducible refine Below.setCell ?_ ?_ _) | (simp only []; omega) | omega | fail)) | fail)
      (first
        | (go_at_call 10; (fail_if_success (have _h := wA)); refine (stFraction.to_any _ _ _).mono ?_; rintro e wA ⟨rfl, hb⟩; obtain ⟨hc, hf⟩ := bcell hb; have hz := hb.size; (try simp only [World.size_drew] at hz); (try simp only [World.size_alloc] at hz); (try simp only [World.size_drew] at hz); (try have l_wA_wb0 : wb.heap.size < wA.heap.size := by omega); (try have l_wA_wb1 : wb.heap.size + 1 < wA.heap.size := by omega))
        | (go_at_call 10; refine (stFraction.to_any _ _ _).mono ?_; rintro e wB ⟨rfl, hb⟩; obtain ⟨hc, hf⟩ := bcell hb; have hz := hb.size; (try simp only [World.size_drew] at hz); (try simp only [World.size_alloc] at hz); (try simp only [World.size_drew] at hz); (try have l_wB_wb0 : wb.heap.size < wB.heap.size := by omega); (try have l_wB_wb1 : wb.heap.size + 1 < wB.heap.size := by omega); (try have l_wB_wA0 : wA.heap.size < wB.heap.size := by omega); (try have l_wB_wA1 : wA.heap.size + 1 < wB.heap.size := by omega))
        | (go_at_call 15; refine (HS.out _).mono ?_; rintro e wC ⟨rfl, hb⟩; obtain ⟨hc, hf⟩ := bcell hb; have hz := hb.size; (try simp only [World.size_drew] at hz); (try simp only [World.size_alloc] at hz); (try simp only [World.size_drew] at hz); (try have l_wC_wb0 : wb.heap.size < wC.heap.size := by omega); (try have l_wC_wb1 : wb.heap.size + 1 < wC.heap.size := by omega); (try have l_wC_wA0 : wA.heap.size < wC.heap.size := by omega); (try have l_wC_wA1 : wA.heap.size + 1 < wC.heap.size := by omega); (try have l_wC_wB0 : wB.heap.size < wC.heap.size := by omega); (try have l_wC_wB1 : wB.heap.size + 1 < wC.heap.size := by omega))
        | fail)
    all_goals
      go_wp2_with fail
      go_meet
      refine ⟨⟨_, rfl, (by repeat (first | (with_reducible exact Below.refl _ _) | (with_reducible refine below_dr ?_) | (with_reducible refine below_al ?_ _) | (with_reducible refine below_step ?_ (by assumption)) | (with_reducible refine Below.setCell ?_ ?_ _) | (simp only []; omega) | omega | fail)), ?_, ?_⟩, rfl⟩
      all_goals (try go_simp)
      all_goals (refine World.cell?_setCell_same _ _ _ (u := .int .i64 0) ?_; go_simp)
  case rest =>
    obtain ⟨⟨g, rfl, B1, c0, c1⟩, rfl⟩ := hcut
    obtain ⟨p0, p1, p2, p3⟩ := keep4 ⟨q0, q1, q2, q3⟩ B1
    have CB1 := below_step CB B1
    clear CB B1 q0 q1 q2 q3
    have c0' := Lib.hid c0
    have c1' := Lib.hid c1
    clear c0 c1
    go_upto_region 2 with fail
    go_cut [7, 8] (fun s1 s2 wx => Made wc x y s1 wx ∧ s2 = .bool r)
    case first =>
      go_region_held3 (fun W => W.cell? ⟨w.heap.size, 0, none⟩ = some (.int .i64 x0_0) ∧ W.cell? ⟨w.heap.size, 1, none⟩ = some (.int .i64 x0_1) ∧ W.cell? ⟨w.heap.size + 1, 0, none⟩ = some (.int .i64 x1_0) ∧ W.cell? ⟨w.heap.size + 1, 1, none⟩ = some (.int .i64 x1_1))
        (first | exact keep4 ⟨p0, p1, p2, p3⟩ (by repeat (first | (with_reducible exact Below.refl _ _) | (with_reducible refine below_dr ?_) | (with_reducible refine below_al ?_ _) | (with_reducible refine below_step ?_ (by assumption)) | (with_reducible refine Below.setCell ?_ ?_ _) | (simp only []; omega) | omega | fail)) | fail)
        (first
          | (go_at_call 10; (fail_if_success (have _h := wD)); refine (stFraction.to_any _ _ _).mono ?_; rintro e wD ⟨rfl, hb⟩; obtain ⟨hc, hf⟩ := bcell hb; have hz := hb.size; (try simp only [World.size_drew] at hz); (try simp only [World.size_alloc] at hz); (try simp only [World.size_drew] at hz); (try have l_wD_wc0 : wc.heap.size < wD.heap.size := by omega); (try have l_wD_wc1 : wc.heap.size + 1 < wD.heap.size := by omega))
          | (go_at_call 10; refine (stFraction.to_any _ _ _).mono ?_; rintro e wE ⟨rfl, hb⟩; obtain ⟨hc, hf⟩ := bcell hb; have hz := hb.size; (try simp only [World.size_drew] at hz); (try simp only [World.size_alloc] at hz); (try simp only [World.size_drew] at hz); (try have l_wE_wc0 : wc.heap.size < wE.heap.size := by omega); (try have l_wE_wc1 : wc.heap.size + 1 < wE.heap.size := by omega); (try have l_wE_wD0 : wD.heap.size < wE.heap.size := by omega); (try have l_wE_wD1 : wD.heap.size + 1 < wE.heap.size := by omega))
          | (go_at_call 16; refine (HI.out _).mono ?_; rintro e wF ⟨rfl, hb⟩; obtain ⟨hc, hf⟩ := bcell hb; have hz := hb.size; (try simp only [World.size_drew] at hz); (try simp only [World.size_alloc] at hz); (try simp only [World.size_drew] at hz); (try have l_wF_wc0 : wc.heap.size < wF.heap.size := by omega); (try have l_wF_wc1 : wc.heap.size + 1 < wF.heap.size := by omega); (try have l_wF_wD0 : wD.heap.size < wF.heap.size := by omega); (try have l_wF_wD1 : wD.heap.size + 1 < wF.heap.size := by omega); (try have l_wF_wE0 : wE.heap.size < wF.heap.size := by omega); (try have l_wF_wE1 : wE.heap.size + 1 < wF.heap.size := by omega))
          | fail)
      all_goals
        go_wp2_with fail
        go_meet
        refine ⟨⟨_, rfl, (by repeat (first | (with_reducible exact Below.refl _ _) | (with_reducible refine below_dr ?_) | (with_reducible refine below_al ?_ _) | (with_reducible refine below_step ?_ (by assumption)) | (with_reducible refine Below.setCell ?_ ?_ _) | (simp only []; omega) | omega | fail)), ?_, ?_⟩, rfl⟩
        all_goals (try go_simp)
        all_goals (refine World.cell?_setCell_same _ _ _ (u := .int .i64 0) ?_; go_simp)
    case rest =>
      obtain ⟨⟨g2, rfl, B2, d0, d1⟩, rfl⟩ := hcut
      have c0 := keep1 c0'.out B2
      have c1 := keep1 c1'.out B2
      have CB2 := Lib.hid (below_step CB1 B2)
      clear CB1 B2 p0 p1 p2 p3
      go_wp2_with fail
      refine (stFraction.eq_yes _ _ _).mono ?_; rintro e wE ⟨rfl, hb⟩
      have CB3 := Lib.hid (below_step CB2.out hb)
      clear hb c0 c1 d0 d1
      cases r
      all_goals
        go_wp2
        go_ret
        exact ⟨rfl, CB3.out⟩
theorem walk (w : World) (x0 y0 : Int) (_ : (Lit.int .i64 x0).wf = true) (_ : (Lit.int .i64 y0).wf = true) (x1 y1 : Int) (_ : (Lit.int .i64 x1).wf = true) (_ : (Lit.int .i64 y1).wf = true) : Calls Try.prog 5 #[stFraction.R x0 y0, stFraction.R x1 y1] w fun e w' => e = .returned (.bool true) ∧ Below w.heap.size w w' := by
  obtain ⟨x, y, r, hr⟩ := Ad.ex x0 y0 x1 y1
  exact core w _ _ _ _ _ _ _ (fun W => spec_add W _ _ _ _ _ _ _ hr) (fun W => impl_add W _ _ _ _ _ _ _ hr)
end Go.Proofs.Ytiglbofbacecpaa.wFnExactAddFractions
namespace Go.Proofs.Ytiglbofbacecpaa.wFnExactTimesFraction
open Go.RowKit Go.Proofs.Ytiglbofbacecpaa.kit Go.Proofs.Ytiglbofbacecpaa.lawi Go.Proofs.Ytiglbofbacecpaa.own Go.Proofs.Ytiglbofbacecpaa.rain Go.Proofs.Ytiglbofbacecpaa.frc
attribute [local go_sem ↓] Go.wp_at_zero Go.wp_at_succ
set_option maxRecDepth 100000 in
set_option maxHeartbeats 4000000 in
theorem core (w : World) (x0_0 x0_1 x1_0 x1_1 x y : Int) (r : Bool)
    (hs : ∀ W, Calls Try.prog 17 #[stFraction.R x0_0 x0_1, stFraction.R x1_0 x1_1] W (Gives W (.tuple #[stFraction.R x y, .bool r])))
    (hi : ∀ W, Calls Try.prog 18 #[stFraction.R x0_0 x0_1, stFraction.R x1_0 x1_1] W (Gives W (.tuple #[stFraction.R x y, .bool r]))) :
    Calls Try.prog 6 #[stFraction.R x0_0 x0_1, stFraction.R x1_0 x1_1] w (Gives w (.bool true)) := by
  have HS := Lib.hid hs
  have HI := Lib.hid hi
  clear hs hi
  have X0 := Lib.hid ((Blk.new w 23 #[.int .i64 x0_0, .int .i64 x0_1]).alloc (.cells #[.int .i64 x1_0, .int .i64 x1_1] 23))
  have X1 := Lib.hid (Blk.new1 w 23 #[.int .i64 x1_0, .int .i64 x1_1] (.cells #[.int .i64 x0_0, .int .i64 x0_1] 23))
  have CB : Below w.heap.size w ((w.alloc (.cells #[.int .i64 x0_0, .int .i64 x0_1] 23)).alloc (.cells #[.int .i64 x1_0, .int .i64 x1_1] 23)) := below_al (below_al (Below.refl _ _) _) _
  go_enter Try.func6, Try.ntmps6
  go_upto_region 1 with fail
  obtain ⟨wb, hwb⟩ : ∃ wb, (w.alloc (.cells #[.int .i64 x0_0, .int .i64 x0_1] 23)).alloc (.cells #[.int .i64 x1_0, .int .i64 x1_1] 23) = wb := ⟨_, rfl⟩
  rw [hwb] at X0 X1 CB
  rw [hwb]
  clear hwb
  have q0 : wb.cell? ⟨w.heap.size, 0, none⟩ = some (.int .i64 x0_0) := X0.out.cell 0
  have q1 : wb.cell? ⟨w.heap.size, 1, none⟩ = some (.int .i64 x0_1) := X0.out.cell 1
  have q2 : wb.cell? ⟨w.heap.size + 1, 0, none⟩ = some (.int .i64 x1_0) := X1.out.cell 0
  have q3 : wb.cell? ⟨w.heap.size + 1, 1, none⟩ = some (.int .i64 x1_1) := X1.out.cell 1
  clear X0 X1
  go_cut [5, 6] (fun s1 s2 wx => Made wb x y s1 wx ∧ s2 = .bool r)
  case first =>
    go_region_held3 (fun W => W.cell? ⟨w.heap.size, 0, none⟩ = some (.int .i64 x0_0) ∧ W.cell? ⟨w.heap.size, 1, none⟩ = some (.int .i64 x0_1) ∧ W.cell? ⟨w.heap.size + 1, 0, none⟩ = some (.int .i64 x1_0) ∧ W.cell? ⟨w.heap.size + 1, 1, none⟩ = some (.int .i64 x1_1))
      (first | exact keep4 ⟨q0, q1, q2, q3⟩ (by repeat (first | (with_reducible exact Below.refl _ _) | (with_reducible refine below_dr ?_) | (with_reducible refine below_al ?_ _) | (with_reducible refine below_step ?_ (by assumption)) | (with_reducible refine Below.setCell ?_ ?_ _) | (simp only []; omega) | omega | fail)) | fail)
      (first
        | (go_at_call 10; (fail_if_success (have _h := wA)); refine (stFraction.to_any _ _ _).mono ?_; rintro e wA ⟨rfl, hb⟩; obtain ⟨hc, hf⟩ := bcell hb; have hz := hb.size; (try simp only [World.size_drew] at hz); (try simp only [World.size_alloc] at hz); (try simp only [World.size_drew] at hz); (try have l_wA_wb0 : wb.heap.size < wA.heap.size := by omega); (try have l_wA_wb1 : wb.heap.size + 1 < wA.heap.size := by omega))
        | (go_at_call 10; refine (stFraction.to_any _ _ _).mono ?_; rintro e wB ⟨rfl, hb⟩; obtain ⟨hc, hf⟩ := bcell hb; have hz := hb.size; (try simp only [World.size_drew] at hz); (try simp only [World.size_alloc] at hz); (try simp only [World.size_drew] at hz); (try have l_wB_wb0 : wb.heap.size < wB.heap.size := by omega); (try have l_wB_wb1 : wb.heap.size + 1 < wB.heap.size := by omega); (try have l_wB_wA0 : wA.heap.size < wB.heap.size := by omega); (try have l_wB_wA1 : wA.heap.size + 1 < wB.heap.size := by omega))
        | (go_at_call 17; refine (HS.out _).mono ?_; rintro e wC ⟨rfl, hb⟩; obtain ⟨hc, hf⟩ := bcell hb; have hz := hb.size; (try simp only [World.size_drew] at hz); (try simp only [World.size_alloc] at hz); (try simp only [World.size_drew] at hz); (try have l_wC_wb0 : wb.heap.size < wC.heap.size := by omega); (try have l_wC_wb1 : wb.heap.size + 1 < wC.heap.size := by omega); (try have l_wC_wA0 : wA.heap.size < wC.heap.size := by omega); (try have l_wC_wA1 : wA.heap.size + 1 < wC.heap.size := by omega); (try have l_wC_wB0 : wB.heap.size < wC.heap.size := by omega); (try have l_wC_wB1 : wB.heap.size + 1 < wC.heap.size := by omega))
        | fail)
    all_goals
      go_wp2_with fail
      go_meet
      refine ⟨⟨_, rfl, (by repeat (first | (with_reducible exact Below.refl _ _) | (with_reducible refine below_dr ?_) | (with_reducible refine below_al ?_ _) | (with_reducible refine below_step ?_ (by assumption)) | (with_reducible refine Below.setCell ?_ ?_ _) | (simp only []; omega) | omega | fail)), ?_, ?_⟩, rfl⟩
      all_goals (try go_simp)
      all_goals (refine World.cell?_setCell_same _ _ _ (u := .int .i64 0) ?_; go_simp)
  case rest =>
    obtain ⟨⟨g, rfl, B1, c0, c1⟩, rfl⟩ := hcut
    obtain ⟨p0, p1, p2, p3⟩ := keep4 ⟨q0, q1, q2, q3⟩ B1
    have CB1 := below_step CB B1
    clear CB B1 q0 q1 q2 q3
    have c0' := Lib.hid c0
    have c1' := Lib.hid c1
    clear c0 c1
    go_upto_region 2 with fail
    go_cut [7, 8] (fun s1 s2 wx => Made wc x y s1 wx ∧ s2 = .bool r)
    case first =>
      go_region_held3 (fun W => W.cell? ⟨w.heap.size, 0, none⟩ = some (.int .i64 x0_0) ∧ W.cell? ⟨w.heap.size, 1, none⟩ = some (.int .i64 x0_1) ∧ W.cell? ⟨w.heap.size + 1, 0, none⟩ = some (.int .i64 x1_0) ∧ W.cell? ⟨w.heap.size + 1, 1, none⟩ = some (.int .i64 x1_1))
        (first | exact keep4 ⟨p0, p1, p2, p3⟩ (by repeat (first | (with_reducible exact Below.refl _ _) | (with_reducible refine below_dr ?_) | (with_reducible refine below_al ?_ _) | (with_reducible refine below_step ?_ (by assumption)) | (with_reducible refine Below.setCell ?_ ?_ _) | (simp only []; omega) | omega | fail)) | fail)
        (first
          | (go_at_call 10; (fail_if_success (have _h := wD)); refine (stFraction.to_any _ _ _).mono ?_; rintro e wD ⟨rfl, hb⟩; obtain ⟨hc, hf⟩ := bcell hb; have hz := hb.size; (try simp only [World.size_drew] at hz); (try simp only [World.size_alloc] at hz); (try simp only [World.size_drew] at hz); (try have l_wD_wc0 : wc.heap.size < wD.heap.size := by omega); (try have l_wD_wc1 : wc.heap.size + 1 < wD.heap.size := by omega))
          | (go_at_call 10; refine (stFraction.to_any _ _ _).mono ?_; rintro e wE ⟨rfl, hb⟩; obtain ⟨hc, hf⟩ := bcell hb; have hz := hb.size; (try simp only [World.size_drew] at hz); (try simp only [World.size_alloc] at hz); (try simp only [World.size_drew] at hz); (try have l_wE_wc0 : wc.heap.size < wE.heap.size := by omega); (try have l_wE_wc1 : wc.heap.size + 1 < wE.heap.size := by omega); (try have l_wE_wD0 : wD.heap.size < wE.heap.size := by omega); (try have l_wE_wD1 : wD.heap.size + 1 < wE.heap.size := by omega))
          | (go_at_call 18; refine (HI.out _).mono ?_; rintro e wF ⟨rfl, hb⟩; obtain ⟨hc, hf⟩ := bcell hb; have hz := hb.size; (try simp only [World.size_drew] at hz); (try simp only [World.size_alloc] at hz); (try simp only [World.size_drew] at hz); (try have l_wF_wc0 : wc.heap.size < wF.heap.size := by omega); (try have l_wF_wc1 : wc.heap.size + 1 < wF.heap.size := by omega); (try have l_wF_wD0 : wD.heap.size < wF.heap.size := by omega); (try have l_wF_wD1 : wD.heap.size + 1 < wF.heap.size := by omega); (try have l_wF_wE0 : wE.heap.size < wF.heap.size := by omega); (try have l_wF_wE1 : wE.heap.size + 1 < wF.heap.size := by omega))
          | fail)
      all_goals
        go_wp2_with fail
        go_meet
        refine ⟨⟨_, rfl, (by repeat (first | (with_reducible exact Below.refl _ _) | (with_reducible refine below_dr ?_) | (with_reducible refine below_al ?_ _) | (with_reducible refine below_step ?_ (by assumption)) | (with_reducible refine Below.setCell ?_ ?_ _) | (simp only []; omega) | omega | fail)), ?_, ?_⟩, rfl⟩
        all_goals (try go_simp)
        all_goals (refine World.cell?_setCell_same _ _ _ (u := .int .i64 0) ?_; go_simp)
    case rest =>
      obtain ⟨⟨g2, rfl, B2, d0, d1⟩, rfl⟩ := hcut
      have c0 := keep1 c0'.out B2
      have c1 := keep1 c1'.out B2
      have CB2 := Lib.hid (below_step CB1 B2)
      clear CB1 B2 p0 p1 p2 p3
      go_wp2_with fail
      refine (stFraction.eq_yes _ _ _).mono ?_; rintro e wE ⟨rfl, hb⟩
      have CB3 := Lib.hid (below_step CB2.out hb)
      clear hb c0 c1 d0 d1
      cases r
      all_goals
        go_wp2
        go_ret
        exact ⟨rfl, CB3.out⟩
theorem walk (w : World) (x0 y0 : Int) (_ : (Lit.int .i64 x0).wf = true) (_ : (Lit.int .i64 y0).wf = true) (x1 y1 : Int) (_ : (Lit.int .i64 x1).wf = true) (_ : (Lit.int .i64 y1).wf = true) : Calls Try.prog 6 #[stFraction.R x0 y0, stFraction.R x1 y1] w fun e w' => e = .returned (.bool true) ∧ Below w.heap.size w w' := by
  obtain ⟨x, y, r, hr⟩ := Ti.ex x0 y0 x1 y1
  exact core w _ _ _ _ _ _ _ (fun W => spec_ti W _ _ _ _ _ _ _ hr) (fun W => impl_ti W _ _ _ _ _ _ _ hr)
end Go.Proofs.Ytiglbofbacecpaa.wFnExactTimesFraction
