/- The exact laws on cisterns return true. -/
import Derived.Test.YthfmbmodlnddeaaCis2
import Derived.Test.YthfmbmodlnddeaaStCistern
set_option linter.unusedVariables false
namespace Go.Proofs.Ythfmbmodlnddeaa.wFnExactCisternOk
open Go.RowKit Go.Proofs.Ythfmbmodlnddeaa.kit Go.Proofs.Ythfmbmodlnddeaa.lawi Go.Proofs.Ythfmbmodlnddeaa.own Go.Proofs.Ythfmbmodlnddeaa.rainl Go.Proofs.Ythfmbmodlnddeaa.rain Go.Proofs.Ythfmbmodlnddeaa.cis
set_option maxRecDepth 100000 in
set_option maxHeartbeats 2000000 in
theorem core (w : World) (x0_0 x0_1 : Int) (r0 : Bool)
    (hs : ∀ W, Calls Try.prog 19 #[stCistern.R x0_0 x0_1] W (Gives W (.bool r0)))
    (hi : ∀ W, Calls Try.prog 17 #[stCistern.R x0_0 x0_1] W (Gives W (.bool r0))) :
    Calls Try.prog 4 #[stCistern.R x0_0 x0_1] w (Gives w (.bool true)) := by
  have HS := Lib.hid hs
  have HI := Lib.hid hi
  clear hs hi
  have Y0 : Blk (w.alloc (.cells #[.int .i64 x0_0, .int .i64 x0_1] 34)) w.heap.size 34 #[.int .i64 x0_0, .int .i64 x0_1] := by
    have := Blk.new w 34 #[.int .i64 x0_0, .int .i64 x0_1]
    simpa using this
  have X0 := Lib.hid Y0
  clear Y0
  have B0 : Below w.heap.size w (w.alloc (.cells #[.int .i64 x0_0, .int .i64 x0_1] 34)) := below_al (Below.refl _ _) _
  go_enter Try.func4, Try.ntmps4
  have q0_0 := (X0.out).cell 0
  have q0_1 := (X0.out).cell 1
  go_wp2_with fail
  refine (stCistern.to_any _ _ _).mono ?_; rintro e w1 ⟨rfl, hb⟩
  clear q0_0 q0_1
  have B : Below w.heap.size w w1 := below_step B0 hb
  have CB : Below (w.alloc (.cells #[.int .i64 x0_0, .int .i64 x0_1] 34)).heap.size (w.alloc (.cells #[.int .i64 x0_0, .int .i64 x0_1] 34)) w1 := hb
  clear hb
  go_wp2_with fail
  refine (HS.out _ ).mono ?_; rintro e w2 ⟨rfl, hb⟩
  replace B := below_step B hb
  replace CB := below_step CB hb
  clear hb
  have q0_0 := (X0.out.step CB).cell 0
  have q0_1 := (X0.out.step CB).cell 1
  go_wp2_with fail
  refine (stCistern.to_any _ _ _).mono ?_; rintro e w3 ⟨rfl, hb⟩
  clear q0_0 q0_1
  replace B := below_step B hb
  replace CB := below_step CB hb
  clear hb
  go_wp2_with fail
  refine (HI.out _ ).mono ?_; rintro e w4 ⟨rfl, hb⟩
  replace B := below_step B hb
  replace CB := below_step CB hb
  clear hb
  go_wp2
  go_ret
  exact ⟨rfl, B⟩
theorem walk (w : World) (x0 y0 : Int) (_ : (Lit.int .i64 x0).wf = true) (_ : (Lit.int .i64 y0).wf = true) : Calls Try.prog 4 #[C x0 y0] w fun e w' => e = .returned (.bool true) ∧ Below w.heap.size w w' := by
  by_cases h : COk x0 y0
  · exact core w _ _ _ (fun W => spec_cok_yes W _ _ h) (fun W => impl_cok_yes W _ _ h)
  · exact core w _ _ _ (fun W => spec_cok_no W _ _ h) (fun W => impl_cok_no W _ _ h)
end Go.Proofs.Ythfmbmodlnddeaa.wFnExactCisternOk
namespace Go.Proofs.Ythfmbmodlnddeaa.wFnExactSpaceIn
open Go.RowKit Go.Proofs.Ythfmbmodlnddeaa.kit Go.Proofs.Ythfmbmodlnddeaa.lawi Go.Proofs.Ythfmbmodlnddeaa.own Go.Proofs.Ythfmbmodlnddeaa.rainl Go.Proofs.Ythfmbmodlnddeaa.rain Go.Proofs.Ythfmbmodlnddeaa.cis
set_option maxRecDepth 100000 in
set_option maxHeartbeats 2000000 in
theorem core (w : World) (x0_0 x0_1 : Int) (r0 : Int)
    (hs : ∀ W, Calls Try.prog 24 #[stCistern.R x0_0 x0_1] W (Gives W (.int .i64 r0)))
    (hi : ∀ W, Calls Try.prog 16 #[stCistern.R x0_0 x0_1] W (Gives W (.int .i64 r0))) :
    Calls Try.prog 7 #[stCistern.R x0_0 x0_1] w (Gives w (.bool true)) := by
  have HS := Lib.hid hs
  have HI := Lib.hid hi
  clear hs hi
  have Y0 : Blk (w.alloc (.cells #[.int .i64 x0_0, .int .i64 x0_1] 34)) w.heap.size 34 #[.int .i64 x0_0, .int .i64 x0_1] := by
    have := Blk.new w 34 #[.int .i64 x0_0, .int .i64 x0_1]
    simpa using this
  have X0 := Lib.hid Y0
  clear Y0
  have B0 : Below w.heap.size w (w.alloc (.cells #[.int .i64 x0_0, .int .i64 x0_1] 34)) := below_al (Below.refl _ _) _
  go_enter Try.func7, Try.ntmps7
  have q0_0 := (X0.out).cell 0
  have q0_1 := (X0.out).cell 1
  go_wp2_with fail
  refine (stCistern.to_any _ _ _).mono ?_; rintro e w1 ⟨rfl, hb⟩
  clear q0_0 q0_1
  have B : Below w.heap.size w w1 := below_step B0 hb
  have CB : Below (w.alloc (.cells #[.int .i64 x0_0, .int .i64 x0_1] 34)).heap.size (w.alloc (.cells #[.int .i64 x0_0, .int .i64 x0_1] 34)) w1 := hb
  clear hb
  go_wp2_with fail
  refine (HS.out _ ).mono ?_; rintro e w2 ⟨rfl, hb⟩
  replace B := below_step B hb
  replace CB := below_step CB hb
  clear hb
  have q0_0 := (X0.out.step CB).cell 0
  have q0_1 := (X0.out.step CB).cell 1
  go_wp2_with fail
  refine (stCistern.to_any _ _ _).mono ?_; rintro e w3 ⟨rfl, hb⟩
  clear q0_0 q0_1
  replace B := below_step B hb
  replace CB := below_step CB hb
  clear hb
  go_wp2_with fail
  refine (HI.out _ ).mono ?_; rintro e w4 ⟨rfl, hb⟩
  replace B := below_step B hb
  replace CB := below_step CB hb
  clear hb
  go_wp2
  go_ret
  exact ⟨rfl, B⟩
theorem walk (w : World) (x0 y0 : Int) (_ : (Lit.int .i64 x0).wf = true) (_ : (Lit.int .i64 y0).wf = true) : Calls Try.prog 7 #[C x0 y0] w fun e w' => e = .returned (.bool true) ∧ Below w.heap.size w w' := by
  by_cases h : COk x0 y0
  · exact core w _ _ _ (fun W => spec_spacein_yes W _ _ h) (fun W => impl_spacein_yes W _ _ h)
  · exact core w _ _ _ (fun W => spec_spacein_no W _ _ h) (fun W => impl_spacein_no W _ _ h)
end Go.Proofs.Ythfmbmodlnddeaa.wFnExactSpaceIn
namespace Go.Proofs.Ythfmbmodlnddeaa.wFnExactPartFull
open Go.RowKit Go.Proofs.Ythfmbmodlnddeaa.kit Go.Proofs.Ythfmbmodlnddeaa.lawi Go.Proofs.Ythfmbmodlnddeaa.own Go.Proofs.Ythfmbmodlnddeaa.rainl Go.Proofs.Ythfmbmodlnddeaa.rain Go.Proofs.Ythfmbmodlnddeaa.cis
set_option maxRecDepth 100000 in
set_option maxHeartbeats 2000000 in
theorem core (w : World) (x0_0 x0_1 : Int) (r0 : Int)
    (hs : ∀ W, Calls Try.prog 25 #[stCistern.R x0_0 x0_1] W (Gives W (.int .i64 r0)))
    (hi : ∀ W, Calls Try.prog 18 #[stCistern.R x0_0 x0_1] W (Gives W (.int .i64 r0))) :
    Calls Try.prog 8 #[stCistern.R x0_0 x0_1] w (Gives w (.bool true)) := by
  have HS := Lib.hid hs
  have HI := Lib.hid hi
  clear hs hi
  have Y0 : Blk (w.alloc (.cells #[.int .i64 x0_0, .int .i64 x0_1] 34)) w.heap.size 34 #[.int .i64 x0_0, .int .i64 x0_1] := by
    have := Blk.new w 34 #[.int .i64 x0_0, .int .i64 x0_1]
    simpa using this
  have X0 := Lib.hid Y0
  clear Y0
  have B0 : Below w.heap.size w (w.alloc (.cells #[.int .i64 x0_0, .int .i64 x0_1] 34)) := below_al (Below.refl _ _) _
  go_enter Try.func8, Try.ntmps8
  have q0_0 := (X0.out).cell 0
  have q0_1 := (X0.out).cell 1
  go_wp2_with fail
  refine (stCistern.to_any _ _ _).mono ?_; rintro e w1 ⟨rfl, hb⟩
  clear q0_0 q0_1
  have B : Below w.heap.size w w1 := below_step B0 hb
  have CB : Below (w.alloc (.cells #[.int .i64 x0_0, .int .i64 x0_1] 34)).heap.size (w.alloc (.cells #[.int .i64 x0_0, .int .i64 x0_1] 34)) w1 := hb
  clear hb
  go_wp2_with fail
  refine (HS.out _ ).mono ?_; rintro e w2 ⟨rfl, hb⟩
  replace B := below_step B hb
  replace CB := below_step CB hb
  clear hb
  have q0_0 := (X0.out.step CB).cell 0
  have q0_1 := (X0.out.step CB).cell 1
  go_wp2_with fail
  refine (stCistern.to_any _ _ _).mono ?_; rintro e w3 ⟨rfl, hb⟩
  clear q0_0 q0_1
  replace B := below_step B hb
  replace CB := below_step CB hb
  clear hb
  go_wp2_with fail
  refine (HI.out _ ).mono ?_; rintro e w4 ⟨rfl, hb⟩
  replace B := below_step B hb
  replace CB := below_step CB hb
  clear hb
  go_wp2
  go_ret
  exact ⟨rfl, B⟩
theorem walk (w : World) (x0 y0 : Int) (_ : (Lit.int .i64 x0).wf = true) (_ : (Lit.int .i64 y0).wf = true) : Calls Try.prog 8 #[C x0 y0] w fun e w' => e = .returned (.bool true) ∧ Below w.heap.size w w' := by
  by_cases h : COk x0 y0
  · exact core w _ _ _ (fun W => spec_partfull_yes W _ _ h) (fun W => impl_partfull_yes W _ _ h)
  · exact core w _ _ _ (fun W => spec_partfull_no W _ _ h) (fun W => impl_partfull_no W _ _ h)
end Go.Proofs.Ythfmbmodlnddeaa.wFnExactPartFull
namespace Go.Proofs.Ythfmbmodlnddeaa.wFnExactPour
open Go.RowKit Go.Proofs.Ythfmbmodlnddeaa.kit Go.Proofs.Ythfmbmodlnddeaa.lawi Go.Proofs.Ythfmbmodlnddeaa.own Go.Proofs.Ythfmbmodlnddeaa.rainl Go.Proofs.Ythfmbmodlnddeaa.rain Go.Proofs.Ythfmbmodlnddeaa.cis
set_option maxRecDepth 100000 in
set_option maxHeartbeats 2000000 in
theorem core (w : World) (x0_0 x0_1 : Int) (a1 : Int) (y0_0 y0_1 : Int) (r1 : Int)
    (hs : ∀ W, Calls Try.prog 21 #[stCistern.R x0_0 x0_1, .int .i64 a1] W (Gives W (.tuple #[stCistern.R y0_0 y0_1, .int .i64 r1])))
    (hi : ∀ W, Calls Try.prog 13 #[stCistern.R x0_0 x0_1, .int .i64 a1] W (Gives W (.tuple #[stCistern.R y0_0 y0_1, .int .i64 r1]))) :
    Calls Try.prog 5 #[stCistern.R x0_0 x0_1, .int .i64 a1] w (Gives w (.bool true)) := by
  have HS := Lib.hid hs
  have HI := Lib.hid hi
  clear hs hi
  have X0 := Lib.hid (Blk.new w 34 #[.int .i64 x0_0, .int .i64 x0_1])
  go_enter Try.func5, Try.ntmps5
  have q0 := X0.out.cell 0
  have q1 := X0.out.cell 1
  go_wp2_with fail
  refine (stCistern.to_any _ _ _).mono ?_; rintro e w1 ⟨rfl, hb⟩
  clear q0 q1
  have CB := hb
  clear hb
  go_wp2_with fail
  refine (HS.out _).mono ?_; rintro e w2 ⟨rfl, hb⟩
  replace CB := below_step CB hb
  clear hb
  have q0 : w2.cell? ⟨w.heap.size, 0, none⟩ = some (.int .i64 x0_0) := (X0.out.step CB).cell 0
  have q1 : w2.cell? ⟨w.heap.size, 1, none⟩ = some (.int .i64 x0_1) := (X0.out.step CB).cell 1
  have z : w.heap.size < w2.heap.size := by have := CB.size; simp at this; omega
  have S0 := Lib.hid (Blk.new w2 25 #[.int .i64 y0_0, .int .i64 y0_1])
  go_wp2_with fail
  refine (stCistern.to_any _ _ _).mono ?_; rintro e w3 ⟨rfl, hb⟩
  have S1 := Lib.hid (S0.out.step hb)
  replace CB := below_step (below_al CB (.cells #[.int .i64 y0_0, .int .i64 y0_1] 25)) hb
  clear hb q0 q1 S0
  go_wp2_with fail
  refine (HI.out _).mono ?_; rintro e w4 ⟨rfl, hb⟩
  have s0 : w4.cell? ⟨w2.heap.size, 0, none⟩ = some (.int .i64 y0_0) := (S1.out.step hb).cell 0
  have s1 : w4.cell? ⟨w2.heap.size, 1, none⟩ = some (.int .i64 y0_1) := (S1.out.step hb).cell 1
  have z4 : w2.heap.size < w4.heap.size := (S1.out.step hb).lt
  replace CB := below_step CB hb
  clear hb S1
  go_wp2_with fail
  refine (stCistern.eq_yes _ _ _).mono ?_; rintro e w5 ⟨rfl, hb⟩
  replace CB := below_step (below_al CB (.cells #[.int .i64 y0_0, .int .i64 y0_1] 25)) hb
  clear hb s0 s1
  go_wp2
  go_ret
  exact ⟨rfl, below_step (below_al (Below.refl _ _) _) CB⟩
theorem walk (w : World) (x0 y0 : Int) (_ : (Lit.int .i64 x0).wf = true) (_ : (Lit.int .i64 y0).wf = true) (a1 : Int) (_ : (Lit.int .i64 a1).wf = true) : Calls Try.prog 5 #[C x0 y0, .int .i64 a1] w fun e w' => e = .returned (.bool true) ∧ Below w.heap.size w w' := by
  by_cases h : COk x0 y0 ∧ Wok a1
  · obtain ⟨n, hn⟩ := Mn.ex a1 (x0 - y0)
    exact core w _ _ _ _ _ _ (fun W => spec_pour_yes W _ _ _ _ h.1 h.2 hn) (fun W => impl_pour_yes W _ _ _ _ h.1 h.2 hn)
  · exact core w _ _ _ _ _ _ (fun W => spec_pour_no W _ _ _ h) (fun W => impl_pour_no W _ _ _ h)
end Go.Proofs.Ythfmbmodlnddeaa.wFnExactPour
namespace Go.Proofs.Ythfmbmodlnddeaa.wFnExactTakeOut
open Go.RowKit Go.Proofs.Ythfmbmodlnddeaa.kit Go.Proofs.Ythfmbmodlnddeaa.lawi Go.Proofs.Ythfmbmodlnddeaa.own Go.Proofs.Ythfmbmodlnddeaa.rainl Go.Proofs.Ythfmbmodlnddeaa.rain Go.Proofs.Ythfmbmodlnddeaa.cis
set_option maxRecDepth 100000 in
set_option maxHeartbeats 2000000 in
theorem core (w : World) (x0_0 x0_1 : Int) (a1 : Int) (y0_0 y0_1 : Int) (r1 : Int)
    (hs : ∀ W, Calls Try.prog 23 #[stCistern.R x0_0 x0_1, .int .i64 a1] W (Gives W (.tuple #[stCistern.R y0_0 y0_1, .int .i64 r1])))
    (hi : ∀ W, Calls Try.prog 14 #[stCistern.R x0_0 x0_1, .int .i64 a1] W (Gives W (.tuple #[stCistern.R y0_0 y0_1, .int .i64 r1]))) :
    Calls Try.prog 6 #[stCistern.R x0_0 x0_1, .int .i64 a1] w (Gives w (.bool true)) := by
  have HS := Lib.hid hs
  have HI := Lib.hid hi
  clear hs hi
  have X0 := Lib.hid (Blk.new w 34 #[.int .i64 x0_0, .int .i64 x0_1])
  go_enter Try.func6, Try.ntmps6
  have q0 := X0.out.cell 0
  have q1 := X0.out.cell 1
  go_wp2_with fail
  refine (stCistern.to_any _ _ _).mono ?_; rintro e w1 ⟨rfl, hb⟩
  clear q0 q1
  have CB := hb
  clear hb
  go_wp2_with fail
  refine (HS.out _).mono ?_; rintro e w2 ⟨rfl, hb⟩
  replace CB := below_step CB hb
  clear hb
  have q0 : w2.cell? ⟨w.heap.size, 0, none⟩ = some (.int .i64 x0_0) := (X0.out.step CB).cell 0
  have q1 : w2.cell? ⟨w.heap.size, 1, none⟩ = some (.int .i64 x0_1) := (X0.out.step CB).cell 1
  have z : w.heap.size < w2.heap.size := by have := CB.size; simp at this; omega
  have S0 := Lib.hid (Blk.new w2 25 #[.int .i64 y0_0, .int .i64 y0_1])
  go_wp2_with fail
  refine (stCistern.to_any _ _ _).mono ?_; rintro e w3 ⟨rfl, hb⟩
  have S1 := Lib.hid (S0.out.step hb)
  replace CB := below_step (below_al CB (.cells #[.int .i64 y0_0, .int .i64 y0_1] 25)) hb
  clear hb q0 q1 S0
  go_wp2_with fail
  refine (HI.out _).mono ?_; rintro e w4 ⟨rfl, hb⟩
  have s0 : w4.cell? ⟨w2.heap.size, 0, none⟩ = some (.int .i64 y0_0) := (S1.out.step hb).cell 0
  have s1 : w4.cell? ⟨w2.heap.size, 1, none⟩ = some (.int .i64 y0_1) := (S1.out.step hb).cell 1
  have z4 : w2.heap.size < w4.heap.size := (S1.out.step hb).lt
  replace CB := below_step CB hb
  clear hb S1
  go_wp2_with fail
  refine (stCistern.eq_yes _ _ _).mono ?_; rintro e w5 ⟨rfl, hb⟩
  replace CB := below_step (below_al CB (.cells #[.int .i64 y0_0, .int .i64 y0_1] 25)) hb
  clear hb s0 s1
  go_wp2
  go_ret
  exact ⟨rfl, below_step (below_al (Below.refl _ _) _) CB⟩
theorem walk (w : World) (x0 y0 : Int) (_ : (Lit.int .i64 x0).wf = true) (_ : (Lit.int .i64 y0).wf = true) (a1 : Int) (_ : (Lit.int .i64 a1).wf = true) : Calls Try.prog 6 #[C x0 y0, .int .i64 a1] w fun e w' => e = .returned (.bool true) ∧ Below w.heap.size w w' := by
  by_cases h : COk x0 y0 ∧ Wok a1
  · obtain ⟨n, hn⟩ := Mn.ex a1 (y0)
    exact core w _ _ _ _ _ _ (fun W => spec_takeout_yes W _ _ _ _ h.1 h.2 hn) (fun W => impl_takeout_yes W _ _ _ _ h.1 h.2 hn)
  · exact core w _ _ _ _ _ _ (fun W => spec_takeout_no W _ _ _ h) (fun W => impl_takeout_no W _ _ _ h)
end Go.Proofs.Ythfmbmodlnddeaa.wFnExactTakeOut
