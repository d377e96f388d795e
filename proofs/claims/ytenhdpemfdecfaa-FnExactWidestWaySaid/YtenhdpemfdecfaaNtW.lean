/- The exact laws on nets of pipes return true. -/
import Derived.Test.YtenhdpemfdecfaaNetK
import Derived.Test.YtenhdpemfdecfaaNetE2
import Derived.Test.YtenhdpemfdecfaaNetG2
set_option linter.unusedVariables false
namespace Go.Proofs.Ytenhdpemfdecfaa.wFnExactNetOk
open Go.RowKit Go.Proofs.Ytenhdpemfdecfaa.kit Go.Proofs.Ytenhdpemfdecfaa.lawi Go.Proofs.Ytenhdpemfdecfaa.own Go.Proofs.Ytenhdpemfdecfaa.rain Go.Proofs.Ytenhdpemfdecfaa.yrl Go.Proofs.Ytenhdpemfdecfaa.net Go.Proofs.Ytenhdpemfdecfaa.nt
end Go.Proofs.Ytenhdpemfdecfaa.wFnExactNetOk
namespace Go.Proofs.Ytenhdpemfdecfaa.wFnExactReachedBy
open Go.RowKit Go.Proofs.Ytenhdpemfdecfaa.kit Go.Proofs.Ytenhdpemfdecfaa.lawi Go.Proofs.Ytenhdpemfdecfaa.own Go.Proofs.Ytenhdpemfdecfaa.rain Go.Proofs.Ytenhdpemfdecfaa.yrl Go.Proofs.Ytenhdpemfdecfaa.net Go.Proofs.Ytenhdpemfdecfaa.nt
end Go.Proofs.Ytenhdpemfdecfaa.wFnExactReachedBy
namespace Go.Proofs.Ytenhdpemfdecfaa.wFnExactWidestWay
open Go.RowKit Go.Proofs.Ytenhdpemfdecfaa.kit Go.Proofs.Ytenhdpemfdecfaa.lawi Go.Proofs.Ytenhdpemfdecfaa.own Go.Proofs.Ytenhdpemfdecfaa.rain Go.Proofs.Ytenhdpemfdecfaa.yrl Go.Proofs.Ytenhdpemfdecfaa.net Go.Proofs.Ytenhdpemfdecfaa.nt
set_option maxRecDepth 100000 in
set_option maxHeartbeats 4000000 in
theorem core (w : World) (f0_0 : Int) (v0_1 : Value) (n0_1 : Nat) (zs0_1 : List Int) (hn0_1 : n0_1 ≤ 1048576) (h0_1 : Row 3 w v0_1 n0_1 (zs0_1.map (Value.int .i64))) (a1 : Int) (a2 : Int) (r0 : Int)
    (hsum : n0_1 ≤ 1048576)
    (hs : ∀ W u0_1, Row 3 W u0_1 n0_1 (zs0_1.map (Value.int .i64)) → Calls Try.prog 25 #[stNet.R f0_0 u0_1, .int .i64 a1, .int .i64 a2] W (Gives W (.int .i64 r0)))
    (hi : ∀ W u0_1, Row 3 W u0_1 n0_1 (zs0_1.map (Value.int .i64)) → Calls Try.prog 13 #[stNet.R f0_0 u0_1, .int .i64 a1, .int .i64 a2] W (Gives W (.int .i64 r0))) :
    Calls Try.prog 5 #[stNet.R f0_0 v0_1, .int .i64 a1, .int .i64 a2] w (Gives w (.bool true)) := by
  obtain ⟨b0_1, c0_1, rfl⟩ := h0_1.shape
  have H0_1 := Lib.hid h0_1
  clear h0_1
  have HS := Lib.hid hs
  have HI := Lib.hid hi
  clear hs hi
  have X_a0 : Blk (w.alloc (.cells #[(.int .i64 f0_0), (.slice b0_1 n0_1 c0_1)] 47)) w.heap.size 47 #[(.int .i64 f0_0), (.slice b0_1 n0_1 c0_1)] := by
    have := Blk.new w 47 #[(.int .i64 f0_0), (.slice b0_1 n0_1 c0_1)]
    simpa using this
  replace X_a0 := Lib.hid X_a0
  have B : Below w.heap.size w (w.alloc (.cells #[(.int .i64 f0_0), (.slice b0_1 n0_1 c0_1)] 47)) := below_al (Below.refl _ _) _
  have zzb : (w.alloc (.cells #[(.int .i64 f0_0), (.slice b0_1 n0_1 c0_1)] 47)).heap.size = w.heap.size + 1 := by simp
  go_enter Try.func5, Try.ntmps5
  have q_a0_0 := X_a0.out.cell 0
  have q_a0_1 := X_a0.out.cell 1
  go_wp2_with fail
  refine (stNet.sz_yes _ _ _ n0_1 c0_1 _ (by omega) (by omega)).mono ?_; rintro e w1 ⟨rfl, hb⟩
  clear q_a0_0 q_a0_1
  replace X_a0 := Lib.hid (X_a0.out.step hb)
  replace B := below_step B hb
  have zz1 := hb.size
  clear hb
  have q_a0_0 := X_a0.out.cell 0
  have q_a0_1 := X_a0.out.cell 1
  go_wp2_with fail
  refine (stNet.to_got _ _ _ n0_1 zs0_1 hn0_1 (H0_1.out.keep B)).mono ?_; rintro e w2 ⟨t1, l_o0_0, h_o0_0, rfl, ⟨o0_0, lo_o0_0⟩, hb⟩
  clear q_a0_0 q_a0_1
  replace X_a0 := Lib.hid (X_a0.out.step hb)
  replace B := below_step B hb
  have zz2 := hb.size
  have hi_o0_0 := o0_0.2.2
  clear hb
  go_wp2_with fail
  refine (HS.out _ _ o0_0.row).mono ?_; rintro e w3 ⟨rfl, hb⟩
  replace o0_0 := o0_0.keep hb
  replace X_a0 := Lib.hid (X_a0.out.step hb)
  replace B := below_step B hb
  have zz3 := hb.size
  clear hb
  clear o0_0
  have q_a0_0 := X_a0.out.cell 0
  have q_a0_1 := X_a0.out.cell 1
  go_wp2_with fail
  refine (stNet.to_got _ _ _ n0_1 zs0_1 hn0_1 (H0_1.out.keep B)).mono ?_; rintro e w4 ⟨t2, l_x0_0, h_x0_0, rfl, ⟨x0_0, lo_x0_0⟩, hb⟩
  clear q_a0_0 q_a0_1
  replace X_a0 := Lib.hid (X_a0.out.step hb)
  replace B := below_step B hb
  have zz4 := hb.size
  have hi_x0_0 := x0_0.2.2
  clear hb
  obtain ⟨ba_x00, ca_x00, rfl⟩ := own_shape x0_0.own
  have hb : Below w4.heap.size w4 (w4.alloc (.cells #[(.int .i64 f0_0), (.slice ba_x00 n0_1 ca_x00)] 26)) := below_al (Below.refl _ _) _
  replace x0_0 := x0_0.keep hb
  replace X_a0 := Lib.hid (X_a0.out.step hb)
  replace B := below_step B hb
  have zz5 := hb.size
  have X_x0 : Blk (w4.alloc (.cells #[(.int .i64 f0_0), (.slice ba_x00 n0_1 ca_x00)] 26)) w4.heap.size 26 #[(.int .i64 f0_0), (.slice ba_x00 n0_1 ca_x00)] := by
    have := Blk.new w4 26 #[(.int .i64 f0_0), (.slice ba_x00 n0_1 ca_x00)]
    simpa using this
  replace X_x0 := Lib.hid X_x0
  have zy5 : (w4.alloc (.cells #[(.int .i64 f0_0), (.slice ba_x00 n0_1 ca_x00)] 26)).heap.size = w4.heap.size + 1 := by simp
  clear hb
  have q_x0_0 := X_x0.out.cell 0
  have q_x0_1 := X_x0.out.cell 1
  go_wp2_with fail
  refine (HI.out _ _ x0_0.row).mono ?_; rintro e w6 ⟨rfl, hb⟩
  clear q_x0_0 q_x0_1
  replace x0_0 := x0_0.keep hb
  replace X_a0 := Lib.hid (X_a0.out.step hb)
  replace X_x0 := Lib.hid (X_x0.out.step hb)
  replace B := below_step B hb
  have zz6 := hb.size
  clear hb
  have q_x0_0 := X_x0.out.cell 0
  have q_x0_1 := X_x0.out.cell 1
  have q_a0_0 := X_a0.out.cell 0
  have q_a0_1 := X_a0.out.cell 1
  go_wp2
  go_region_held3 (fun W => W.cell? ⟨w4.heap.size, 0, none⟩ = some (.int .i64 f0_0) ∧ W.cell? ⟨w4.heap.size, 1, none⟩ = some (.slice ba_x00 n0_1 ca_x00) ∧ W.cell? ⟨w.heap.size, 0, none⟩ = some (.int .i64 f0_0) ∧ W.cell? ⟨w.heap.size, 1, none⟩ = some (.slice b0_1 n0_1 c0_1)) (first | assumption | exact ⟨q_x0_0, q_x0_1, q_a0_0, q_a0_1⟩ | exact keep4 (by assumption) (by assumption) | fail)
    (first
      | (go_at_call 29; refine (stNet.to_got _ _ _ n0_1 zs0_1 hn0_1 (H0_1.out.keep (by repeat (first | assumption | (with_reducible exact Below.refl _ _) | (with_reducible refine below_dr ?_) | (with_reducible refine below_al ?_ _) | (with_reducible refine below_step ?_ (by assumption)) | fail)))).mono ?_; rintro e wt ⟨tc0, lc0, hc0, rfl, ⟨oc0, _⟩, hbt⟩)
      | (go_at_call 30; refine (stNet.eq_yes _ _ _ _ n0_1 zs0_1 hn0_1 (x0_0.keep (by repeat (first | assumption | (with_reducible exact Below.refl _ _) | (with_reducible refine below_dr ?_) | (with_reducible refine below_al ?_ _) | (with_reducible refine below_step ?_ (by assumption)) | fail))).row oc0.row).mono ?_; rintro e w7 ⟨rfl, hb⟩)
      | fail)
  have hc : Below w6.heap.size w6 w7 := (by repeat (first | assumption | (with_reducible exact Below.refl _ _) | (with_reducible refine below_dr ?_) | (with_reducible refine below_al ?_ _) | (with_reducible refine below_step ?_ (by assumption)) | fail))
  clear q_x0_0 q_x0_1 q_a0_0 q_a0_1 hb hbt oc0
  replace x0_0 := x0_0.keep hc
  replace X_a0 := Lib.hid (X_a0.out.step hc)
  replace X_x0 := Lib.hid (X_x0.out.step hc)
  replace B := below_step B hc
  have zz7 := hc.size
  clear hc
  go_wp2
  go_ret
  exact ⟨rfl, B⟩
theorem walk (w : World) (P : Int) (v : Value) (n : Nat) (zs : List Int) (hr : Row 3 w v n (zs.map (Value.int .i64))) (hm : n ≤ 9223372036854775807) (_ : (Lit.int .i64 P).wf = true) (x : Int) (_ : (Lit.int .i64 x).wf = true) (y : Int) (_ : (Lit.int .i64 y).wf = true) : Calls Try.prog 5 #[stNet.R P v, .int .i64 x, .int .i64 y] w fun e w' => e = .returned (.bool true) ∧ Below w.heap.size w w' := by
  classical
  by_cases hl : n ≤ 1048576
  · by_cases two : Two P n zs x y
    · obtain ⟨m, h⟩ := Wide.ex (F := pF zs) (T := pT zs) (W := pW zs) (m := n) (Ne.symm two.2.2.2)
      exact core w P v n zs hl hr x y m hl (fun W u g => spec_wide_yes W P u n zs g x y two m h) (fun W u g => impl_wide_yes W P u n zs g x y two m h)
    · exact core w P v n zs hl hr x y (-1) hl (fun W u g => spec_wide_no W P u n zs hl g x y two) (fun W u g => impl_wide_no W P u n zs hl g x y two)
  · obtain ⟨a, c, rfl⟩ := hr.shape
    have X := Blk.new w 47 #[.int .i64 P, .slice a n c]
    obtain ⟨q0, q1⟩ := stNet.blk_ X
    go_enter Try.func5, Try.ntmps5
    go_wp2_with fail
    refine (stNet.sz_no _ P a n c _ (by omega) (by omega) hm).mono ?_; rintro e w1 ⟨rfl, hb⟩
    clear q0 q1
    go_wp2
    go_ret
    exact ⟨rfl, below_step (below_al (Below.refl _ _) _) hb⟩
end Go.Proofs.Ytenhdpemfdecfaa.wFnExactWidestWay
namespace Go.Proofs.Ytenhdpemfdecfaa.wFnExactOutOf
open Go.RowKit Go.Proofs.Ytenhdpemfdecfaa.kit Go.Proofs.Ytenhdpemfdecfaa.lawi Go.Proofs.Ytenhdpemfdecfaa.own Go.Proofs.Ytenhdpemfdecfaa.rain Go.Proofs.Ytenhdpemfdecfaa.yrl Go.Proofs.Ytenhdpemfdecfaa.net Go.Proofs.Ytenhdpemfdecfaa.nt
end Go.Proofs.Ytenhdpemfdecfaa.wFnExactOutOf
namespace Go.Proofs.Ytenhdpemfdecfaa.wFnExactWithoutPipe
open Go.RowKit Go.Proofs.Ytenhdpemfdecfaa.kit Go.Proofs.Ytenhdpemfdecfaa.lawi Go.Proofs.Ytenhdpemfdecfaa.own Go.Proofs.Ytenhdpemfdecfaa.rain Go.Proofs.Ytenhdpemfdecfaa.yrl Go.Proofs.Ytenhdpemfdecfaa.net Go.Proofs.Ytenhdpemfdecfaa.nt
end Go.Proofs.Ytenhdpemfdecfaa.wFnExactWithoutPipe
namespace Go.Proofs.Ytenhdpemfdecfaa.wFnExactTurnNet
open Go.RowKit Go.Proofs.Ytenhdpemfdecfaa.kit Go.Proofs.Ytenhdpemfdecfaa.lawi Go.Proofs.Ytenhdpemfdecfaa.own Go.Proofs.Ytenhdpemfdecfaa.rain Go.Proofs.Ytenhdpemfdecfaa.yrl Go.Proofs.Ytenhdpemfdecfaa.net Go.Proofs.Ytenhdpemfdecfaa.nt
end Go.Proofs.Ytenhdpemfdecfaa.wFnExactTurnNet
