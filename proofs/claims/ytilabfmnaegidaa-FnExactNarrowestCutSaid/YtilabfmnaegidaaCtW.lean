/- The exact laws on cuts return true. -/
import Derived.Test.YtilabfmnaegidaaCutI
import Derived.Test.YtilabfmnaegidaaCutS3
set_option linter.unusedVariables false
namespace Go.Proofs.Ytilabfmnaegidaa.wFnExactCutWidth
open Go.RowKit Go.Proofs.Ytilabfmnaegidaa.kit Go.Proofs.Ytilabfmnaegidaa.lawi Go.Proofs.Ytilabfmnaegidaa.own Go.Proofs.Ytilabfmnaegidaa.rain Go.Proofs.Ytilabfmnaegidaa.yrl Go.Proofs.Ytilabfmnaegidaa.net Go.Proofs.Ytilabfmnaegidaa.nt Go.Proofs.Ytilabfmnaegidaa.flw Go.Proofs.Ytilabfmnaegidaa.fl_ Go.Proofs.Ytilabfmnaegidaa.cut
set_option maxRecDepth 100000 in
set_option maxHeartbeats 4000000 in
theorem core (w : World) (f0_0 : Int) (v0_1 : Value) (n0_1 : Nat) (zs0_1 : List Int) (hn0_1 : n0_1 ≤ 1048576) (h0_1 : Row 3 w v0_1 n0_1 (zs0_1.map (Value.int .i64))) (a1 : Int) (r0 : Int)
    (hsum : n0_1 ≤ 1048576)
    (hs : ∀ W u0_1, Row 3 W u0_1 n0_1 (zs0_1.map (Value.int .i64)) → Calls Try.prog 24 #[stNet.R f0_0 u0_1, .int .i64 a1] W (Gives W (.int .i64 r0)))
    (hi : ∀ W u0_1, Row 3 W u0_1 n0_1 (zs0_1.map (Value.int .i64)) → Calls Try.prog 16 #[stNet.R f0_0 u0_1, .int .i64 a1] W (Gives W (.int .i64 r0))) :
    Calls Try.prog 4 #[stNet.R f0_0 v0_1, .int .i64 a1] w (Gives w (.bool true)) := by
  obtain ⟨b0_1, c0_1, rfl⟩ := h0_1.shape
  have H0_1 := Lib.hid h0_1
  clear h0_1
  have HS := Lib.hid hs
  have HI := Lib.hid hi
  clear hs hi
  have X_a0 : Blk (w.alloc (.cells #[(.int .i64 f0_0), (.slice b0_1 n0_1 c0_1)] 44)) w.heap.size 44 #[(.int .i64 f0_0), (.slice b0_1 n0_1 c0_1)] := by
    have := Blk.new w 44 #[(.int .i64 f0_0), (.slice b0_1 n0_1 c0_1)]
    simpa using this
  replace X_a0 := Lib.hid X_a0
  have B : Below w.heap.size w (w.alloc (.cells #[(.int .i64 f0_0), (.slice b0_1 n0_1 c0_1)] 44)) := below_al (Below.refl _ _) _
  have zzb : (w.alloc (.cells #[(.int .i64 f0_0), (.slice b0_1 n0_1 c0_1)] 44)).heap.size = w.heap.size + 1 := by simp
  go_enter Try.func4, Try.ntmps4
  have q_a0_0 := X_a0.out.cell 0
  have q_a0_1 := X_a0.out.cell 1
  go_wp2_with fail
  refine (stNet.sz_yes _ _ _ n0_1 c0_1 _ (by omega) (by omega)).mono ?_; rintro e w1 ⟨rfl, hb⟩
  clear q_a0_0 q_a0_1
  replace X_a0 := Lib.hid (X_a0.out.step hb)
  replace B := below_step B hb
  have zz1 := hb.size
  clear hb
  have q_a0_0 := X_a0.out.cell 0
  have q_a0_1 := X_a0.out.cell 1
  go_wp2_with fail
  refine (stNet.to_got _ _ _ n0_1 zs0_1 hn0_1 (H0_1.out.keep B)).mono ?_; rintro e w2 ⟨t1, l_o0_0, h_o0_0, rfl, ⟨o0_0, lo_o0_0⟩, hb⟩
  clear q_a0_0 q_a0_1
  replace X_a0 := Lib.hid (X_a0.out.step hb)
  replace B := below_step B hb
  have zz2 := hb.size
  have hi_o0_0 := o0_0.2.2
  clear hb
  go_wp2_with fail
  refine (HS.out _ _ o0_0.row).mono ?_; rintro e w3 ⟨rfl, hb⟩
  replace o0_0 := o0_0.keep hb
  replace X_a0 := Lib.hid (X_a0.out.step hb)
  replace B := below_step B hb
  have zz3 := hb.size
  clear hb
  clear o0_0
  have q_a0_0 := X_a0.out.cell 0
  have q_a0_1 := X_a0.out.cell 1
  go_wp2_with fail
  refine (stNet.to_got _ _ _ n0_1 zs0_1 hn0_1 (H0_1.out.keep B)).mono ?_; rintro e w4 ⟨t2, l_x0_0, h_x0_0, rfl, ⟨x0_0, lo_x0_0⟩, hb⟩
  clear q_a0_0 q_a0_1
  replace X_a0 := Lib.hid (X_a0.out.step hb)
  replace B := below_step B hb
  have zz4 := hb.size
  have hi_x0_0 := x0_0.2.2
  clear hb
  obtain ⟨ba_x00, ca_x00, rfl⟩ := own_shape x0_0.own
  have hb : Below w4.heap.size w4 (w4.alloc (.cells #[(.int .i64 f0_0), (.slice ba_x00 n0_1 ca_x00)] 26)) := below_al (Below.refl _ _) _
  replace x0_0 := x0_0.keep hb
  replace X_a0 := Lib.hid (X_a0.out.step hb)
  replace B := below_step B hb
  have zz5 := hb.size
  have X_x0 : Blk (w4.alloc (.cells #[(.int .i64 f0_0), (.slice ba_x00 n0_1 ca_x00)] 26)) w4.heap.size 26 #[(.int .i64 f0_0), (.slice ba_x00 n0_1 ca_x00)] := by
    have := Blk.new w4 26 #[(.int .i64 f0_0), (.slice ba_x00 n0_1 ca_x00)]
    simpa using this
  replace X_x0 := Lib.hid X_x0
  have zy5 : (w4.alloc (.cells #[(.int .i64 f0_0), (.slice ba_x00 n0_1 ca_x00)] 26)).heap.size = w4.heap.size + 1 := by simp
  clear hb
  have q_x0_0 := X_x0.out.cell 0
  have q_x0_1 := X_x0.out.cell 1
  go_wp2_with fail
  refine (HI.out _ _ x0_0.row).mono ?_; rintro e w6 ⟨rfl, hb⟩
  clear q_x0_0 q_x0_1
  replace x0_0 := x0_0.keep hb
  replace X_a0 := Lib.hid (X_a0.out.step hb)
  replace X_x0 := Lib.hid (X_x0.out.step hb)
  replace B := below_step B hb
  have zz6 := hb.size
  clear hb
  have q_x0_0 := X_x0.out.cell 0
  have q_x0_1 := X_x0.out.cell 1
  have q_a0_0 := X_a0.out.cell 0
  have q_a0_1 := X_a0.out.cell 1
  go_wp2
  go_region_held3 (fun W => W.cell? ⟨w4.heap.size, 0, none⟩ = some (.int .i64 f0_0) ∧ W.cell? ⟨w4.heap.size, 1, none⟩ = some (.slice ba_x00 n0_1 ca_x00) ∧ W.cell? ⟨w.heap.size, 0, none⟩ = some (.int .i64 f0_0) ∧ W.cell? ⟨w.heap.size, 1, none⟩ = some (.slice b0_1 n0_1 c0_1)) (first | assumption | exact ⟨q_x0_0, q_x0_1, q_a0_0, q_a0_1⟩ | exact keep4 (by assumption) (by assumption) | fail)
    (first
      | (go_at_call 25; refine (stNet.to_got _ _ _ n0_1 zs0_1 hn0_1 (H0_1.out.keep (by repeat (first | assumption | (with_reducible exact Below.refl _ _) | (with_reducible refine below_dr ?_) | (with_reducible refine below_al ?_ _) | (with_reducible refine below_step ?_ (by assumption)) | fail)))).mono ?_; rintro e wt ⟨tc0, lc0, hc0, rfl, ⟨oc0, _⟩, hbt⟩)
      | (go_at_call 26; refine (stNet.eq_yes _ _ _ _ n0_1 zs0_1 hn0_1 (x0_0.keep (by repeat (first | assumption | (with_reducible exact Below.refl _ _) | (with_reducible refine below_dr ?_) | (with_reducible refine below_al ?_ _) | (with_reducible refine below_step ?_ (by assumption)) | fail))).row oc0.row).mono ?_; rintro e w7 ⟨rfl, hb⟩)
      | fail)
  have hc : Below w6.heap.size w6 w7 := (by repeat (first | assumption | (with_reducible exact Below.refl _ _) | (with_reducible refine below_dr ?_) | (with_reducible refine below_al ?_ _) | (with_reducible refine below_step ?_ (by assumption)) | fail))
  clear q_x0_0 q_x0_1 q_a0_0 q_a0_1 hb hbt oc0
  replace x0_0 := x0_0.keep hc
  replace X_a0 := Lib.hid (X_a0.out.step hc)
  replace X_x0 := Lib.hid (X_x0.out.step hc)
  replace B := below_step B hc
  have zz7 := hc.size
  clear hc
  go_wp2
  go_ret
  exact ⟨rfl, B⟩
theorem walk (w : World) (P : Int) (v : Value) (n : Nat) (zs : List Int) (hr : Row 3 w v n (zs.map (Value.int .i64))) (hm : n ≤ 9223372036854775807) (_ : (Lit.int .i64 P).wf = true) (x : Int) (_ : (Lit.int .i64 x).wf = true) : Calls Try.prog 4 #[stNet.R P v, .int .i64 x] w fun e w' => e = .returned (.bool true) ∧ Below w.heap.size w w' := by
  classical
  by_cases hl : n ≤ 1048576
  · obtain ⟨r, h⟩ := Cw.ex P n zs x
    exact core w P v n zs hl hr x r hl (fun W u g => spec_cw W P u n zs x hl g r h) (fun W u g => impl_cw W P u n zs x hl g r h)
  · obtain ⟨a, c, rfl⟩ := hr.shape
    have X := Blk.new w 44 #[.int .i64 P, .slice a n c]
    obtain ⟨q0, q1⟩ := stNet.blk_ X
    go_enter Try.func4, Try.ntmps4
    go_wp2_with fail
    refine (stNet.sz_no _ P a n c _ (by omega) (by omega) hm).mono ?_; rintro e w2 ⟨rfl, hb⟩
    clear q0 q1
    go_wp2
    go_ret
    exact ⟨rfl, below_step (below_al (Below.refl _ _) _) hb⟩
end Go.Proofs.Ytilabfmnaegidaa.wFnExactCutWidth
namespace Go.Proofs.Ytilabfmnaegidaa.wFnExactIsCut
open Go.RowKit Go.Proofs.Ytilabfmnaegidaa.kit Go.Proofs.Ytilabfmnaegidaa.lawi Go.Proofs.Ytilabfmnaegidaa.own Go.Proofs.Ytilabfmnaegidaa.rain Go.Proofs.Ytilabfmnaegidaa.yrl Go.Proofs.Ytilabfmnaegidaa.net Go.Proofs.Ytilabfmnaegidaa.nt Go.Proofs.Ytilabfmnaegidaa.flw Go.Proofs.Ytilabfmnaegidaa.fl_ Go.Proofs.Ytilabfmnaegidaa.cut
set_option maxRecDepth 100000 in
set_option maxHeartbeats 4000000 in
theorem core (w : World) (f0_0 : Int) (v0_1 : Value) (n0_1 : Nat) (zs0_1 : List Int) (hn0_1 : n0_1 ≤ 1048576) (h0_1 : Row 3 w v0_1 n0_1 (zs0_1.map (Value.int .i64))) (a1 : Int) (a2 : Int) (a3 : Int) (r0 : Bool)
    (hsum : n0_1 ≤ 1048576)
    (hs : ∀ W u0_1, Row 3 W u0_1 n0_1 (zs0_1.map (Value.int .i64)) → Calls Try.prog 27 #[stNet.R f0_0 u0_1, .int .i64 a1, .int .i64 a2, .int .i64 a3] W (Gives W (.bool r0)))
    (hi : ∀ W u0_1, Row 3 W u0_1 n0_1 (zs0_1.map (Value.int .i64)) → Calls Try.prog 17 #[stNet.R f0_0 u0_1, .int .i64 a1, .int .i64 a2, .int .i64 a3] W (Gives W (.bool r0))) :
    Calls Try.prog 5 #[stNet.R f0_0 v0_1, .int .i64 a1, .int .i64 a2, .int .i64 a3] w (Gives w (.bool true)) := by
  obtain ⟨b0_1, c0_1, rfl⟩ := h0_1.shape
  have H0_1 := Lib.hid h0_1
  clear h0_1
  have HS := Lib.hid hs
  have HI := Lib.hid hi
  clear hs hi
  have X_a0 : Blk (w.alloc (.cells #[(.int .i64 f0_0), (.slice b0_1 n0_1 c0_1)] 44)) w.heap.size 44 #[(.int .i64 f0_0), (.slice b0_1 n0_1 c0_1)] := by
    have := Blk.new w 44 #[(.int .i64 f0_0), (.slice b0_1 n0_1 c0_1)]
    simpa using this
  replace X_a0 := Lib.hid X_a0
  have B : Below w.heap.size w (w.alloc (.cells #[(.int .i64 f0_0), (.slice b0_1 n0_1 c0_1)] 44)) := below_al (Below.refl _ _) _
  have zzb : (w.alloc (.cells #[(.int .i64 f0_0), (.slice b0_1 n0_1 c0_1)] 44)).heap.size = w.heap.size + 1 := by simp
  go_enter Try.func5, Try.ntmps5
  have q_a0_0 := X_a0.out.cell 0
  have q_a0_1 := X_a0.out.cell 1
  go_wp2_with fail
  refine (stNet.sz_yes _ _ _ n0_1 c0_1 _ (by omega) (by omega)).mono ?_; rintro e w1 ⟨rfl, hb⟩
  clear q_a0_0 q_a0_1
  replace X_a0 := Lib.hid (X_a0.out.step hb)
  replace B := below_step B hb
  have zz1 := hb.size
  clear hb
  have q_a0_0 := X_a0.out.cell 0
  have q_a0_1 := X_a0.out.cell 1
  go_wp2_with fail
  refine (stNet.to_got _ _ _ n0_1 zs0_1 hn0_1 (H0_1.out.keep B)).mono ?_; rintro e w2 ⟨t1, l_o0_0, h_o0_0, rfl, ⟨o0_0, lo_o0_0⟩, hb⟩
  clear q_a0_0 q_a0_1
  replace X_a0 := Lib.hid (X_a0.out.step hb)
  replace B := below_step B hb
  have zz2 := hb.size
  have hi_o0_0 := o0_0.2.2
  clear hb
  go_wp2_with fail
  refine (HS.out _ _ o0_0.row).mono ?_; rintro e w3 ⟨rfl, hb⟩
  replace o0_0 := o0_0.keep hb
  replace X_a0 := Lib.hid (X_a0.out.step hb)
  replace B := below_step B hb
  have zz3 := hb.size
  clear hb
  clear o0_0
  have q_a0_0 := X_a0.out.cell 0
  have q_a0_1 := X_a0.out.cell 1
  go_wp2_with fail
  refine (stNet.to_got _ _ _ n0_1 zs0_1 hn0_1 (H0_1.out.keep B)).mono ?_; rintro e w4 ⟨t2, l_x0_0, h_x0_0, rfl, ⟨x0_0, lo_x0_0⟩, hb⟩
  clear q_a0_0 q_a0_1
  replace X_a0 := Lib.hid (X_a0.out.step hb)
  replace B := below_step B hb
  have zz4 := hb.size
  have hi_x0_0 := x0_0.2.2
  clear hb
  obtain ⟨ba_x00, ca_x00, rfl⟩ := own_shape x0_0.own
  have hb : Below w4.heap.size w4 (w4.alloc (.cells #[(.int .i64 f0_0), (.slice ba_x00 n0_1 ca_x00)] 26)) := below_al (Below.refl _ _) _
  replace x0_0 := x0_0.keep hb
  replace X_a0 := Lib.hid (X_a0.out.step hb)
  replace B := below_step B hb
  have zz5 := hb.size
  have X_x0 : Blk (w4.alloc (.cells #[(.int .i64 f0_0), (.slice ba_x00 n0_1 ca_x00)] 26)) w4.heap.size 26 #[(.int .i64 f0_0), (.slice ba_x00 n0_1 ca_x00)] := by
    have := Blk.new w4 26 #[(.int .i64 f0_0), (.slice ba_x00 n0_1 ca_x00)]
    simpa using this
  replace X_x0 := Lib.hid X_x0
  have zy5 : (w4.alloc (.cells #[(.int .i64 f0_0), (.slice ba_x00 n0_1 ca_x00)] 26)).heap.size = w4.heap.size + 1 := by simp
  clear hb
  have q_x0_0 := X_x0.out.cell 0
  have q_x0_1 := X_x0.out.cell 1
  go_wp2_with fail
  refine (HI.out _ _ x0_0.row).mono ?_; rintro e w6 ⟨rfl, hb⟩
  clear q_x0_0 q_x0_1
  replace x0_0 := x0_0.keep hb
  replace X_a0 := Lib.hid (X_a0.out.step hb)
  replace X_x0 := Lib.hid (X_x0.out.step hb)
  replace B := below_step B hb
  have zz6 := hb.size
  clear hb
  have q_x0_0 := X_x0.out.cell 0
  have q_x0_1 := X_x0.out.cell 1
  have q_a0_0 := X_a0.out.cell 0
  have q_a0_1 := X_a0.out.cell 1
  go_wp2
  go_region_held3 (fun W => W.cell? ⟨w4.heap.size, 0, none⟩ = some (.int .i64 f0_0) ∧ W.cell? ⟨w4.heap.size, 1, none⟩ = some (.slice ba_x00 n0_1 ca_x00) ∧ W.cell? ⟨w.heap.size, 0, none⟩ = some (.int .i64 f0_0) ∧ W.cell? ⟨w.heap.size, 1, none⟩ = some (.slice b0_1 n0_1 c0_1)) (first | assumption | exact ⟨q_x0_0, q_x0_1, q_a0_0, q_a0_1⟩ | exact keep4 (by assumption) (by assumption) | fail)
    (first
      | (go_at_call 25; refine (stNet.to_got _ _ _ n0_1 zs0_1 hn0_1 (H0_1.out.keep (by repeat (first | assumption | (with_reducible exact Below.refl _ _) | (with_reducible refine below_dr ?_) | (with_reducible refine below_al ?_ _) | (with_reducible refine below_step ?_ (by assumption)) | fail)))).mono ?_; rintro e wt ⟨tc0, lc0, hc0, rfl, ⟨oc0, _⟩, hbt⟩)
      | (go_at_call 26; refine (stNet.eq_yes _ _ _ _ n0_1 zs0_1 hn0_1 (x0_0.keep (by repeat (first | assumption | (with_reducible exact Below.refl _ _) | (with_reducible refine below_dr ?_) | (with_reducible refine below_al ?_ _) | (with_reducible refine below_step ?_ (by assumption)) | fail))).row oc0.row).mono ?_; rintro e w7 ⟨rfl, hb⟩)
      | fail)
  have hc : Below w6.heap.size w6 w7 := (by repeat (first | assumption | (with_reducible exact Below.refl _ _) | (with_reducible refine below_dr ?_) | (with_reducible refine below_al ?_ _) | (with_reducible refine below_step ?_ (by assumption)) | fail))
  clear q_x0_0 q_x0_1 q_a0_0 q_a0_1 hb hbt oc0
  replace x0_0 := x0_0.keep hc
  replace X_a0 := Lib.hid (X_a0.out.step hc)
  replace X_x0 := Lib.hid (X_x0.out.step hc)
  replace B := below_step B hc
  have zz7 := hc.size
  clear hc
  go_wp2
  go_ret
  exact ⟨rfl, B⟩
theorem walk (w : World) (P : Int) (v : Value) (n : Nat) (zs : List Int) (hr : Row 3 w v n (zs.map (Value.int .i64))) (hm : n ≤ 9223372036854775807) (_ : (Lit.int .i64 P).wf = true) (x : Int) (_ : (Lit.int .i64 x).wf = true) (y : Int) (_ : (Lit.int .i64 y).wf = true) (z : Int) (_ : (Lit.int .i64 z).wf = true) : Calls Try.prog 5 #[stNet.R P v, .int .i64 x, .int .i64 y, .int .i64 z] w fun e w' => e = .returned (.bool true) ∧ Below w.heap.size w w' := by
  classical
  by_cases hl : n ≤ 1048576
  · exact core w P v n zs hl hr x y z (decide (IsC P n zs x y z)) hl (fun W u g => spec_isc W P u n zs x y z hl g _ decide_eq_true_iff) (fun W u g => impl_isc W P u n zs x y z hl g _ decide_eq_true_iff)
  · obtain ⟨a, c, rfl⟩ := hr.shape
    have X := Blk.new w 44 #[.int .i64 P, .slice a n c]
    obtain ⟨q0, q1⟩ := stNet.blk_ X
    go_enter Try.func5, Try.ntmps5
    go_wp2_with fail
    refine (stNet.sz_no _ P a n c _ (by omega) (by omega) hm).mono ?_; rintro e w2 ⟨rfl, hb⟩
    clear q0 q1
    go_wp2
    go_ret
    exact ⟨rfl, below_step (below_al (Below.refl _ _) _) hb⟩
end Go.Proofs.Ytilabfmnaegidaa.wFnExactIsCut
namespace Go.Proofs.Ytilabfmnaegidaa.wFnExactNarrowestCut
open Go.RowKit Go.Proofs.Ytilabfmnaegidaa.kit Go.Proofs.Ytilabfmnaegidaa.lawi Go.Proofs.Ytilabfmnaegidaa.own Go.Proofs.Ytilabfmnaegidaa.rain Go.Proofs.Ytilabfmnaegidaa.yrl Go.Proofs.Ytilabfmnaegidaa.net Go.Proofs.Ytilabfmnaegidaa.nt Go.Proofs.Ytilabfmnaegidaa.flw Go.Proofs.Ytilabfmnaegidaa.fl_ Go.Proofs.Ytilabfmnaegidaa.cut
set_option maxRecDepth 100000 in
set_option maxHeartbeats 4000000 in
theorem core (w : World) (f0_0 : Int) (v0_1 : Value) (n0_1 : Nat) (zs0_1 : List Int) (hn0_1 : n0_1 ≤ 1048576) (h0_1 : Row 3 w v0_1 n0_1 (zs0_1.map (Value.int .i64))) (a1 : Int) (a2 : Int) (r0 : Int)
    (hsum : n0_1 ≤ 1048576)
    (hs : ∀ W u0_1, Row 3 W u0_1 n0_1 (zs0_1.map (Value.int .i64)) → Calls Try.prog 28 #[stNet.R f0_0 u0_1, .int .i64 a1, .int .i64 a2] W (Gives W (.int .i64 r0)))
    (hi : ∀ W u0_1, Row 3 W u0_1 n0_1 (zs0_1.map (Value.int .i64)) → Calls Try.prog 14 #[stNet.R f0_0 u0_1, .int .i64 a1, .int .i64 a2] W (Gives W (.int .i64 r0))) :
    Calls Try.prog 6 #[stNet.R f0_0 v0_1, .int .i64 a1, .int .i64 a2] w (Gives w (.bool true)) := by
  obtain ⟨b0_1, c0_1, rfl⟩ := h0_1.shape
  have H0_1 := Lib.hid h0_1
  clear h0_1
  have HS := Lib.hid hs
  have HI := Lib.hid hi
  clear hs hi
  have X_a0 : Blk (w.alloc (.cells #[(.int .i64 f0_0), (.slice b0_1 n0_1 c0_1)] 44)) w.heap.size 44 #[(.int .i64 f0_0), (.slice b0_1 n0_1 c0_1)] := by
    have := Blk.new w 44 #[(.int .i64 f0_0), (.slice b0_1 n0_1 c0_1)]
    simpa using this
  replace X_a0 := Lib.hid X_a0
  have B : Below w.heap.size w (w.alloc (.cells #[(.int .i64 f0_0), (.slice b0_1 n0_1 c0_1)] 44)) := below_al (Below.refl _ _) _
  have zzb : (w.alloc (.cells #[(.int .i64 f0_0), (.slice b0_1 n0_1 c0_1)] 44)).heap.size = w.heap.size + 1 := by simp
  go_enter Try.func6, Try.ntmps6
  have q_a0_0 := X_a0.out.cell 0
  have q_a0_1 := X_a0.out.cell 1
  go_wp2_with fail
  refine (stNet.sz_yes _ _ _ n0_1 c0_1 _ (by omega) (by omega)).mono ?_; rintro e w1 ⟨rfl, hb⟩
  clear q_a0_0 q_a0_1
  replace X_a0 := Lib.hid (X_a0.out.step hb)
  replace B := below_step B hb
  have zz1 := hb.size
  clear hb
  have q_a0_0 := X_a0.out.cell 0
  have q_a0_1 := X_a0.out.cell 1
  go_wp2_with fail
  refine (stNet.to_got _ _ _ n0_1 zs0_1 hn0_1 (H0_1.out.keep B)).mono ?_; rintro e w2 ⟨t1, l_o0_0, h_o0_0, rfl, ⟨o0_0, lo_o0_0⟩, hb⟩
  clear q_a0_0 q_a0_1
  replace X_a0 := Lib.hid (X_a0.out.step hb)
  replace B := below_step B hb
  have zz2 := hb.size
  have hi_o0_0 := o0_0.2.2
  clear hb
  go_wp2_with fail
  refine (HS.out _ _ o0_0.row).mono ?_; rintro e w3 ⟨rfl, hb⟩
  replace o0_0 := o0_0.keep hb
  replace X_a0 := Lib.hid (X_a0.out.step hb)
  replace B := below_step B hb
  have zz3 := hb.size
  clear hb
  clear o0_0
  have q_a0_0 := X_a0.out.cell 0
  have q_a0_1 := X_a0.out.cell 1
  go_wp2_with fail
  refine (stNet.to_got _ _ _ n0_1 zs0_1 hn0_1 (H0_1.out.keep B)).mono ?_; rintro e w4 ⟨t2, l_x0_0, h_x0_0, rfl, ⟨x0_0, lo_x0_0⟩, hb⟩
  clear q_a0_0 q_a0_1
  replace X_a0 := Lib.hid (X_a0.out.step hb)
  replace B := below_step B hb
  have zz4 := hb.size
  have hi_x0_0 := x0_0.2.2
  clear hb
  obtain ⟨ba_x00, ca_x00, rfl⟩ := own_shape x0_0.own
  have hb : Below w4.heap.size w4 (w4.alloc (.cells #[(.int .i64 f0_0), (.slice ba_x00 n0_1 ca_x00)] 26)) := below_al (Below.refl _ _) _
  replace x0_0 := x0_0.keep hb
  replace X_a0 := Lib.hid (X_a0.out.step hb)
  replace B := below_step B hb
  have zz5 := hb.size
  have X_x0 : Blk (w4.alloc (.cells #[(.int .i64 f0_0), (.slice ba_x00 n0_1 ca_x00)] 26)) w4.heap.size 26 #[(.int .i64 f0_0), (.slice ba_x00 n0_1 ca_x00)] := by
    have := Blk.new w4 26 #[(.int .i64 f0_0), (.slice ba_x00 n0_1 ca_x00)]
    simpa using this
  replace X_x0 := Lib.hid X_x0
  have zy5 : (w4.alloc (.cells #[(.int .i64 f0_0), (.slice ba_x00 n0_1 ca_x00)] 26)).heap.size = w4.heap.size + 1 := by simp
  clear hb
  have q_x0_0 := X_x0.out.cell 0
  have q_x0_1 := X_x0.out.cell 1
  go_wp2_with fail
  refine (HI.out _ _ x0_0.row).mono ?_; rintro e w6 ⟨rfl, hb⟩
  clear q_x0_0 q_x0_1
  replace x0_0 := x0_0.keep hb
  replace X_a0 := Lib.hid (X_a0.out.step hb)
  replace X_x0 := Lib.hid (X_x0.out.step hb)
  replace B := below_step B hb
  have zz6 := hb.size
  clear hb
  have q_x0_0 := X_x0.out.cell 0
  have q_x0_1 := X_x0.out.cell 1
  have q_a0_0 := X_a0.out.cell 0
  have q_a0_1 := X_a0.out.cell 1
  go_wp2
  go_region_held3 (fun W => W.cell? ⟨w4.heap.size, 0, none⟩ = some (.int .i64 f0_0) ∧ W.cell? ⟨w4.heap.size, 1, none⟩ = some (.slice ba_x00 n0_1 ca_x00) ∧ W.cell? ⟨w.heap.size, 0, none⟩ = some (.int .i64 f0_0) ∧ W.cell? ⟨w.heap.size, 1, none⟩ = some (.slice b0_1 n0_1 c0_1)) (first | assumption | exact ⟨q_x0_0, q_x0_1, q_a0_0, q_a0_1⟩ | exact keep4 (by assumption) (by assumption) | fail)
    (first
      | (go_at_call 25; refine (stNet.to_got _ _ _ n0_1 zs0_1 hn0_1 (H0_1.out.keep (by repeat (first | assumption | (with_reducible exact Below.refl _ _) | (with_reducible refine below_dr ?_) | (with_reducible refine below_al ?_ _) | (with_reducible refine below_step ?_ (by assumption)) | fail)))).mono ?_; rintro e wt ⟨tc0, lc0, hc0, rfl, ⟨oc0, _⟩, hbt⟩)
      | (go_at_call 26; refine (stNet.eq_yes _ _ _ _ n0_1 zs0_1 hn0_1 (x0_0.keep (by repeat (first | assumption | (with_reducible exact Below.refl _ _) | (with_reducible refine below_dr ?_) | (with_reducible refine below_al ?_ _) | (with_reducible refine below_step ?_ (by assumption)) | fail))).row oc0.row).mono ?_; rintro e w7 ⟨rfl, hb⟩)
      | fail)
  have hc : Below w6.heap.size w6 w7 := (by repeat (first | assumption | (with_reducible exact Below.refl _ _) | (with_reducible refine below_dr ?_) | (with_reducible refine below_al ?_ _) | (with_reducible refine below_step ?_ (by assumption)) | fail))
  clear q_x0_0 q_x0_1 q_a0_0 q_a0_1 hb hbt oc0
  replace x0_0 := x0_0.keep hc
  replace X_a0 := Lib.hid (X_a0.out.step hc)
  replace X_x0 := Lib.hid (X_x0.out.step hc)
  replace B := below_step B hc
  have zz7 := hc.size
  clear hc
  go_wp2
  go_ret
  exact ⟨rfl, B⟩
theorem walk (w : World) (P : Int) (v : Value) (n : Nat) (zs : List Int) (hr : Row 3 w v n (zs.map (Value.int .i64))) (hm : n ≤ 9223372036854775807) (_ : (Lit.int .i64 P).wf = true) (x : Int) (_ : (Lit.int .i64 x).wf = true) (y : Int) (_ : (Lit.int .i64 y).wf = true) : Calls Try.prog 6 #[stNet.R P v, .int .i64 x, .int .i64 y] w fun e w' => e = .returned (.bool true) ∧ Below w.heap.size w w' := by
  classical
  by_cases hl : n ≤ 1048576
  · by_cases two : Two P n zs x y
    · obtain ⟨r, h⟩ := Nc.ex two
      exact core w P v n zs hl hr x y r hl (fun W u g => spec_ncut W P u n zs x y g two r h) (fun W u g => impl_ncut W P u n zs x y g two r h)
    · exact core w P v n zs hl hr x y (-1) hl (fun W u g => spec_ncut_no W P u n zs x y hl g two) (fun W u g => impl_ncut_no W P u n zs x y hl g two)
  · obtain ⟨a, c, rfl⟩ := hr.shape
    have X := Blk.new w 44 #[.int .i64 P, .slice a n c]
    obtain ⟨q0, q1⟩ := stNet.blk_ X
    go_enter Try.func6, Try.ntmps6
    go_wp2_with fail
    refine (stNet.sz_no _ P a n c _ (by omega) (by omega) hm).mono ?_; rintro e w2 ⟨rfl, hb⟩
    clear q0 q1
    go_wp2
    go_ret
    exact ⟨rfl, below_step (below_al (Below.refl _ _) _) hb⟩
end Go.Proofs.Ytilabfmnaegidaa.wFnExactNarrowestCut
namespace Go.Proofs.Ytilabfmnaegidaa.wFnExactCutOf
open Go.RowKit Go.Proofs.Ytilabfmnaegidaa.kit Go.Proofs.Ytilabfmnaegidaa.lawi Go.Proofs.Ytilabfmnaegidaa.own Go.Proofs.Ytilabfmnaegidaa.rain Go.Proofs.Ytilabfmnaegidaa.yrl Go.Proofs.Ytilabfmnaegidaa.net Go.Proofs.Ytilabfmnaegidaa.nt Go.Proofs.Ytilabfmnaegidaa.flw Go.Proofs.Ytilabfmnaegidaa.fl_ Go.Proofs.Ytilabfmnaegidaa.cut
set_option maxRecDepth 100000 in
set_option maxHeartbeats 4000000 in
theorem core (w : World) (f0_0 : Int) (v0_1 : Value) (n0_1 : Nat) (zs0_1 : List Int) (hn0_1 : n0_1 ≤ 1048576) (h0_1 : Row 3 w v0_1 n0_1 (zs0_1.map (Value.int .i64))) (v1 : Value) (n1 : Nat) (zs1 : List Int) (hn1 : n1 ≤ 1048576) (h1 : Row 1 w v1 n1 (zs1.map (Value.int .i64))) (a2 : Int) (a3 : Int) (r0 : Int)
    (hsum : n0_1 ≤ 1048576)
    (hs : ∀ W u0_1 u1, Row 3 W u0_1 n0_1 (zs0_1.map (Value.int .i64)) → Row 1 W u1 n1 (zs1.map (Value.int .i64)) → Calls Try.prog 29 #[stNet.R f0_0 u0_1, u1, .int .i64 a2, .int .i64 a3] W (Gives W (.int .i64 r0)))
    (hi : ∀ W u0_1 u1, Row 3 W u0_1 n0_1 (zs0_1.map (Value.int .i64)) → Row 1 W u1 n1 (zs1.map (Value.int .i64)) → Calls Try.prog 15 #[stNet.R f0_0 u0_1, u1, .int .i64 a2, .int .i64 a3] W (Gives W (.int .i64 r0))) :
    Calls Try.prog 7 #[stNet.R f0_0 v0_1, v1, .int .i64 a2, .int .i64 a3] w (Gives w (.bool true)) := by
  obtain ⟨b0_1, c0_1, rfl⟩ := h0_1.shape
  have H0_1 := Lib.hid h0_1
  clear h0_1
  obtain ⟨b1, c1, rfl⟩ := h1.shape
  have H1 := Lib.hid h1
  clear h1
  have HS := Lib.hid hs
  have HI := Lib.hid hi
  clear hs hi
  have X_a0 : Blk (w.alloc (.cells #[(.int .i64 f0_0), (.slice b0_1 n0_1 c0_1)] 44)) w.heap.size 44 #[(.int .i64 f0_0), (.slice b0_1 n0_1 c0_1)] := by
    have := Blk.new w 44 #[(.int .i64 f0_0), (.slice b0_1 n0_1 c0_1)]
    simpa using this
  replace X_a0 := Lib.hid X_a0
  have B : Below w.heap.size w (w.alloc (.cells #[(.int .i64 f0_0), (.slice b0_1 n0_1 c0_1)] 44)) := below_al (Below.refl _ _) _
  have zzb : (w.alloc (.cells #[(.int .i64 f0_0), (.slice b0_1 n0_1 c0_1)] 44)).heap.size = w.heap.size + 1 := by simp
  go_enter Try.func7, Try.ntmps7
  have q_a0_0 := X_a0.out.cell 0
  have q_a0_1 := X_a0.out.cell 1
  go_wp2_with fail
  refine (stNet.sz_yes _ _ _ n0_1 c0_1 _ (by omega) (by omega)).mono ?_; rintro e w1 ⟨rfl, hb⟩
  clear q_a0_0 q_a0_1
  replace X_a0 := Lib.hid (X_a0.out.step hb)
  replace B := below_step B hb
  have zz1 := hb.size
  clear hb
  have q_a0_0 := X_a0.out.cell 0
  have q_a0_1 := X_a0.out.cell 1
  go_wp2_with fail
  refine (stNet.to_got _ _ _ n0_1 zs0_1 hn0_1 (H0_1.out.keep B)).mono ?_; rintro e w2 ⟨t1, l_o0_0, h_o0_0, rfl, ⟨o0_0, lo_o0_0⟩, hb⟩
  clear q_a0_0 q_a0_1
  replace X_a0 := Lib.hid (X_a0.out.step hb)
  replace B := below_step B hb
  have zz2 := hb.size
  have hi_o0_0 := o0_0.2.2
  clear hb
  go_wp2_with fail
  refine (toInt_got _ _ n1 zs1 hn1 (H1.out.keep B)).mono ?_; rintro e w3 ⟨t2, rfl, ho, hb⟩
  replace o0_0 := o0_0.keep hb
  replace X_a0 := Lib.hid (X_a0.out.step hb)
  replace B := below_step B hb
  have zz3 := hb.size
  have o1 := OwnR.of_own ho
  clear hb ho
  go_wp2_with fail
  refine (HS.out _ _ _ o0_0.row o1.row).mono ?_; rintro e w4 ⟨rfl, hb⟩
  replace o0_0 := o0_0.keep hb
  replace o1 := o1.keep hb
  replace X_a0 := Lib.hid (X_a0.out.step hb)
  replace B := below_step B hb
  have zz4 := hb.size
  clear hb
  clear o0_0
  clear o1
  have q_a0_0 := X_a0.out.cell 0
  have q_a0_1 := X_a0.out.cell 1
  go_wp2_with fail
  refine (stNet.to_got _ _ _ n0_1 zs0_1 hn0_1 (H0_1.out.keep B)).mono ?_; rintro e w5 ⟨t3, l_x0_0, h_x0_0, rfl, ⟨x0_0, lo_x0_0⟩, hb⟩
  clear q_a0_0 q_a0_1
  replace X_a0 := Lib.hid (X_a0.out.step hb)
  replace B := below_step B hb
  have zz5 := hb.size
  have hi_x0_0 := x0_0.2.2
  clear hb
  obtain ⟨ba_x00, ca_x00, rfl⟩ := own_shape x0_0.own
  have hb : Below w5.heap.size w5 (w5.alloc (.cells #[(.int .i64 f0_0), (.slice ba_x00 n0_1 ca_x00)] 26)) := below_al (Below.refl _ _) _
  replace x0_0 := x0_0.keep hb
  replace X_a0 := Lib.hid (X_a0.out.step hb)
  replace B := below_step B hb
  have zz6 := hb.size
  have X_x0 : Blk (w5.alloc (.cells #[(.int .i64 f0_0), (.slice ba_x00 n0_1 ca_x00)] 26)) w5.heap.size 26 #[(.int .i64 f0_0), (.slice ba_x00 n0_1 ca_x00)] := by
    have := Blk.new w5 26 #[(.int .i64 f0_0), (.slice ba_x00 n0_1 ca_x00)]
    simpa using this
  replace X_x0 := Lib.hid X_x0
  have zy6 : (w5.alloc (.cells #[(.int .i64 f0_0), (.slice ba_x00 n0_1 ca_x00)] 26)).heap.size = w5.heap.size + 1 := by simp
  clear hb
  go_wp2_with fail
  refine (toInt_got _ _ n1 zs1 hn1 (H1.out.keep B)).mono ?_; rintro e w7 ⟨t4, rfl, ho, hb⟩
  replace x0_0 := x0_0.keep hb
  replace X_a0 := Lib.hid (X_a0.out.step hb)
  replace X_x0 := Lib.hid (X_x0.out.step hb)
  replace B := below_step B hb
  have zz7 := hb.size
  have x1 := OwnR.of_own ho
  clear hb ho
  have q_x0_0 := X_x0.out.cell 0
  have q_x0_1 := X_x0.out.cell 1
  go_wp2_with fail
  refine (HI.out _ _ _ x0_0.row x1.row).mono ?_; rintro e w8 ⟨rfl, hb⟩
  clear q_x0_0 q_x0_1
  replace x0_0 := x0_0.keep hb
  replace x1 := x1.keep hb
  replace X_a0 := Lib.hid (X_a0.out.step hb)
  replace X_x0 := Lib.hid (X_x0.out.step hb)
  replace B := below_step B hb
  have zz8 := hb.size
  clear hb
  have q_x0_0 := X_x0.out.cell 0
  have q_x0_1 := X_x0.out.cell 1
  have q_a0_0 := X_a0.out.cell 0
  have q_a0_1 := X_a0.out.cell 1
  go_wp2
  go_region_held3 (fun W => W.cell? ⟨w5.heap.size, 0, none⟩ = some (.int .i64 f0_0) ∧ W.cell? ⟨w5.heap.size, 1, none⟩ = some (.slice ba_x00 n0_1 ca_x00) ∧ W.cell? ⟨w.heap.size, 0, none⟩ = some (.int .i64 f0_0) ∧ W.cell? ⟨w.heap.size, 1, none⟩ = some (.slice b0_1 n0_1 c0_1)) (first | assumption | exact ⟨q_x0_0, q_x0_1, q_a0_0, q_a0_1⟩ | exact keep4 (by assumption) (by assumption) | fail)
    (first
      | (go_at_call 25; refine (stNet.to_got _ _ _ n0_1 zs0_1 hn0_1 (H0_1.out.keep (by repeat (first | assumption | (with_reducible exact Below.refl _ _) | (with_reducible refine below_dr ?_) | (with_reducible refine below_al ?_ _) | (with_reducible refine below_step ?_ (by assumption)) | fail)))).mono ?_; rintro e wt ⟨tc0, lc0, hc0, rfl, ⟨oc0, _⟩, hbt⟩)
      | (go_at_call 26; refine (stNet.eq_yes _ _ _ _ n0_1 zs0_1 hn0_1 (x0_0.keep (by repeat (first | assumption | (with_reducible exact Below.refl _ _) | (with_reducible refine below_dr ?_) | (with_reducible refine below_al ?_ _) | (with_reducible refine below_step ?_ (by assumption)) | fail))).row oc0.row).mono ?_; rintro e w9 ⟨rfl, hb⟩)
      | fail)
  have hc : Below w8.heap.size w8 w9 := (by repeat (first | assumption | (with_reducible exact Below.refl _ _) | (with_reducible refine below_dr ?_) | (with_reducible refine below_al ?_ _) | (with_reducible refine below_step ?_ (by assumption)) | fail))
  clear q_x0_0 q_x0_1 q_a0_0 q_a0_1 hb hbt oc0
  replace x0_0 := x0_0.keep hc
  replace x1 := x1.keep hc
  replace X_a0 := Lib.hid (X_a0.out.step hc)
  replace X_x0 := Lib.hid (X_x0.out.step hc)
  replace B := below_step B hc
  have zz9 := hc.size
  clear hc
  go_wp2_with fail
  refine (toInt_got _ _ n1 zs1 hn1 (H1.out.keep B)).mono ?_; rintro e w10 ⟨t5, rfl, ho, hb⟩
  replace x0_0 := x0_0.keep hb
  replace x1 := x1.keep hb
  replace X_a0 := Lib.hid (X_a0.out.step hb)
  replace X_x0 := Lib.hid (X_x0.out.step hb)
  replace B := below_step B hb
  have zz10 := hb.size
  have oe1 := OwnR.of_own ho
  clear hb ho
  go_wp2_with fail
  refine (eqInt_gives _ _ _ n1 zs1 hn1 x1.row oe1.row).mono ?_; rintro e w11 ⟨rfl, hb⟩
  replace x0_0 := x0_0.keep hb
  replace x1 := x1.keep hb
  replace oe1 := oe1.keep hb
  replace X_a0 := Lib.hid (X_a0.out.step hb)
  replace X_x0 := Lib.hid (X_x0.out.step hb)
  replace B := below_step B hb
  have zz11 := hb.size
  clear hb
  clear oe1
  go_wp2
  go_ret
  exact ⟨rfl, B⟩
theorem walk (w : World) (P : Int) (v : Value) (n : Nat) (zs : List Int) (hr : Row 3 w v n (zs.map (Value.int .i64))) (hm : n ≤ 9223372036854775807) (_ : (Lit.int .i64 P).wf = true) (a1 : Option Addr) (len1 cap1 : Nat) (z1 : List Int) (w1 : IsRow .i64 w a1 len1 cap1 z1) (x : Int) (_ : (Lit.int .i64 x).wf = true) (y : Int) (_ : (Lit.int .i64 y).wf = true) : Calls Try.prog 7 #[stNet.R P v, .slice a1 len1 cap1, .int .i64 x, .int .i64 y] w fun e w' => e = .returned (.bool true) ∧ Below w.heap.size w w' := by
  classical
  by_cases hL : len1 ≤ 1048576
  · obtain ⟨fs, hfs⟩ : ∃ fs, z1.take len1 = fs := ⟨_, rfl⟩
    have hf := w1.row
    rw [hfs] at hf
    by_cases hl : n ≤ 1048576
    · obtain ⟨r, h⟩ := CoA.ex P n zs len1 fs x y
      exact core w P v n zs hl hr _ len1 fs hL hf x y r hl (fun W u s g g1 => spec_cutof W P u s n len1 zs fs x y hl g g1 r h) (fun W u s g g1 => impl_cutof W P u s n len1 zs fs x y hl g g1 r h)
    · obtain ⟨a, c, rfl⟩ := hr.shape
      have X := Blk.new w 44 #[.int .i64 P, .slice a n c]
      obtain ⟨q0, q1⟩ := stNet.blk_ X
      go_enter Try.func7, Try.ntmps7
      go_wp2_with fail
      refine (stNet.sz_no _ P a n c _ (by omega) (by omega) hm).mono ?_; rintro e w2 ⟨rfl, hb⟩
      clear q0 q1
      go_wp2
      go_ret
      exact ⟨rfl, below_step (below_al (Below.refl _ _) _) hb⟩
  · obtain ⟨a, c, rfl⟩ := hr.shape
    go_enter Try.func7, Try.ntmps7
    go_wp2
    go_ret
    exact ⟨rfl, below_al (Below.refl _ _) _⟩
end Go.Proofs.Ytilabfmnaegidaa.wFnExactCutOf
namespace Go.Proofs.Ytilabfmnaegidaa.wFnExactProvesGreatest
open Go.RowKit Go.Proofs.Ytilabfmnaegidaa.kit Go.Proofs.Ytilabfmnaegidaa.lawi Go.Proofs.Ytilabfmnaegidaa.own Go.Proofs.Ytilabfmnaegidaa.rain Go.Proofs.Ytilabfmnaegidaa.yrl Go.Proofs.Ytilabfmnaegidaa.net Go.Proofs.Ytilabfmnaegidaa.nt Go.Proofs.Ytilabfmnaegidaa.flw Go.Proofs.Ytilabfmnaegidaa.fl_ Go.Proofs.Ytilabfmnaegidaa.cut
set_option maxRecDepth 100000 in
set_option maxHeartbeats 4000000 in
theorem core (w : World) (f0_0 : Int) (v0_1 : Value) (n0_1 : Nat) (zs0_1 : List Int) (hn0_1 : n0_1 ≤ 1048576) (h0_1 : Row 3 w v0_1 n0_1 (zs0_1.map (Value.int .i64))) (v1 : Value) (n1 : Nat) (zs1 : List Int) (hn1 : n1 ≤ 1048576) (h1 : Row 1 w v1 n1 (zs1.map (Value.int .i64))) (a2 : Int) (a3 : Int) (a4 : Int) (r0 : Bool)
    (hsum : n0_1 ≤ 1048576)
    (hs : ∀ W u0_1 u1, Row 3 W u0_1 n0_1 (zs0_1.map (Value.int .i64)) → Row 1 W u1 n1 (zs1.map (Value.int .i64)) → Calls Try.prog 32 #[stNet.R f0_0 u0_1, u1, .int .i64 a2, .int .i64 a3, .int .i64 a4] W (Gives W (.bool r0)))
    (hi : ∀ W u0_1 u1, Row 3 W u0_1 n0_1 (zs0_1.map (Value.int .i64)) → Row 1 W u1 n1 (zs1.map (Value.int .i64)) → Calls Try.prog 18 #[stNet.R f0_0 u0_1, u1, .int .i64 a2, .int .i64 a3, .int .i64 a4] W (Gives W (.bool r0))) :
    Calls Try.prog 8 #[stNet.R f0_0 v0_1, v1, .int .i64 a2, .int .i64 a3, .int .i64 a4] w (Gives w (.bool true)) := by
  obtain ⟨b0_1, c0_1, rfl⟩ := h0_1.shape
  have H0_1 := Lib.hid h0_1
  clear h0_1
  obtain ⟨b1, c1, rfl⟩ := h1.shape
  have H1 := Lib.hid h1
  clear h1
  have HS := Lib.hid hs
  have HI := Lib.hid hi
  clear hs hi
  have X_a0 : Blk (w.alloc (.cells #[(.int .i64 f0_0), (.slice b0_1 n0_1 c0_1)] 44)) w.heap.size 44 #[(.int .i64 f0_0), (.slice b0_1 n0_1 c0_1)] := by
    have := Blk.new w 44 #[(.int .i64 f0_0), (.slice b0_1 n0_1 c0_1)]
    simpa using this
  replace X_a0 := Lib.hid X_a0
  have B : Below w.heap.size w (w.alloc (.cells #[(.int .i64 f0_0), (.slice b0_1 n0_1 c0_1)] 44)) := below_al (Below.refl _ _) _
  have zzb : (w.alloc (.cells #[(.int .i64 f0_0), (.slice b0_1 n0_1 c0_1)] 44)).heap.size = w.heap.size + 1 := by simp
  go_enter Try.func8, Try.ntmps8
  have q_a0_0 := X_a0.out.cell 0
  have q_a0_1 := X_a0.out.cell 1
  go_wp2_with fail
  refine (stNet.sz_yes _ _ _ n0_1 c0_1 _ (by omega) (by omega)).mono ?_; rintro e w1 ⟨rfl, hb⟩
  clear q_a0_0 q_a0_1
  replace X_a0 := Lib.hid (X_a0.out.step hb)
  replace B := below_step B hb
  have zz1 := hb.size
  clear hb
  have q_a0_0 := X_a0.out.cell 0
  have q_a0_1 := X_a0.out.cell 1
  go_wp2_with fail
  refine (stNet.to_got _ _ _ n0_1 zs0_1 hn0_1 (H0_1.out.keep B)).mono ?_; rintro e w2 ⟨t1, l_o0_0, h_o0_0, rfl, ⟨o0_0, lo_o0_0⟩, hb⟩
  clear q_a0_0 q_a0_1
  replace X_a0 := Lib.hid (X_a0.out.step hb)
  replace B := below_step B hb
  have zz2 := hb.size
  have hi_o0_0 := o0_0.2.2
  clear hb
  go_wp2_with fail
  refine (toInt_got _ _ n1 zs1 hn1 (H1.out.keep B)).mono ?_; rintro e w3 ⟨t2, rfl, ho, hb⟩
  replace o0_0 := o0_0.keep hb
  replace X_a0 := Lib.hid (X_a0.out.step hb)
  replace B := below_step B hb
  have zz3 := hb.size
  have o1 := OwnR.of_own ho
  clear hb ho
  go_wp2_with fail
  refine (HS.out _ _ _ o0_0.row o1.row).mono ?_; rintro e w4 ⟨rfl, hb⟩
  replace o0_0 := o0_0.keep hb
  replace o1 := o1.keep hb
  replace X_a0 := Lib.hid (X_a0.out.step hb)
  replace B := below_step B hb
  have zz4 := hb.size
  clear hb
  clear o0_0
  clear o1
  have q_a0_0 := X_a0.out.cell 0
  have q_a0_1 := X_a0.out.cell 1
  go_wp2_with fail
  refine (stNet.to_got _ _ _ n0_1 zs0_1 hn0_1 (H0_1.out.keep B)).mono ?_; rintro e w5 ⟨t3, l_x0_0, h_x0_0, rfl, ⟨x0_0, lo_x0_0⟩, hb⟩
  clear q_a0_0 q_a0_1
  replace X_a0 := Lib.hid (X_a0.out.step hb)
  replace B := below_step B hb
  have zz5 := hb.size
  have hi_x0_0 := x0_0.2.2
  clear hb
  obtain ⟨ba_x00, ca_x00, rfl⟩ := own_shape x0_0.own
  have hb : Below w5.heap.size w5 (w5.alloc (.cells #[(.int .i64 f0_0), (.slice ba_x00 n0_1 ca_x00)] 26)) := below_al (Below.refl _ _) _
  replace x0_0 := x0_0.keep hb
  replace X_a0 := Lib.hid (X_a0.out.step hb)
  replace B := below_step B hb
  have zz6 := hb.size
  have X_x0 : Blk (w5.alloc (.cells #[(.int .i64 f0_0), (.slice ba_x00 n0_1 ca_x00)] 26)) w5.heap.size 26 #[(.int .i64 f0_0), (.slice ba_x00 n0_1 ca_x00)] := by
    have := Blk.new w5 26 #[(.int .i64 f0_0), (.slice ba_x00 n0_1 ca_x00)]
    simpa using this
  replace X_x0 := Lib.hid X_x0
  have zy6 : (w5.alloc (.cells #[(.int .i64 f0_0), (.slice ba_x00 n0_1 ca_x00)] 26)).heap.size = w5.heap.size + 1 := by simp
  clear hb
  go_wp2_with fail
  refine (toInt_got _ _ n1 zs1 hn1 (H1.out.keep B)).mono ?_; rintro e w7 ⟨t4, rfl, ho, hb⟩
  replace x0_0 := x0_0.keep hb
  replace X_a0 := Lib.hid (X_a0.out.step hb)
  replace X_x0 := Lib.hid (X_x0.out.step hb)
  replace B := below_step B hb
  have zz7 := hb.size
  have x1 := OwnR.of_own ho
  clear hb ho
  have q_x0_0 := X_x0.out.cell 0
  have q_x0_1 := X_x0.out.cell 1
  go_wp2_with fail
  refine (HI.out _ _ _ x0_0.row x1.row).mono ?_; rintro e w8 ⟨rfl, hb⟩
  clear q_x0_0 q_x0_1
  replace x0_0 := x0_0.keep hb
  replace x1 := x1.keep hb
  replace X_a0 := Lib.hid (X_a0.out.step hb)
  replace X_x0 := Lib.hid (X_x0.out.step hb)
  replace B := below_step B hb
  have zz8 := hb.size
  clear hb
  have q_x0_0 := X_x0.out.cell 0
  have q_x0_1 := X_x0.out.cell 1
  have q_a0_0 := X_a0.out.cell 0
  have q_a0_1 := X_a0.out.cell 1
  go_wp2
  go_region_held3 (fun W => W.cell? ⟨w5.heap.size, 0, none⟩ = some (.int .i64 f0_0) ∧ W.cell? ⟨w5.heap.size, 1, none⟩ = some (.slice ba_x00 n0_1 ca_x00) ∧ W.cell? ⟨w.heap.size, 0, none⟩ = some (.int .i64 f0_0) ∧ W.cell? ⟨w.heap.size, 1, none⟩ = some (.slice b0_1 n0_1 c0_1)) (first | assumption | exact ⟨q_x0_0, q_x0_1, q_a0_0, q_a0_1⟩ | exact keep4 (by assumption) (by assumption) | fail)
    (first
      | (go_at_call 25; refine (stNet.to_got _ _ _ n0_1 zs0_1 hn0_1 (H0_1.out.keep (by repeat (first | assumption | (with_reducible exact Below.refl _ _) | (with_reducible refine below_dr ?_) | (with_reducible refine below_al ?_ _) | (with_reducible refine below_step ?_ (by assumption)) | fail)))).mono ?_; rintro e wt ⟨tc0, lc0, hc0, rfl, ⟨oc0, _⟩, hbt⟩)
      | (go_at_call 26; refine (stNet.eq_yes _ _ _ _ n0_1 zs0_1 hn0_1 (x0_0.keep (by repeat (first | assumption | (with_reducible exact Below.refl _ _) | (with_reducible refine below_dr ?_) | (with_reducible refine below_al ?_ _) | (with_reducible refine below_step ?_ (by assumption)) | fail))).row oc0.row).mono ?_; rintro e w9 ⟨rfl, hb⟩)
      | fail)
  have hc : Below w8.heap.size w8 w9 := (by repeat (first | assumption | (with_reducible exact Below.refl _ _) | (with_reducible refine below_dr ?_) | (with_reducible refine below_al ?_ _) | (with_reducible refine below_step ?_ (by assumption)) | fail))
  clear q_x0_0 q_x0_1 q_a0_0 q_a0_1 hb hbt oc0
  replace x0_0 := x0_0.keep hc
  replace x1 := x1.keep hc
  replace X_a0 := Lib.hid (X_a0.out.step hc)
  replace X_x0 := Lib.hid (X_x0.out.step hc)
  replace B := below_step B hc
  have zz9 := hc.size
  clear hc
  go_wp2_with fail
  refine (toInt_got _ _ n1 zs1 hn1 (H1.out.keep B)).mono ?_; rintro e w10 ⟨t5, rfl, ho, hb⟩
  replace x0_0 := x0_0.keep hb
  replace x1 := x1.keep hb
  replace X_a0 := Lib.hid (X_a0.out.step hb)
  replace X_x0 := Lib.hid (X_x0.out.step hb)
  replace B := below_step B hb
  have zz10 := hb.size
  have oe1 := OwnR.of_own ho
  clear hb ho
  go_wp2_with fail
  refine (eqInt_gives _ _ _ n1 zs1 hn1 x1.row oe1.row).mono ?_; rintro e w11 ⟨rfl, hb⟩
  replace x0_0 := x0_0.keep hb
  replace x1 := x1.keep hb
  replace oe1 := oe1.keep hb
  replace X_a0 := Lib.hid (X_a0.out.step hb)
  replace X_x0 := Lib.hid (X_x0.out.step hb)
  replace B := below_step B hb
  have zz11 := hb.size
  clear hb
  clear oe1
  go_wp2
  go_ret
  exact ⟨rfl, B⟩
theorem walk (w : World) (P : Int) (v : Value) (n : Nat) (zs : List Int) (hr : Row 3 w v n (zs.map (Value.int .i64))) (hm : n ≤ 9223372036854775807) (_ : (Lit.int .i64 P).wf = true) (a1 : Option Addr) (len1 cap1 : Nat) (z1 : List Int) (w1 : IsRow .i64 w a1 len1 cap1 z1) (x : Int) (_ : (Lit.int .i64 x).wf = true) (y : Int) (_ : (Lit.int .i64 y).wf = true) (z : Int) (_ : (Lit.int .i64 z).wf = true) : Calls Try.prog 8 #[stNet.R P v, .slice a1 len1 cap1, .int .i64 x, .int .i64 y, .int .i64 z] w fun e w' => e = .returned (.bool true) ∧ Below w.heap.size w w' := by
  classical
  by_cases hL : len1 ≤ 1048576
  · obtain ⟨fs, hfs⟩ : ∃ fs, z1.take len1 = fs := ⟨_, rfl⟩
    have hf := w1.row
    rw [hfs] at hf
    by_cases hl : n ≤ 1048576
    · exact core w P v n zs hl hr _ len1 fs hL hf x y z (decide (Pg P n zs len1 fs x y z)) hl (fun W u s g g1 => spec_pg W P u s n len1 zs fs x y z hl hL g g1 _ decide_eq_true_iff) (fun W u s g g1 => impl_pg W P u s n len1 zs fs x y z hl hL g g1 _ decide_eq_true_iff)
    · obtain ⟨a, c, rfl⟩ := hr.shape
      have X := Blk.new w 44 #[.int .i64 P, .slice a n c]
      obtain ⟨q0, q1⟩ := stNet.blk_ X
      go_enter Try.func8, Try.ntmps8
      go_wp2_with fail
      refine (stNet.sz_no _ P a n c _ (by omega) (by omega) hm).mono ?_; rintro e w2 ⟨rfl, hb⟩
      clear q0 q1
      go_wp2
      go_ret
      exact ⟨rfl, below_step (below_al (Below.refl _ _) _) hb⟩
  · obtain ⟨a, c, rfl⟩ := hr.shape
    go_enter Try.func8, Try.ntmps8
    go_wp2
    go_ret
    exact ⟨rfl, below_al (Below.refl _ _) _⟩
end Go.Proofs.Ytilabfmnaegidaa.wFnExactProvesGreatest
namespace Go.Proofs.Ytilabfmnaegidaa.wFnExactNeededPipes
open Go.RowKit Go.Proofs.Ytilabfmnaegidaa.kit Go.Proofs.Ytilabfmnaegidaa.lawi Go.Proofs.Ytilabfmnaegidaa.own Go.Proofs.Ytilabfmnaegidaa.rain Go.Proofs.Ytilabfmnaegidaa.yrl Go.Proofs.Ytilabfmnaegidaa.net Go.Proofs.Ytilabfmnaegidaa.nt Go.Proofs.Ytilabfmnaegidaa.flw Go.Proofs.Ytilabfmnaegidaa.fl_ Go.Proofs.Ytilabfmnaegidaa.cut
set_option maxRecDepth 100000 in
set_option maxHeartbeats 4000000 in
theorem core (w : World) (f0_0 : Int) (v0_1 : Value) (n0_1 : Nat) (zs0_1 : List Int) (hn0_1 : n0_1 ≤ 1048576) (h0_1 : Row 3 w v0_1 n0_1 (zs0_1.map (Value.int .i64))) (a1 : Int) (a2 : Int) (m0 : Nat) (ys0 : List Int) (hm0 : m0 ≤ 1048576)
    (hsum : n0_1 ≤ 1048576)
    (hs : ∀ W u0_1, Row 3 W u0_1 n0_1 (zs0_1.map (Value.int .i64)) → Cap u0_1 → Calls Try.prog 33 #[stNet.R f0_0 u0_1, .int .i64 a1, .int .i64 a2] W (fun e W' => ∃ t, e = .returned (t) ∧ W'.ownsRow W.heap.size 3 1 t m0 (ys0.map (Value.int .i64)) ∧ Below W.heap.size W W'))
    (hi : ∀ W u0_1, Row 3 W u0_1 n0_1 (zs0_1.map (Value.int .i64)) → Cap u0_1 → Calls Try.prog 20 #[stNet.R f0_0 u0_1, .int .i64 a1, .int .i64 a2] W (fun e W' => ∃ t, e = .returned (t) ∧ W'.ownsRow W.heap.size 3 1 t m0 (ys0.map (Value.int .i64)) ∧ Below W.heap.size W W')) :
    Calls Try.prog 9 #[stNet.R f0_0 v0_1, .int .i64 a1, .int .i64 a2] w (Gives w (.bool true)) := by
  obtain ⟨b0_1, c0_1, rfl⟩ := h0_1.shape
  have H0_1 := Lib.hid h0_1
  clear h0_1
  have HS := Lib.hid hs
  have HI := Lib.hid hi
  clear hs hi
  have X_a0 : Blk (w.alloc (.cells #[(.int .i64 f0_0), (.slice b0_1 n0_1 c0_1)] 44)) w.heap.size 44 #[(.int .i64 f0_0), (.slice b0_1 n0_1 c0_1)] := by
    have := Blk.new w 44 #[(.int .i64 f0_0), (.slice b0_1 n0_1 c0_1)]
    simpa using this
  replace X_a0 := Lib.hid X_a0
  have B : Below w.heap.size w (w.alloc (.cells #[(.int .i64 f0_0), (.slice b0_1 n0_1 c0_1)] 44)) := below_al (Below.refl _ _) _
  have zzb : (w.alloc (.cells #[(.int .i64 f0_0), (.slice b0_1 n0_1 c0_1)] 44)).heap.size = w.heap.size + 1 := by simp
  go_enter Try.func9, Try.ntmps9
  have q_a0_0 := X_a0.out.cell 0
  have q_a0_1 := X_a0.out.cell 1
  go_wp2_with fail
  refine (stNet.sz_yes _ _ _ n0_1 c0_1 _ (by omega) (by omega)).mono ?_; rintro e w1 ⟨rfl, hb⟩
  clear q_a0_0 q_a0_1
  replace X_a0 := Lib.hid (X_a0.out.step hb)
  replace B := below_step B hb
  have zz1 := hb.size
  clear hb
  have q_a0_0 := X_a0.out.cell 0
  have q_a0_1 := X_a0.out.cell 1
  go_wp2_with fail
  refine (stNet.to_got _ _ _ n0_1 zs0_1 hn0_1 (H0_1.out.keep B)).mono ?_; rintro e w2 ⟨t1, l_o0_0, h_o0_0, rfl, ⟨o0_0, lo_o0_0⟩, hb⟩
  clear q_a0_0 q_a0_1
  replace X_a0 := Lib.hid (X_a0.out.step hb)
  replace B := below_step B hb
  have zz2 := hb.size
  have hi_o0_0 := o0_0.2.2
  clear hb
  go_wp2_with fail
  refine (HS.out _ _ o0_0.row o0_0.cap).mono ?_; rintro e w3 ⟨t2, rfl, ho, hb⟩
  replace o0_0 := o0_0.keep hb
  replace X_a0 := Lib.hid (X_a0.out.step hb)
  replace B := below_step B hb
  have zz3 := hb.size
  have s := OwnR.of_own ho
  clear hb ho
  clear o0_0
  have q_a0_0 := X_a0.out.cell 0
  have q_a0_1 := X_a0.out.cell 1
  go_wp2_with fail
  refine (stNet.to_got _ _ _ n0_1 zs0_1 hn0_1 (H0_1.out.keep B)).mono ?_; rintro e w4 ⟨t3, l_x0_0, h_x0_0, rfl, ⟨x0_0, lo_x0_0⟩, hb⟩
  clear q_a0_0 q_a0_1
  replace s := s.keep hb
  replace X_a0 := Lib.hid (X_a0.out.step hb)
  replace B := below_step B hb
  have zz4 := hb.size
  have hi_x0_0 := x0_0.2.2
  clear hb
  obtain ⟨ba_x00, ca_x00, rfl⟩ := own_shape x0_0.own
  have hb : Below w4.heap.size w4 (w4.alloc (.cells #[(.int .i64 f0_0), (.slice ba_x00 n0_1 ca_x00)] 26)) := below_al (Below.refl _ _) _
  replace s := s.keep hb
  replace x0_0 := x0_0.keep hb
  replace X_a0 := Lib.hid (X_a0.out.step hb)
  replace B := below_step B hb
  have zz5 := hb.size
  have X_x0 : Blk (w4.alloc (.cells #[(.int .i64 f0_0), (.slice ba_x00 n0_1 ca_x00)] 26)) w4.heap.size 26 #[(.int .i64 f0_0), (.slice ba_x00 n0_1 ca_x00)] := by
    have := Blk.new w4 26 #[(.int .i64 f0_0), (.slice ba_x00 n0_1 ca_x00)]
    simpa using this
  replace X_x0 := Lib.hid X_x0
  have zy5 : (w4.alloc (.cells #[(.int .i64 f0_0), (.slice ba_x00 n0_1 ca_x00)] 26)).heap.size = w4.heap.size + 1 := by simp
  clear hb
  have q_x0_0 := X_x0.out.cell 0
  have q_x0_1 := X_x0.out.cell 1
  go_wp2_with fail
  refine (HI.out _ _ x0_0.row x0_0.cap).mono ?_; rintro e w6 ⟨t4, rfl, ho, hb⟩
  clear q_x0_0 q_x0_1
  replace s := s.keep hb
  replace x0_0 := x0_0.keep hb
  replace X_a0 := Lib.hid (X_a0.out.step hb)
  replace X_x0 := Lib.hid (X_x0.out.step hb)
  replace B := below_step B hb
  have zz6 := hb.size
  have g := OwnR.of_own ho
  clear hb ho
  go_wp2_with fail
  refine (eqInt_gives _ _ _ m0 ys0 hm0 g.row s.row).mono ?_; rintro e w7 ⟨rfl, hb⟩
  replace s := s.keep hb
  replace x0_0 := x0_0.keep hb
  replace g := g.keep hb
  replace X_a0 := Lib.hid (X_a0.out.step hb)
  replace X_x0 := Lib.hid (X_x0.out.step hb)
  replace B := below_step B hb
  have zz7 := hb.size
  clear hb
  have q_x0_0 := X_x0.out.cell 0
  have q_x0_1 := X_x0.out.cell 1
  have q_a0_0 := X_a0.out.cell 0
  have q_a0_1 := X_a0.out.cell 1
  go_wp2
  go_region_held3 (fun W => W.cell? ⟨w4.heap.size, 0, none⟩ = some (.int .i64 f0_0) ∧ W.cell? ⟨w4.heap.size, 1, none⟩ = some (.slice ba_x00 n0_1 ca_x00) ∧ W.cell? ⟨w.heap.size, 0, none⟩ = some (.int .i64 f0_0) ∧ W.cell? ⟨w.heap.size, 1, none⟩ = some (.slice b0_1 n0_1 c0_1)) (first | assumption | exact ⟨q_x0_0, q_x0_1, q_a0_0, q_a0_1⟩ | exact keep4 (by assumption) (by assumption) | fail)
    (first
      | (go_at_call 25; refine (stNet.to_got _ _ _ n0_1 zs0_1 hn0_1 (H0_1.out.keep (by repeat (first | assumption | (with_reducible exact Below.refl _ _) | (with_reducible refine below_dr ?_) | (with_reducible refine below_al ?_ _) | (with_reducible refine below_step ?_ (by assumption)) | fail)))).mono ?_; rintro e wt ⟨tc0, lc0, hc0, rfl, ⟨oc0, _⟩, hbt⟩)
      | (go_at_call 26; refine (stNet.eq_yes _ _ _ _ n0_1 zs0_1 hn0_1 (x0_0.keep (by repeat (first | assumption | (with_reducible exact Below.refl _ _) | (with_reducible refine below_dr ?_) | (with_reducible refine below_al ?_ _) | (with_reducible refine below_step ?_ (by assumption)) | fail))).row oc0.row).mono ?_; rintro e w8 ⟨rfl, hb⟩)
      | fail)
  have hc : Below w7.heap.size w7 w8 := (by repeat (first | assumption | (with_reducible exact Below.refl _ _) | (with_reducible refine below_dr ?_) | (with_reducible refine below_al ?_ _) | (with_reducible refine below_step ?_ (by assumption)) | fail))
  clear q_x0_0 q_x0_1 q_a0_0 q_a0_1 hb hbt oc0
  replace s := s.keep hc
  replace x0_0 := x0_0.keep hc
  replace g := g.keep hc
  replace X_a0 := Lib.hid (X_a0.out.step hc)
  replace X_x0 := Lib.hid (X_x0.out.step hc)
  replace B := below_step B hc
  have zz8 := hc.size
  clear hc
  have q_x0_0 := X_x0.out.cell 0
  have q_x0_1 := X_x0.out.cell 1
  go_wp2_with fail
  refine (stNet.mark_own _ _ 1 _ (by omega) _ _ _ n0_1 _ x0_0  (by omega)).mono ?_; rintro e w9 ⟨rfl, om0, ch0⟩
  clear q_x0_0 q_x0_1
  have zz9_0 := ch0.size
  replace s := s.chg ch0 (by omega)
  replace g := g.chg ch0 (by omega)
  replace X_a0 := Lib.hid (Blk.chg X_a0.out ch0 (by omega))
  replace X_x0 := Lib.hid (Blk.chg X_x0.out ch0 (by omega))
  replace B := B.trans (ch0.below (B := w.heap.size) (by omega) (by omega))
  replace x0_0 := om0
  clear om0 ch0
  go_wp2_with fail
  refine (eqInt_gives _ _ _ m0 ys0 hm0 g.row s.row).mono ?_; rintro e w10 ⟨rfl, hb⟩
  replace s := s.keep hb
  replace x0_0 := x0_0.keep hb
  replace g := g.keep hb
  replace X_a0 := Lib.hid (X_a0.out.step hb)
  replace X_x0 := Lib.hid (X_x0.out.step hb)
  replace B := below_step B hb
  have zz10 := hb.size
  clear hb
  clear x0_0
  go_wp2_with fail
  refine (markInt_own _ _ _ _ m0 _ 1 _ (by omega) (by omega) g).mono ?_; rintro e w11 ⟨rfl, om, ch⟩
  have zz11_0 := ch.size
  replace s := s.chg ch (by omega)
  replace X_a0 := Lib.hid (Blk.chg X_a0.out ch (by omega))
  replace X_x0 := Lib.hid (Blk.chg X_x0.out ch (by omega))
  replace B := B.trans (ch.below (B := w.heap.size) (by omega) (by omega))
  replace g := om
  clear om ch
  go_wp2_with fail
  refine (heldInt_gives _ _ m0 1 _ rfl (by omega) g.row).mono ?_; rintro e w12 ⟨rfl, hb⟩
  replace s := s.keep hb
  replace g := g.keep hb
  replace X_a0 := Lib.hid (X_a0.out.step hb)
  replace X_x0 := Lib.hid (X_x0.out.step hb)
  replace B := below_step B hb
  have zz12 := hb.size
  clear hb
  have q_a0_0 := X_a0.out.cell 0
  have q_a0_1 := X_a0.out.cell 1
  go_wp2_with fail
  refine (stNet.to_got _ _ _ n0_1 zs0_1 hn0_1 (H0_1.out.keep B)).mono ?_; rintro e w13 ⟨t5, l_p0_0, h_p0_0, rfl, ⟨p0_0, lo_p0_0⟩, hb⟩
  clear q_a0_0 q_a0_1
  replace s := s.keep hb
  replace g := g.keep hb
  replace X_a0 := Lib.hid (X_a0.out.step hb)
  replace X_x0 := Lib.hid (X_x0.out.step hb)
  replace B := below_step B hb
  have zz13 := hb.size
  have hi_p0_0 := p0_0.2.2
  clear hb
  go_wp2_with fail
  refine (HI.out _ _ p0_0.row p0_0.cap).mono ?_; rintro e w14 ⟨t6, rfl, ho, hb⟩
  replace s := s.keep hb
  replace g := g.keep hb
  replace p0_0 := p0_0.keep hb
  replace X_a0 := Lib.hid (X_a0.out.step hb)
  replace X_x0 := Lib.hid (X_x0.out.step hb)
  replace B := below_step B hb
  have zz14 := hb.size
  have h := OwnR.of_own ho
  clear hb ho
  clear p0_0
  go_wp2_with fail
  refine (eqInt_gives _ _ _ m0 ys0 hm0 h.row s.row).mono ?_; rintro e w15 ⟨rfl, hb⟩
  replace s := s.keep hb
  replace g := g.keep hb
  replace h := h.keep hb
  replace X_a0 := Lib.hid (X_a0.out.step hb)
  replace X_x0 := Lib.hid (X_x0.out.step hb)
  replace B := below_step B hb
  have zz15 := hb.size
  clear hb
  clear h
  clear s
  go_wp2_with fail
  refine (heldInt_gives _ _ m0 1 _ rfl (by omega) g.row).mono ?_; rintro e w16 ⟨rfl, hb⟩
  replace g := g.keep hb
  replace X_a0 := Lib.hid (X_a0.out.step hb)
  replace X_x0 := Lib.hid (X_x0.out.step hb)
  replace B := below_step B hb
  have zz16 := hb.size
  clear hb
  go_wp2
  go_ret
  exact ⟨rfl, B⟩
theorem walk (w : World) (P : Int) (v : Value) (n : Nat) (zs : List Int) (hr : Row 3 w v n (zs.map (Value.int .i64))) (hm : n ≤ 9223372036854775807) (_ : (Lit.int .i64 P).wf = true) (x : Int) (_ : (Lit.int .i64 x).wf = true) (y : Int) (_ : (Lit.int .i64 y).wf = true) : Calls Try.prog 9 #[stNet.R P v, .int .i64 x, .int .i64 y] w fun e w' => e = .returned (.bool true) ∧ Below w.heap.size w w' := by
  classical
  by_cases hl : n ≤ 1048576
  · by_cases two : Two P n zs x y
    · have hz : zs.length = n * 3 := by simpa using hr.1
      obtain ⟨r, h⟩ := Two.run two
      obtain ⟨q, hq⟩ := Np.ex two hz (Go.Proofs.Ytilabfmnaegidaa.flw.nt (pF zs) (pT zs) r x n)
      exact core w P v n zs hl hr x y (dy q n).length (dy q n) (Nat.le_trans (dy_len q n) hl) hl (fun W u g cp => spec_np W P u n zs x y _ q cp g two (Two.great two h).2 hq) (fun W u g _ => impl_np W P u n zs x y _ q g two (Two.great two h).2 hq)
    · exact core w P v n zs hl hr x y 0 [] (by decide) hl (fun W u g cp => spec_np_no W P u n zs x y hl g two) (fun W u g _ => impl_np_no W P u n zs x y hl g two)
  · obtain ⟨a, c, rfl⟩ := hr.shape
    have X := Blk.new w 44 #[.int .i64 P, .slice a n c]
    obtain ⟨q0, q1⟩ := stNet.blk_ X
    go_enter Try.func9, Try.ntmps9
    go_wp2_with fail
    refine (stNet.sz_no _ P a n c _ (by omega) (by omega) hm).mono ?_; rintro e w2 ⟨rfl, hb⟩
    clear q0 q1
    go_wp2
    go_ret
    exact ⟨rfl, below_step (below_al (Below.refl _ _) _) hb⟩
end Go.Proofs.Ytilabfmnaegidaa.wFnExactNeededPipes
