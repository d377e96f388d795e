/- The exact laws on sizes return true. -/
import Derived.Test.YtojahddamdlcpaaStYear
import Derived.Test.YtojahddamdlcpaaSzS3
import Derived.Test.YtojahddamdlcpaaSzI2
set_option linter.unusedVariables false
namespace Go.Proofs.Ytojahddamdlcpaa.wFnExactIsEnough
open Go.RowKit Go.Proofs.Ytojahddamdlcpaa.kit Go.Proofs.Ytojahddamdlcpaa.lawi Go.Proofs.Ytojahddamdlcpaa.own Go.Proofs.Ytojahddamdlcpaa.rainl Go.Proofs.Ytojahddamdlcpaa.rain Go.Proofs.Ytojahddamdlcpaa.cis Go.Proofs.Ytojahddamdlcpaa.chl Go.Proofs.Ytojahddamdlcpaa.yrl Go.Proofs.Ytojahddamdlcpaa.yr Go.Proofs.Ytojahddamdlcpaa.szl Go.Proofs.Ytojahddamdlcpaa.sz
set_option maxRecDepth 100000 in
set_option maxHeartbeats 4000000 in
theorem core (w : World) (f0_0 f0_1 f0_3 : Int) (v0_2 : Value) (n0_2 : Nat) (zs0_2 : List Int) (hn0_2 : n0_2 ≤ 1048576) (h0_2 : Row 1 w v0_2 n0_2 (zs0_2.map (Value.int .i64))) (r0 : Bool)
    (hsum : n0_2 ≤ 1048576)
    (hs : ∀ W u0_2, Row 1 W u0_2 n0_2 (zs0_2.map (Value.int .i64)) → Calls Try.prog 39 #[stYear.R f0_0 f0_1 u0_2 f0_3] W (Gives W (.bool r0)))
    (hi : ∀ W u0_2, Row 1 W u0_2 n0_2 (zs0_2.map (Value.int .i64)) → Calls Try.prog 29 #[stYear.R f0_0 f0_1 u0_2 f0_3] W (Gives W (.bool r0))) :
    Calls Try.prog 9 #[stYear.R f0_0 f0_1 v0_2 f0_3] w (Gives w (.bool true)) := by
  obtain ⟨b0_2, c0_2, rfl⟩ := h0_2.shape
  have H0_2 := Lib.hid h0_2
  clear h0_2
  have HS := Lib.hid hs
  have HI := Lib.hid hi
  clear hs hi
  have X_a0 : Blk (w.alloc (.cells #[(.int .i64 f0_0), (.int .i64 f0_1), (.slice b0_2 n0_2 c0_2), (.int .i64 f0_3)] 40)) w.heap.size 40 #[(.int .i64 f0_0), (.int .i64 f0_1), (.slice b0_2 n0_2 c0_2), (.int .i64 f0_3)] := by
    have := Blk.new w 40 #[(.int .i64 f0_0), (.int .i64 f0_1), (.slice b0_2 n0_2 c0_2), (.int .i64 f0_3)]
    simpa using this
  replace X_a0 := Lib.hid X_a0
  have B : Below w.heap.size w (w.alloc (.cells #[(.int .i64 f0_0), (.int .i64 f0_1), (.slice b0_2 n0_2 c0_2), (.int .i64 f0_3)] 40)) := below_al (Below.refl _ _) _
  have zzb : (w.alloc (.cells #[(.int .i64 f0_0), (.int .i64 f0_1), (.slice b0_2 n0_2 c0_2), (.int .i64 f0_3)] 40)).heap.size = w.heap.size + 1 := by simp
  go_enter Try.func9, Try.ntmps9
  have q_a0_0 := X_a0.out.cell 0
  have q_a0_1 := X_a0.out.cell 1
  have q_a0_2 := X_a0.out.cell 2
  have q_a0_3 := X_a0.out.cell 3
  go_wp2_with fail
  refine (stYear.sz_yes _ _ _ _ _ n0_2 c0_2 _ (by omega) (by omega)).mono ?_; rintro e w1 ⟨rfl, hb⟩
  clear q_a0_0 q_a0_1 q_a0_2 q_a0_3
  replace X_a0 := Lib.hid (X_a0.out.step hb)
  replace B := below_step B hb
  have zz1 := hb.size
  clear hb
  have q_a0_0 := X_a0.out.cell 0
  have q_a0_1 := X_a0.out.cell 1
  have q_a0_2 := X_a0.out.cell 2
  have q_a0_3 := X_a0.out.cell 3
  go_wp2_with fail
  refine (stYear.to_got _ _ _ _ _ n0_2 zs0_2 hn0_2 (H0_2.out.keep B)).mono ?_; rintro e w2 ⟨t1, l_o0_0, h_o0_0, rfl, ⟨o0_0, lo_o0_0⟩, hb⟩
  clear q_a0_0 q_a0_1 q_a0_2 q_a0_3
  replace X_a0 := Lib.hid (X_a0.out.step hb)
  replace B := below_step B hb
  have zz2 := hb.size
  have hi_o0_0 := o0_0.2.2
  clear hb
  go_wp2_with fail
  refine (HS.out _ _ o0_0.row).mono ?_; rintro e w3 ⟨rfl, hb⟩
  replace o0_0 := o0_0.keep hb
  replace X_a0 := Lib.hid (X_a0.out.step hb)
  replace B := below_step B hb
  have zz3 := hb.size
  clear hb
  clear o0_0
  have q_a0_0 := X_a0.out.cell 0
  have q_a0_1 := X_a0.out.cell 1
  have q_a0_2 := X_a0.out.cell 2
  have q_a0_3 := X_a0.out.cell 3
  go_wp2_with fail
  refine (stYear.to_got _ _ _ _ _ n0_2 zs0_2 hn0_2 (H0_2.out.keep B)).mono ?_; rintro e w4 ⟨t2, l_x0_0, h_x0_0, rfl, ⟨x0_0, lo_x0_0⟩, hb⟩
  clear q_a0_0 q_a0_1 q_a0_2 q_a0_3
  replace X_a0 := Lib.hid (X_a0.out.step hb)
  replace B := below_step B hb
  have zz4 := hb.size
  have hi_x0_0 := x0_0.2.2
  clear hb
  obtain ⟨ba_x00, ca_x00, rfl⟩ := own_shape x0_0.own
  have hb : Below w4.heap.size w4 (w4.alloc (.cells #[(.int .i64 f0_0), (.int .i64 f0_1), (.slice ba_x00 n0_2 ca_x00), (.int .i64 f0_3)] 34)) := below_al (Below.refl _ _) _
  replace x0_0 := x0_0.keep hb
  replace X_a0 := Lib.hid (X_a0.out.step hb)
  replace B := below_step B hb
  have zz5 := hb.size
  have X_x0 : Blk (w4.alloc (.cells #[(.int .i64 f0_0), (.int .i64 f0_1), (.slice ba_x00 n0_2 ca_x00), (.int .i64 f0_3)] 34)) w4.heap.size 34 #[(.int .i64 f0_0), (.int .i64 f0_1), (.slice ba_x00 n0_2 ca_x00), (.int .i64 f0_3)] := by
    have := Blk.new w4 34 #[(.int .i64 f0_0), (.int .i64 f0_1), (.slice ba_x00 n0_2 ca_x00), (.int .i64 f0_3)]
    simpa using this
  replace X_x0 := Lib.hid X_x0
  have zy5 : (w4.alloc (.cells #[(.int .i64 f0_0), (.int .i64 f0_1), (.slice ba_x00 n0_2 ca_x00), (.int .i64 f0_3)] 34)).heap.size = w4.heap.size + 1 := by simp
  clear hb
  have q_x0_0 := X_x0.out.cell 0
  have q_x0_1 := X_x0.out.cell 1
  have q_x0_2 := X_x0.out.cell 2
  have q_x0_3 := X_x0.out.cell 3
  go_wp2_with fail
  refine (HI.out _ _ x0_0.row).mono ?_; rintro e w6 ⟨rfl, hb⟩
  clear q_x0_0 q_x0_1 q_x0_2 q_x0_3
  replace x0_0 := x0_0.keep hb
  replace X_a0 := Lib.hid (X_a0.out.step hb)
  replace X_x0 := Lib.hid (X_x0.out.step hb)
  replace B := below_step B hb
  have zz6 := hb.size
  clear hb
  have q_x0_0 := X_x0.out.cell 0
  have q_x0_1 := X_x0.out.cell 1
  have q_x0_2 := X_x0.out.cell 2
  have q_x0_3 := X_x0.out.cell 3
  have q_a0_0 := X_a0.out.cell 0
  have q_a0_1 := X_a0.out.cell 1
  have q_a0_2 := X_a0.out.cell 2
  have q_a0_3 := X_a0.out.cell 3
  go_wp2
  go_region_held3 (fun W => W.cell? ⟨w4.heap.size, 0, none⟩ = some (.int .i64 f0_0) ∧ W.cell? ⟨w4.heap.size, 1, none⟩ = some (.int .i64 f0_1) ∧ W.cell? ⟨w4.heap.size, 2, none⟩ = some (.slice ba_x00 n0_2 ca_x00) ∧ W.cell? ⟨w4.heap.size, 3, none⟩ = some (.int .i64 f0_3) ∧ W.cell? ⟨w.heap.size, 0, none⟩ = some (.int .i64 f0_0) ∧ W.cell? ⟨w.heap.size, 1, none⟩ = some (.int .i64 f0_1) ∧ W.cell? ⟨w.heap.size, 2, none⟩ = some (.slice b0_2 n0_2 c0_2) ∧ W.cell? ⟨w.heap.size, 3, none⟩ = some (.int .i64 f0_3)) (first | assumption | exact ⟨q_x0_0, q_x0_1, q_x0_2, q_x0_3, q_a0_0, q_a0_1, q_a0_2, q_a0_3⟩ | exact keep8 (by assumption) (by assumption) | fail)
    (first
      | (go_at_call 40; refine (stYear.to_got _ _ _ _ _ n0_2 zs0_2 hn0_2 (H0_2.out.keep (by repeat (first | assumption | (with_reducible exact Below.refl _ _) | (with_reducible refine below_dr ?_) | (with_reducible refine below_al ?_ _) | (with_reducible refine below_step ?_ (by assumption)) | fail)))).mono ?_; rintro e wt ⟨tc0, lc0, hc0, rfl, ⟨oc0, _⟩, hbt⟩)
      | (go_at_call 41; refine (stYear.eq_yes _ _ _ _ _ _ n0_2 zs0_2 hn0_2 (x0_0.keep (by repeat (first | assumption | (with_reducible exact Below.refl _ _) | (with_reducible refine below_dr ?_) | (with_reducible refine below_al ?_ _) | (with_reducible refine below_step ?_ (by assumption)) | fail))).row oc0.row).mono ?_; rintro e w7 ⟨rfl, hb⟩)
      | fail)
  have hc : Below w6.heap.size w6 w7 := (by repeat (first | assumption | (with_reducible exact Below.refl _ _) | (with_reducible refine below_dr ?_) | (with_reducible refine below_al ?_ _) | (with_reducible refine below_step ?_ (by assumption)) | fail))
  clear q_x0_0 q_x0_1 q_x0_2 q_x0_3 q_a0_0 q_a0_1 q_a0_2 q_a0_3 hb hbt oc0
  replace x0_0 := x0_0.keep hc
  replace X_a0 := Lib.hid (X_a0.out.step hc)
  replace X_x0 := Lib.hid (X_x0.out.step hc)
  replace B := below_step B hc
  have zz7 := hc.size
  clear hc
  go_wp2
  go_ret
  exact ⟨rfl, B⟩
theorem walk (w : World) (r s d : Int) (v : Value) (n : Nat) (cs : List Int) (hr : Row 1 w v n (cs.map (Value.int .i64))) (hm : n ≤ 9223372036854775807) (_ : (Lit.int .i64 r).wf = true) (_ : (Lit.int .i64 s).wf = true) (_ : (Lit.int .i64 d).wf = true) : Calls Try.prog 9 #[stYear.R r s v d] w fun e w' => e = .returned (.bool true) ∧ Below w.heap.size w w' := by
  classical
  by_cases hl : n ≤ 1048576
  · exact core w r s d v n cs hl hr (decide (En r s d n cs)) hl (fun W u g => spec_enough W u n cs r s d hl g _ decide_eq_true_iff) (fun W u g => impl_enough W u n cs r s d hl g _ decide_eq_true_iff)
  · obtain ⟨a, c, rfl⟩ := hr.shape
    have X := Blk.new w 40 #[.int .i64 r, .int .i64 s, .slice a n c, .int .i64 d]
    obtain ⟨q0, q1, q2, q3⟩ := blk4 X
    go_enter Try.func9, Try.ntmps9
    go_wp2_with fail
    refine (stYear.sz_no _ r s d a n c _ (by omega) (by omega) hm).mono ?_; rintro e w1 ⟨rfl, hb⟩
    clear q0 q1 q2 q3
    go_wp2
    go_ret
    exact ⟨rfl, below_step (below_al (Below.refl _ _) _) hb⟩
end Go.Proofs.Ytojahddamdlcpaa.wFnExactIsEnough
namespace Go.Proofs.Ytojahddamdlcpaa.wFnExactLeastRoom
open Go.RowKit Go.Proofs.Ytojahddamdlcpaa.kit Go.Proofs.Ytojahddamdlcpaa.lawi Go.Proofs.Ytojahddamdlcpaa.own Go.Proofs.Ytojahddamdlcpaa.rainl Go.Proofs.Ytojahddamdlcpaa.rain Go.Proofs.Ytojahddamdlcpaa.cis Go.Proofs.Ytojahddamdlcpaa.chl Go.Proofs.Ytojahddamdlcpaa.yrl Go.Proofs.Ytojahddamdlcpaa.yr Go.Proofs.Ytojahddamdlcpaa.szl Go.Proofs.Ytojahddamdlcpaa.sz
set_option maxRecDepth 100000 in
set_option maxHeartbeats 4000000 in
theorem core (w : World) (f0_0 f0_1 f0_3 : Int) (v0_2 : Value) (n0_2 : Nat) (zs0_2 : List Int) (hn0_2 : n0_2 ≤ 1048576) (h0_2 : Row 1 w v0_2 n0_2 (zs0_2.map (Value.int .i64))) (r0 : Int)
    (hsum : n0_2 ≤ 1048576)
    (hs : ∀ W u0_2, Row 1 W u0_2 n0_2 (zs0_2.map (Value.int .i64)) → Calls Try.prog 42 #[stYear.R f0_0 f0_1 u0_2 f0_3] W (Gives W (.int .i64 r0)))
    (hi : ∀ W u0_2, Row 1 W u0_2 n0_2 (zs0_2.map (Value.int .i64)) → Calls Try.prog 27 #[stYear.R f0_0 f0_1 u0_2 f0_3] W (Gives W (.int .i64 r0))) :
    Calls Try.prog 10 #[stYear.R f0_0 f0_1 v0_2 f0_3] w (Gives w (.bool true)) := by
  obtain ⟨b0_2, c0_2, rfl⟩ := h0_2.shape
  have H0_2 := Lib.hid h0_2
  clear h0_2
  have HS := Lib.hid hs
  have HI := Lib.hid hi
  clear hs hi
  have X_a0 : Blk (w.alloc (.cells #[(.int .i64 f0_0), (.int .i64 f0_1), (.slice b0_2 n0_2 c0_2), (.int .i64 f0_3)] 40)) w.heap.size 40 #[(.int .i64 f0_0), (.int .i64 f0_1), (.slice b0_2 n0_2 c0_2), (.int .i64 f0_3)] := by
    have := Blk.new w 40 #[(.int .i64 f0_0), (.int .i64 f0_1), (.slice b0_2 n0_2 c0_2), (.int .i64 f0_3)]
    simpa using this
  replace X_a0 := Lib.hid X_a0
  have B : Below w.heap.size w (w.alloc (.cells #[(.int .i64 f0_0), (.int .i64 f0_1), (.slice b0_2 n0_2 c0_2), (.int .i64 f0_3)] 40)) := below_al (Below.refl _ _) _
  have zzb : (w.alloc (.cells #[(.int .i64 f0_0), (.int .i64 f0_1), (.slice b0_2 n0_2 c0_2), (.int .i64 f0_3)] 40)).heap.size = w.heap.size + 1 := by simp
  go_enter Try.func10, Try.ntmps10
  have q_a0_0 := X_a0.out.cell 0
  have q_a0_1 := X_a0.out.cell 1
  have q_a0_2 := X_a0.out.cell 2
  have q_a0_3 := X_a0.out.cell 3
  go_wp2_with fail
  refine (stYear.sz_yes _ _ _ _ _ n0_2 c0_2 _ (by omega) (by omega)).mono ?_; rintro e w1 ⟨rfl, hb⟩
  clear q_a0_0 q_a0_1 q_a0_2 q_a0_3
  replace X_a0 := Lib.hid (X_a0.out.step hb)
  replace B := below_step B hb
  have zz1 := hb.size
  clear hb
  have q_a0_0 := X_a0.out.cell 0
  have q_a0_1 := X_a0.out.cell 1
  have q_a0_2 := X_a0.out.cell 2
  have q_a0_3 := X_a0.out.cell 3
  go_wp2_with fail
  refine (stYear.to_got _ _ _ _ _ n0_2 zs0_2 hn0_2 (H0_2.out.keep B)).mono ?_; rintro e w2 ⟨t1, l_o0_0, h_o0_0, rfl, ⟨o0_0, lo_o0_0⟩, hb⟩
  clear q_a0_0 q_a0_1 q_a0_2 q_a0_3
  replace X_a0 := Lib.hid (X_a0.out.step hb)
  replace B := below_step B hb
  have zz2 := hb.size
  have hi_o0_0 := o0_0.2.2
  clear hb
  go_wp2_with fail
  refine (HS.out _ _ o0_0.row).mono ?_; rintro e w3 ⟨rfl, hb⟩
  replace o0_0 := o0_0.keep hb
  replace X_a0 := Lib.hid (X_a0.out.step hb)
  replace B := below_step B hb
  have zz3 := hb.size
  clear hb
  clear o0_0
  have q_a0_0 := X_a0.out.cell 0
  have q_a0_1 := X_a0.out.cell 1
  have q_a0_2 := X_a0.out.cell 2
  have q_a0_3 := X_a0.out.cell 3
  go_wp2_with fail
  refine (stYear.to_got _ _ _ _ _ n0_2 zs0_2 hn0_2 (H0_2.out.keep B)).mono ?_; rintro e w4 ⟨t2, l_x0_0, h_x0_0, rfl, ⟨x0_0, lo_x0_0⟩, hb⟩
  clear q_a0_0 q_a0_1 q_a0_2 q_a0_3
  replace X_a0 := Lib.hid (X_a0.out.step hb)
  replace B := below_step B hb
  have zz4 := hb.size
  have hi_x0_0 := x0_0.2.2
  clear hb
  obtain ⟨ba_x00, ca_x00, rfl⟩ := own_shape x0_0.own
  have hb : Below w4.heap.size w4 (w4.alloc (.cells #[(.int .i64 f0_0), (.int .i64 f0_1), (.slice ba_x00 n0_2 ca_x00), (.int .i64 f0_3)] 34)) := below_al (Below.refl _ _) _
  replace x0_0 := x0_0.keep hb
  replace X_a0 := Lib.hid (X_a0.out.step hb)
  replace B := below_step B hb
  have zz5 := hb.size
  have X_x0 : Blk (w4.alloc (.cells #[(.int .i64 f0_0), (.int .i64 f0_1), (.slice ba_x00 n0_2 ca_x00), (.int .i64 f0_3)] 34)) w4.heap.size 34 #[(.int .i64 f0_0), (.int .i64 f0_1), (.slice ba_x00 n0_2 ca_x00), (.int .i64 f0_3)] := by
    have := Blk.new w4 34 #[(.int .i64 f0_0), (.int .i64 f0_1), (.slice ba_x00 n0_2 ca_x00), (.int .i64 f0_3)]
    simpa using this
  replace X_x0 := Lib.hid X_x0
  have zy5 : (w4.alloc (.cells #[(.int .i64 f0_0), (.int .i64 f0_1), (.slice ba_x00 n0_2 ca_x00), (.int .i64 f0_3)] 34)).heap.size = w4.heap.size + 1 := by simp
  clear hb
  have q_x0_0 := X_x0.out.cell 0
  have q_x0_1 := X_x0.out.cell 1
  have q_x0_2 := X_x0.out.cell 2
  have q_x0_3 := X_x0.out.cell 3
  go_wp2_with fail
  refine (HI.out _ _ x0_0.row).mono ?_; rintro e w6 ⟨rfl, hb⟩
  clear q_x0_0 q_x0_1 q_x0_2 q_x0_3
  replace x0_0 := x0_0.keep hb
  replace X_a0 := Lib.hid (X_a0.out.step hb)
  replace X_x0 := Lib.hid (X_x0.out.step hb)
  replace B := below_step B hb
  have zz6 := hb.size
  clear hb
  have q_x0_0 := X_x0.out.cell 0
  have q_x0_1 := X_x0.out.cell 1
  have q_x0_2 := X_x0.out.cell 2
  have q_x0_3 := X_x0.out.cell 3
  have q_a0_0 := X_a0.out.cell 0
  have q_a0_1 := X_a0.out.cell 1
  have q_a0_2 := X_a0.out.cell 2
  have q_a0_3 := X_a0.out.cell 3
  go_wp2
  go_region_held3 (fun W => W.cell? ⟨w4.heap.size, 0, none⟩ = some (.int .i64 f0_0) ∧ W.cell? ⟨w4.heap.size, 1, none⟩ = some (.int .i64 f0_1) ∧ W.cell? ⟨w4.heap.size, 2, none⟩ = some (.slice ba_x00 n0_2 ca_x00) ∧ W.cell? ⟨w4.heap.size, 3, none⟩ = some (.int .i64 f0_3) ∧ W.cell? ⟨w.heap.size, 0, none⟩ = some (.int .i64 f0_0) ∧ W.cell? ⟨w.heap.size, 1, none⟩ = some (.int .i64 f0_1) ∧ W.cell? ⟨w.heap.size, 2, none⟩ = some (.slice b0_2 n0_2 c0_2) ∧ W.cell? ⟨w.heap.size, 3, none⟩ = some (.int .i64 f0_3)) (first | assumption | exact ⟨q_x0_0, q_x0_1, q_x0_2, q_x0_3, q_a0_0, q_a0_1, q_a0_2, q_a0_3⟩ | exact keep8 (by assumption) (by assumption) | fail)
    (first
      | (go_at_call 40; refine (stYear.to_got _ _ _ _ _ n0_2 zs0_2 hn0_2 (H0_2.out.keep (by repeat (first | assumption | (with_reducible exact Below.refl _ _) | (with_reducible refine below_dr ?_) | (with_reducible refine below_al ?_ _) | (with_reducible refine below_step ?_ (by assumption)) | fail)))).mono ?_; rintro e wt ⟨tc0, lc0, hc0, rfl, ⟨oc0, _⟩, hbt⟩)
      | (go_at_call 41; refine (stYear.eq_yes _ _ _ _ _ _ n0_2 zs0_2 hn0_2 (x0_0.keep (by repeat (first | assumption | (with_reducible exact Below.refl _ _) | (with_reducible refine below_dr ?_) | (with_reducible refine below_al ?_ _) | (with_reducible refine below_step ?_ (by assumption)) | fail))).row oc0.row).mono ?_; rintro e w7 ⟨rfl, hb⟩)
      | fail)
  have hc : Below w6.heap.size w6 w7 := (by repeat (first | assumption | (with_reducible exact Below.refl _ _) | (with_reducible refine below_dr ?_) | (with_reducible refine below_al ?_ _) | (with_reducible refine below_step ?_ (by assumption)) | fail))
  clear q_x0_0 q_x0_1 q_x0_2 q_x0_3 q_a0_0 q_a0_1 q_a0_2 q_a0_3 hb hbt oc0
  replace x0_0 := x0_0.keep hc
  replace X_a0 := Lib.hid (X_a0.out.step hc)
  replace X_x0 := Lib.hid (X_x0.out.step hc)
  replace B := below_step B hc
  have zz7 := hc.size
  clear hc
  go_wp2
  go_ret
  exact ⟨rfl, B⟩
theorem walk (w : World) (r s d : Int) (v : Value) (n : Nat) (cs : List Int) (hr : Row 1 w v n (cs.map (Value.int .i64))) (hm : n ≤ 9223372036854775807) (_ : (Lit.int .i64 r).wf = true) (_ : (Lit.int .i64 s).wf = true) (_ : (Lit.int .i64 d).wf = true) : Calls Try.prog 10 #[stYear.R r s v d] w fun e w' => e = .returned (.bool true) ∧ Below w.heap.size w w' := by
  classical
  by_cases hl : n ≤ 1048576
  · by_cases ok : YOk r s d n cs
    · by_cases top : EnR s d n cs 100000
      · obtain ⟨m, h⟩ := Least.ex (p := EnR s d n cs) (lo := 1) (hi := 100000) (by omega) top
        exact core w r s d v n cs hl hr m hl (fun W u g => spec_leastRoom W u n cs r s d g ok m h) (fun W u g => impl_leastRoom W u n cs r s d g ok m h)
      · exact core w r s d v n cs hl hr (-1) hl (fun W u g => spec_leastRoom_none W u n cs r s d g ok top) (fun W u g => impl_leastRoom_none W u n cs r s d g ok top)
    · exact core w r s d v n cs hl hr (-1) hl (fun W u g => spec_leastRoom_no W u n cs r s d hl g ok) (fun W u g => impl_leastRoom_no W u n cs r s d hl g ok)
  · obtain ⟨a, c, rfl⟩ := hr.shape
    have X := Blk.new w 40 #[.int .i64 r, .int .i64 s, .slice a n c, .int .i64 d]
    obtain ⟨q0, q1, q2, q3⟩ := blk4 X
    go_enter Try.func10, Try.ntmps10
    go_wp2_with fail
    refine (stYear.sz_no _ r s d a n c _ (by omega) (by omega) hm).mono ?_; rintro e w1 ⟨rfl, hb⟩
    clear q0 q1 q2 q3
    go_wp2
    go_ret
    exact ⟨rfl, below_step (below_al (Below.refl _ _) _) hb⟩
end Go.Proofs.Ytojahddamdlcpaa.wFnExactLeastRoom
namespace Go.Proofs.Ytojahddamdlcpaa.wFnExactMostNeed
open Go.RowKit Go.Proofs.Ytojahddamdlcpaa.kit Go.Proofs.Ytojahddamdlcpaa.lawi Go.Proofs.Ytojahddamdlcpaa.own Go.Proofs.Ytojahddamdlcpaa.rainl Go.Proofs.Ytojahddamdlcpaa.rain Go.Proofs.Ytojahddamdlcpaa.cis Go.Proofs.Ytojahddamdlcpaa.chl Go.Proofs.Ytojahddamdlcpaa.yrl Go.Proofs.Ytojahddamdlcpaa.yr Go.Proofs.Ytojahddamdlcpaa.szl Go.Proofs.Ytojahddamdlcpaa.sz
set_option maxRecDepth 100000 in
set_option maxHeartbeats 4000000 in
theorem core (w : World) (f0_0 f0_1 f0_3 : Int) (v0_2 : Value) (n0_2 : Nat) (zs0_2 : List Int) (hn0_2 : n0_2 ≤ 1048576) (h0_2 : Row 1 w v0_2 n0_2 (zs0_2.map (Value.int .i64))) (r0 : Int)
    (hsum : n0_2 ≤ 1048576)
    (hs : ∀ W u0_2, Row 1 W u0_2 n0_2 (zs0_2.map (Value.int .i64)) → Calls Try.prog 43 #[stYear.R f0_0 f0_1 u0_2 f0_3] W (Gives W (.int .i64 r0)))
    (hi : ∀ W u0_2, Row 1 W u0_2 n0_2 (zs0_2.map (Value.int .i64)) → Calls Try.prog 26 #[stYear.R f0_0 f0_1 u0_2 f0_3] W (Gives W (.int .i64 r0))) :
    Calls Try.prog 11 #[stYear.R f0_0 f0_1 v0_2 f0_3] w (Gives w (.bool true)) := by
  obtain ⟨b0_2, c0_2, rfl⟩ := h0_2.shape
  have H0_2 := Lib.hid h0_2
  clear h0_2
  have HS := Lib.hid hs
  have HI := Lib.hid hi
  clear hs hi
  have X_a0 : Blk (w.alloc (.cells #[(.int .i64 f0_0), (.int .i64 f0_1), (.slice b0_2 n0_2 c0_2), (.int .i64 f0_3)] 40)) w.heap.size 40 #[(.int .i64 f0_0), (.int .i64 f0_1), (.slice b0_2 n0_2 c0_2), (.int .i64 f0_3)] := by
    have := Blk.new w 40 #[(.int .i64 f0_0), (.int .i64 f0_1), (.slice b0_2 n0_2 c0_2), (.int .i64 f0_3)]
    simpa using this
  replace X_a0 := Lib.hid X_a0
  have B : Below w.heap.size w (w.alloc (.cells #[(.int .i64 f0_0), (.int .i64 f0_1), (.slice b0_2 n0_2 c0_2), (.int .i64 f0_3)] 40)) := below_al (Below.refl _ _) _
  have zzb : (w.alloc (.cells #[(.int .i64 f0_0), (.int .i64 f0_1), (.slice b0_2 n0_2 c0_2), (.int .i64 f0_3)] 40)).heap.size = w.heap.size + 1 := by simp
  go_enter Try.func11, Try.ntmps11
  have q_a0_0 := X_a0.out.cell 0
  have q_a0_1 := X_a0.out.cell 1
  have q_a0_2 := X_a0.out.cell 2
  have q_a0_3 := X_a0.out.cell 3
  go_wp2_with fail
  refine (stYear.sz_yes _ _ _ _ _ n0_2 c0_2 _ (by omega) (by omega)).mono ?_; rintro e w1 ⟨rfl, hb⟩
  clear q_a0_0 q_a0_1 q_a0_2 q_a0_3
  replace X_a0 := Lib.hid (X_a0.out.step hb)
  replace B := below_step B hb
  have zz1 := hb.size
  clear hb
  have q_a0_0 := X_a0.out.cell 0
  have q_a0_1 := X_a0.out.cell 1
  have q_a0_2 := X_a0.out.cell 2
  have q_a0_3 := X_a0.out.cell 3
  go_wp2_with fail
  refine (stYear.to_got _ _ _ _ _ n0_2 zs0_2 hn0_2 (H0_2.out.keep B)).mono ?_; rintro e w2 ⟨t1, l_o0_0, h_o0_0, rfl, ⟨o0_0, lo_o0_0⟩, hb⟩
  clear q_a0_0 q_a0_1 q_a0_2 q_a0_3
  replace X_a0 := Lib.hid (X_a0.out.step hb)
  replace B := below_step B hb
  have zz2 := hb.size
  have hi_o0_0 := o0_0.2.2
  clear hb
  go_wp2_with fail
  refine (HS.out _ _ o0_0.row).mono ?_; rintro e w3 ⟨rfl, hb⟩
  replace o0_0 := o0_0.keep hb
  replace X_a0 := Lib.hid (X_a0.out.step hb)
  replace B := below_step B hb
  have zz3 := hb.size
  clear hb
  clear o0_0
  have q_a0_0 := X_a0.out.cell 0
  have q_a0_1 := X_a0.out.cell 1
  have q_a0_2 := X_a0.out.cell 2
  have q_a0_3 := X_a0.out.cell 3
  go_wp2_with fail
  refine (stYear.to_got _ _ _ _ _ n0_2 zs0_2 hn0_2 (H0_2.out.keep B)).mono ?_; rintro e w4 ⟨t2, l_x0_0, h_x0_0, rfl, ⟨x0_0, lo_x0_0⟩, hb⟩
  clear q_a0_0 q_a0_1 q_a0_2 q_a0_3
  replace X_a0 := Lib.hid (X_a0.out.step hb)
  replace B := below_step B hb
  have zz4 := hb.size
  have hi_x0_0 := x0_0.2.2
  clear hb
  obtain ⟨ba_x00, ca_x00, rfl⟩ := own_shape x0_0.own
  have hb : Below w4.heap.size w4 (w4.alloc (.cells #[(.int .i64 f0_0), (.int .i64 f0_1), (.slice ba_x00 n0_2 ca_x00), (.int .i64 f0_3)] 34)) := below_al (Below.refl _ _) _
  replace x0_0 := x0_0.keep hb
  replace X_a0 := Lib.hid (X_a0.out.step hb)
  replace B := below_step B hb
  have zz5 := hb.size
  have X_x0 : Blk (w4.alloc (.cells #[(.int .i64 f0_0), (.int .i64 f0_1), (.slice ba_x00 n0_2 ca_x00), (.int .i64 f0_3)] 34)) w4.heap.size 34 #[(.int .i64 f0_0), (.int .i64 f0_1), (.slice ba_x00 n0_2 ca_x00), (.int .i64 f0_3)] := by
    have := Blk.new w4 34 #[(.int .i64 f0_0), (.int .i64 f0_1), (.slice ba_x00 n0_2 ca_x00), (.int .i64 f0_3)]
    simpa using this
  replace X_x0 := Lib.hid X_x0
  have zy5 : (w4.alloc (.cells #[(.int .i64 f0_0), (.int .i64 f0_1), (.slice ba_x00 n0_2 ca_x00), (.int .i64 f0_3)] 34)).heap.size = w4.heap.size + 1 := by simp
  clear hb
  have q_x0_0 := X_x0.out.cell 0
  have q_x0_1 := X_x0.out.cell 1
  have q_x0_2 := X_x0.out.cell 2
  have q_x0_3 := X_x0.out.cell 3
  go_wp2_with fail
  refine (HI.out _ _ x0_0.row).mono ?_; rintro e w6 ⟨rfl, hb⟩
  clear q_x0_0 q_x0_1 q_x0_2 q_x0_3
  replace x0_0 := x0_0.keep hb
  replace X_a0 := Lib.hid (X_a0.out.step hb)
  replace X_x0 := Lib.hid (X_x0.out.step hb)
  replace B := below_step B hb
  have zz6 := hb.size
  clear hb
  have q_x0_0 := X_x0.out.cell 0
  have q_x0_1 := X_x0.out.cell 1
  have q_x0_2 := X_x0.out.cell 2
  have q_x0_3 := X_x0.out.cell 3
  have q_a0_0 := X_a0.out.cell 0
  have q_a0_1 := X_a0.out.cell 1
  have q_a0_2 := X_a0.out.cell 2
  have q_a0_3 := X_a0.out.cell 3
  go_wp2
  go_region_held3 (fun W => W.cell? ⟨w4.heap.size, 0, none⟩ = some (.int .i64 f0_0) ∧ W.cell? ⟨w4.heap.size, 1, none⟩ = some (.int .i64 f0_1) ∧ W.cell? ⟨w4.heap.size, 2, none⟩ = some (.slice ba_x00 n0_2 ca_x00) ∧ W.cell? ⟨w4.heap.size, 3, none⟩ = some (.int .i64 f0_3) ∧ W.cell? ⟨w.heap.size, 0, none⟩ = some (.int .i64 f0_0) ∧ W.cell? ⟨w.heap.size, 1, none⟩ = some (.int .i64 f0_1) ∧ W.cell? ⟨w.heap.size, 2, none⟩ = some (.slice b0_2 n0_2 c0_2) ∧ W.cell? ⟨w.heap.size, 3, none⟩ = some (.int .i64 f0_3)) (first | assumption | exact ⟨q_x0_0, q_x0_1, q_x0_2, q_x0_3, q_a0_0, q_a0_1, q_a0_2, q_a0_3⟩ | exact keep8 (by assumption) (by assumption) | fail)
    (first
      | (go_at_call 40; refine (stYear.to_got _ _ _ _ _ n0_2 zs0_2 hn0_2 (H0_2.out.keep (by repeat (first | assumption | (with_reducible exact Below.refl _ _) | (with_reducible refine below_dr ?_) | (with_reducible refine below_al ?_ _) | (with_reducible refine below_step ?_ (by assumption)) | fail)))).mono ?_; rintro e wt ⟨tc0, lc0, hc0, rfl, ⟨oc0, _⟩, hbt⟩)
      | (go_at_call 41; refine (stYear.eq_yes _ _ _ _ _ _ n0_2 zs0_2 hn0_2 (x0_0.keep (by repeat (first | assumption | (with_reducible exact Below.refl _ _) | (with_reducible refine below_dr ?_) | (with_reducible refine below_al ?_ _) | (with_reducible refine below_step ?_ (by assumption)) | fail))).row oc0.row).mono ?_; rintro e w7 ⟨rfl, hb⟩)
      | fail)
  have hc : Below w6.heap.size w6 w7 := (by repeat (first | assumption | (with_reducible exact Below.refl _ _) | (with_reducible refine below_dr ?_) | (with_reducible refine below_al ?_ _) | (with_reducible refine below_step ?_ (by assumption)) | fail))
  clear q_x0_0 q_x0_1 q_x0_2 q_x0_3 q_a0_0 q_a0_1 q_a0_2 q_a0_3 hb hbt oc0
  replace x0_0 := x0_0.keep hc
  replace X_a0 := Lib.hid (X_a0.out.step hc)
  replace X_x0 := Lib.hid (X_x0.out.step hc)
  replace B := below_step B hc
  have zz7 := hc.size
  clear hc
  go_wp2
  go_ret
  exact ⟨rfl, B⟩
theorem walk (w : World) (r s d : Int) (v : Value) (n : Nat) (cs : List Int) (hr : Row 1 w v n (cs.map (Value.int .i64))) (hm : n ≤ 9223372036854775807) (_ : (Lit.int .i64 r).wf = true) (_ : (Lit.int .i64 s).wf = true) (_ : (Lit.int .i64 d).wf = true) : Calls Try.prog 11 #[stYear.R r s v d] w fun e w' => e = .returned (.bool true) ∧ Below w.heap.size w w' := by
  classical
  by_cases hl : n ≤ 1048576
  · by_cases ok : YOk r s d n cs
    · obtain ⟨m, h⟩ := Most.ex (p := fun x => En r s x n cs) (lo := 0) (hi := 1000000) (by omega) (need_zero ok)
      exact core w r s d v n cs hl hr m hl (fun W u g => spec_mostNeed W u n cs r s d g ok m h) (fun W u g => impl_mostNeed W u n cs r s d g ok m h)
    · exact core w r s d v n cs hl hr (-1) hl (fun W u g => spec_mostNeed_no W u n cs r s d hl g ok) (fun W u g => impl_mostNeed_no W u n cs r s d hl g ok)
  · obtain ⟨a, c, rfl⟩ := hr.shape
    have X := Blk.new w 40 #[.int .i64 r, .int .i64 s, .slice a n c, .int .i64 d]
    obtain ⟨q0, q1, q2, q3⟩ := blk4 X
    go_enter Try.func11, Try.ntmps11
    go_wp2_with fail
    refine (stYear.sz_no _ r s d a n c _ (by omega) (by omega) hm).mono ?_; rintro e w1 ⟨rfl, hb⟩
    clear q0 q1 q2 q3
    go_wp2
    go_ret
    exact ⟨rfl, below_step (below_al (Below.refl _ _) _) hb⟩
end Go.Proofs.Ytojahddamdlcpaa.wFnExactMostNeed
namespace Go.Proofs.Ytojahddamdlcpaa.wFnExactLeastStart
open Go.RowKit Go.Proofs.Ytojahddamdlcpaa.kit Go.Proofs.Ytojahddamdlcpaa.lawi Go.Proofs.Ytojahddamdlcpaa.own Go.Proofs.Ytojahddamdlcpaa.rainl Go.Proofs.Ytojahddamdlcpaa.rain Go.Proofs.Ytojahddamdlcpaa.cis Go.Proofs.Ytojahddamdlcpaa.chl Go.Proofs.Ytojahddamdlcpaa.yrl Go.Proofs.Ytojahddamdlcpaa.yr Go.Proofs.Ytojahddamdlcpaa.szl Go.Proofs.Ytojahddamdlcpaa.sz
set_option maxRecDepth 100000 in
set_option maxHeartbeats 4000000 in
theorem core (w : World) (f0_0 f0_1 f0_3 : Int) (v0_2 : Value) (n0_2 : Nat) (zs0_2 : List Int) (hn0_2 : n0_2 ≤ 1048576) (h0_2 : Row 1 w v0_2 n0_2 (zs0_2.map (Value.int .i64))) (r0 : Int)
    (hsum : n0_2 ≤ 1048576)
    (hs : ∀ W u0_2, Row 1 W u0_2 n0_2 (zs0_2.map (Value.int .i64)) → Calls Try.prog 44 #[stYear.R f0_0 f0_1 u0_2 f0_3] W (Gives W (.int .i64 r0)))
    (hi : ∀ W u0_2, Row 1 W u0_2 n0_2 (zs0_2.map (Value.int .i64)) → Calls Try.prog 28 #[stYear.R f0_0 f0_1 u0_2 f0_3] W (Gives W (.int .i64 r0))) :
    Calls Try.prog 12 #[stYear.R f0_0 f0_1 v0_2 f0_3] w (Gives w (.bool true)) := by
  obtain ⟨b0_2, c0_2, rfl⟩ := h0_2.shape
  have H0_2 := Lib.hid h0_2
  clear h0_2
  have HS := Lib.hid hs
  have HI := Lib.hid hi
  clear hs hi
  have X_a0 : Blk (w.alloc (.cells #[(.int .i64 f0_0), (.int .i64 f0_1), (.slice b0_2 n0_2 c0_2), (.int .i64 f0_3)] 40)) w.heap.size 40 #[(.int .i64 f0_0), (.int .i64 f0_1), (.slice b0_2 n0_2 c0_2), (.int .i64 f0_3)] := by
    have := Blk.new w 40 #[(.int .i64 f0_0), (.int .i64 f0_1), (.slice b0_2 n0_2 c0_2), (.int .i64 f0_3)]
    simpa using this
  replace X_a0 := Lib.hid X_a0
  have B : Below w.heap.size w (w.alloc (.cells #[(.int .i64 f0_0), (.int .i64 f0_1), (.slice b0_2 n0_2 c0_2), (.int .i64 f0_3)] 40)) := below_al (Below.refl _ _) _
  have zzb : (w.alloc (.cells #[(.int .i64 f0_0), (.int .i64 f0_1), (.slice b0_2 n0_2 c0_2), (.int .i64 f0_3)] 40)).heap.size = w.heap.size + 1 := by simp
  go_enter Try.func12, Try.ntmps12
  have q_a0_0 := X_a0.out.cell 0
  have q_a0_1 := X_a0.out.cell 1
  have q_a0_2 := X_a0.out.cell 2
  have q_a0_3 := X_a0.out.cell 3
  go_wp2_with fail
  refine (stYear.sz_yes _ _ _ _ _ n0_2 c0_2 _ (by omega) (by omega)).mono ?_; rintro e w1 ⟨rfl, hb⟩
  clear q_a0_0 q_a0_1 q_a0_2 q_a0_3
  replace X_a0 := Lib.hid (X_a0.out.step hb)
  replace B := below_step B hb
  have zz1 := hb.size
  clear hb
  have q_a0_0 := X_a0.out.cell 0
  have q_a0_1 := X_a0.out.cell 1
  have q_a0_2 := X_a0.out.cell 2
  have q_a0_3 := X_a0.out.cell 3
  go_wp2_with fail
  refine (stYear.to_got _ _ _ _ _ n0_2 zs0_2 hn0_2 (H0_2.out.keep B)).mono ?_; rintro e w2 ⟨t1, l_o0_0, h_o0_0, rfl, ⟨o0_0, lo_o0_0⟩, hb⟩
  clear q_a0_0 q_a0_1 q_a0_2 q_a0_3
  replace X_a0 := Lib.hid (X_a0.out.step hb)
  replace B := below_step B hb
  have zz2 := hb.size
  have hi_o0_0 := o0_0.2.2
  clear hb
  go_wp2_with fail
  refine (HS.out _ _ o0_0.row).mono ?_; rintro e w3 ⟨rfl, hb⟩
  replace o0_0 := o0_0.keep hb
  replace X_a0 := Lib.hid (X_a0.out.step hb)
  replace B := below_step B hb
  have zz3 := hb.size
  clear hb
  clear o0_0
  have q_a0_0 := X_a0.out.cell 0
  have q_a0_1 := X_a0.out.cell 1
  have q_a0_2 := X_a0.out.cell 2
  have q_a0_3 := X_a0.out.cell 3
  go_wp2_with fail
  refine (stYear.to_got _ _ _ _ _ n0_2 zs0_2 hn0_2 (H0_2.out.keep B)).mono ?_; rintro e w4 ⟨t2, l_x0_0, h_x0_0, rfl, ⟨x0_0, lo_x0_0⟩, hb⟩
  clear q_a0_0 q_a0_1 q_a0_2 q_a0_3
  replace X_a0 := Lib.hid (X_a0.out.step hb)
  replace B := below_step B hb
  have zz4 := hb.size
  have hi_x0_0 := x0_0.2.2
  clear hb
  obtain ⟨ba_x00, ca_x00, rfl⟩ := own_shape x0_0.own
  have hb : Below w4.heap.size w4 (w4.alloc (.cells #[(.int .i64 f0_0), (.int .i64 f0_1), (.slice ba_x00 n0_2 ca_x00), (.int .i64 f0_3)] 34)) := below_al (Below.refl _ _) _
  replace x0_0 := x0_0.keep hb
  replace X_a0 := Lib.hid (X_a0.out.step hb)
  replace B := below_step B hb
  have zz5 := hb.size
  have X_x0 : Blk (w4.alloc (.cells #[(.int .i64 f0_0), (.int .i64 f0_1), (.slice ba_x00 n0_2 ca_x00), (.int .i64 f0_3)] 34)) w4.heap.size 34 #[(.int .i64 f0_0), (.int .i64 f0_1), (.slice ba_x00 n0_2 ca_x00), (.int .i64 f0_3)] := by
    have := Blk.new w4 34 #[(.int .i64 f0_0), (.int .i64 f0_1), (.slice ba_x00 n0_2 ca_x00), (.int .i64 f0_3)]
    simpa using this
  replace X_x0 := Lib.hid X_x0
  have zy5 : (w4.alloc (.cells #[(.int .i64 f0_0), (.int .i64 f0_1), (.slice ba_x00 n0_2 ca_x00), (.int .i64 f0_3)] 34)).heap.size = w4.heap.size + 1 := by simp
  clear hb
  have q_x0_0 := X_x0.out.cell 0
  have q_x0_1 := X_x0.out.cell 1
  have q_x0_2 := X_x0.out.cell 2
  have q_x0_3 := X_x0.out.cell 3
  go_wp2_with fail
  refine (HI.out _ _ x0_0.row).mono ?_; rintro e w6 ⟨rfl, hb⟩
  clear q_x0_0 q_x0_1 q_x0_2 q_x0_3
  replace x0_0 := x0_0.keep hb
  replace X_a0 := Lib.hid (X_a0.out.step hb)
  replace X_x0 := Lib.hid (X_x0.out.step hb)
  replace B := below_step B hb
  have zz6 := hb.size
  clear hb
  have q_x0_0 := X_x0.out.cell 0
  have q_x0_1 := X_x0.out.cell 1
  have q_x0_2 := X_x0.out.cell 2
  have q_x0_3 := X_x0.out.cell 3
  have q_a0_0 := X_a0.out.cell 0
  have q_a0_1 := X_a0.out.cell 1
  have q_a0_2 := X_a0.out.cell 2
  have q_a0_3 := X_a0.out.cell 3
  go_wp2
  go_region_held3 (fun W => W.cell? ⟨w4.heap.size, 0, none⟩ = some (.int .i64 f0_0) ∧ W.cell? ⟨w4.heap.size, 1, none⟩ = some (.int .i64 f0_1) ∧ W.cell? ⟨w4.heap.size, 2, none⟩ = some (.slice ba_x00 n0_2 ca_x00) ∧ W.cell? ⟨w4.heap.size, 3, none⟩ = some (.int .i64 f0_3) ∧ W.cell? ⟨w.heap.size, 0, none⟩ = some (.int .i64 f0_0) ∧ W.cell? ⟨w.heap.size, 1, none⟩ = some (.int .i64 f0_1) ∧ W.cell? ⟨w.heap.size, 2, none⟩ = some (.slice b0_2 n0_2 c0_2) ∧ W.cell? ⟨w.heap.size, 3, none⟩ = some (.int .i64 f0_3)) (first | assumption | exact ⟨q_x0_0, q_x0_1, q_x0_2, q_x0_3, q_a0_0, q_a0_1, q_a0_2, q_a0_3⟩ | exact keep8 (by assumption) (by assumption) | fail)
    (first
      | (go_at_call 40; refine (stYear.to_got _ _ _ _ _ n0_2 zs0_2 hn0_2 (H0_2.out.keep (by repeat (first | assumption | (with_reducible exact Below.refl _ _) | (with_reducible refine below_dr ?_) | (with_reducible refine below_al ?_ _) | (with_reducible refine below_step ?_ (by assumption)) | fail)))).mono ?_; rintro e wt ⟨tc0, lc0, hc0, rfl, ⟨oc0, _⟩, hbt⟩)
      | (go_at_call 41; refine (stYear.eq_yes _ _ _ _ _ _ n0_2 zs0_2 hn0_2 (x0_0.keep (by repeat (first | assumption | (with_reducible exact Below.refl _ _) | (with_reducible refine below_dr ?_) | (with_reducible refine below_al ?_ _) | (with_reducible refine below_step ?_ (by assumption)) | fail))).row oc0.row).mono ?_; rintro e w7 ⟨rfl, hb⟩)
      | fail)
  have hc : Below w6.heap.size w6 w7 := (by repeat (first | assumption | (with_reducible exact Below.refl _ _) | (with_reducible refine below_dr ?_) | (with_reducible refine below_al ?_ _) | (with_reducible refine below_step ?_ (by assumption)) | fail))
  clear q_x0_0 q_x0_1 q_x0_2 q_x0_3 q_a0_0 q_a0_1 q_a0_2 q_a0_3 hb hbt oc0
  replace x0_0 := x0_0.keep hc
  replace X_a0 := Lib.hid (X_a0.out.step hc)
  replace X_x0 := Lib.hid (X_x0.out.step hc)
  replace B := below_step B hc
  have zz7 := hc.size
  clear hc
  go_wp2
  go_ret
  exact ⟨rfl, B⟩
theorem walk (w : World) (r s d : Int) (v : Value) (n : Nat) (cs : List Int) (hr : Row 1 w v n (cs.map (Value.int .i64))) (hm : n ≤ 9223372036854775807) (_ : (Lit.int .i64 r).wf = true) (_ : (Lit.int .i64 s).wf = true) (_ : (Lit.int .i64 d).wf = true) : Calls Try.prog 12 #[stYear.R r s v d] w fun e w' => e = .returned (.bool true) ∧ Below w.heap.size w w' := by
  classical
  by_cases hl : n ≤ 1048576
  · by_cases ok : YOk r s d n cs
    · by_cases top : En r r d n cs
      · obtain ⟨m, h⟩ := Least.ex (p := fun x => En r x d n cs) (lo := 0) (hi := r) (by have := ok.1.1; omega) top
        exact core w r s d v n cs hl hr m hl (fun W u g => spec_leastStart W u n cs r s d g ok m h) (fun W u g => impl_leastStart W u n cs r s d g ok m h)
      · exact core w r s d v n cs hl hr (-1) hl (fun W u g => spec_leastStart_none W u n cs r s d g ok top) (fun W u g => impl_leastStart_none W u n cs r s d g ok top)
    · exact core w r s d v n cs hl hr (-1) hl (fun W u g => spec_leastStart_no W u n cs r s d hl g ok) (fun W u g => impl_leastStart_no W u n cs r s d hl g ok)
  · obtain ⟨a, c, rfl⟩ := hr.shape
    have X := Blk.new w 40 #[.int .i64 r, .int .i64 s, .slice a n c, .int .i64 d]
    obtain ⟨q0, q1, q2, q3⟩ := blk4 X
    go_enter Try.func12, Try.ntmps12
    go_wp2_with fail
    refine (stYear.sz_no _ r s d a n c _ (by omega) (by omega) hm).mono ?_; rintro e w1 ⟨rfl, hb⟩
    clear q0 q1 q2 q3
    go_wp2
    go_ret
    exact ⟨rfl, below_step (below_al (Below.refl _ _) _) hb⟩
end Go.Proofs.Ytojahddamdlcpaa.wFnExactLeastStart
namespace Go.Proofs.Ytojahddamdlcpaa.wFnExactAverageCatch
open Go.RowKit Go.Proofs.Ytojahddamdlcpaa.kit Go.Proofs.Ytojahddamdlcpaa.lawi Go.Proofs.Ytojahddamdlcpaa.own Go.Proofs.Ytojahddamdlcpaa.rainl Go.Proofs.Ytojahddamdlcpaa.rain Go.Proofs.Ytojahddamdlcpaa.cis Go.Proofs.Ytojahddamdlcpaa.chl Go.Proofs.Ytojahddamdlcpaa.yrl Go.Proofs.Ytojahddamdlcpaa.yr Go.Proofs.Ytojahddamdlcpaa.szl Go.Proofs.Ytojahddamdlcpaa.sz
set_option maxRecDepth 100000 in
set_option maxHeartbeats 4000000 in
theorem core (w : World) (f0_0 f0_1 f0_3 : Int) (v0_2 : Value) (n0_2 : Nat) (zs0_2 : List Int) (hn0_2 : n0_2 ≤ 1048576) (h0_2 : Row 1 w v0_2 n0_2 (zs0_2.map (Value.int .i64))) (r0 : Int)
    (hsum : n0_2 ≤ 1048576)
    (hs : ∀ W u0_2, Row 1 W u0_2 n0_2 (zs0_2.map (Value.int .i64)) → Calls Try.prog 45 #[stYear.R f0_0 f0_1 u0_2 f0_3] W (Gives W (.int .i64 r0)))
    (hi : ∀ W u0_2, Row 1 W u0_2 n0_2 (zs0_2.map (Value.int .i64)) → Calls Try.prog 31 #[stYear.R f0_0 f0_1 u0_2 f0_3] W (Gives W (.int .i64 r0))) :
    Calls Try.prog 13 #[stYear.R f0_0 f0_1 v0_2 f0_3] w (Gives w (.bool true)) := by
  obtain ⟨b0_2, c0_2, rfl⟩ := h0_2.shape
  have H0_2 := Lib.hid h0_2
  clear h0_2
  have HS := Lib.hid hs
  have HI := Lib.hid hi
  clear hs hi
  have X_a0 : Blk (w.alloc (.cells #[(.int .i64 f0_0), (.int .i64 f0_1), (.slice b0_2 n0_2 c0_2), (.int .i64 f0_3)] 40)) w.heap.size 40 #[(.int .i64 f0_0), (.int .i64 f0_1), (.slice b0_2 n0_2 c0_2), (.int .i64 f0_3)] := by
    have := Blk.new w 40 #[(.int .i64 f0_0), (.int .i64 f0_1), (.slice b0_2 n0_2 c0_2), (.int .i64 f0_3)]
    simpa using this
  replace X_a0 := Lib.hid X_a0
  have B : Below w.heap.size w (w.alloc (.cells #[(.int .i64 f0_0), (.int .i64 f0_1), (.slice b0_2 n0_2 c0_2), (.int .i64 f0_3)] 40)) := below_al (Below.refl _ _) _
  have zzb : (w.alloc (.cells #[(.int .i64 f0_0), (.int .i64 f0_1), (.slice b0_2 n0_2 c0_2), (.int .i64 f0_3)] 40)).heap.size = w.heap.size + 1 := by simp
  go_enter Try.func13, Try.ntmps13
  have q_a0_0 := X_a0.out.cell 0
  have q_a0_1 := X_a0.out.cell 1
  have q_a0_2 := X_a0.out.cell 2
  have q_a0_3 := X_a0.out.cell 3
  go_wp2_with fail
  refine (stYear.sz_yes _ _ _ _ _ n0_2 c0_2 _ (by omega) (by omega)).mono ?_; rintro e w1 ⟨rfl, hb⟩
  clear q_a0_0 q_a0_1 q_a0_2 q_a0_3
  replace X_a0 := Lib.hid (X_a0.out.step hb)
  replace B := below_step B hb
  have zz1 := hb.size
  clear hb
  have q_a0_0 := X_a0.out.cell 0
  have q_a0_1 := X_a0.out.cell 1
  have q_a0_2 := X_a0.out.cell 2
  have q_a0_3 := X_a0.out.cell 3
  go_wp2_with fail
  refine (stYear.to_got _ _ _ _ _ n0_2 zs0_2 hn0_2 (H0_2.out.keep B)).mono ?_; rintro e w2 ⟨t1, l_o0_0, h_o0_0, rfl, ⟨o0_0, lo_o0_0⟩, hb⟩
  clear q_a0_0 q_a0_1 q_a0_2 q_a0_3
  replace X_a0 := Lib.hid (X_a0.out.step hb)
  replace B := below_step B hb
  have zz2 := hb.size
  have hi_o0_0 := o0_0.2.2
  clear hb
  go_wp2_with fail
  refine (HS.out _ _ o0_0.row).mono ?_; rintro e w3 ⟨rfl, hb⟩
  replace o0_0 := o0_0.keep hb
  replace X_a0 := Lib.hid (X_a0.out.step hb)
  replace B := below_step B hb
  have zz3 := hb.size
  clear hb
  clear o0_0
  have q_a0_0 := X_a0.out.cell 0
  have q_a0_1 := X_a0.out.cell 1
  have q_a0_2 := X_a0.out.cell 2
  have q_a0_3 := X_a0.out.cell 3
  go_wp2_with fail
  refine (stYear.to_got _ _ _ _ _ n0_2 zs0_2 hn0_2 (H0_2.out.keep B)).mono ?_; rintro e w4 ⟨t2, l_x0_0, h_x0_0, rfl, ⟨x0_0, lo_x0_0⟩, hb⟩
  clear q_a0_0 q_a0_1 q_a0_2 q_a0_3
  replace X_a0 := Lib.hid (X_a0.out.step hb)
  replace B := below_step B hb
  have zz4 := hb.size
  have hi_x0_0 := x0_0.2.2
  clear hb
  obtain ⟨ba_x00, ca_x00, rfl⟩ := own_shape x0_0.own
  have hb : Below w4.heap.size w4 (w4.alloc (.cells #[(.int .i64 f0_0), (.int .i64 f0_1), (.slice ba_x00 n0_2 ca_x00), (.int .i64 f0_3)] 34)) := below_al (Below.refl _ _) _
  replace x0_0 := x0_0.keep hb
  replace X_a0 := Lib.hid (X_a0.out.step hb)
  replace B := below_step B hb
  have zz5 := hb.size
  have X_x0 : Blk (w4.alloc (.cells #[(.int .i64 f0_0), (.int .i64 f0_1), (.slice ba_x00 n0_2 ca_x00), (.int .i64 f0_3)] 34)) w4.heap.size 34 #[(.int .i64 f0_0), (.int .i64 f0_1), (.slice ba_x00 n0_2 ca_x00), (.int .i64 f0_3)] := by
    have := Blk.new w4 34 #[(.int .i64 f0_0), (.int .i64 f0_1), (.slice ba_x00 n0_2 ca_x00), (.int .i64 f0_3)]
    simpa using this
  replace X_x0 := Lib.hid X_x0
  have zy5 : (w4.alloc (.cells #[(.int .i64 f0_0), (.int .i64 f0_1), (.slice ba_x00 n0_2 ca_x00), (.int .i64 f0_3)] 34)).heap.size = w4.heap.size + 1 := by simp
  clear hb
  have q_x0_0 := X_x0.out.cell 0
  have q_x0_1 := X_x0.out.cell 1
  have q_x0_2 := X_x0.out.cell 2
  have q_x0_3 := X_x0.out.cell 3
  go_wp2_with fail
  refine (HI.out _ _ x0_0.row).mono ?_; rintro e w6 ⟨rfl, hb⟩
  clear q_x0_0 q_x0_1 q_x0_2 q_x0_3
  replace x0_0 := x0_0.keep hb
  replace X_a0 := Lib.hid (X_a0.out.step hb)
  replace X_x0 := Lib.hid (X_x0.out.step hb)
  replace B := below_step B hb
  have zz6 := hb.size
  clear hb
  have q_x0_0 := X_x0.out.cell 0
  have q_x0_1 := X_x0.out.cell 1
  have q_x0_2 := X_x0.out.cell 2
  have q_x0_3 := X_x0.out.cell 3
  have q_a0_0 := X_a0.out.cell 0
  have q_a0_1 := X_a0.out.cell 1
  have q_a0_2 := X_a0.out.cell 2
  have q_a0_3 := X_a0.out.cell 3
  go_wp2
  go_region_held3 (fun W => W.cell? ⟨w4.heap.size, 0, none⟩ = some (.int .i64 f0_0) ∧ W.cell? ⟨w4.heap.size, 1, none⟩ = some (.int .i64 f0_1) ∧ W.cell? ⟨w4.heap.size, 2, none⟩ = some (.slice ba_x00 n0_2 ca_x00) ∧ W.cell? ⟨w4.heap.size, 3, none⟩ = some (.int .i64 f0_3) ∧ W.cell? ⟨w.heap.size, 0, none⟩ = some (.int .i64 f0_0) ∧ W.cell? ⟨w.heap.size, 1, none⟩ = some (.int .i64 f0_1) ∧ W.cell? ⟨w.heap.size, 2, none⟩ = some (.slice b0_2 n0_2 c0_2) ∧ W.cell? ⟨w.heap.size, 3, none⟩ = some (.int .i64 f0_3)) (first | assumption | exact ⟨q_x0_0, q_x0_1, q_x0_2, q_x0_3, q_a0_0, q_a0_1, q_a0_2, q_a0_3⟩ | exact keep8 (by assumption) (by assumption) | fail)
    (first
      | (go_at_call 40; refine (stYear.to_got _ _ _ _ _ n0_2 zs0_2 hn0_2 (H0_2.out.keep (by repeat (first | assumption | (with_reducible exact Below.refl _ _) | (with_reducible refine below_dr ?_) | (with_reducible refine below_al ?_ _) | (with_reducible refine below_step ?_ (by assumption)) | fail)))).mono ?_; rintro e wt ⟨tc0, lc0, hc0, rfl, ⟨oc0, _⟩, hbt⟩)
      | (go_at_call 41; refine (stYear.eq_yes _ _ _ _ _ _ n0_2 zs0_2 hn0_2 (x0_0.keep (by repeat (first | assumption | (with_reducible exact Below.refl _ _) | (with_reducible refine below_dr ?_) | (with_reducible refine below_al ?_ _) | (with_reducible refine below_step ?_ (by assumption)) | fail))).row oc0.row).mono ?_; rintro e w7 ⟨rfl, hb⟩)
      | fail)
  have hc : Below w6.heap.size w6 w7 := (by repeat (first | assumption | (with_reducible exact Below.refl _ _) | (with_reducible refine below_dr ?_) | (with_reducible refine below_al ?_ _) | (with_reducible refine below_step ?_ (by assumption)) | fail))
  clear q_x0_0 q_x0_1 q_x0_2 q_x0_3 q_a0_0 q_a0_1 q_a0_2 q_a0_3 hb hbt oc0
  replace x0_0 := x0_0.keep hc
  replace X_a0 := Lib.hid (X_a0.out.step hc)
  replace X_x0 := Lib.hid (X_x0.out.step hc)
  replace B := below_step B hc
  have zz7 := hc.size
  clear hc
  go_wp2
  go_ret
  exact ⟨rfl, B⟩
theorem walk (w : World) (r s d : Int) (v : Value) (n : Nat) (cs : List Int) (hr : Row 1 w v n (cs.map (Value.int .i64))) (hm : n ≤ 9223372036854775807) (_ : (Lit.int .i64 r).wf = true) (_ : (Lit.int .i64 s).wf = true) (_ : (Lit.int .i64 d).wf = true) : Calls Try.prog 13 #[stYear.R r s v d] w fun e w' => e = .returned (.bool true) ∧ Below w.heap.size w w' := by
  classical
  by_cases hl : n ≤ 1048576
  · by_cases ok : YOk r s d n cs
    · exact core w r s d v n cs hl hr _ hl (fun W u g => spec_average W u n cs r s d g ok _ rfl) (fun W u g => impl_average W u n cs r s d g ok _ rfl)
    · exact core w r s d v n cs hl hr (-1) hl (fun W u g => spec_average_no W u n cs r s d hl g ok) (fun W u g => impl_average_no W u n cs r s d hl g ok)
  · obtain ⟨a, c, rfl⟩ := hr.shape
    have X := Blk.new w 40 #[.int .i64 r, .int .i64 s, .slice a n c, .int .i64 d]
    obtain ⟨q0, q1, q2, q3⟩ := blk4 X
    go_enter Try.func13, Try.ntmps13
    go_wp2_with fail
    refine (stYear.sz_no _ r s d a n c _ (by omega) (by omega) hm).mono ?_; rintro e w1 ⟨rfl, hb⟩
    clear q0 q1 q2 q3
    go_wp2
    go_ret
    exact ⟨rfl, below_step (below_al (Below.refl _ _) _) hb⟩
end Go.Proofs.Ytojahddamdlcpaa.wFnExactAverageCatch
namespace Go.Proofs.Ytojahddamdlcpaa.wFnExactWithRoom
open Go.RowKit Go.Proofs.Ytojahddamdlcpaa.kit Go.Proofs.Ytojahddamdlcpaa.lawi Go.Proofs.Ytojahddamdlcpaa.own Go.Proofs.Ytojahddamdlcpaa.rainl Go.Proofs.Ytojahddamdlcpaa.rain Go.Proofs.Ytojahddamdlcpaa.cis Go.Proofs.Ytojahddamdlcpaa.chl Go.Proofs.Ytojahddamdlcpaa.yrl Go.Proofs.Ytojahddamdlcpaa.yr Go.Proofs.Ytojahddamdlcpaa.szl Go.Proofs.Ytojahddamdlcpaa.sz
set_option maxRecDepth 100000 in
set_option maxHeartbeats 4000000 in
theorem core (w : World) (f0_0 f0_1 f0_3 : Int) (v0_2 : Value) (n0_2 : Nat) (zs0_2 : List Int) (hn0_2 : n0_2 ≤ 1048576) (h0_2 : Row 1 w v0_2 n0_2 (zs0_2.map (Value.int .i64))) (a1 : Int) (e0_0 e0_1 e0_3 : Int) (m0_2 : Nat) (ys0_2 : List Int) (hm0_2 : m0_2 ≤ 1048576)
    (hsum : n0_2 ≤ 1048576)
    (hs : ∀ W u0_2, Row 1 W u0_2 n0_2 (zs0_2.map (Value.int .i64)) → Calls Try.prog 46 #[stYear.R f0_0 f0_1 u0_2 f0_3, .int .i64 a1] W (stYear.Got W e0_0 e0_1 e0_3 m0_2 ys0_2 (fun t => t)))
    (hi : ∀ W u0_2, Row 1 W u0_2 n0_2 (zs0_2.map (Value.int .i64)) → Calls Try.prog 30 #[stYear.R f0_0 f0_1 u0_2 f0_3, .int .i64 a1] W (stYear.Got W e0_0 e0_1 e0_3 m0_2 ys0_2 (fun t => t))) :
    Calls Try.prog 14 #[stYear.R f0_0 f0_1 v0_2 f0_3, .int .i64 a1] w (Gives w (.bool true)) := by
  obtain ⟨b0_2, c0_2, rfl⟩ := h0_2.shape
  have H0_2 := Lib.hid h0_2
  clear h0_2
  have HS := Lib.hid hs
  have HI := Lib.hid hi
  clear hs hi
  have X_a0 : Blk (w.alloc (.cells #[(.int .i64 f0_0), (.int .i64 f0_1), (.slice b0_2 n0_2 c0_2), (.int .i64 f0_3)] 40)) w.heap.size 40 #[(.int .i64 f0_0), (.int .i64 f0_1), (.slice b0_2 n0_2 c0_2), (.int .i64 f0_3)] := by
    have := Blk.new w 40 #[(.int .i64 f0_0), (.int .i64 f0_1), (.slice b0_2 n0_2 c0_2), (.int .i64 f0_3)]
    simpa using this
  replace X_a0 := Lib.hid X_a0
  have B : Below w.heap.size w (w.alloc (.cells #[(.int .i64 f0_0), (.int .i64 f0_1), (.slice b0_2 n0_2 c0_2), (.int .i64 f0_3)] 40)) := below_al (Below.refl _ _) _
  have zzb : (w.alloc (.cells #[(.int .i64 f0_0), (.int .i64 f0_1), (.slice b0_2 n0_2 c0_2), (.int .i64 f0_3)] 40)).heap.size = w.heap.size + 1 := by simp
  go_enter Try.func14, Try.ntmps14
  have q_a0_0 := X_a0.out.cell 0
  have q_a0_1 := X_a0.out.cell 1
  have q_a0_2 := X_a0.out.cell 2
  have q_a0_3 := X_a0.out.cell 3
  go_wp2_with fail
  refine (stYear.sz_yes _ _ _ _ _ n0_2 c0_2 _ (by omega) (by omega)).mono ?_; rintro e w1 ⟨rfl, hb⟩
  clear q_a0_0 q_a0_1 q_a0_2 q_a0_3
  replace X_a0 := Lib.hid (X_a0.out.step hb)
  replace B := below_step B hb
  have zz1 := hb.size
  clear hb
  have q_a0_0 := X_a0.out.cell 0
  have q_a0_1 := X_a0.out.cell 1
  have q_a0_2 := X_a0.out.cell 2
  have q_a0_3 := X_a0.out.cell 3
  go_wp2_with fail
  refine (stYear.to_got _ _ _ _ _ n0_2 zs0_2 hn0_2 (H0_2.out.keep B)).mono ?_; rintro e w2 ⟨t1, l_o0_0, h_o0_0, rfl, ⟨o0_0, lo_o0_0⟩, hb⟩
  clear q_a0_0 q_a0_1 q_a0_2 q_a0_3
  replace X_a0 := Lib.hid (X_a0.out.step hb)
  replace B := below_step B hb
  have zz2 := hb.size
  have hi_o0_0 := o0_0.2.2
  clear hb
  go_wp2_with fail
  refine (HS.out _ _ o0_0.row).mono ?_; rintro e w3 ⟨t2, l_s_0, h_s_0, rfl, ⟨s_0, lo_s_0⟩, hb⟩
  replace o0_0 := o0_0.keep hb
  replace X_a0 := Lib.hid (X_a0.out.step hb)
  replace B := below_step B hb
  have zz3 := hb.size
  have hi_s_0 := s_0.2.2
  clear hb
  clear o0_0
  obtain ⟨ba_s0, ca_s0, rfl⟩ := own_shape s_0.own
  have hb : Below w3.heap.size w3 (w3.alloc (.cells #[(.int .i64 e0_0), (.int .i64 e0_1), (.slice ba_s0 m0_2 ca_s0), (.int .i64 e0_3)] 34)) := below_al (Below.refl _ _) _
  replace s_0 := s_0.keep hb
  replace X_a0 := Lib.hid (X_a0.out.step hb)
  replace B := below_step B hb
  have zz4 := hb.size
  have X_s : Blk (w3.alloc (.cells #[(.int .i64 e0_0), (.int .i64 e0_1), (.slice ba_s0 m0_2 ca_s0), (.int .i64 e0_3)] 34)) w3.heap.size 34 #[(.int .i64 e0_0), (.int .i64 e0_1), (.slice ba_s0 m0_2 ca_s0), (.int .i64 e0_3)] := by
    have := Blk.new w3 34 #[(.int .i64 e0_0), (.int .i64 e0_1), (.slice ba_s0 m0_2 ca_s0), (.int .i64 e0_3)]
    simpa using this
  replace X_s := Lib.hid X_s
  have zy4 : (w3.alloc (.cells #[(.int .i64 e0_0), (.int .i64 e0_1), (.slice ba_s0 m0_2 ca_s0), (.int .i64 e0_3)] 34)).heap.size = w3.heap.size + 1 := by simp
  clear hb
  have q_a0_0 := X_a0.out.cell 0
  have q_a0_1 := X_a0.out.cell 1
  have q_a0_2 := X_a0.out.cell 2
  have q_a0_3 := X_a0.out.cell 3
  go_wp2_with fail
  refine (stYear.to_got _ _ _ _ _ n0_2 zs0_2 hn0_2 (H0_2.out.keep B)).mono ?_; rintro e w5 ⟨t3, l_x0_0, h_x0_0, rfl, ⟨x0_0, lo_x0_0⟩, hb⟩
  clear q_a0_0 q_a0_1 q_a0_2 q_a0_3
  replace s_0 := s_0.keep hb
  replace X_a0 := Lib.hid (X_a0.out.step hb)
  replace X_s := Lib.hid (X_s.out.step hb)
  replace B := below_step B hb
  have zz5 := hb.size
  have hi_x0_0 := x0_0.2.2
  clear hb
  obtain ⟨ba_x00, ca_x00, rfl⟩ := own_shape x0_0.own
  have hb : Below w5.heap.size w5 (w5.alloc (.cells #[(.int .i64 f0_0), (.int .i64 f0_1), (.slice ba_x00 n0_2 ca_x00), (.int .i64 f0_3)] 34)) := below_al (Below.refl _ _) _
  replace s_0 := s_0.keep hb
  replace x0_0 := x0_0.keep hb
  replace X_a0 := Lib.hid (X_a0.out.step hb)
  replace X_s := Lib.hid (X_s.out.step hb)
  replace B := below_step B hb
  have zz6 := hb.size
  have X_x0 : Blk (w5.alloc (.cells #[(.int .i64 f0_0), (.int .i64 f0_1), (.slice ba_x00 n0_2 ca_x00), (.int .i64 f0_3)] 34)) w5.heap.size 34 #[(.int .i64 f0_0), (.int .i64 f0_1), (.slice ba_x00 n0_2 ca_x00), (.int .i64 f0_3)] := by
    have := Blk.new w5 34 #[(.int .i64 f0_0), (.int .i64 f0_1), (.slice ba_x00 n0_2 ca_x00), (.int .i64 f0_3)]
    simpa using this
  replace X_x0 := Lib.hid X_x0
  have zy6 : (w5.alloc (.cells #[(.int .i64 f0_0), (.int .i64 f0_1), (.slice ba_x00 n0_2 ca_x00), (.int .i64 f0_3)] 34)).heap.size = w5.heap.size + 1 := by simp
  clear hb
  have q_x0_0 := X_x0.out.cell 0
  have q_x0_1 := X_x0.out.cell 1
  have q_x0_2 := X_x0.out.cell 2
  have q_x0_3 := X_x0.out.cell 3
  go_wp2_with fail
  refine (HI.out _ _ x0_0.row).mono ?_; rintro e w7 ⟨t4, l_g_0, h_g_0, rfl, ⟨g_0, lo_g_0⟩, hb⟩
  clear q_x0_0 q_x0_1 q_x0_2 q_x0_3
  replace s_0 := s_0.keep hb
  replace x0_0 := x0_0.keep hb
  replace X_a0 := Lib.hid (X_a0.out.step hb)
  replace X_s := Lib.hid (X_s.out.step hb)
  replace X_x0 := Lib.hid (X_x0.out.step hb)
  replace B := below_step B hb
  have zz7 := hb.size
  have hi_g_0 := g_0.2.2
  clear hb
  obtain ⟨ba_g0, ca_g0, rfl⟩ := own_shape g_0.own
  have hb : Below w7.heap.size w7 (w7.alloc (.cells #[(.int .i64 e0_0), (.int .i64 e0_1), (.slice ba_g0 m0_2 ca_g0), (.int .i64 e0_3)] 34)) := below_al (Below.refl _ _) _
  replace s_0 := s_0.keep hb
  replace x0_0 := x0_0.keep hb
  replace g_0 := g_0.keep hb
  replace X_a0 := Lib.hid (X_a0.out.step hb)
  replace X_s := Lib.hid (X_s.out.step hb)
  replace X_x0 := Lib.hid (X_x0.out.step hb)
  replace B := below_step B hb
  have zz8 := hb.size
  have X_g : Blk (w7.alloc (.cells #[(.int .i64 e0_0), (.int .i64 e0_1), (.slice ba_g0 m0_2 ca_g0), (.int .i64 e0_3)] 34)) w7.heap.size 34 #[(.int .i64 e0_0), (.int .i64 e0_1), (.slice ba_g0 m0_2 ca_g0), (.int .i64 e0_3)] := by
    have := Blk.new w7 34 #[(.int .i64 e0_0), (.int .i64 e0_1), (.slice ba_g0 m0_2 ca_g0), (.int .i64 e0_3)]
    simpa using this
  replace X_g := Lib.hid X_g
  have zy8 : (w7.alloc (.cells #[(.int .i64 e0_0), (.int .i64 e0_1), (.slice ba_g0 m0_2 ca_g0), (.int .i64 e0_3)] 34)).heap.size = w7.heap.size + 1 := by simp
  clear hb
  have q_g_0 := X_g.out.cell 0
  have q_g_1 := X_g.out.cell 1
  have q_g_2 := X_g.out.cell 2
  have q_g_3 := X_g.out.cell 3
  have q_s_0 := X_s.out.cell 0
  have q_s_1 := X_s.out.cell 1
  have q_s_2 := X_s.out.cell 2
  have q_s_3 := X_s.out.cell 3
  go_wp2_with fail
  refine (stYear.eq_yes _ _ _ _ _ _ m0_2 ys0_2 hm0_2 g_0.row s_0.row).mono ?_; rintro e w9 ⟨rfl, hb⟩
  clear q_g_0 q_g_1 q_g_2 q_g_3 q_s_0 q_s_1 q_s_2 q_s_3
  replace s_0 := s_0.keep hb
  replace x0_0 := x0_0.keep hb
  replace g_0 := g_0.keep hb
  replace X_a0 := Lib.hid (X_a0.out.step hb)
  replace X_s := Lib.hid (X_s.out.step hb)
  replace X_x0 := Lib.hid (X_x0.out.step hb)
  replace X_g := Lib.hid (X_g.out.step hb)
  replace B := below_step B hb
  have zz9 := hb.size
  clear hb
  have q_x0_0 := X_x0.out.cell 0
  have q_x0_1 := X_x0.out.cell 1
  have q_x0_2 := X_x0.out.cell 2
  have q_x0_3 := X_x0.out.cell 3
  have q_a0_0 := X_a0.out.cell 0
  have q_a0_1 := X_a0.out.cell 1
  have q_a0_2 := X_a0.out.cell 2
  have q_a0_3 := X_a0.out.cell 3
  go_wp2
  go_region_held3 (fun W => W.cell? ⟨w5.heap.size, 0, none⟩ = some (.int .i64 f0_0) ∧ W.cell? ⟨w5.heap.size, 1, none⟩ = some (.int .i64 f0_1) ∧ W.cell? ⟨w5.heap.size, 2, none⟩ = some (.slice ba_x00 n0_2 ca_x00) ∧ W.cell? ⟨w5.heap.size, 3, none⟩ = some (.int .i64 f0_3) ∧ W.cell? ⟨w.heap.size, 0, none⟩ = some (.int .i64 f0_0) ∧ W.cell? ⟨w.heap.size, 1, none⟩ = some (.int .i64 f0_1) ∧ W.cell? ⟨w.heap.size, 2, none⟩ = some (.slice b0_2 n0_2 c0_2) ∧ W.cell? ⟨w.heap.size, 3, none⟩ = some (.int .i64 f0_3)) (first | assumption | exact ⟨q_x0_0, q_x0_1, q_x0_2, q_x0_3, q_a0_0, q_a0_1, q_a0_2, q_a0_3⟩ | exact keep8 (by assumption) (by assumption) | fail)
    (first
      | (go_at_call 40; refine (stYear.to_got _ _ _ _ _ n0_2 zs0_2 hn0_2 (H0_2.out.keep (by repeat (first | assumption | (with_reducible exact Below.refl _ _) | (with_reducible refine below_dr ?_) | (with_reducible refine below_al ?_ _) | (with_reducible refine below_step ?_ (by assumption)) | fail)))).mono ?_; rintro e wt ⟨tc0, lc0, hc0, rfl, ⟨oc0, _⟩, hbt⟩)
      | (go_at_call 41; refine (stYear.eq_yes _ _ _ _ _ _ n0_2 zs0_2 hn0_2 (x0_0.keep (by repeat (first | assumption | (with_reducible exact Below.refl _ _) | (with_reducible refine below_dr ?_) | (with_reducible refine below_al ?_ _) | (with_reducible refine below_step ?_ (by assumption)) | fail))).row oc0.row).mono ?_; rintro e w10 ⟨rfl, hb⟩)
      | fail)
  have hc : Below w9.heap.size w9 w10 := (by repeat (first | assumption | (with_reducible exact Below.refl _ _) | (with_reducible refine below_dr ?_) | (with_reducible refine below_al ?_ _) | (with_reducible refine below_step ?_ (by assumption)) | fail))
  clear q_x0_0 q_x0_1 q_x0_2 q_x0_3 q_a0_0 q_a0_1 q_a0_2 q_a0_3 hb hbt oc0
  replace s_0 := s_0.keep hc
  replace x0_0 := x0_0.keep hc
  replace g_0 := g_0.keep hc
  replace X_a0 := Lib.hid (X_a0.out.step hc)
  replace X_s := Lib.hid (X_s.out.step hc)
  replace X_x0 := Lib.hid (X_x0.out.step hc)
  replace X_g := Lib.hid (X_g.out.step hc)
  replace B := below_step B hc
  have zz10 := hc.size
  clear hc
  have q_x0_0 := X_x0.out.cell 0
  have q_x0_1 := X_x0.out.cell 1
  have q_x0_2 := X_x0.out.cell 2
  have q_x0_3 := X_x0.out.cell 3
  go_wp2_with fail
  refine (stYear.mark_own _ _ _ _ 1 _ (by omega) _ _ _ n0_2 _ x0_0  (by omega)).mono ?_; rintro e w11 ⟨rfl, om0, ch0⟩
  clear q_x0_0 q_x0_1 q_x0_2 q_x0_3
  have zz11_0 := ch0.size
  replace s_0 := s_0.chg ch0 (by omega)
  replace g_0 := g_0.chg ch0 (by omega)
  replace X_a0 := Lib.hid (Blk.chg X_a0.out ch0 (by omega))
  replace X_s := Lib.hid (Blk.chg X_s.out ch0 (by omega))
  replace X_x0 := Lib.hid (Blk.chg X_x0.out ch0 (by omega))
  replace X_g := Lib.hid (Blk.chg X_g.out ch0 (by omega))
  replace B := B.trans (ch0.below (B := w.heap.size) (by omega) (by omega))
  replace x0_0 := om0
  clear om0 ch0
  have q_g_0 := X_g.out.cell 0
  have q_g_1 := X_g.out.cell 1
  have q_g_2 := X_g.out.cell 2
  have q_g_3 := X_g.out.cell 3
  have q_s_0 := X_s.out.cell 0
  have q_s_1 := X_s.out.cell 1
  have q_s_2 := X_s.out.cell 2
  have q_s_3 := X_s.out.cell 3
  go_wp2_with fail
  refine (stYear.eq_yes _ _ _ _ _ _ m0_2 ys0_2 hm0_2 g_0.row s_0.row).mono ?_; rintro e w12 ⟨rfl, hb⟩
  clear q_g_0 q_g_1 q_g_2 q_g_3 q_s_0 q_s_1 q_s_2 q_s_3
  replace s_0 := s_0.keep hb
  replace x0_0 := x0_0.keep hb
  replace g_0 := g_0.keep hb
  replace X_a0 := Lib.hid (X_a0.out.step hb)
  replace X_s := Lib.hid (X_s.out.step hb)
  replace X_x0 := Lib.hid (X_x0.out.step hb)
  replace X_g := Lib.hid (X_g.out.step hb)
  replace B := below_step B hb
  have zz12 := hb.size
  clear hb
  clear x0_0
  have q_g_0 := X_g.out.cell 0
  have q_g_1 := X_g.out.cell 1
  have q_g_2 := X_g.out.cell 2
  have q_g_3 := X_g.out.cell 3
  go_wp2_with fail
  refine (stYear.mark_own _ _ _ _ 1 _ (by omega) _ _ _ m0_2 _ g_0  (by omega)).mono ?_; rintro e w13 ⟨rfl, om0, ch0⟩
  clear q_g_0 q_g_1 q_g_2 q_g_3
  have zz13_0 := ch0.size
  replace s_0 := s_0.chg ch0 (by omega)
  replace X_a0 := Lib.hid (Blk.chg X_a0.out ch0 (by omega))
  replace X_s := Lib.hid (Blk.chg X_s.out ch0 (by omega))
  replace X_x0 := Lib.hid (Blk.chg X_x0.out ch0 (by omega))
  replace X_g := Lib.hid (Blk.chg X_g.out ch0 (by omega))
  replace B := B.trans (ch0.below (B := w.heap.size) (by omega) (by omega))
  replace g_0 := om0
  clear om0 ch0
  have q_g_0 := X_g.out.cell 0
  have q_g_1 := X_g.out.cell 1
  have q_g_2 := X_g.out.cell 2
  have q_g_3 := X_g.out.cell 3
  go_wp2_with fail
  refine (stYear.held_gives _ _ _ _ 1 _ rfl _ m0_2 g_0.row (by omega)).mono ?_; rintro e w14 ⟨rfl, hb⟩
  clear q_g_0 q_g_1 q_g_2 q_g_3
  replace s_0 := s_0.keep hb
  replace g_0 := g_0.keep hb
  replace X_a0 := Lib.hid (X_a0.out.step hb)
  replace X_s := Lib.hid (X_s.out.step hb)
  replace X_x0 := Lib.hid (X_x0.out.step hb)
  replace X_g := Lib.hid (X_g.out.step hb)
  replace B := below_step B hb
  have zz14 := hb.size
  clear hb
  have q_a0_0 := X_a0.out.cell 0
  have q_a0_1 := X_a0.out.cell 1
  have q_a0_2 := X_a0.out.cell 2
  have q_a0_3 := X_a0.out.cell 3
  go_wp2_with fail
  refine (stYear.to_got _ _ _ _ _ n0_2 zs0_2 hn0_2 (H0_2.out.keep B)).mono ?_; rintro e w15 ⟨t5, l_p0_0, h_p0_0, rfl, ⟨p0_0, lo_p0_0⟩, hb⟩
  clear q_a0_0 q_a0_1 q_a0_2 q_a0_3
  replace s_0 := s_0.keep hb
  replace g_0 := g_0.keep hb
  replace X_a0 := Lib.hid (X_a0.out.step hb)
  replace X_s := Lib.hid (X_s.out.step hb)
  replace X_x0 := Lib.hid (X_x0.out.step hb)
  replace X_g := Lib.hid (X_g.out.step hb)
  replace B := below_step B hb
  have zz15 := hb.size
  have hi_p0_0 := p0_0.2.2
  clear hb
  go_wp2_with fail
  refine (HI.out _ _ p0_0.row).mono ?_; rintro e w16 ⟨t6, l_h_0, h_h_0, rfl, ⟨h_0, lo_h_0⟩, hb⟩
  replace s_0 := s_0.keep hb
  replace g_0 := g_0.keep hb
  replace p0_0 := p0_0.keep hb
  replace X_a0 := Lib.hid (X_a0.out.step hb)
  replace X_s := Lib.hid (X_s.out.step hb)
  replace X_x0 := Lib.hid (X_x0.out.step hb)
  replace X_g := Lib.hid (X_g.out.step hb)
  replace B := below_step B hb
  have zz16 := hb.size
  have hi_h_0 := h_0.2.2
  clear hb
  clear p0_0
  obtain ⟨ba_h0, ca_h0, rfl⟩ := own_shape h_0.own
  have hb : Below w16.heap.size w16 (w16.alloc (.cells #[(.int .i64 e0_0), (.int .i64 e0_1), (.slice ba_h0 m0_2 ca_h0), (.int .i64 e0_3)] 34)) := below_al (Below.refl _ _) _
  replace s_0 := s_0.keep hb
  replace g_0 := g_0.keep hb
  replace h_0 := h_0.keep hb
  replace X_a0 := Lib.hid (X_a0.out.step hb)
  replace X_s := Lib.hid (X_s.out.step hb)
  replace X_x0 := Lib.hid (X_x0.out.step hb)
  replace X_g := Lib.hid (X_g.out.step hb)
  replace B := below_step B hb
  have zz17 := hb.size
  have X_h : Blk (w16.alloc (.cells #[(.int .i64 e0_0), (.int .i64 e0_1), (.slice ba_h0 m0_2 ca_h0), (.int .i64 e0_3)] 34)) w16.heap.size 34 #[(.int .i64 e0_0), (.int .i64 e0_1), (.slice ba_h0 m0_2 ca_h0), (.int .i64 e0_3)] := by
    have := Blk.new w16 34 #[(.int .i64 e0_0), (.int .i64 e0_1), (.slice ba_h0 m0_2 ca_h0), (.int .i64 e0_3)]
    simpa using this
  replace X_h := Lib.hid X_h
  have zy17 : (w16.alloc (.cells #[(.int .i64 e0_0), (.int .i64 e0_1), (.slice ba_h0 m0_2 ca_h0), (.int .i64 e0_3)] 34)).heap.size = w16.heap.size + 1 := by simp
  clear hb
  have q_h_0 := X_h.out.cell 0
  have q_h_1 := X_h.out.cell 1
  have q_h_2 := X_h.out.cell 2
  have q_h_3 := X_h.out.cell 3
  have q_s_0 := X_s.out.cell 0
  have q_s_1 := X_s.out.cell 1
  have q_s_2 := X_s.out.cell 2
  have q_s_3 := X_s.out.cell 3
  go_wp2_with fail
  refine (stYear.eq_yes _ _ _ _ _ _ m0_2 ys0_2 hm0_2 h_0.row s_0.row).mono ?_; rintro e w18 ⟨rfl, hb⟩
  clear q_h_0 q_h_1 q_h_2 q_h_3 q_s_0 q_s_1 q_s_2 q_s_3
  replace s_0 := s_0.keep hb
  replace g_0 := g_0.keep hb
  replace h_0 := h_0.keep hb
  replace X_a0 := Lib.hid (X_a0.out.step hb)
  replace X_s := Lib.hid (X_s.out.step hb)
  replace X_x0 := Lib.hid (X_x0.out.step hb)
  replace X_g := Lib.hid (X_g.out.step hb)
  replace X_h := Lib.hid (X_h.out.step hb)
  replace B := below_step B hb
  have zz18 := hb.size
  clear hb
  clear h_0
  clear s_0
  have q_g_0 := X_g.out.cell 0
  have q_g_1 := X_g.out.cell 1
  have q_g_2 := X_g.out.cell 2
  have q_g_3 := X_g.out.cell 3
  go_wp2_with fail
  refine (stYear.held_gives _ _ _ _ 1 _ rfl _ m0_2 g_0.row (by omega)).mono ?_; rintro e w19 ⟨rfl, hb⟩
  clear q_g_0 q_g_1 q_g_2 q_g_3
  replace g_0 := g_0.keep hb
  replace X_a0 := Lib.hid (X_a0.out.step hb)
  replace X_s := Lib.hid (X_s.out.step hb)
  replace X_x0 := Lib.hid (X_x0.out.step hb)
  replace X_g := Lib.hid (X_g.out.step hb)
  replace X_h := Lib.hid (X_h.out.step hb)
  replace B := below_step B hb
  have zz19 := hb.size
  clear hb
  go_wp2
  go_ret
  exact ⟨rfl, B⟩
theorem walk (w : World) (r s d : Int) (v : Value) (n : Nat) (cs : List Int) (hr : Row 1 w v n (cs.map (Value.int .i64))) (hm : n ≤ 9223372036854775807) (_ : (Lit.int .i64 r).wf = true) (_ : (Lit.int .i64 s).wf = true) (_ : (Lit.int .i64 d).wf = true) (x : Int) (_ : (Lit.int .i64 x).wf = true) : Calls Try.prog 14 #[stYear.R r s v d, .int .i64 x] w fun e w' => e = .returned (.bool true) ∧ Below w.heap.size w w' := by
  classical
  by_cases hl : n ≤ 1048576
  · by_cases ok : YOk r s d n cs
    · by_cases hx : 1 ≤ x ∧ x ≤ 1000000
      · exact core w r s d v n cs hl hr x x (mn s x) d n cs hl hl (fun W u g => spec_withRoom_yes W u n cs r s d x hl g ok hx.1 hx.2) (fun W u g => impl_WithRoom_yes W u n cs r s d x hl g ok hx.1 hx.2)
      · exact core w r s d v n cs hl hr x r s d n cs hl hl (fun W u g => spec_withRoom_out W u n cs r s d x hl g ok hx) (fun W u g => impl_WithRoom_out W u n cs r s d x hl g ok hx)
    · exact core w r s d v n cs hl hr x r s d n cs hl hl (fun W u g => spec_withRoom_no W u n cs r s d x hl g ok) (fun W u g => impl_WithRoom_no W u n cs r s d x hl g ok)
  · obtain ⟨a, c, rfl⟩ := hr.shape
    have X := Blk.new w 40 #[.int .i64 r, .int .i64 s, .slice a n c, .int .i64 d]
    obtain ⟨q0, q1, q2, q3⟩ := blk4 X
    go_enter Try.func14, Try.ntmps14
    go_wp2_with fail
    refine (stYear.sz_no _ r s d a n c _ (by omega) (by omega) hm).mono ?_; rintro e w1 ⟨rfl, hb⟩
    clear q0 q1 q2 q3
    go_wp2
    go_ret
    exact ⟨rfl, below_step (below_al (Below.refl _ _) _) hb⟩
end Go.Proofs.Ytojahddamdlcpaa.wFnExactWithRoom
