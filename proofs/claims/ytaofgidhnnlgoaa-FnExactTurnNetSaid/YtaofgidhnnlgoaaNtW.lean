/- The exact laws on nets of pipes return true. -/
import Derived.Test.YtaofgidhnnlgoaaNetK
import Derived.Test.YtaofgidhnnlgoaaNetE2
import Derived.Test.YtaofgidhnnlgoaaNetG2
set_option linter.unusedVariables false
namespace Go.Proofs.Ytaofgidhnnlgoaa.wFnExactNetOk
open Go.RowKit Go.Proofs.Ytaofgidhnnlgoaa.kit Go.Proofs.Ytaofgidhnnlgoaa.lawi Go.Proofs.Ytaofgidhnnlgoaa.own Go.Proofs.Ytaofgidhnnlgoaa.rain Go.Proofs.Ytaofgidhnnlgoaa.yrl Go.Proofs.Ytaofgidhnnlgoaa.net Go.Proofs.Ytaofgidhnnlgoaa.nt
set_option maxRecDepth 100000 in
set_option maxHeartbeats 4000000 in
theorem core (w : World) (f0_0 : Int) (v0_1 : Value) (n0_1 : Nat) (zs0_1 : List Int) (hn0_1 : n0_1 ≤ 1048576) (h0_1 : Row 3 w v0_1 n0_1 (zs0_1.map (Value.int .i64))) (r0 : Bool)
    (hsum : n0_1 ≤ 1048576)
    (hs : ∀ W u0_1, Row 3 W u0_1 n0_1 (zs0_1.map (Value.int .i64)) → Calls Try.prog 20 #[stNet.R f0_0 u0_1] W (Gives W (.bool r0)))
    (hi : ∀ W u0_1, Row 3 W u0_1 n0_1 (zs0_1.map (Value.int .i64)) → Calls Try.prog 16 #[stNet.R f0_0 u0_1] W (Gives W (.bool r0))) :
    Calls Try.prog 4 #[stNet.R f0_0 v0_1] w (Gives w (.bool true)) := by
  obtain ⟨b0_1, c0_1, rfl⟩ := h0_1.shape
  have H0_1 := Lib.hid h0_1
  clear h0_1
  have HS := Lib.hid hs
  have HI := Lib.hid hi
  clear hs hi
  have X_a0 : Blk (w.alloc (.cells #[(.int .i64 f0_0), (.slice b0_1 n0_1 c0_1)] 42)) w.heap.size 42 #[(.int .i64 f0_0), (.slice b0_1 n0_1 c0_1)] := by
    have := Blk.new w 42 #[(.int .i64 f0_0), (.slice b0_1 n0_1 c0_1)]
    simpa using this
  replace X_a0 := Lib.hid X_a0
  have B : Below w.heap.size w (w.alloc (.cells #[(.int .i64 f0_0), (.slice b0_1 n0_1 c0_1)] 42)) := below_al (Below.refl _ _) _
  have zzb : (w.alloc (.cells #[(.int .i64 f0_0), (.slice b0_1 n0_1 c0_1)] 42)).heap.size = w.heap.size + 1 := by simp
  go_enter Try.func4, Try.ntmps4
  have q_a0_0 := X_a0.out.cell 0
  have q_a0_1 := X_a0.out.cell 1
  go_wp2_with fail
  refine (stNet.sz_yes _ _ _ n0_1 c0_1 _ (by omega) (by omega)).mono ?_; rintro e w1 ⟨rfl, hb⟩
  clear q_a0_0 q_a0_1
  replace X_a0 := Lib.hid (X_a0.out.step hb)
  replace B := below_step B hb
  have zz1 := hb.size
  clear hb
  have q_a0_0 := X_a0.out.cell 0
  have q_a0_1 := X_a0.out.cell 1
  go_wp2_with fail
  refine (stNet.to_got _ _ _ n0_1 zs0_1 hn0_1 (H0_1.out.keep B)).mono ?_; rintro e w2 ⟨t1, l_o0_0, h_o0_0, rfl, ⟨o0_0, lo_o0_0⟩, hb⟩
  clear q_a0_0 q_a0_1
  replace X_a0 := Lib.hid (X_a0.out.step hb)
  replace B := below_step B hb
  have zz2 := hb.size
  have hi_o0_0 := o0_0.2.2
  clear hb
  go_wp2_with fail
  refine (HS.out _ _ o0_0.row).mono ?_; rintro e w3 ⟨rfl, hb⟩
  replace o0_0 := o0_0.keep hb
  replace X_a0 := Lib.hid (X_a0.out.step hb)
  replace B := below_step B hb
  have zz3 := hb.size
  clear hb
  clear o0_0
  have q_a0_0 := X_a0.out.cell 0
  have q_a0_1 := X_a0.out.cell 1
  go_wp2_with fail
  refine (stNet.to_got _ _ _ n0_1 zs0_1 hn0_1 (H0_1.out.keep B)).mono ?_; rintro e w4 ⟨t2, l_x0_0, h_x0_0, rfl, ⟨x0_0, lo_x0_0⟩, hb⟩
  clear q_a0_0 q_a0_1
  replace X_a0 := Lib.hid (X_a0.out.step hb)
  replace B := below_step B hb
  have zz4 := hb.size
  have hi_x0_0 := x0_0.2.2
  clear hb
  obtain ⟨ba_x00, ca_x00, rfl⟩ := own_shape x0_0.own
  have hb : Below w4.heap.size w4 (w4.alloc (.cells #[(.int .i64 f0_0), (.slice ba_x00 n0_1 ca_x00)] 26)) := below_al (Below.refl _ _) _
  replace x0_0 := x0_0.keep hb
  replace X_a0 := Lib.hid (X_a0.out.step hb)
  replace B := below_step B hb
  have zz5 := hb.size
  have X_x0 : Blk (w4.alloc (.cells #[(.int .i64 f0_0), (.slice ba_x00 n0_1 ca_x00)] 26)) w4.heap.size 26 #[(.int .i64 f0_0), (.slice ba_x00 n0_1 ca_x00)] := by
    have := Blk.new w4 26 #[(.int .i64 f0_0), (.slice ba_x00 n0_1 ca_x00)]
    simpa using this
  replace X_x0 := Lib.hid X_x0
  have zy5 : (w4.alloc (.cells #[(.int .i64 f0_0), (.slice ba_x00 n0_1 ca_x00)] 26)).heap.size = w4.heap.size + 1 := by simp
  clear hb
  have q_x0_0 := X_x0.out.cell 0
  have q_x0_1 := X_x0.out.cell 1
  go_wp2_with fail
  refine (HI.out _ _ x0_0.row).mono ?_; rintro e w6 ⟨rfl, hb⟩
  clear q_x0_0 q_x0_1
  replace x0_0 := x0_0.keep hb
  replace X_a0 := Lib.hid (X_a0.out.step hb)
  replace X_x0 := Lib.hid (X_x0.out.step hb)
  replace B := below_step B hb
  have zz6 := hb.size
  clear hb
  have q_x0_0 := X_x0.out.cell 0
  have q_x0_1 := X_x0.out.cell 1
  have q_a0_0 := X_a0.out.cell 0
  have q_a0_1 := X_a0.out.cell 1
  go_wp2
  go_region_held3 (fun W => W.cell? ⟨w4.heap.size, 0, none⟩ = some (.int .i64 f0_0) ∧ W.cell? ⟨w4.heap.size, 1, none⟩ = some (.slice ba_x00 n0_1 ca_x00) ∧ W.cell? ⟨w.heap.size, 0, none⟩ = some (.int .i64 f0_0) ∧ W.cell? ⟨w.heap.size, 1, none⟩ = some (.slice b0_1 n0_1 c0_1)) (first | assumption | exact ⟨q_x0_0, q_x0_1, q_a0_0, q_a0_1⟩ | exact keep4 (by assumption) (by assumption) | fail)
    (first
      | (go_at_call 21; refine (stNet.to_got _ _ _ n0_1 zs0_1 hn0_1 (H0_1.out.keep (by repeat (first | assumption | (with_reducible exact Below.refl _ _) | (with_reducible refine below_dr ?_) | (with_reducible refine below_al ?_ _) | (with_reducible refine below_step ?_ (by assumption)) | fail)))).mono ?_; rintro e wt ⟨tc0, lc0, hc0, rfl, ⟨oc0, _⟩, hbt⟩)
      | (go_at_call 22; refine (stNet.eq_yes _ _ _ _ n0_1 zs0_1 hn0_1 (x0_0.keep (by repeat (first | assumption | (with_reducible exact Below.refl _ _) | (with_reducible refine below_dr ?_) | (with_reducible refine below_al ?_ _) | (with_reducible refine below_step ?_ (by assumption)) | fail))).row oc0.row).mono ?_; rintro e w7 ⟨rfl, hb⟩)
      | fail)
  have hc : Below w6.heap.size w6 w7 := (by repeat (first | assumption | (with_reducible exact Below.refl _ _) | (with_reducible refine below_dr ?_) | (with_reducible refine below_al ?_ _) | (with_reducible refine below_step ?_ (by assumption)) | fail))
  clear q_x0_0 q_x0_1 q_a0_0 q_a0_1 hb hbt oc0
  replace x0_0 := x0_0.keep hc
  replace X_a0 := Lib.hid (X_a0.out.step hc)
  replace X_x0 := Lib.hid (X_x0.out.step hc)
  replace B := below_step B hc
  have zz7 := hc.size
  clear hc
  go_wp2
  go_ret
  exact ⟨rfl, B⟩
theorem walk (w : World) (P : Int) (v : Value) (n : Nat) (zs : List Int) (hr : Row 3 w v n (zs.map (Value.int .i64))) (hm : n ≤ 9223372036854775807) (_ : (Lit.int .i64 P).wf = true) : Calls Try.prog 4 #[stNet.R P v] w fun e w' => e = .returned (.bool true) ∧ Below w.heap.size w w' := by
  classical
  by_cases hl : n ≤ 1048576
  · exact core w P v n zs hl hr (decide (NO P n zs)) hl (fun W u g => spec_nok W P u n zs hl g _ decide_eq_true_iff) (fun W u g => impl_nok W P u n zs hl g _ decide_eq_true_iff)
  · obtain ⟨a, c, rfl⟩ := hr.shape
    have X := Blk.new w 42 #[.int .i64 P, .slice a n c]
    obtain ⟨q0, q1⟩ := stNet.blk_ X
    go_enter Try.func4, Try.ntmps4
    go_wp2_with fail
    refine (stNet.sz_no _ P a n c _ (by omega) (by omega) hm).mono ?_; rintro e w1 ⟨rfl, hb⟩
    clear q0 q1
    go_wp2
    go_ret
    exact ⟨rfl, below_step (below_al (Below.refl _ _) _) hb⟩
end Go.Proofs.Ytaofgidhnnlgoaa.wFnExactNetOk
namespace Go.Proofs.Ytaofgidhnnlgoaa.wFnExactReachedBy
open Go.RowKit Go.Proofs.Ytaofgidhnnlgoaa.kit Go.Proofs.Ytaofgidhnnlgoaa.lawi Go.Proofs.Ytaofgidhnnlgoaa.own Go.Proofs.Ytaofgidhnnlgoaa.rain Go.Proofs.Ytaofgidhnnlgoaa.yrl Go.Proofs.Ytaofgidhnnlgoaa.net Go.Proofs.Ytaofgidhnnlgoaa.nt
set_option maxRecDepth 100000 in
set_option maxHeartbeats 4000000 in
theorem core (w : World) (f0_0 : Int) (v0_1 : Value) (n0_1 : Nat) (zs0_1 : List Int) (hn0_1 : n0_1 ≤ 1048576) (h0_1 : Row 3 w v0_1 n0_1 (zs0_1.map (Value.int .i64))) (a1 : Int) (m0 : Nat) (ys0 : List Int) (hm0 : m0 ≤ 1048576)
    (hsum : n0_1 ≤ 1048576)
    (hs : ∀ W u0_1, Row 3 W u0_1 n0_1 (zs0_1.map (Value.int .i64)) → Calls Try.prog 23 #[stNet.R f0_0 u0_1, .int .i64 a1] W (fun e W' => ∃ t, e = .returned (t) ∧ W'.ownsRow W.heap.size 3 1 t m0 (ys0.map (Value.int .i64)) ∧ Below W.heap.size W W'))
    (hi : ∀ W u0_1, Row 3 W u0_1 n0_1 (zs0_1.map (Value.int .i64)) → Calls Try.prog 13 #[stNet.R f0_0 u0_1, .int .i64 a1] W (fun e W' => ∃ t, e = .returned (t) ∧ W'.ownsRow W.heap.size 3 1 t m0 (ys0.map (Value.int .i64)) ∧ Below W.heap.size W W')) :
    Calls Try.prog 5 #[stNet.R f0_0 v0_1, .int .i64 a1] w (Gives w (.bool true)) := by
  obtain ⟨b0_1, c0_1, rfl⟩ := h0_1.shape
  have H0_1 := Lib.hid h0_1
  clear h0_1
  have HS := Lib.hid hs
  have HI := Lib.hid hi
  clear hs hi
  have X_a0 : Blk (w.alloc (.cells #[(.int .i64 f0_0), (.slice b0_1 n0_1 c0_1)] 42)) w.heap.size 42 #[(.int .i64 f0_0), (.slice b0_1 n0_1 c0_1)] := by
    have := Blk.new w 42 #[(.int .i64 f0_0), (.slice b0_1 n0_1 c0_1)]
    simpa using this
  replace X_a0 := Lib.hid X_a0
  have B : Below w.heap.size w (w.alloc (.cells #[(.int .i64 f0_0), (.slice b0_1 n0_1 c0_1)] 42)) := below_al (Below.refl _ _) _
  have zzb : (w.alloc (.cells #[(.int .i64 f0_0), (.slice b0_1 n0_1 c0_1)] 42)).heap.size = w.heap.size + 1 := by simp
  go_enter Try.func5, Try.ntmps5
  have q_a0_0 := X_a0.out.cell 0
  have q_a0_1 := X_a0.out.cell 1
  go_wp2_with fail
  refine (stNet.sz_yes _ _ _ n0_1 c0_1 _ (by omega) (by omega)).mono ?_; rintro e w1 ⟨rfl, hb⟩
  clear q_a0_0 q_a0_1
  replace X_a0 := Lib.hid (X_a0.out.step hb)
  replace B := below_step B hb
  have zz1 := hb.size
  clear hb
  have q_a0_0 := X_a0.out.cell 0
  have q_a0_1 := X_a0.out.cell 1
  go_wp2_with fail
  refine (stNet.to_got _ _ _ n0_1 zs0_1 hn0_1 (H0_1.out.keep B)).mono ?_; rintro e w2 ⟨t1, l_o0_0, h_o0_0, rfl, ⟨o0_0, lo_o0_0⟩, hb⟩
  clear q_a0_0 q_a0_1
  replace X_a0 := Lib.hid (X_a0.out.step hb)
  replace B := below_step B hb
  have zz2 := hb.size
  have hi_o0_0 := o0_0.2.2
  clear hb
  go_wp2_with fail
  refine (HS.out _ _ o0_0.row).mono ?_; rintro e w3 ⟨t2, rfl, ho, hb⟩
  replace o0_0 := o0_0.keep hb
  replace X_a0 := Lib.hid (X_a0.out.step hb)
  replace B := below_step B hb
  have zz3 := hb.size
  have s := OwnR.of_own ho
  clear hb ho
  clear o0_0
  have q_a0_0 := X_a0.out.cell 0
  have q_a0_1 := X_a0.out.cell 1
  go_wp2_with fail
  refine (stNet.to_got _ _ _ n0_1 zs0_1 hn0_1 (H0_1.out.keep B)).mono ?_; rintro e w4 ⟨t3, l_x0_0, h_x0_0, rfl, ⟨x0_0, lo_x0_0⟩, hb⟩
  clear q_a0_0 q_a0_1
  replace s := s.keep hb
  replace X_a0 := Lib.hid (X_a0.out.step hb)
  replace B := below_step B hb
  have zz4 := hb.size
  have hi_x0_0 := x0_0.2.2
  clear hb
  obtain ⟨ba_x00, ca_x00, rfl⟩ := own_shape x0_0.own
  have hb : Below w4.heap.size w4 (w4.alloc (.cells #[(.int .i64 f0_0), (.slice ba_x00 n0_1 ca_x00)] 26)) := below_al (Below.refl _ _) _
  replace s := s.keep hb
  replace x0_0 := x0_0.keep hb
  replace X_a0 := Lib.hid (X_a0.out.step hb)
  replace B := below_step B hb
  have zz5 := hb.size
  have X_x0 : Blk (w4.alloc (.cells #[(.int .i64 f0_0), (.slice ba_x00 n0_1 ca_x00)] 26)) w4.heap.size 26 #[(.int .i64 f0_0), (.slice ba_x00 n0_1 ca_x00)] := by
    have := Blk.new w4 26 #[(.int .i64 f0_0), (.slice ba_x00 n0_1 ca_x00)]
    simpa using this
  replace X_x0 := Lib.hid X_x0
  have zy5 : (w4.alloc (.cells #[(.int .i64 f0_0), (.slice ba_x00 n0_1 ca_x00)] 26)).heap.size = w4.heap.size + 1 := by simp
  clear hb
  have q_x0_0 := X_x0.out.cell 0
  have q_x0_1 := X_x0.out.cell 1
  go_wp2_with fail
  refine (HI.out _ _ x0_0.row).mono ?_; rintro e w6 ⟨t4, rfl, ho, hb⟩
  clear q_x0_0 q_x0_1
  replace s := s.keep hb
  replace x0_0 := x0_0.keep hb
  replace X_a0 := Lib.hid (X_a0.out.step hb)
  replace X_x0 := Lib.hid (X_x0.out.step hb)
  replace B := below_step B hb
  have zz6 := hb.size
  have g := OwnR.of_own ho
  clear hb ho
  go_wp2_with fail
  refine (eqInt_gives _ _ _ m0 ys0 hm0 g.row s.row).mono ?_; rintro e w7 ⟨rfl, hb⟩
  replace s := s.keep hb
  replace x0_0 := x0_0.keep hb
  replace g := g.keep hb
  replace X_a0 := Lib.hid (X_a0.out.step hb)
  replace X_x0 := Lib.hid (X_x0.out.step hb)
  replace B := below_step B hb
  have zz7 := hb.size
  clear hb
  have q_x0_0 := X_x0.out.cell 0
  have q_x0_1 := X_x0.out.cell 1
  have q_a0_0 := X_a0.out.cell 0
  have q_a0_1 := X_a0.out.cell 1
  go_wp2
  go_region_held3 (fun W => W.cell? ⟨w4.heap.size, 0, none⟩ = some (.int .i64 f0_0) ∧ W.cell? ⟨w4.heap.size, 1, none⟩ = some (.slice ba_x00 n0_1 ca_x00) ∧ W.cell? ⟨w.heap.size, 0, none⟩ = some (.int .i64 f0_0) ∧ W.cell? ⟨w.heap.size, 1, none⟩ = some (.slice b0_1 n0_1 c0_1)) (first | assumption | exact ⟨q_x0_0, q_x0_1, q_a0_0, q_a0_1⟩ | exact keep4 (by assumption) (by assumption) | fail)
    (first
      | (go_at_call 21; refine (stNet.to_got _ _ _ n0_1 zs0_1 hn0_1 (H0_1.out.keep (by repeat (first | assumption | (with_reducible exact Below.refl _ _) | (with_reducible refine below_dr ?_) | (with_reducible refine below_al ?_ _) | (with_reducible refine below_step ?_ (by assumption)) | fail)))).mono ?_; rintro e wt ⟨tc0, lc0, hc0, rfl, ⟨oc0, _⟩, hbt⟩)
      | (go_at_call 22; refine (stNet.eq_yes _ _ _ _ n0_1 zs0_1 hn0_1 (x0_0.keep (by repeat (first | assumption | (with_reducible exact Below.refl _ _) | (with_reducible refine below_dr ?_) | (with_reducible refine below_al ?_ _) | (with_reducible refine below_step ?_ (by assumption)) | fail))).row oc0.row).mono ?_; rintro e w8 ⟨rfl, hb⟩)
      | fail)
  have hc : Below w7.heap.size w7 w8 := (by repeat (first | assumption | (with_reducible exact Below.refl _ _) | (with_reducible refine below_dr ?_) | (with_reducible refine below_al ?_ _) | (with_reducible refine below_step ?_ (by assumption)) | fail))
  clear q_x0_0 q_x0_1 q_a0_0 q_a0_1 hb hbt oc0
  replace s := s.keep hc
  replace x0_0 := x0_0.keep hc
  replace g := g.keep hc
  replace X_a0 := Lib.hid (X_a0.out.step hc)
  replace X_x0 := Lib.hid (X_x0.out.step hc)
  replace B := below_step B hc
  have zz8 := hc.size
  clear hc
  have q_x0_0 := X_x0.out.cell 0
  have q_x0_1 := X_x0.out.cell 1
  go_wp2_with fail
  refine (stNet.mark_own _ _ 1 _ (by omega) _ _ _ n0_1 _ x0_0  (by omega)).mono ?_; rintro e w9 ⟨rfl, om0, ch0⟩
  clear q_x0_0 q_x0_1
  have zz9_0 := ch0.size
  replace s := s.chg ch0 (by omega)
  replace g := g.chg ch0 (by omega)
  replace X_a0 := Lib.hid (Blk.chg X_a0.out ch0 (by omega))
  replace X_x0 := Lib.hid (Blk.chg X_x0.out ch0 (by omega))
  replace B := B.trans (ch0.below (B := w.heap.size) (by omega) (by omega))
  replace x0_0 := om0
  clear om0 ch0
  go_wp2_with fail
  refine (eqInt_gives _ _ _ m0 ys0 hm0 g.row s.row).mono ?_; rintro e w10 ⟨rfl, hb⟩
  replace s := s.keep hb
  replace x0_0 := x0_0.keep hb
  replace g := g.keep hb
  replace X_a0 := Lib.hid (X_a0.out.step hb)
  replace X_x0 := Lib.hid (X_x0.out.step hb)
  replace B := below_step B hb
  have zz10 := hb.size
  clear hb
  clear x0_0
  go_wp2_with fail
  refine (markInt_own _ _ _ _ m0 _ 1 _ (by omega) (by omega) g).mono ?_; rintro e w11 ⟨rfl, om, ch⟩
  have zz11_0 := ch.size
  replace s := s.chg ch (by omega)
  replace X_a0 := Lib.hid (Blk.chg X_a0.out ch (by omega))
  replace X_x0 := Lib.hid (Blk.chg X_x0.out ch (by omega))
  replace B := B.trans (ch.below (B := w.heap.size) (by omega) (by omega))
  replace g := om
  clear om ch
  go_wp2_with fail
  refine (heldInt_gives _ _ m0 1 _ rfl (by omega) g.row).mono ?_; rintro e w12 ⟨rfl, hb⟩
  replace s := s.keep hb
  replace g := g.keep hb
  replace X_a0 := Lib.hid (X_a0.out.step hb)
  replace X_x0 := Lib.hid (X_x0.out.step hb)
  replace B := below_step B hb
  have zz12 := hb.size
  clear hb
  have q_a0_0 := X_a0.out.cell 0
  have q_a0_1 := X_a0.out.cell 1
  go_wp2_with fail
  refine (stNet.to_got _ _ _ n0_1 zs0_1 hn0_1 (H0_1.out.keep B)).mono ?_; rintro e w13 ⟨t5, l_p0_0, h_p0_0, rfl, ⟨p0_0, lo_p0_0⟩, hb⟩
  clear q_a0_0 q_a0_1
  replace s := s.keep hb
  replace g := g.keep hb
  replace X_a0 := Lib.hid (X_a0.out.step hb)
  replace X_x0 := Lib.hid (X_x0.out.step hb)
  replace B := below_step B hb
  have zz13 := hb.size
  have hi_p0_0 := p0_0.2.2
  clear hb
  go_wp2_with fail
  refine (HI.out _ _ p0_0.row).mono ?_; rintro e w14 ⟨t6, rfl, ho, hb⟩
  replace s := s.keep hb
  replace g := g.keep hb
  replace p0_0 := p0_0.keep hb
  replace X_a0 := Lib.hid (X_a0.out.step hb)
  replace X_x0 := Lib.hid (X_x0.out.step hb)
  replace B := below_step B hb
  have zz14 := hb.size
  have h := OwnR.of_own ho
  clear hb ho
  clear p0_0
  go_wp2_with fail
  refine (eqInt_gives _ _ _ m0 ys0 hm0 h.row s.row).mono ?_; rintro e w15 ⟨rfl, hb⟩
  replace s := s.keep hb
  replace g := g.keep hb
  replace h := h.keep hb
  replace X_a0 := Lib.hid (X_a0.out.step hb)
  replace X_x0 := Lib.hid (X_x0.out.step hb)
  replace B := below_step B hb
  have zz15 := hb.size
  clear hb
  clear h
  clear s
  go_wp2_with fail
  refine (heldInt_gives _ _ m0 1 _ rfl (by omega) g.row).mono ?_; rintro e w16 ⟨rfl, hb⟩
  replace g := g.keep hb
  replace X_a0 := Lib.hid (X_a0.out.step hb)
  replace X_x0 := Lib.hid (X_x0.out.step hb)
  replace B := below_step B hb
  have zz16 := hb.size
  clear hb
  go_wp2
  go_ret
  exact ⟨rfl, B⟩
theorem walk (w : World) (P : Int) (v : Value) (n : Nat) (zs : List Int) (hr : Row 3 w v n (zs.map (Value.int .i64))) (hm : n ≤ 9223372036854775807) (_ : (Lit.int .i64 P).wf = true) (x : Int) (_ : (Lit.int .i64 x).wf = true) : Calls Try.prog 5 #[stNet.R P v, .int .i64 x] w fun e w' => e = .returned (.bool true) ∧ Below w.heap.size w w' := by
  classical
  by_cases hl : n ≤ 1048576
  · by_cases ok : NO P n zs ∧ 0 ≤ x ∧ x < P
    · have hq : ∀ k : Nat, (fun k : Nat => decide (Rch (pF zs) (pT zs) (pW zs) n 1 x k)) k = true ↔ Rch (pF zs) (pT zs) (pW zs) n 1 x k := fun k => decide_eq_true_iff
      exact core w P v n zs hl hr x (dy (fun k : Nat => decide (Rch (pF zs) (pT zs) (pW zs) n 1 x k)) 8).length (dy (fun k : Nat => decide (Rch (pF zs) (pT zs) (pW zs) n 1 x k)) 8) (Nat.le_trans (dy_len _ 8) (by decide)) hl (fun W u g => spec_by_yes W P u n zs g ok.1 x ok.2.1 ok.2.2 _ hq) (fun W u g => impl_by_yes W P u n zs g ok.1 x ok.2.1 ok.2.2 _ hq)
    · exact core w P v n zs hl hr x 0 [] (by decide) hl (fun W u g => spec_by_no W P u n zs hl g x ok) (fun W u g => impl_by_no W P u n zs hl g x ok)
  · obtain ⟨a, c, rfl⟩ := hr.shape
    have X := Blk.new w 42 #[.int .i64 P, .slice a n c]
    obtain ⟨q0, q1⟩ := stNet.blk_ X
    go_enter Try.func5, Try.ntmps5
    go_wp2_with fail
    refine (stNet.sz_no _ P a n c _ (by omega) (by omega) hm).mono ?_; rintro e w1 ⟨rfl, hb⟩
    clear q0 q1
    go_wp2
    go_ret
    exact ⟨rfl, below_step (below_al (Below.refl _ _) _) hb⟩
end Go.Proofs.Ytaofgidhnnlgoaa.wFnExactReachedBy
namespace Go.Proofs.Ytaofgidhnnlgoaa.wFnExactWidestWay
open Go.RowKit Go.Proofs.Ytaofgidhnnlgoaa.kit Go.Proofs.Ytaofgidhnnlgoaa.lawi Go.Proofs.Ytaofgidhnnlgoaa.own Go.Proofs.Ytaofgidhnnlgoaa.rain Go.Proofs.Ytaofgidhnnlgoaa.yrl Go.Proofs.Ytaofgidhnnlgoaa.net Go.Proofs.Ytaofgidhnnlgoaa.nt
set_option maxRecDepth 100000 in
set_option maxHeartbeats 4000000 in
theorem core (w : World) (f0_0 : Int) (v0_1 : Value) (n0_1 : Nat) (zs0_1 : List Int) (hn0_1 : n0_1 ≤ 1048576) (h0_1 : Row 3 w v0_1 n0_1 (zs0_1.map (Value.int .i64))) (a1 : Int) (a2 : Int) (r0 : Int)
    (hsum : n0_1 ≤ 1048576)
    (hs : ∀ W u0_1, Row 3 W u0_1 n0_1 (zs0_1.map (Value.int .i64)) → Calls Try.prog 28 #[stNet.R f0_0 u0_1, .int .i64 a1, .int .i64 a2] W (Gives W (.int .i64 r0)))
    (hi : ∀ W u0_1, Row 3 W u0_1 n0_1 (zs0_1.map (Value.int .i64)) → Calls Try.prog 12 #[stNet.R f0_0 u0_1, .int .i64 a1, .int .i64 a2] W (Gives W (.int .i64 r0))) :
    Calls Try.prog 6 #[stNet.R f0_0 v0_1, .int .i64 a1, .int .i64 a2] w (Gives w (.bool true)) := by
  obtain ⟨b0_1, c0_1, rfl⟩ := h0_1.shape
  have H0_1 := Lib.hid h0_1
  clear h0_1
  have HS := Lib.hid hs
  have HI := Lib.hid hi
  clear hs hi
  have X_a0 : Blk (w.alloc (.cells #[(.int .i64 f0_0), (.slice b0_1 n0_1 c0_1)] 42)) w.heap.size 42 #[(.int .i64 f0_0), (.slice b0_1 n0_1 c0_1)] := by
    have := Blk.new w 42 #[(.int .i64 f0_0), (.slice b0_1 n0_1 c0_1)]
    simpa using this
  replace X_a0 := Lib.hid X_a0
  have B : Below w.heap.size w (w.alloc (.cells #[(.int .i64 f0_0), (.slice b0_1 n0_1 c0_1)] 42)) := below_al (Below.refl _ _) _
  have zzb : (w.alloc (.cells #[(.int .i64 f0_0), (.slice b0_1 n0_1 c0_1)] 42)).heap.size = w.heap.size + 1 := by simp
  go_enter Try.func6, Try.ntmps6
  have q_a0_0 := X_a0.out.cell 0
  have q_a0_1 := X_a0.out.cell 1
  go_wp2_with fail
  refine (stNet.sz_yes _ _ _ n0_1 c0_1 _ (by omega) (by omega)).mono ?_; rintro e w1 ⟨rfl, hb⟩
  clear q_a0_0 q_a0_1
  replace X_a0 := Lib.hid (X_a0.out.step hb)
  replace B := below_step B hb
  have zz1 := hb.size
  clear hb
  have q_a0_0 := X_a0.out.cell 0
  have q_a0_1 := X_a0.out.cell 1
  go_wp2_with fail
  refine (stNet.to_got _ _ _ n0_1 zs0_1 hn0_1 (H0_1.out.keep B)).mono ?_; rintro e w2 ⟨t1, l_o0_0, h_o0_0, rfl, ⟨o0_0, lo_o0_0⟩, hb⟩
  clear q_a0_0 q_a0_1
  replace X_a0 := Lib.hid (X_a0.out.step hb)
  replace B := below_step B hb
  have zz2 := hb.size
  have hi_o0_0 := o0_0.2.2
  clear hb
  go_wp2_with fail
  refine (HS.out _ _ o0_0.row).mono ?_; rintro e w3 ⟨rfl, hb⟩
  replace o0_0 := o0_0.keep hb
  replace X_a0 := Lib.hid (X_a0.out.step hb)
  replace B := below_step B hb
  have zz3 := hb.size
  clear hb
  clear o0_0
  have q_a0_0 := X_a0.out.cell 0
  have q_a0_1 := X_a0.out.cell 1
  go_wp2_with fail
  refine (stNet.to_got _ _ _ n0_1 zs0_1 hn0_1 (H0_1.out.keep B)).mono ?_; rintro e w4 ⟨t2, l_x0_0, h_x0_0, rfl, ⟨x0_0, lo_x0_0⟩, hb⟩
  clear q_a0_0 q_a0_1
  replace X_a0 := Lib.hid (X_a0.out.step hb)
  replace B := below_step B hb
  have zz4 := hb.size
  have hi_x0_0 := x0_0.2.2
  clear hb
  obtain ⟨ba_x00, ca_x00, rfl⟩ := own_shape x0_0.own
  have hb : Below w4.heap.size w4 (w4.alloc (.cells #[(.int .i64 f0_0), (.slice ba_x00 n0_1 ca_x00)] 26)) := below_al (Below.refl _ _) _
  replace x0_0 := x0_0.keep hb
  replace X_a0 := Lib.hid (X_a0.out.step hb)
  replace B := below_step B hb
  have zz5 := hb.size
  have X_x0 : Blk (w4.alloc (.cells #[(.int .i64 f0_0), (.slice ba_x00 n0_1 ca_x00)] 26)) w4.heap.size 26 #[(.int .i64 f0_0), (.slice ba_x00 n0_1 ca_x00)] := by
    have := Blk.new w4 26 #[(.int .i64 f0_0), (.slice ba_x00 n0_1 ca_x00)]
    simpa using this
  replace X_x0 := Lib.hid X_x0
  have zy5 : (w4.alloc (.cells #[(.int .i64 f0_0), (.slice ba_x00 n0_1 ca_x00)] 26)).heap.size = w4.heap.size + 1 := by simp
  clear hb
  have q_x0_0 := X_x0.out.cell 0
  have q_x0_1 := X_x0.out.cell 1
  go_wp2_with fail
  refine (HI.out _ _ x0_0.row).mono ?_; rintro e w6 ⟨rfl, hb⟩
  clear q_x0_0 q_x0_1
  replace x0_0 := x0_0.keep hb
  replace X_a0 := Lib.hid (X_a0.out.step hb)
  replace X_x0 := Lib.hid (X_x0.out.step hb)
  replace B := below_step B hb
  have zz6 := hb.size
  clear hb
  have q_x0_0 := X_x0.out.cell 0
  have q_x0_1 := X_x0.out.cell 1
  have q_a0_0 := X_a0.out.cell 0
  have q_a0_1 := X_a0.out.cell 1
  go_wp2
  go_region_held3 (fun W => W.cell? ⟨w4.heap.size, 0, none⟩ = some (.int .i64 f0_0) ∧ W.cell? ⟨w4.heap.size, 1, none⟩ = some (.slice ba_x00 n0_1 ca_x00) ∧ W.cell? ⟨w.heap.size, 0, none⟩ = some (.int .i64 f0_0) ∧ W.cell? ⟨w.heap.size, 1, none⟩ = some (.slice b0_1 n0_1 c0_1)) (first | assumption | exact ⟨q_x0_0, q_x0_1, q_a0_0, q_a0_1⟩ | exact keep4 (by assumption) (by assumption) | fail)
    (first
      | (go_at_call 21; refine (stNet.to_got _ _ _ n0_1 zs0_1 hn0_1 (H0_1.out.keep (by repeat (first | assumption | (with_reducible exact Below.refl _ _) | (with_reducible refine below_dr ?_) | (with_reducible refine below_al ?_ _) | (with_reducible refine below_step ?_ (by assumption)) | fail)))).mono ?_; rintro e wt ⟨tc0, lc0, hc0, rfl, ⟨oc0, _⟩, hbt⟩)
      | (go_at_call 22; refine (stNet.eq_yes _ _ _ _ n0_1 zs0_1 hn0_1 (x0_0.keep (by repeat (first | assumption | (with_reducible exact Below.refl _ _) | (with_reducible refine below_dr ?_) | (with_reducible refine below_al ?_ _) | (with_reducible refine below_step ?_ (by assumption)) | fail))).row oc0.row).mono ?_; rintro e w7 ⟨rfl, hb⟩)
      | fail)
  have hc : Below w6.heap.size w6 w7 := (by repeat (first | assumption | (with_reducible exact Below.refl _ _) | (with_reducible refine below_dr ?_) | (with_reducible refine below_al ?_ _) | (with_reducible refine below_step ?_ (by assumption)) | fail))
  clear q_x0_0 q_x0_1 q_a0_0 q_a0_1 hb hbt oc0
  replace x0_0 := x0_0.keep hc
  replace X_a0 := Lib.hid (X_a0.out.step hc)
  replace X_x0 := Lib.hid (X_x0.out.step hc)
  replace B := below_step B hc
  have zz7 := hc.size
  clear hc
  go_wp2
  go_ret
  exact ⟨rfl, B⟩
theorem walk (w : World) (P : Int) (v : Value) (n : Nat) (zs : List Int) (hr : Row 3 w v n (zs.map (Value.int .i64))) (hm : n ≤ 9223372036854775807) (_ : (Lit.int .i64 P).wf = true) (x : Int) (_ : (Lit.int .i64 x).wf = true) (y : Int) (_ : (Lit.int .i64 y).wf = true) : Calls Try.prog 6 #[stNet.R P v, .int .i64 x, .int .i64 y] w fun e w' => e = .returned (.bool true) ∧ Below w.heap.size w w' := by
  classical
  by_cases hl : n ≤ 1048576
  · by_cases two : Two P n zs x y
    · obtain ⟨m, h⟩ := Wide.ex (F := pF zs) (T := pT zs) (W := pW zs) (m := n) (Ne.symm two.2.2.2)
      exact core w P v n zs hl hr x y m hl (fun W u g => spec_wide_yes W P u n zs g x y two m h) (fun W u g => impl_wide_yes W P u n zs g x y two m h)
    · exact core w P v n zs hl hr x y (-1) hl (fun W u g => spec_wide_no W P u n zs hl g x y two) (fun W u g => impl_wide_no W P u n zs hl g x y two)
  · obtain ⟨a, c, rfl⟩ := hr.shape
    have X := Blk.new w 42 #[.int .i64 P, .slice a n c]
    obtain ⟨q0, q1⟩ := stNet.blk_ X
    go_enter Try.func6, Try.ntmps6
    go_wp2_with fail
    refine (stNet.sz_no _ P a n c _ (by omega) (by omega) hm).mono ?_; rintro e w1 ⟨rfl, hb⟩
    clear q0 q1
    go_wp2
    go_ret
    exact ⟨rfl, below_step (below_al (Below.refl _ _) _) hb⟩
end Go.Proofs.Ytaofgidhnnlgoaa.wFnExactWidestWay
namespace Go.Proofs.Ytaofgidhnnlgoaa.wFnExactOutOf
open Go.RowKit Go.Proofs.Ytaofgidhnnlgoaa.kit Go.Proofs.Ytaofgidhnnlgoaa.lawi Go.Proofs.Ytaofgidhnnlgoaa.own Go.Proofs.Ytaofgidhnnlgoaa.rain Go.Proofs.Ytaofgidhnnlgoaa.yrl Go.Proofs.Ytaofgidhnnlgoaa.net Go.Proofs.Ytaofgidhnnlgoaa.nt
set_option maxRecDepth 100000 in
set_option maxHeartbeats 4000000 in
theorem core (w : World) (f0_0 : Int) (v0_1 : Value) (n0_1 : Nat) (zs0_1 : List Int) (hn0_1 : n0_1 ≤ 1048576) (h0_1 : Row 3 w v0_1 n0_1 (zs0_1.map (Value.int .i64))) (a1 : Int) (r0 : Int)
    (hsum : n0_1 ≤ 1048576)
    (hs : ∀ W u0_1, Row 3 W u0_1 n0_1 (zs0_1.map (Value.int .i64)) → Calls Try.prog 29 #[stNet.R f0_0 u0_1, .int .i64 a1] W (Gives W (.int .i64 r0)))
    (hi : ∀ W u0_1, Row 3 W u0_1 n0_1 (zs0_1.map (Value.int .i64)) → Calls Try.prog 17 #[stNet.R f0_0 u0_1, .int .i64 a1] W (Gives W (.int .i64 r0))) :
    Calls Try.prog 7 #[stNet.R f0_0 v0_1, .int .i64 a1] w (Gives w (.bool true)) := by
  obtain ⟨b0_1, c0_1, rfl⟩ := h0_1.shape
  have H0_1 := Lib.hid h0_1
  clear h0_1
  have HS := Lib.hid hs
  have HI := Lib.hid hi
  clear hs hi
  have X_a0 : Blk (w.alloc (.cells #[(.int .i64 f0_0), (.slice b0_1 n0_1 c0_1)] 42)) w.heap.size 42 #[(.int .i64 f0_0), (.slice b0_1 n0_1 c0_1)] := by
    have := Blk.new w 42 #[(.int .i64 f0_0), (.slice b0_1 n0_1 c0_1)]
    simpa using this
  replace X_a0 := Lib.hid X_a0
  have B : Below w.heap.size w (w.alloc (.cells #[(.int .i64 f0_0), (.slice b0_1 n0_1 c0_1)] 42)) := below_al (Below.refl _ _) _
  have zzb : (w.alloc (.cells #[(.int .i64 f0_0), (.slice b0_1 n0_1 c0_1)] 42)).heap.size = w.heap.size + 1 := by simp
  go_enter Try.func7, Try.ntmps7
  have q_a0_0 := X_a0.out.cell 0
  have q_a0_1 := X_a0.out.cell 1
  go_wp2_with fail
  refine (stNet.sz_yes _ _ _ n0_1 c0_1 _ (by omega) (by omega)).mono ?_; rintro e w1 ⟨rfl, hb⟩
  clear q_a0_0 q_a0_1
  replace X_a0 := Lib.hid (X_a0.out.step hb)
  replace B := below_step B hb
  have zz1 := hb.size
  clear hb
  have q_a0_0 := X_a0.out.cell 0
  have q_a0_1 := X_a0.out.cell 1
  go_wp2_with fail
  refine (stNet.to_got _ _ _ n0_1 zs0_1 hn0_1 (H0_1.out.keep B)).mono ?_; rintro e w2 ⟨t1, l_o0_0, h_o0_0, rfl, ⟨o0_0, lo_o0_0⟩, hb⟩
  clear q_a0_0 q_a0_1
  replace X_a0 := Lib.hid (X_a0.out.step hb)
  replace B := below_step B hb
  have zz2 := hb.size
  have hi_o0_0 := o0_0.2.2
  clear hb
  go_wp2_with fail
  refine (HS.out _ _ o0_0.row).mono ?_; rintro e w3 ⟨rfl, hb⟩
  replace o0_0 := o0_0.keep hb
  replace X_a0 := Lib.hid (X_a0.out.step hb)
  replace B := below_step B hb
  have zz3 := hb.size
  clear hb
  clear o0_0
  have q_a0_0 := X_a0.out.cell 0
  have q_a0_1 := X_a0.out.cell 1
  go_wp2_with fail
  refine (stNet.to_got _ _ _ n0_1 zs0_1 hn0_1 (H0_1.out.keep B)).mono ?_; rintro e w4 ⟨t2, l_x0_0, h_x0_0, rfl, ⟨x0_0, lo_x0_0⟩, hb⟩
  clear q_a0_0 q_a0_1
  replace X_a0 := Lib.hid (X_a0.out.step hb)
  replace B := below_step B hb
  have zz4 := hb.size
  have hi_x0_0 := x0_0.2.2
  clear hb
  obtain ⟨ba_x00, ca_x00, rfl⟩ := own_shape x0_0.own
  have hb : Below w4.heap.size w4 (w4.alloc (.cells #[(.int .i64 f0_0), (.slice ba_x00 n0_1 ca_x00)] 26)) := below_al (Below.refl _ _) _
  replace x0_0 := x0_0.keep hb
  replace X_a0 := Lib.hid (X_a0.out.step hb)
  replace B := below_step B hb
  have zz5 := hb.size
  have X_x0 : Blk (w4.alloc (.cells #[(.int .i64 f0_0), (.slice ba_x00 n0_1 ca_x00)] 26)) w4.heap.size 26 #[(.int .i64 f0_0), (.slice ba_x00 n0_1 ca_x00)] := by
    have := Blk.new w4 26 #[(.int .i64 f0_0), (.slice ba_x00 n0_1 ca_x00)]
    simpa using this
  replace X_x0 := Lib.hid X_x0
  have zy5 : (w4.alloc (.cells #[(.int .i64 f0_0), (.slice ba_x00 n0_1 ca_x00)] 26)).heap.size = w4.heap.size + 1 := by simp
  clear hb
  have q_x0_0 := X_x0.out.cell 0
  have q_x0_1 := X_x0.out.cell 1
  go_wp2_with fail
  refine (HI.out _ _ x0_0.row).mono ?_; rintro e w6 ⟨rfl, hb⟩
  clear q_x0_0 q_x0_1
  replace x0_0 := x0_0.keep hb
  replace X_a0 := Lib.hid (X_a0.out.step hb)
  replace X_x0 := Lib.hid (X_x0.out.step hb)
  replace B := below_step B hb
  have zz6 := hb.size
  clear hb
  have q_x0_0 := X_x0.out.cell 0
  have q_x0_1 := X_x0.out.cell 1
  have q_a0_0 := X_a0.out.cell 0
  have q_a0_1 := X_a0.out.cell 1
  go_wp2
  go_region_held3 (fun W => W.cell? ⟨w4.heap.size, 0, none⟩ = some (.int .i64 f0_0) ∧ W.cell? ⟨w4.heap.size, 1, none⟩ = some (.slice ba_x00 n0_1 ca_x00) ∧ W.cell? ⟨w.heap.size, 0, none⟩ = some (.int .i64 f0_0) ∧ W.cell? ⟨w.heap.size, 1, none⟩ = some (.slice b0_1 n0_1 c0_1)) (first | assumption | exact ⟨q_x0_0, q_x0_1, q_a0_0, q_a0_1⟩ | exact keep4 (by assumption) (by assumption) | fail)
    (first
      | (go_at_call 21; refine (stNet.to_got _ _ _ n0_1 zs0_1 hn0_1 (H0_1.out.keep (by repeat (first | assumption | (with_reducible exact Below.refl _ _) | (with_reducible refine below_dr ?_) | (with_reducible refine below_al ?_ _) | (with_reducible refine below_step ?_ (by assumption)) | fail)))).mono ?_; rintro e wt ⟨tc0, lc0, hc0, rfl, ⟨oc0, _⟩, hbt⟩)
      | (go_at_call 22; refine (stNet.eq_yes _ _ _ _ n0_1 zs0_1 hn0_1 (x0_0.keep (by repeat (first | assumption | (with_reducible exact Below.refl _ _) | (with_reducible refine below_dr ?_) | (with_reducible refine below_al ?_ _) | (with_reducible refine below_step ?_ (by assumption)) | fail))).row oc0.row).mono ?_; rintro e w7 ⟨rfl, hb⟩)
      | fail)
  have hc : Below w6.heap.size w6 w7 := (by repeat (first | assumption | (with_reducible exact Below.refl _ _) | (with_reducible refine below_dr ?_) | (with_reducible refine below_al ?_ _) | (with_reducible refine below_step ?_ (by assumption)) | fail))
  clear q_x0_0 q_x0_1 q_a0_0 q_a0_1 hb hbt oc0
  replace x0_0 := x0_0.keep hc
  replace X_a0 := Lib.hid (X_a0.out.step hc)
  replace X_x0 := Lib.hid (X_x0.out.step hc)
  replace B := below_step B hc
  have zz7 := hc.size
  clear hc
  go_wp2
  go_ret
  exact ⟨rfl, B⟩
theorem walk (w : World) (P : Int) (v : Value) (n : Nat) (zs : List Int) (hr : Row 3 w v n (zs.map (Value.int .i64))) (hm : n ≤ 9223372036854775807) (_ : (Lit.int .i64 P).wf = true) (x : Int) (_ : (Lit.int .i64 x).wf = true) : Calls Try.prog 7 #[stNet.R P v, .int .i64 x] w fun e w' => e = .returned (.bool true) ∧ Below w.heap.size w w' := by
  classical
  by_cases hl : n ≤ 1048576
  · by_cases ok : NO P n zs ∧ 0 ≤ x ∧ x < P
    · exact core w P v n zs hl hr x _ hl (fun W u g => spec_out W P u n zs g x ok.1 ok.2.1 ok.2.2) (fun W u g => impl_out W P u n zs g x ok.1 ok.2.1 ok.2.2)
    · exact core w P v n zs hl hr x (-1) hl (fun W u g => spec_out_no W P u n zs hl g x ok) (fun W u g => impl_out_no W P u n zs hl g x ok)
  · obtain ⟨a, c, rfl⟩ := hr.shape
    have X := Blk.new w 42 #[.int .i64 P, .slice a n c]
    obtain ⟨q0, q1⟩ := stNet.blk_ X
    go_enter Try.func7, Try.ntmps7
    go_wp2_with fail
    refine (stNet.sz_no _ P a n c _ (by omega) (by omega) hm).mono ?_; rintro e w1 ⟨rfl, hb⟩
    clear q0 q1
    go_wp2
    go_ret
    exact ⟨rfl, below_step (below_al (Below.refl _ _) _) hb⟩
end Go.Proofs.Ytaofgidhnnlgoaa.wFnExactOutOf
namespace Go.Proofs.Ytaofgidhnnlgoaa.wFnExactWithoutPipe
open Go.RowKit Go.Proofs.Ytaofgidhnnlgoaa.kit Go.Proofs.Ytaofgidhnnlgoaa.lawi Go.Proofs.Ytaofgidhnnlgoaa.own Go.Proofs.Ytaofgidhnnlgoaa.rain Go.Proofs.Ytaofgidhnnlgoaa.yrl Go.Proofs.Ytaofgidhnnlgoaa.net Go.Proofs.Ytaofgidhnnlgoaa.nt
set_option maxRecDepth 100000 in
set_option maxHeartbeats 4000000 in
theorem core (w : World) (f0_0 : Int) (v0_1 : Value) (n0_1 : Nat) (zs0_1 : List Int) (hn0_1 : n0_1 ≤ 1048576) (h0_1 : Row 3 w v0_1 n0_1 (zs0_1.map (Value.int .i64))) (a1 : Int) (e0_0 : Int) (m0_1 : Nat) (ys0_1 : List Int) (hm0_1 : m0_1 ≤ 1048576) (r1 : Bool)
    (hsum : n0_1 ≤ 1048576)
    (hs : ∀ W u0_1, Row 3 W u0_1 n0_1 (zs0_1.map (Value.int .i64)) → Cap u0_1 → Calls Try.prog 30 #[stNet.R f0_0 u0_1, .int .i64 a1] W (stNet.Got W e0_0 m0_1 ys0_1 (fun t => .tuple #[t, .bool r1])))
    (hi : ∀ W u0_1, Row 3 W u0_1 n0_1 (zs0_1.map (Value.int .i64)) → Cap u0_1 → Calls Try.prog 18 #[stNet.R f0_0 u0_1, .int .i64 a1] W (stNet.Got W e0_0 m0_1 ys0_1 (fun t => .tuple #[t, .bool r1]))) :
    Calls Try.prog 8 #[stNet.R f0_0 v0_1, .int .i64 a1] w (Gives w (.bool true)) := by
  obtain ⟨b0_1, c0_1, rfl⟩ := h0_1.shape
  have H0_1 := Lib.hid h0_1
  clear h0_1
  have HS := Lib.hid hs
  have HI := Lib.hid hi
  clear hs hi
  have X_a0 : Blk (w.alloc (.cells #[(.int .i64 f0_0), (.slice b0_1 n0_1 c0_1)] 42)) w.heap.size 42 #[(.int .i64 f0_0), (.slice b0_1 n0_1 c0_1)] := by
    have := Blk.new w 42 #[(.int .i64 f0_0), (.slice b0_1 n0_1 c0_1)]
    simpa using this
  replace X_a0 := Lib.hid X_a0
  have B : Below w.heap.size w (w.alloc (.cells #[(.int .i64 f0_0), (.slice b0_1 n0_1 c0_1)] 42)) := below_al (Below.refl _ _) _
  have zzb : (w.alloc (.cells #[(.int .i64 f0_0), (.slice b0_1 n0_1 c0_1)] 42)).heap.size = w.heap.size + 1 := by simp
  go_enter Try.func8, Try.ntmps8
  have q_a0_0 := X_a0.out.cell 0
  have q_a0_1 := X_a0.out.cell 1
  go_wp2_with fail
  refine (stNet.sz_yes _ _ _ n0_1 c0_1 _ (by omega) (by omega)).mono ?_; rintro e w1 ⟨rfl, hb⟩
  clear q_a0_0 q_a0_1
  replace X_a0 := Lib.hid (X_a0.out.step hb)
  replace B := below_step B hb
  have zz1 := hb.size
  clear hb
  have q_a0_0 := X_a0.out.cell 0
  have q_a0_1 := X_a0.out.cell 1
  go_wp2_with fail
  refine (stNet.to_got _ _ _ n0_1 zs0_1 hn0_1 (H0_1.out.keep B)).mono ?_; rintro e w2 ⟨t1, l_o0_0, h_o0_0, rfl, ⟨o0_0, lo_o0_0⟩, hb⟩
  clear q_a0_0 q_a0_1
  replace X_a0 := Lib.hid (X_a0.out.step hb)
  replace B := below_step B hb
  have zz2 := hb.size
  have hi_o0_0 := o0_0.2.2
  clear hb
  go_wp2_with fail
  refine (HS.out _ _ o0_0.row o0_0.cap).mono ?_; rintro e w3 ⟨t2, l_s_0, h_s_0, rfl, ⟨s_0, lo_s_0⟩, hb⟩
  replace o0_0 := o0_0.keep hb
  replace X_a0 := Lib.hid (X_a0.out.step hb)
  replace B := below_step B hb
  have zz3 := hb.size
  have hi_s_0 := s_0.2.2
  clear hb
  clear o0_0
  obtain ⟨ba_s0, ca_s0, rfl⟩ := own_shape s_0.own
  have hb : Below w3.heap.size w3 (w3.alloc (.cells #[(.int .i64 e0_0), (.slice ba_s0 m0_1 ca_s0)] 26)) := below_al (Below.refl _ _) _
  replace s_0 := s_0.keep hb
  replace X_a0 := Lib.hid (X_a0.out.step hb)
  replace B := below_step B hb
  have zz4 := hb.size
  have X_s : Blk (w3.alloc (.cells #[(.int .i64 e0_0), (.slice ba_s0 m0_1 ca_s0)] 26)) w3.heap.size 26 #[(.int .i64 e0_0), (.slice ba_s0 m0_1 ca_s0)] := by
    have := Blk.new w3 26 #[(.int .i64 e0_0), (.slice ba_s0 m0_1 ca_s0)]
    simpa using this
  replace X_s := Lib.hid X_s
  have zy4 : (w3.alloc (.cells #[(.int .i64 e0_0), (.slice ba_s0 m0_1 ca_s0)] 26)).heap.size = w3.heap.size + 1 := by simp
  clear hb
  have q_a0_0 := X_a0.out.cell 0
  have q_a0_1 := X_a0.out.cell 1
  go_wp2_with fail
  refine (stNet.to_got _ _ _ n0_1 zs0_1 hn0_1 (H0_1.out.keep B)).mono ?_; rintro e w5 ⟨t3, l_x0_0, h_x0_0, rfl, ⟨x0_0, lo_x0_0⟩, hb⟩
  clear q_a0_0 q_a0_1
  replace s_0 := s_0.keep hb
  replace X_a0 := Lib.hid (X_a0.out.step hb)
  replace X_s := Lib.hid (X_s.out.step hb)
  replace B := below_step B hb
  have zz5 := hb.size
  have hi_x0_0 := x0_0.2.2
  clear hb
  obtain ⟨ba_x00, ca_x00, rfl⟩ := own_shape x0_0.own
  have hb : Below w5.heap.size w5 (w5.alloc (.cells #[(.int .i64 f0_0), (.slice ba_x00 n0_1 ca_x00)] 26)) := below_al (Below.refl _ _) _
  replace s_0 := s_0.keep hb
  replace x0_0 := x0_0.keep hb
  replace X_a0 := Lib.hid (X_a0.out.step hb)
  replace X_s := Lib.hid (X_s.out.step hb)
  replace B := below_step B hb
  have zz6 := hb.size
  have X_x0 : Blk (w5.alloc (.cells #[(.int .i64 f0_0), (.slice ba_x00 n0_1 ca_x00)] 26)) w5.heap.size 26 #[(.int .i64 f0_0), (.slice ba_x00 n0_1 ca_x00)] := by
    have := Blk.new w5 26 #[(.int .i64 f0_0), (.slice ba_x00 n0_1 ca_x00)]
    simpa using this
  replace X_x0 := Lib.hid X_x0
  have zy6 : (w5.alloc (.cells #[(.int .i64 f0_0), (.slice ba_x00 n0_1 ca_x00)] 26)).heap.size = w5.heap.size + 1 := by simp
  clear hb
  have q_x0_0 := X_x0.out.cell 0
  have q_x0_1 := X_x0.out.cell 1
  go_wp2_with fail
  refine (HI.out _ _ x0_0.row x0_0.cap).mono ?_; rintro e w7 ⟨t4, l_g_0, h_g_0, rfl, ⟨g_0, lo_g_0⟩, hb⟩
  clear q_x0_0 q_x0_1
  replace s_0 := s_0.keep hb
  replace x0_0 := x0_0.keep hb
  replace X_a0 := Lib.hid (X_a0.out.step hb)
  replace X_s := Lib.hid (X_s.out.step hb)
  replace X_x0 := Lib.hid (X_x0.out.step hb)
  replace B := below_step B hb
  have zz7 := hb.size
  have hi_g_0 := g_0.2.2
  clear hb
  obtain ⟨ba_g0, ca_g0, rfl⟩ := own_shape g_0.own
  have hb : Below w7.heap.size w7 (w7.alloc (.cells #[(.int .i64 e0_0), (.slice ba_g0 m0_1 ca_g0)] 26)) := below_al (Below.refl _ _) _
  replace s_0 := s_0.keep hb
  replace x0_0 := x0_0.keep hb
  replace g_0 := g_0.keep hb
  replace X_a0 := Lib.hid (X_a0.out.step hb)
  replace X_s := Lib.hid (X_s.out.step hb)
  replace X_x0 := Lib.hid (X_x0.out.step hb)
  replace B := below_step B hb
  have zz8 := hb.size
  have X_g : Blk (w7.alloc (.cells #[(.int .i64 e0_0), (.slice ba_g0 m0_1 ca_g0)] 26)) w7.heap.size 26 #[(.int .i64 e0_0), (.slice ba_g0 m0_1 ca_g0)] := by
    have := Blk.new w7 26 #[(.int .i64 e0_0), (.slice ba_g0 m0_1 ca_g0)]
    simpa using this
  replace X_g := Lib.hid X_g
  have zy8 : (w7.alloc (.cells #[(.int .i64 e0_0), (.slice ba_g0 m0_1 ca_g0)] 26)).heap.size = w7.heap.size + 1 := by simp
  clear hb
  have q_g_0 := X_g.out.cell 0
  have q_g_1 := X_g.out.cell 1
  have q_s_0 := X_s.out.cell 0
  have q_s_1 := X_s.out.cell 1
  go_wp2_with fail
  refine (stNet.eq_yes _ _ _ _ m0_1 ys0_1 hm0_1 g_0.row s_0.row).mono ?_; rintro e w9 ⟨rfl, hb⟩
  clear q_g_0 q_g_1 q_s_0 q_s_1
  replace s_0 := s_0.keep hb
  replace x0_0 := x0_0.keep hb
  replace g_0 := g_0.keep hb
  replace X_a0 := Lib.hid (X_a0.out.step hb)
  replace X_s := Lib.hid (X_s.out.step hb)
  replace X_x0 := Lib.hid (X_x0.out.step hb)
  replace X_g := Lib.hid (X_g.out.step hb)
  replace B := below_step B hb
  have zz9 := hb.size
  clear hb
  have q_x0_0 := X_x0.out.cell 0
  have q_x0_1 := X_x0.out.cell 1
  have q_a0_0 := X_a0.out.cell 0
  have q_a0_1 := X_a0.out.cell 1
  go_wp2
  go_region_held3 (fun W => W.cell? ⟨w5.heap.size, 0, none⟩ = some (.int .i64 f0_0) ∧ W.cell? ⟨w5.heap.size, 1, none⟩ = some (.slice ba_x00 n0_1 ca_x00) ∧ W.cell? ⟨w.heap.size, 0, none⟩ = some (.int .i64 f0_0) ∧ W.cell? ⟨w.heap.size, 1, none⟩ = some (.slice b0_1 n0_1 c0_1)) (first | assumption | exact ⟨q_x0_0, q_x0_1, q_a0_0, q_a0_1⟩ | exact keep4 (by assumption) (by assumption) | fail)
    (first
      | (go_at_call 21; refine (stNet.to_got _ _ _ n0_1 zs0_1 hn0_1 (H0_1.out.keep (by repeat (first | assumption | (with_reducible exact Below.refl _ _) | (with_reducible refine below_dr ?_) | (with_reducible refine below_al ?_ _) | (with_reducible refine below_step ?_ (by assumption)) | fail)))).mono ?_; rintro e wt ⟨tc0, lc0, hc0, rfl, ⟨oc0, _⟩, hbt⟩)
      | (go_at_call 22; refine (stNet.eq_yes _ _ _ _ n0_1 zs0_1 hn0_1 (x0_0.keep (by repeat (first | assumption | (with_reducible exact Below.refl _ _) | (with_reducible refine below_dr ?_) | (with_reducible refine below_al ?_ _) | (with_reducible refine below_step ?_ (by assumption)) | fail))).row oc0.row).mono ?_; rintro e w10 ⟨rfl, hb⟩)
      | fail)
  have hc : Below w9.heap.size w9 w10 := (by repeat (first | assumption | (with_reducible exact Below.refl _ _) | (with_reducible refine below_dr ?_) | (with_reducible refine below_al ?_ _) | (with_reducible refine below_step ?_ (by assumption)) | fail))
  clear q_x0_0 q_x0_1 q_a0_0 q_a0_1 hb hbt oc0
  replace s_0 := s_0.keep hc
  replace x0_0 := x0_0.keep hc
  replace g_0 := g_0.keep hc
  replace X_a0 := Lib.hid (X_a0.out.step hc)
  replace X_s := Lib.hid (X_s.out.step hc)
  replace X_x0 := Lib.hid (X_x0.out.step hc)
  replace X_g := Lib.hid (X_g.out.step hc)
  replace B := below_step B hc
  have zz10 := hc.size
  clear hc
  have q_x0_0 := X_x0.out.cell 0
  have q_x0_1 := X_x0.out.cell 1
  go_wp2_with fail
  refine (stNet.mark_own _ _ 1 _ (by omega) _ _ _ n0_1 _ x0_0  (by omega)).mono ?_; rintro e w11 ⟨rfl, om0, ch0⟩
  clear q_x0_0 q_x0_1
  have zz11_0 := ch0.size
  replace s_0 := s_0.chg ch0 (by omega)
  replace g_0 := g_0.chg ch0 (by omega)
  replace X_a0 := Lib.hid (Blk.chg X_a0.out ch0 (by omega))
  replace X_s := Lib.hid (Blk.chg X_s.out ch0 (by omega))
  replace X_x0 := Lib.hid (Blk.chg X_x0.out ch0 (by omega))
  replace X_g := Lib.hid (Blk.chg X_g.out ch0 (by omega))
  replace B := B.trans (ch0.below (B := w.heap.size) (by omega) (by omega))
  replace x0_0 := om0
  clear om0 ch0
  have q_g_0 := X_g.out.cell 0
  have q_g_1 := X_g.out.cell 1
  have q_s_0 := X_s.out.cell 0
  have q_s_1 := X_s.out.cell 1
  go_wp2_with fail
  refine (stNet.eq_yes _ _ _ _ m0_1 ys0_1 hm0_1 g_0.row s_0.row).mono ?_; rintro e w12 ⟨rfl, hb⟩
  clear q_g_0 q_g_1 q_s_0 q_s_1
  replace s_0 := s_0.keep hb
  replace x0_0 := x0_0.keep hb
  replace g_0 := g_0.keep hb
  replace X_a0 := Lib.hid (X_a0.out.step hb)
  replace X_s := Lib.hid (X_s.out.step hb)
  replace X_x0 := Lib.hid (X_x0.out.step hb)
  replace X_g := Lib.hid (X_g.out.step hb)
  replace B := below_step B hb
  have zz12 := hb.size
  clear hb
  clear x0_0
  have q_g_0 := X_g.out.cell 0
  have q_g_1 := X_g.out.cell 1
  go_wp2_with fail
  refine (stNet.mark_own _ _ 1 _ (by omega) _ _ _ m0_1 _ g_0  (by omega)).mono ?_; rintro e w13 ⟨rfl, om0, ch0⟩
  clear q_g_0 q_g_1
  have zz13_0 := ch0.size
  replace s_0 := s_0.chg ch0 (by omega)
  replace X_a0 := Lib.hid (Blk.chg X_a0.out ch0 (by omega))
  replace X_s := Lib.hid (Blk.chg X_s.out ch0 (by omega))
  replace X_x0 := Lib.hid (Blk.chg X_x0.out ch0 (by omega))
  replace X_g := Lib.hid (Blk.chg X_g.out ch0 (by omega))
  replace B := B.trans (ch0.below (B := w.heap.size) (by omega) (by omega))
  replace g_0 := om0
  clear om0 ch0
  have q_g_0 := X_g.out.cell 0
  have q_g_1 := X_g.out.cell 1
  go_wp2_with fail
  refine (stNet.held_gives _ _ 1 _ rfl _ m0_1 g_0.row (by omega)).mono ?_; rintro e w14 ⟨rfl, hb⟩
  clear q_g_0 q_g_1
  replace s_0 := s_0.keep hb
  replace g_0 := g_0.keep hb
  replace X_a0 := Lib.hid (X_a0.out.step hb)
  replace X_s := Lib.hid (X_s.out.step hb)
  replace X_x0 := Lib.hid (X_x0.out.step hb)
  replace X_g := Lib.hid (X_g.out.step hb)
  replace B := below_step B hb
  have zz14 := hb.size
  clear hb
  have q_a0_0 := X_a0.out.cell 0
  have q_a0_1 := X_a0.out.cell 1
  go_wp2_with fail
  refine (stNet.to_got _ _ _ n0_1 zs0_1 hn0_1 (H0_1.out.keep B)).mono ?_; rintro e w15 ⟨t5, l_p0_0, h_p0_0, rfl, ⟨p0_0, lo_p0_0⟩, hb⟩
  clear q_a0_0 q_a0_1
  replace s_0 := s_0.keep hb
  replace g_0 := g_0.keep hb
  replace X_a0 := Lib.hid (X_a0.out.step hb)
  replace X_s := Lib.hid (X_s.out.step hb)
  replace X_x0 := Lib.hid (X_x0.out.step hb)
  replace X_g := Lib.hid (X_g.out.step hb)
  replace B := below_step B hb
  have zz15 := hb.size
  have hi_p0_0 := p0_0.2.2
  clear hb
  go_wp2_with fail
  refine (HI.out _ _ p0_0.row p0_0.cap).mono ?_; rintro e w16 ⟨t6, l_h_0, h_h_0, rfl, ⟨h_0, lo_h_0⟩, hb⟩
  replace s_0 := s_0.keep hb
  replace g_0 := g_0.keep hb
  replace p0_0 := p0_0.keep hb
  replace X_a0 := Lib.hid (X_a0.out.step hb)
  replace X_s := Lib.hid (X_s.out.step hb)
  replace X_x0 := Lib.hid (X_x0.out.step hb)
  replace X_g := Lib.hid (X_g.out.step hb)
  replace B := below_step B hb
  have zz16 := hb.size
  have hi_h_0 := h_0.2.2
  clear hb
  clear p0_0
  obtain ⟨ba_h0, ca_h0, rfl⟩ := own_shape h_0.own
  have hb : Below w16.heap.size w16 (w16.alloc (.cells #[(.int .i64 e0_0), (.slice ba_h0 m0_1 ca_h0)] 26)) := below_al (Below.refl _ _) _
  replace s_0 := s_0.keep hb
  replace g_0 := g_0.keep hb
  replace h_0 := h_0.keep hb
  replace X_a0 := Lib.hid (X_a0.out.step hb)
  replace X_s := Lib.hid (X_s.out.step hb)
  replace X_x0 := Lib.hid (X_x0.out.step hb)
  replace X_g := Lib.hid (X_g.out.step hb)
  replace B := below_step B hb
  have zz17 := hb.size
  have X_h : Blk (w16.alloc (.cells #[(.int .i64 e0_0), (.slice ba_h0 m0_1 ca_h0)] 26)) w16.heap.size 26 #[(.int .i64 e0_0), (.slice ba_h0 m0_1 ca_h0)] := by
    have := Blk.new w16 26 #[(.int .i64 e0_0), (.slice ba_h0 m0_1 ca_h0)]
    simpa using this
  replace X_h := Lib.hid X_h
  have zy17 : (w16.alloc (.cells #[(.int .i64 e0_0), (.slice ba_h0 m0_1 ca_h0)] 26)).heap.size = w16.heap.size + 1 := by simp
  clear hb
  have q_h_0 := X_h.out.cell 0
  have q_h_1 := X_h.out.cell 1
  have q_s_0 := X_s.out.cell 0
  have q_s_1 := X_s.out.cell 1
  go_wp2_with fail
  refine (stNet.eq_yes _ _ _ _ m0_1 ys0_1 hm0_1 h_0.row s_0.row).mono ?_; rintro e w18 ⟨rfl, hb⟩
  clear q_h_0 q_h_1 q_s_0 q_s_1
  replace s_0 := s_0.keep hb
  replace g_0 := g_0.keep hb
  replace h_0 := h_0.keep hb
  replace X_a0 := Lib.hid (X_a0.out.step hb)
  replace X_s := Lib.hid (X_s.out.step hb)
  replace X_x0 := Lib.hid (X_x0.out.step hb)
  replace X_g := Lib.hid (X_g.out.step hb)
  replace X_h := Lib.hid (X_h.out.step hb)
  replace B := below_step B hb
  have zz18 := hb.size
  clear hb
  clear h_0
  clear s_0
  have q_g_0 := X_g.out.cell 0
  have q_g_1 := X_g.out.cell 1
  go_wp2_with fail
  refine (stNet.held_gives _ _ 1 _ rfl _ m0_1 g_0.row (by omega)).mono ?_; rintro e w19 ⟨rfl, hb⟩
  clear q_g_0 q_g_1
  replace g_0 := g_0.keep hb
  replace X_a0 := Lib.hid (X_a0.out.step hb)
  replace X_s := Lib.hid (X_s.out.step hb)
  replace X_x0 := Lib.hid (X_x0.out.step hb)
  replace X_g := Lib.hid (X_g.out.step hb)
  replace X_h := Lib.hid (X_h.out.step hb)
  replace B := below_step B hb
  have zz19 := hb.size
  clear hb
  go_wp2
  go_ret
  exact ⟨rfl, B⟩
theorem walk (w : World) (P : Int) (v : Value) (n : Nat) (zs : List Int) (hr : Row 3 w v n (zs.map (Value.int .i64))) (hm : n ≤ 9223372036854775807) (_ : (Lit.int .i64 P).wf = true) (x : Int) (_ : (Lit.int .i64 x).wf = true) : Calls Try.prog 8 #[stNet.R P v, .int .i64 x] w fun e w' => e = .returned (.bool true) ∧ Below w.heap.size w w' := by
  classical
  by_cases hl : n ≤ 1048576
  · by_cases ok : NO P n zs ∧ 0 ≤ x ∧ x < n
    · obtain ⟨k, rfl⟩ : ∃ k : Nat, x = (k : Int) := ⟨x.toNat, by omega⟩
      exact core w P v n zs hl hr k P (n - 1) (less zs k) (by omega) true hl (fun W u g cp => spec_without_yes W P u n k zs cp g ok.1 (by omega)) (fun W u g cp => impl_without_yes W P u n k zs g ok.1 (by omega))
    · exact core w P v n zs hl hr x P n zs hl false hl (fun W u g cp => spec_without_no W P u n zs x hl g ok) (fun W u g cp => impl_without_no W P u n zs x hl g ok)
  · obtain ⟨a, c, rfl⟩ := hr.shape
    have X := Blk.new w 42 #[.int .i64 P, .slice a n c]
    obtain ⟨q0, q1⟩ := stNet.blk_ X
    go_enter Try.func8, Try.ntmps8
    go_wp2_with fail
    refine (stNet.sz_no _ P a n c _ (by omega) (by omega) hm).mono ?_; rintro e w1 ⟨rfl, hb⟩
    clear q0 q1
    go_wp2
    go_ret
    exact ⟨rfl, below_step (below_al (Below.refl _ _) _) hb⟩
end Go.Proofs.Ytaofgidhnnlgoaa.wFnExactWithoutPipe
namespace Go.Proofs.Ytaofgidhnnlgoaa.wFnExactTurnNet
open Go.RowKit Go.Proofs.Ytaofgidhnnlgoaa.kit Go.Proofs.Ytaofgidhnnlgoaa.lawi Go.Proofs.Ytaofgidhnnlgoaa.own Go.Proofs.Ytaofgidhnnlgoaa.rain Go.Proofs.Ytaofgidhnnlgoaa.yrl Go.Proofs.Ytaofgidhnnlgoaa.net Go.Proofs.Ytaofgidhnnlgoaa.nt
set_option maxRecDepth 100000 in
set_option maxHeartbeats 4000000 in
theorem core (w : World) (f0_0 : Int) (v0_1 : Value) (n0_1 : Nat) (zs0_1 : List Int) (hn0_1 : n0_1 ≤ 1048576) (h0_1 : Row 3 w v0_1 n0_1 (zs0_1.map (Value.int .i64))) (e0_0 : Int) (m0_1 : Nat) (ys0_1 : List Int) (hm0_1 : m0_1 ≤ 1048576)
    (hsum : n0_1 ≤ 1048576)
    (hs : ∀ W u0_1, Row 3 W u0_1 n0_1 (zs0_1.map (Value.int .i64)) → Calls Try.prog 32 #[stNet.R f0_0 u0_1] W (stNet.Got W e0_0 m0_1 ys0_1 (fun t => t)))
    (hi : ∀ W u0_1, Row 3 W u0_1 n0_1 (zs0_1.map (Value.int .i64)) → Calls Try.prog 14 #[stNet.R f0_0 u0_1] W (stNet.Got W e0_0 m0_1 ys0_1 (fun t => t))) :
    Calls Try.prog 9 #[stNet.R f0_0 v0_1] w (Gives w (.bool true)) := by
  obtain ⟨b0_1, c0_1, rfl⟩ := h0_1.shape
  have H0_1 := Lib.hid h0_1
  clear h0_1
  have HS := Lib.hid hs
  have HI := Lib.hid hi
  clear hs hi
  have X_a0 : Blk (w.alloc (.cells #[(.int .i64 f0_0), (.slice b0_1 n0_1 c0_1)] 42)) w.heap.size 42 #[(.int .i64 f0_0), (.slice b0_1 n0_1 c0_1)] := by
    have := Blk.new w 42 #[(.int .i64 f0_0), (.slice b0_1 n0_1 c0_1)]
    simpa using this
  replace X_a0 := Lib.hid X_a0
  have B : Below w.heap.size w (w.alloc (.cells #[(.int .i64 f0_0), (.slice b0_1 n0_1 c0_1)] 42)) := below_al (Below.refl _ _) _
  have zzb : (w.alloc (.cells #[(.int .i64 f0_0), (.slice b0_1 n0_1 c0_1)] 42)).heap.size = w.heap.size + 1 := by simp
  go_enter Try.func9, Try.ntmps9
  have q_a0_0 := X_a0.out.cell 0
  have q_a0_1 := X_a0.out.cell 1
  go_wp2_with fail
  refine (stNet.sz_yes _ _ _ n0_1 c0_1 _ (by omega) (by omega)).mono ?_; rintro e w1 ⟨rfl, hb⟩
  clear q_a0_0 q_a0_1
  replace X_a0 := Lib.hid (X_a0.out.step hb)
  replace B := below_step B hb
  have zz1 := hb.size
  clear hb
  have q_a0_0 := X_a0.out.cell 0
  have q_a0_1 := X_a0.out.cell 1
  go_wp2_with fail
  refine (stNet.to_got _ _ _ n0_1 zs0_1 hn0_1 (H0_1.out.keep B)).mono ?_; rintro e w2 ⟨t1, l_o0_0, h_o0_0, rfl, ⟨o0_0, lo_o0_0⟩, hb⟩
  clear q_a0_0 q_a0_1
  replace X_a0 := Lib.hid (X_a0.out.step hb)
  replace B := below_step B hb
  have zz2 := hb.size
  have hi_o0_0 := o0_0.2.2
  clear hb
  go_wp2_with fail
  refine (HS.out _ _ o0_0.row).mono ?_; rintro e w3 ⟨t2, l_s_0, h_s_0, rfl, ⟨s_0, lo_s_0⟩, hb⟩
  replace o0_0 := o0_0.keep hb
  replace X_a0 := Lib.hid (X_a0.out.step hb)
  replace B := below_step B hb
  have zz3 := hb.size
  have hi_s_0 := s_0.2.2
  clear hb
  clear o0_0
  obtain ⟨ba_s0, ca_s0, rfl⟩ := own_shape s_0.own
  have hb : Below w3.heap.size w3 (w3.alloc (.cells #[(.int .i64 e0_0), (.slice ba_s0 m0_1 ca_s0)] 26)) := below_al (Below.refl _ _) _
  replace s_0 := s_0.keep hb
  replace X_a0 := Lib.hid (X_a0.out.step hb)
  replace B := below_step B hb
  have zz4 := hb.size
  have X_s : Blk (w3.alloc (.cells #[(.int .i64 e0_0), (.slice ba_s0 m0_1 ca_s0)] 26)) w3.heap.size 26 #[(.int .i64 e0_0), (.slice ba_s0 m0_1 ca_s0)] := by
    have := Blk.new w3 26 #[(.int .i64 e0_0), (.slice ba_s0 m0_1 ca_s0)]
    simpa using this
  replace X_s := Lib.hid X_s
  have zy4 : (w3.alloc (.cells #[(.int .i64 e0_0), (.slice ba_s0 m0_1 ca_s0)] 26)).heap.size = w3.heap.size + 1 := by simp
  clear hb
  have q_a0_0 := X_a0.out.cell 0
  have q_a0_1 := X_a0.out.cell 1
  go_wp2_with fail
  refine (stNet.to_got _ _ _ n0_1 zs0_1 hn0_1 (H0_1.out.keep B)).mono ?_; rintro e w5 ⟨t3, l_x0_0, h_x0_0, rfl, ⟨x0_0, lo_x0_0⟩, hb⟩
  clear q_a0_0 q_a0_1
  replace s_0 := s_0.keep hb
  replace X_a0 := Lib.hid (X_a0.out.step hb)
  replace X_s := Lib.hid (X_s.out.step hb)
  replace B := below_step B hb
  have zz5 := hb.size
  have hi_x0_0 := x0_0.2.2
  clear hb
  obtain ⟨ba_x00, ca_x00, rfl⟩ := own_shape x0_0.own
  have hb : Below w5.heap.size w5 (w5.alloc (.cells #[(.int .i64 f0_0), (.slice ba_x00 n0_1 ca_x00)] 26)) := below_al (Below.refl _ _) _
  replace s_0 := s_0.keep hb
  replace x0_0 := x0_0.keep hb
  replace X_a0 := Lib.hid (X_a0.out.step hb)
  replace X_s := Lib.hid (X_s.out.step hb)
  replace B := below_step B hb
  have zz6 := hb.size
  have X_x0 : Blk (w5.alloc (.cells #[(.int .i64 f0_0), (.slice ba_x00 n0_1 ca_x00)] 26)) w5.heap.size 26 #[(.int .i64 f0_0), (.slice ba_x00 n0_1 ca_x00)] := by
    have := Blk.new w5 26 #[(.int .i64 f0_0), (.slice ba_x00 n0_1 ca_x00)]
    simpa using this
  replace X_x0 := Lib.hid X_x0
  have zy6 : (w5.alloc (.cells #[(.int .i64 f0_0), (.slice ba_x00 n0_1 ca_x00)] 26)).heap.size = w5.heap.size + 1 := by simp
  clear hb
  have q_x0_0 := X_x0.out.cell 0
  have q_x0_1 := X_x0.out.cell 1
  go_wp2_with fail
  refine (HI.out _ _ x0_0.row).mono ?_; rintro e w7 ⟨t4, l_g_0, h_g_0, rfl, ⟨g_0, lo_g_0⟩, hb⟩
  clear q_x0_0 q_x0_1
  replace s_0 := s_0.keep hb
  replace x0_0 := x0_0.keep hb
  replace X_a0 := Lib.hid (X_a0.out.step hb)
  replace X_s := Lib.hid (X_s.out.step hb)
  replace X_x0 := Lib.hid (X_x0.out.step hb)
  replace B := below_step B hb
  have zz7 := hb.size
  have hi_g_0 := g_0.2.2
  clear hb
  obtain ⟨ba_g0, ca_g0, rfl⟩ := own_shape g_0.own
  have hb : Below w7.heap.size w7 (w7.alloc (.cells #[(.int .i64 e0_0), (.slice ba_g0 m0_1 ca_g0)] 26)) := below_al (Below.refl _ _) _
  replace s_0 := s_0.keep hb
  replace x0_0 := x0_0.keep hb
  replace g_0 := g_0.keep hb
  replace X_a0 := Lib.hid (X_a0.out.step hb)
  replace X_s := Lib.hid (X_s.out.step hb)
  replace X_x0 := Lib.hid (X_x0.out.step hb)
  replace B := below_step B hb
  have zz8 := hb.size
  have X_g : Blk (w7.alloc (.cells #[(.int .i64 e0_0), (.slice ba_g0 m0_1 ca_g0)] 26)) w7.heap.size 26 #[(.int .i64 e0_0), (.slice ba_g0 m0_1 ca_g0)] := by
    have := Blk.new w7 26 #[(.int .i64 e0_0), (.slice ba_g0 m0_1 ca_g0)]
    simpa using this
  replace X_g := Lib.hid X_g
  have zy8 : (w7.alloc (.cells #[(.int .i64 e0_0), (.slice ba_g0 m0_1 ca_g0)] 26)).heap.size = w7.heap.size + 1 := by simp
  clear hb
  have q_g_0 := X_g.out.cell 0
  have q_g_1 := X_g.out.cell 1
  have q_s_0 := X_s.out.cell 0
  have q_s_1 := X_s.out.cell 1
  go_wp2_with fail
  refine (stNet.eq_yes _ _ _ _ m0_1 ys0_1 hm0_1 g_0.row s_0.row).mono ?_; rintro e w9 ⟨rfl, hb⟩
  clear q_g_0 q_g_1 q_s_0 q_s_1
  replace s_0 := s_0.keep hb
  replace x0_0 := x0_0.keep hb
  replace g_0 := g_0.keep hb
  replace X_a0 := Lib.hid (X_a0.out.step hb)
  replace X_s := Lib.hid (X_s.out.step hb)
  replace X_x0 := Lib.hid (X_x0.out.step hb)
  replace X_g := Lib.hid (X_g.out.step hb)
  replace B := below_step B hb
  have zz9 := hb.size
  clear hb
  have q_x0_0 := X_x0.out.cell 0
  have q_x0_1 := X_x0.out.cell 1
  have q_a0_0 := X_a0.out.cell 0
  have q_a0_1 := X_a0.out.cell 1
  go_wp2
  go_region_held3 (fun W => W.cell? ⟨w5.heap.size, 0, none⟩ = some (.int .i64 f0_0) ∧ W.cell? ⟨w5.heap.size, 1, none⟩ = some (.slice ba_x00 n0_1 ca_x00) ∧ W.cell? ⟨w.heap.size, 0, none⟩ = some (.int .i64 f0_0) ∧ W.cell? ⟨w.heap.size, 1, none⟩ = some (.slice b0_1 n0_1 c0_1)) (first | assumption | exact ⟨q_x0_0, q_x0_1, q_a0_0, q_a0_1⟩ | exact keep4 (by assumption) (by assumption) | fail)
    (first
      | (go_at_call 21; refine (stNet.to_got _ _ _ n0_1 zs0_1 hn0_1 (H0_1.out.keep (by repeat (first | assumption | (with_reducible exact Below.refl _ _) | (with_reducible refine below_dr ?_) | (with_reducible refine below_al ?_ _) | (with_reducible refine below_step ?_ (by assumption)) | fail)))).mono ?_; rintro e wt ⟨tc0, lc0, hc0, rfl, ⟨oc0, _⟩, hbt⟩)
      | (go_at_call 22; refine (stNet.eq_yes _ _ _ _ n0_1 zs0_1 hn0_1 (x0_0.keep (by repeat (first | assumption | (with_reducible exact Below.refl _ _) | (with_reducible refine below_dr ?_) | (with_reducible refine below_al ?_ _) | (with_reducible refine below_step ?_ (by assumption)) | fail))).row oc0.row).mono ?_; rintro e w10 ⟨rfl, hb⟩)
      | fail)
  have hc : Below w9.heap.size w9 w10 := (by repeat (first | assumption | (with_reducible exact Below.refl _ _) | (with_reducible refine below_dr ?_) | (with_reducible refine below_al ?_ _) | (with_reducible refine below_step ?_ (by assumption)) | fail))
  clear q_x0_0 q_x0_1 q_a0_0 q_a0_1 hb hbt oc0
  replace s_0 := s_0.keep hc
  replace x0_0 := x0_0.keep hc
  replace g_0 := g_0.keep hc
  replace X_a0 := Lib.hid (X_a0.out.step hc)
  replace X_s := Lib.hid (X_s.out.step hc)
  replace X_x0 := Lib.hid (X_x0.out.step hc)
  replace X_g := Lib.hid (X_g.out.step hc)
  replace B := below_step B hc
  have zz10 := hc.size
  clear hc
  have q_x0_0 := X_x0.out.cell 0
  have q_x0_1 := X_x0.out.cell 1
  go_wp2_with fail
  refine (stNet.mark_own _ _ 1 _ (by omega) _ _ _ n0_1 _ x0_0  (by omega)).mono ?_; rintro e w11 ⟨rfl, om0, ch0⟩
  clear q_x0_0 q_x0_1
  have zz11_0 := ch0.size
  replace s_0 := s_0.chg ch0 (by omega)
  replace g_0 := g_0.chg ch0 (by omega)
  replace X_a0 := Lib.hid (Blk.chg X_a0.out ch0 (by omega))
  replace X_s := Lib.hid (Blk.chg X_s.out ch0 (by omega))
  replace X_x0 := Lib.hid (Blk.chg X_x0.out ch0 (by omega))
  replace X_g := Lib.hid (Blk.chg X_g.out ch0 (by omega))
  replace B := B.trans (ch0.below (B := w.heap.size) (by omega) (by omega))
  replace x0_0 := om0
  clear om0 ch0
  have q_g_0 := X_g.out.cell 0
  have q_g_1 := X_g.out.cell 1
  have q_s_0 := X_s.out.cell 0
  have q_s_1 := X_s.out.cell 1
  go_wp2_with fail
  refine (stNet.eq_yes _ _ _ _ m0_1 ys0_1 hm0_1 g_0.row s_0.row).mono ?_; rintro e w12 ⟨rfl, hb⟩
  clear q_g_0 q_g_1 q_s_0 q_s_1
  replace s_0 := s_0.keep hb
  replace x0_0 := x0_0.keep hb
  replace g_0 := g_0.keep hb
  replace X_a0 := Lib.hid (X_a0.out.step hb)
  replace X_s := Lib.hid (X_s.out.step hb)
  replace X_x0 := Lib.hid (X_x0.out.step hb)
  replace X_g := Lib.hid (X_g.out.step hb)
  replace B := below_step B hb
  have zz12 := hb.size
  clear hb
  clear x0_0
  have q_g_0 := X_g.out.cell 0
  have q_g_1 := X_g.out.cell 1
  go_wp2_with fail
  refine (stNet.mark_own _ _ 1 _ (by omega) _ _ _ m0_1 _ g_0  (by omega)).mono ?_; rintro e w13 ⟨rfl, om0, ch0⟩
  clear q_g_0 q_g_1
  have zz13_0 := ch0.size
  replace s_0 := s_0.chg ch0 (by omega)
  replace X_a0 := Lib.hid (Blk.chg X_a0.out ch0 (by omega))
  replace X_s := Lib.hid (Blk.chg X_s.out ch0 (by omega))
  replace X_x0 := Lib.hid (Blk.chg X_x0.out ch0 (by omega))
  replace X_g := Lib.hid (Blk.chg X_g.out ch0 (by omega))
  replace B := B.trans (ch0.below (B := w.heap.size) (by omega) (by omega))
  replace g_0 := om0
  clear om0 ch0
  have q_g_0 := X_g.out.cell 0
  have q_g_1 := X_g.out.cell 1
  go_wp2_with fail
  refine (stNet.held_gives _ _ 1 _ rfl _ m0_1 g_0.row (by omega)).mono ?_; rintro e w14 ⟨rfl, hb⟩
  clear q_g_0 q_g_1
  replace s_0 := s_0.keep hb
  replace g_0 := g_0.keep hb
  replace X_a0 := Lib.hid (X_a0.out.step hb)
  replace X_s := Lib.hid (X_s.out.step hb)
  replace X_x0 := Lib.hid (X_x0.out.step hb)
  replace X_g := Lib.hid (X_g.out.step hb)
  replace B := below_step B hb
  have zz14 := hb.size
  clear hb
  have q_a0_0 := X_a0.out.cell 0
  have q_a0_1 := X_a0.out.cell 1
  go_wp2_with fail
  refine (stNet.to_got _ _ _ n0_1 zs0_1 hn0_1 (H0_1.out.keep B)).mono ?_; rintro e w15 ⟨t5, l_p0_0, h_p0_0, rfl, ⟨p0_0, lo_p0_0⟩, hb⟩
  clear q_a0_0 q_a0_1
  replace s_0 := s_0.keep hb
  replace g_0 := g_0.keep hb
  replace X_a0 := Lib.hid (X_a0.out.step hb)
  replace X_s := Lib.hid (X_s.out.step hb)
  replace X_x0 := Lib.hid (X_x0.out.step hb)
  replace X_g := Lib.hid (X_g.out.step hb)
  replace B := below_step B hb
  have zz15 := hb.size
  have hi_p0_0 := p0_0.2.2
  clear hb
  go_wp2_with fail
  refine (HI.out _ _ p0_0.row).mono ?_; rintro e w16 ⟨t6, l_h_0, h_h_0, rfl, ⟨h_0, lo_h_0⟩, hb⟩
  replace s_0 := s_0.keep hb
  replace g_0 := g_0.keep hb
  replace p0_0 := p0_0.keep hb
  replace X_a0 := Lib.hid (X_a0.out.step hb)
  replace X_s := Lib.hid (X_s.out.step hb)
  replace X_x0 := Lib.hid (X_x0.out.step hb)
  replace X_g := Lib.hid (X_g.out.step hb)
  replace B := below_step B hb
  have zz16 := hb.size
  have hi_h_0 := h_0.2.2
  clear hb
  clear p0_0
  obtain ⟨ba_h0, ca_h0, rfl⟩ := own_shape h_0.own
  have hb : Below w16.heap.size w16 (w16.alloc (.cells #[(.int .i64 e0_0), (.slice ba_h0 m0_1 ca_h0)] 26)) := below_al (Below.refl _ _) _
  replace s_0 := s_0.keep hb
  replace g_0 := g_0.keep hb
  replace h_0 := h_0.keep hb
  replace X_a0 := Lib.hid (X_a0.out.step hb)
  replace X_s := Lib.hid (X_s.out.step hb)
  replace X_x0 := Lib.hid (X_x0.out.step hb)
  replace X_g := Lib.hid (X_g.out.step hb)
  replace B := below_step B hb
  have zz17 := hb.size
  have X_h : Blk (w16.alloc (.cells #[(.int .i64 e0_0), (.slice ba_h0 m0_1 ca_h0)] 26)) w16.heap.size 26 #[(.int .i64 e0_0), (.slice ba_h0 m0_1 ca_h0)] := by
    have := Blk.new w16 26 #[(.int .i64 e0_0), (.slice ba_h0 m0_1 ca_h0)]
    simpa using this
  replace X_h := Lib.hid X_h
  have zy17 : (w16.alloc (.cells #[(.int .i64 e0_0), (.slice ba_h0 m0_1 ca_h0)] 26)).heap.size = w16.heap.size + 1 := by simp
  clear hb
  have q_h_0 := X_h.out.cell 0
  have q_h_1 := X_h.out.cell 1
  have q_s_0 := X_s.out.cell 0
  have q_s_1 := X_s.out.cell 1
  go_wp2_with fail
  refine (stNet.eq_yes _ _ _ _ m0_1 ys0_1 hm0_1 h_0.row s_0.row).mono ?_; rintro e w18 ⟨rfl, hb⟩
  clear q_h_0 q_h_1 q_s_0 q_s_1
  replace s_0 := s_0.keep hb
  replace g_0 := g_0.keep hb
  replace h_0 := h_0.keep hb
  replace X_a0 := Lib.hid (X_a0.out.step hb)
  replace X_s := Lib.hid (X_s.out.step hb)
  replace X_x0 := Lib.hid (X_x0.out.step hb)
  replace X_g := Lib.hid (X_g.out.step hb)
  replace X_h := Lib.hid (X_h.out.step hb)
  replace B := below_step B hb
  have zz18 := hb.size
  clear hb
  clear h_0
  clear s_0
  have q_g_0 := X_g.out.cell 0
  have q_g_1 := X_g.out.cell 1
  go_wp2_with fail
  refine (stNet.held_gives _ _ 1 _ rfl _ m0_1 g_0.row (by omega)).mono ?_; rintro e w19 ⟨rfl, hb⟩
  clear q_g_0 q_g_1
  replace g_0 := g_0.keep hb
  replace X_a0 := Lib.hid (X_a0.out.step hb)
  replace X_s := Lib.hid (X_s.out.step hb)
  replace X_x0 := Lib.hid (X_x0.out.step hb)
  replace X_g := Lib.hid (X_g.out.step hb)
  replace X_h := Lib.hid (X_h.out.step hb)
  replace B := below_step B hb
  have zz19 := hb.size
  clear hb
  go_wp2
  go_ret
  exact ⟨rfl, B⟩
theorem walk (w : World) (P : Int) (v : Value) (n : Nat) (zs : List Int) (hr : Row 3 w v n (zs.map (Value.int .i64))) (hm : n ≤ 9223372036854775807) (_ : (Lit.int .i64 P).wf = true) : Calls Try.prog 9 #[stNet.R P v] w fun e w' => e = .returned (.bool true) ∧ Below w.heap.size w w' := by
  classical
  by_cases hl : n ≤ 1048576
  · by_cases ok : NO P n zs
    · exact core w P v n zs hl hr P n (turned zs n) hl hl (fun W u g => spec_turn_yes W P u n zs g ok) (fun W u g => impl_turn_yes W P u n zs g ok)
    · exact core w P v n zs hl hr P n zs hl hl (fun W u g => spec_turn_no W P u n zs g hl ok) (fun W u g => impl_turn_no W P u n zs g hl ok)
  · obtain ⟨a, c, rfl⟩ := hr.shape
    have X := Blk.new w 42 #[.int .i64 P, .slice a n c]
    obtain ⟨q0, q1⟩ := stNet.blk_ X
    go_enter Try.func9, Try.ntmps9
    go_wp2_with fail
    refine (stNet.sz_no _ P a n c _ (by omega) (by omega) hm).mono ?_; rintro e w1 ⟨rfl, hb⟩
    clear q0 q1
    go_wp2
    go_ret
    exact ⟨rfl, below_step (below_al (Below.refl _ _) _) hb⟩
end Go.Proofs.Ytaofgidhnnlgoaa.wFnExactTurnNet
