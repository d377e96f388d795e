/- The exact laws on years return true. -/
import Derived.Test.YtnmmnnapoodiiaaStYear
import Derived.Test.YtnmmnnapoodiiaaYrS2
import Derived.Test.YtnmmnnapoodiiaaYrI
set_option linter.unusedVariables false
namespace Go.Proofs.Ytnmmnnapoodiiaa.wFnExactYearOk
open Go.RowKit Go.Proofs.Ytnmmnnapoodiiaa.kit Go.Proofs.Ytnmmnnapoodiiaa.lawi Go.Proofs.Ytnmmnnapoodiiaa.own Go.Proofs.Ytnmmnnapoodiiaa.rainl Go.Proofs.Ytnmmnnapoodiiaa.rain Go.Proofs.Ytnmmnnapoodiiaa.cis Go.Proofs.Ytnmmnnapoodiiaa.chl Go.Proofs.Ytnmmnnapoodiiaa.yrl Go.Proofs.Ytnmmnnapoodiiaa.yr
set_option maxRecDepth 100000 in
set_option maxHeartbeats 4000000 in
theorem core (w : World) (f0_0 f0_1 f0_3 : Int) (v0_2 : Value) (n0_2 : Nat) (zs0_2 : List Int) (hn0_2 : n0_2 ≤ 1048576) (h0_2 : Row 1 w v0_2 n0_2 (zs0_2.map (Value.int .i64))) (r0 : Bool)
    (hsum : n0_2 ≤ 1048576)
    (hs : ∀ W u0_2, Row 1 W u0_2 n0_2 (zs0_2.map (Value.int .i64)) → Calls Try.prog 20 #[stYear.R f0_0 f0_1 u0_2 f0_3] W (Gives W (.bool r0)))
    (hi : ∀ W u0_2, Row 1 W u0_2 n0_2 (zs0_2.map (Value.int .i64)) → Calls Try.prog 18 #[stYear.R f0_0 f0_1 u0_2 f0_3] W (Gives W (.bool r0))) :
    Calls Try.prog 4 #[stYear.R f0_0 f0_1 v0_2 f0_3] w (Gives w (.bool true)) := by
  obtain ⟨b0_2, c0_2, rfl⟩ := h0_2.shape
  have H0_2 := Lib.hid h0_2
  clear h0_2
  have HS := Lib.hid hs
  have HI := Lib.hid hi
  clear hs hi
  have X_a0 : Blk (w.alloc (.cells #[(.int .i64 f0_0), (.int .i64 f0_1), (.slice b0_2 n0_2 c0_2), (.int .i64 f0_3)] 32)) w.heap.size 32 #[(.int .i64 f0_0), (.int .i64 f0_1), (.slice b0_2 n0_2 c0_2), (.int .i64 f0_3)] := by
    have := Blk.new w 32 #[(.int .i64 f0_0), (.int .i64 f0_1), (.slice b0_2 n0_2 c0_2), (.int .i64 f0_3)]
    simpa using this
  replace X_a0 := Lib.hid X_a0
  have B : Below w.heap.size w (w.alloc (.cells #[(.int .i64 f0_0), (.int .i64 f0_1), (.slice b0_2 n0_2 c0_2), (.int .i64 f0_3)] 32)) := below_al (Below.refl _ _) _
  have zzb : (w.alloc (.cells #[(.int .i64 f0_0), (.int .i64 f0_1), (.slice b0_2 n0_2 c0_2), (.int .i64 f0_3)] 32)).heap.size = w.heap.size + 1 := by simp
  go_enter Try.func4, Try.ntmps4
  have q_a0_0 := X_a0.out.cell 0
  have q_a0_1 := X_a0.out.cell 1
  have q_a0_2 := X_a0.out.cell 2
  have q_a0_3 := X_a0.out.cell 3
  go_wp2_with fail
  refine (stYear.sz_yes _ _ _ _ _ n0_2 c0_2 _ (by omega) (by omega)).mono ?_; rintro e w1 ⟨rfl, hb⟩
  clear q_a0_0 q_a0_1 q_a0_2 q_a0_3
  replace X_a0 := Lib.hid (X_a0.out.step hb)
  replace B := below_step B hb
  have zz1 := hb.size
  clear hb
  have q_a0_0 := X_a0.out.cell 0
  have q_a0_1 := X_a0.out.cell 1
  have q_a0_2 := X_a0.out.cell 2
  have q_a0_3 := X_a0.out.cell 3
  go_wp2_with fail
  refine (stYear.to_got _ _ _ _ _ n0_2 zs0_2 hn0_2 (H0_2.out.keep B)).mono ?_; rintro e w2 ⟨t1, l_o0_0, h_o0_0, rfl, ⟨o0_0, lo_o0_0⟩, hb⟩
  clear q_a0_0 q_a0_1 q_a0_2 q_a0_3
  replace X_a0 := Lib.hid (X_a0.out.step hb)
  replace B := below_step B hb
  have zz2 := hb.size
  have hi_o0_0 := o0_0.2.2
  clear hb
  go_wp2_with fail
  refine (HS.out _ _ o0_0.row).mono ?_; rintro e w3 ⟨rfl, hb⟩
  replace o0_0 := o0_0.keep hb
  replace X_a0 := Lib.hid (X_a0.out.step hb)
  replace B := below_step B hb
  have zz3 := hb.size
  clear hb
  clear o0_0
  have q_a0_0 := X_a0.out.cell 0
  have q_a0_1 := X_a0.out.cell 1
  have q_a0_2 := X_a0.out.cell 2
  have q_a0_3 := X_a0.out.cell 3
  go_wp2_with fail
  refine (stYear.to_got _ _ _ _ _ n0_2 zs0_2 hn0_2 (H0_2.out.keep B)).mono ?_; rintro e w4 ⟨t2, l_x0_0, h_x0_0, rfl, ⟨x0_0, lo_x0_0⟩, hb⟩
  clear q_a0_0 q_a0_1 q_a0_2 q_a0_3
  replace X_a0 := Lib.hid (X_a0.out.step hb)
  replace B := below_step B hb
  have zz4 := hb.size
  have hi_x0_0 := x0_0.2.2
  clear hb
  obtain ⟨ba_x00, ca_x00, rfl⟩ := own_shape x0_0.own
  have hb : Below w4.heap.size w4 (w4.alloc (.cells #[(.int .i64 f0_0), (.int .i64 f0_1), (.slice ba_x00 n0_2 ca_x00), (.int .i64 f0_3)] 26)) := below_al (Below.refl _ _) _
  replace x0_0 := x0_0.keep hb
  replace X_a0 := Lib.hid (X_a0.out.step hb)
  replace B := below_step B hb
  have zz5 := hb.size
  have X_x0 : Blk (w4.alloc (.cells #[(.int .i64 f0_0), (.int .i64 f0_1), (.slice ba_x00 n0_2 ca_x00), (.int .i64 f0_3)] 26)) w4.heap.size 26 #[(.int .i64 f0_0), (.int .i64 f0_1), (.slice ba_x00 n0_2 ca_x00), (.int .i64 f0_3)] := by
    have := Blk.new w4 26 #[(.int .i64 f0_0), (.int .i64 f0_1), (.slice ba_x00 n0_2 ca_x00), (.int .i64 f0_3)]
    simpa using this
  replace X_x0 := Lib.hid X_x0
  have zy5 : (w4.alloc (.cells #[(.int .i64 f0_0), (.int .i64 f0_1), (.slice ba_x00 n0_2 ca_x00), (.int .i64 f0_3)] 26)).heap.size = w4.heap.size + 1 := by simp
  clear hb
  have q_x0_0 := X_x0.out.cell 0
  have q_x0_1 := X_x0.out.cell 1
  have q_x0_2 := X_x0.out.cell 2
  have q_x0_3 := X_x0.out.cell 3
  go_wp2_with fail
  refine (HI.out _ _ x0_0.row).mono ?_; rintro e w6 ⟨rfl, hb⟩
  clear q_x0_0 q_x0_1 q_x0_2 q_x0_3
  replace x0_0 := x0_0.keep hb
  replace X_a0 := Lib.hid (X_a0.out.step hb)
  replace X_x0 := Lib.hid (X_x0.out.step hb)
  replace B := below_step B hb
  have zz6 := hb.size
  clear hb
  have q_x0_0 := X_x0.out.cell 0
  have q_x0_1 := X_x0.out.cell 1
  have q_x0_2 := X_x0.out.cell 2
  have q_x0_3 := X_x0.out.cell 3
  have q_a0_0 := X_a0.out.cell 0
  have q_a0_1 := X_a0.out.cell 1
  have q_a0_2 := X_a0.out.cell 2
  have q_a0_3 := X_a0.out.cell 3
  go_wp2
  go_region_held3 (fun W => W.cell? ⟨w4.heap.size, 0, none⟩ = some (.int .i64 f0_0) ∧ W.cell? ⟨w4.heap.size, 1, none⟩ = some (.int .i64 f0_1) ∧ W.cell? ⟨w4.heap.size, 2, none⟩ = some (.slice ba_x00 n0_2 ca_x00) ∧ W.cell? ⟨w4.heap.size, 3, none⟩ = some (.int .i64 f0_3) ∧ W.cell? ⟨w.heap.size, 0, none⟩ = some (.int .i64 f0_0) ∧ W.cell? ⟨w.heap.size, 1, none⟩ = some (.int .i64 f0_1) ∧ W.cell? ⟨w.heap.size, 2, none⟩ = some (.slice b0_2 n0_2 c0_2) ∧ W.cell? ⟨w.heap.size, 3, none⟩ = some (.int .i64 f0_3)) (first | assumption | exact ⟨q_x0_0, q_x0_1, q_x0_2, q_x0_3, q_a0_0, q_a0_1, q_a0_2, q_a0_3⟩ | exact keep8 (by assumption) (by assumption) | fail)
    (first
      | (go_at_call 21; refine (stYear.to_got _ _ _ _ _ n0_2 zs0_2 hn0_2 (H0_2.out.keep (by repeat (first | assumption | (with_reducible exact Below.refl _ _) | (with_reducible refine below_dr ?_) | (with_reducible refine below_al ?_ _) | (with_reducible refine below_step ?_ (by assumption)) | fail)))).mono ?_; rintro e wt ⟨tc0, lc0, hc0, rfl, ⟨oc0, _⟩, hbt⟩)
      | (go_at_call 22; refine (stYear.eq_yes _ _ _ _ _ _ n0_2 zs0_2 hn0_2 (x0_0.keep (by repeat (first | assumption | (with_reducible exact Below.refl _ _) | (with_reducible refine below_dr ?_) | (with_reducible refine below_al ?_ _) | (with_reducible refine below_step ?_ (by assumption)) | fail))).row oc0.row).mono ?_; rintro e w7 ⟨rfl, hb⟩)
      | fail)
  have hc : Below w6.heap.size w6 w7 := (by repeat (first | assumption | (with_reducible exact Below.refl _ _) | (with_reducible refine below_dr ?_) | (with_reducible refine below_al ?_ _) | (with_reducible refine below_step ?_ (by assumption)) | fail))
  clear q_x0_0 q_x0_1 q_x0_2 q_x0_3 q_a0_0 q_a0_1 q_a0_2 q_a0_3 hb hbt oc0
  replace x0_0 := x0_0.keep hc
  replace X_a0 := Lib.hid (X_a0.out.step hc)
  replace X_x0 := Lib.hid (X_x0.out.step hc)
  replace B := below_step B hc
  have zz7 := hc.size
  clear hc
  go_wp2
  go_ret
  exact ⟨rfl, B⟩
theorem walk (w : World) (r s d : Int) (v : Value) (n : Nat) (cs : List Int) (hr : Row 1 w v n (cs.map (Value.int .i64))) (hm : n ≤ 9223372036854775807) (_ : (Lit.int .i64 r).wf = true) (_ : (Lit.int .i64 s).wf = true) (_ : (Lit.int .i64 d).wf = true) : Calls Try.prog 4 #[stYear.R r s v d] w fun e w' => e = .returned (.bool true) ∧ Below w.heap.size w w' := by
  by_cases hl : n ≤ 1048576
  · by_cases ok : YOk r s d n cs
    · have hn := ok.2.2.1.2
      exact core w r s d v n cs hl hr true hl (fun W u g => spec_yok_yes W u n cs r s d g ok) (fun W u g => impl_yok_yes W u n cs r s d g ok)
    · exact core w r s d v n cs hl hr false hl (fun W u g => spec_yok_no W u n cs r s d hl g ok) (fun W u g => impl_yok_no W u n cs r s d hl g ok)
  · obtain ⟨a, c, rfl⟩ := hr.shape
    have X := Blk.new w 32 #[.int .i64 r, .int .i64 s, .slice a n c, .int .i64 d]
    obtain ⟨q0, q1, q2, q3⟩ := blk4 X
    go_enter Try.func4, Try.ntmps4
    go_wp2_with fail
    refine (stYear.sz_no _ r s d a n c _ (by omega) (by omega) hm).mono ?_; rintro e w1 ⟨rfl, hb⟩
    clear q0 q1 q2 q3
    go_wp2
    go_ret
    exact ⟨rfl, below_step (below_al (Below.refl _ _) _) hb⟩
end Go.Proofs.Ytnmmnnapoodiiaa.wFnExactYearOk
namespace Go.Proofs.Ytnmmnnapoodiiaa.wFnExactLevelsOf
open Go.RowKit Go.Proofs.Ytnmmnnapoodiiaa.kit Go.Proofs.Ytnmmnnapoodiiaa.lawi Go.Proofs.Ytnmmnnapoodiiaa.own Go.Proofs.Ytnmmnnapoodiiaa.rainl Go.Proofs.Ytnmmnnapoodiiaa.rain Go.Proofs.Ytnmmnnapoodiiaa.cis Go.Proofs.Ytnmmnnapoodiiaa.chl Go.Proofs.Ytnmmnnapoodiiaa.yrl Go.Proofs.Ytnmmnnapoodiiaa.yr
set_option maxRecDepth 100000 in
set_option maxHeartbeats 4000000 in
theorem core (w : World) (f0_0 f0_1 f0_3 : Int) (v0_2 : Value) (n0_2 : Nat) (zs0_2 : List Int) (hn0_2 : n0_2 ≤ 1048576) (h0_2 : Row 1 w v0_2 n0_2 (zs0_2.map (Value.int .i64))) (m0 : Nat) (ys0 : List Int) (hm0 : m0 ≤ 1048576)
    (hsum : n0_2 ≤ 1048576)
    (hs : ∀ W u0_2, Row 1 W u0_2 n0_2 (zs0_2.map (Value.int .i64)) → Calls Try.prog 23 #[stYear.R f0_0 f0_1 u0_2 f0_3] W (fun e W' => ∃ t, e = .returned (t) ∧ W'.ownsRow W.heap.size 3 1 t m0 (ys0.map (Value.int .i64)) ∧ Below W.heap.size W W'))
    (hi : ∀ W u0_2, Row 1 W u0_2 n0_2 (zs0_2.map (Value.int .i64)) → Calls Try.prog 12 #[stYear.R f0_0 f0_1 u0_2 f0_3] W (fun e W' => ∃ t, e = .returned (t) ∧ W'.ownsRow W.heap.size 3 1 t m0 (ys0.map (Value.int .i64)) ∧ Below W.heap.size W W')) :
    Calls Try.prog 5 #[stYear.R f0_0 f0_1 v0_2 f0_3] w (Gives w (.bool true)) := by
  obtain ⟨b0_2, c0_2, rfl⟩ := h0_2.shape
  have H0_2 := Lib.hid h0_2
  clear h0_2
  have HS := Lib.hid hs
  have HI := Lib.hid hi
  clear hs hi
  have X_a0 : Blk (w.alloc (.cells #[(.int .i64 f0_0), (.int .i64 f0_1), (.slice b0_2 n0_2 c0_2), (.int .i64 f0_3)] 32)) w.heap.size 32 #[(.int .i64 f0_0), (.int .i64 f0_1), (.slice b0_2 n0_2 c0_2), (.int .i64 f0_3)] := by
    have := Blk.new w 32 #[(.int .i64 f0_0), (.int .i64 f0_1), (.slice b0_2 n0_2 c0_2), (.int .i64 f0_3)]
    simpa using this
  replace X_a0 := Lib.hid X_a0
  have B : Below w.heap.size w (w.alloc (.cells #[(.int .i64 f0_0), (.int .i64 f0_1), (.slice b0_2 n0_2 c0_2), (.int .i64 f0_3)] 32)) := below_al (Below.refl _ _) _
  have zzb : (w.alloc (.cells #[(.int .i64 f0_0), (.int .i64 f0_1), (.slice b0_2 n0_2 c0_2), (.int .i64 f0_3)] 32)).heap.size = w.heap.size + 1 := by simp
  go_enter Try.func5, Try.ntmps5
  have q_a0_0 := X_a0.out.cell 0
  have q_a0_1 := X_a0.out.cell 1
  have q_a0_2 := X_a0.out.cell 2
  have q_a0_3 := X_a0.out.cell 3
  go_wp2_with fail
  refine (stYear.sz_yes _ _ _ _ _ n0_2 c0_2 _ (by omega) (by omega)).mono ?_; rintro e w1 ⟨rfl, hb⟩
  clear q_a0_0 q_a0_1 q_a0_2 q_a0_3
  replace X_a0 := Lib.hid (X_a0.out.step hb)
  replace B := below_step B hb
  have zz1 := hb.size
  clear hb
  have q_a0_0 := X_a0.out.cell 0
  have q_a0_1 := X_a0.out.cell 1
  have q_a0_2 := X_a0.out.cell 2
  have q_a0_3 := X_a0.out.cell 3
  go_wp2_with fail
  refine (stYear.to_got _ _ _ _ _ n0_2 zs0_2 hn0_2 (H0_2.out.keep B)).mono ?_; rintro e w2 ⟨t1, l_o0_0, h_o0_0, rfl, ⟨o0_0, lo_o0_0⟩, hb⟩
  clear q_a0_0 q_a0_1 q_a0_2 q_a0_3
  replace X_a0 := Lib.hid (X_a0.out.step hb)
  replace B := below_step B hb
  have zz2 := hb.size
  have hi_o0_0 := o0_0.2.2
  clear hb
  go_wp2_with fail
  refine (HS.out _ _ o0_0.row).mono ?_; rintro e w3 ⟨t2, rfl, ho, hb⟩
  replace o0_0 := o0_0.keep hb
  replace X_a0 := Lib.hid (X_a0.out.step hb)
  replace B := below_step B hb
  have zz3 := hb.size
  have s := OwnR.of_own ho
  clear hb ho
  clear o0_0
  have q_a0_0 := X_a0.out.cell 0
  have q_a0_1 := X_a0.out.cell 1
  have q_a0_2 := X_a0.out.cell 2
  have q_a0_3 := X_a0.out.cell 3
  go_wp2_with fail
  refine (stYear.to_got _ _ _ _ _ n0_2 zs0_2 hn0_2 (H0_2.out.keep B)).mono ?_; rintro e w4 ⟨t3, l_x0_0, h_x0_0, rfl, ⟨x0_0, lo_x0_0⟩, hb⟩
  clear q_a0_0 q_a0_1 q_a0_2 q_a0_3
  replace s := s.keep hb
  replace X_a0 := Lib.hid (X_a0.out.step hb)
  replace B := below_step B hb
  have zz4 := hb.size
  have hi_x0_0 := x0_0.2.2
  clear hb
  obtain ⟨ba_x00, ca_x00, rfl⟩ := own_shape x0_0.own
  have hb : Below w4.heap.size w4 (w4.alloc (.cells #[(.int .i64 f0_0), (.int .i64 f0_1), (.slice ba_x00 n0_2 ca_x00), (.int .i64 f0_3)] 26)) := below_al (Below.refl _ _) _
  replace s := s.keep hb
  replace x0_0 := x0_0.keep hb
  replace X_a0 := Lib.hid (X_a0.out.step hb)
  replace B := below_step B hb
  have zz5 := hb.size
  have X_x0 : Blk (w4.alloc (.cells #[(.int .i64 f0_0), (.int .i64 f0_1), (.slice ba_x00 n0_2 ca_x00), (.int .i64 f0_3)] 26)) w4.heap.size 26 #[(.int .i64 f0_0), (.int .i64 f0_1), (.slice ba_x00 n0_2 ca_x00), (.int .i64 f0_3)] := by
    have := Blk.new w4 26 #[(.int .i64 f0_0), (.int .i64 f0_1), (.slice ba_x00 n0_2 ca_x00), (.int .i64 f0_3)]
    simpa using this
  replace X_x0 := Lib.hid X_x0
  have zy5 : (w4.alloc (.cells #[(.int .i64 f0_0), (.int .i64 f0_1), (.slice ba_x00 n0_2 ca_x00), (.int .i64 f0_3)] 26)).heap.size = w4.heap.size + 1 := by simp
  clear hb
  have q_x0_0 := X_x0.out.cell 0
  have q_x0_1 := X_x0.out.cell 1
  have q_x0_2 := X_x0.out.cell 2
  have q_x0_3 := X_x0.out.cell 3
  go_wp2_with fail
  refine (HI.out _ _ x0_0.row).mono ?_; rintro e w6 ⟨t4, rfl, ho, hb⟩
  clear q_x0_0 q_x0_1 q_x0_2 q_x0_3
  replace s := s.keep hb
  replace x0_0 := x0_0.keep hb
  replace X_a0 := Lib.hid (X_a0.out.step hb)
  replace X_x0 := Lib.hid (X_x0.out.step hb)
  replace B := below_step B hb
  have zz6 := hb.size
  have g := OwnR.of_own ho
  clear hb ho
  go_wp2_with fail
  refine (eqInt_gives _ _ _ m0 ys0 hm0 g.row s.row).mono ?_; rintro e w7 ⟨rfl, hb⟩
  replace s := s.keep hb
  replace x0_0 := x0_0.keep hb
  replace g := g.keep hb
  replace X_a0 := Lib.hid (X_a0.out.step hb)
  replace X_x0 := Lib.hid (X_x0.out.step hb)
  replace B := below_step B hb
  have zz7 := hb.size
  clear hb
  have q_x0_0 := X_x0.out.cell 0
  have q_x0_1 := X_x0.out.cell 1
  have q_x0_2 := X_x0.out.cell 2
  have q_x0_3 := X_x0.out.cell 3
  have q_a0_0 := X_a0.out.cell 0
  have q_a0_1 := X_a0.out.cell 1
  have q_a0_2 := X_a0.out.cell 2
  have q_a0_3 := X_a0.out.cell 3
  go_wp2
  go_region_held3 (fun W => W.cell? ⟨w4.heap.size, 0, none⟩ = some (.int .i64 f0_0) ∧ W.cell? ⟨w4.heap.size, 1, none⟩ = some (.int .i64 f0_1) ∧ W.cell? ⟨w4.heap.size, 2, none⟩ = some (.slice ba_x00 n0_2 ca_x00) ∧ W.cell? ⟨w4.heap.size, 3, none⟩ = some (.int .i64 f0_3) ∧ W.cell? ⟨w.heap.size, 0, none⟩ = some (.int .i64 f0_0) ∧ W.cell? ⟨w.heap.size, 1, none⟩ = some (.int .i64 f0_1) ∧ W.cell? ⟨w.heap.size, 2, none⟩ = some (.slice b0_2 n0_2 c0_2) ∧ W.cell? ⟨w.heap.size, 3, none⟩ = some (.int .i64 f0_3)) (first | assumption | exact ⟨q_x0_0, q_x0_1, q_x0_2, q_x0_3, q_a0_0, q_a0_1, q_a0_2, q_a0_3⟩ | exact keep8 (by assumption) (by assumption) | fail)
    (first
      | (go_at_call 21; refine (stYear.to_got _ _ _ _ _ n0_2 zs0_2 hn0_2 (H0_2.out.keep (by repeat (first | assumption | (with_reducible exact Below.refl _ _) | (with_reducible refine below_dr ?_) | (with_reducible refine below_al ?_ _) | (with_reducible refine below_step ?_ (by assumption)) | fail)))).mono ?_; rintro e wt ⟨tc0, lc0, hc0, rfl, ⟨oc0, _⟩, hbt⟩)
      | (go_at_call 22; refine (stYear.eq_yes _ _ _ _ _ _ n0_2 zs0_2 hn0_2 (x0_0.keep (by repeat (first | assumption | (with_reducible exact Below.refl _ _) | (with_reducible refine below_dr ?_) | (with_reducible refine below_al ?_ _) | (with_reducible refine below_step ?_ (by assumption)) | fail))).row oc0.row).mono ?_; rintro e w8 ⟨rfl, hb⟩)
      | fail)
  have hc : Below w7.heap.size w7 w8 := (by repeat (first | assumption | (with_reducible exact Below.refl _ _) | (with_reducible refine below_dr ?_) | (with_reducible refine below_al ?_ _) | (with_reducible refine below_step ?_ (by assumption)) | fail))
  clear q_x0_0 q_x0_1 q_x0_2 q_x0_3 q_a0_0 q_a0_1 q_a0_2 q_a0_3 hb hbt oc0
  replace s := s.keep hc
  replace x0_0 := x0_0.keep hc
  replace g := g.keep hc
  replace X_a0 := Lib.hid (X_a0.out.step hc)
  replace X_x0 := Lib.hid (X_x0.out.step hc)
  replace B := below_step B hc
  have zz8 := hc.size
  clear hc
  have q_x0_0 := X_x0.out.cell 0
  have q_x0_1 := X_x0.out.cell 1
  have q_x0_2 := X_x0.out.cell 2
  have q_x0_3 := X_x0.out.cell 3
  go_wp2_with fail
  refine (stYear.mark_own _ _ _ _ 1 _ (by omega) _ _ _ n0_2 _ x0_0  (by omega)).mono ?_; rintro e w9 ⟨rfl, om0, ch0⟩
  clear q_x0_0 q_x0_1 q_x0_2 q_x0_3
  have zz9_0 := ch0.size
  replace s := s.chg ch0 (by omega)
  replace g := g.chg ch0 (by omega)
  replace X_a0 := Lib.hid (Blk.chg X_a0.out ch0 (by omega))
  replace X_x0 := Lib.hid (Blk.chg X_x0.out ch0 (by omega))
  replace B := B.trans (ch0.below (B := w.heap.size) (by omega) (by omega))
  replace x0_0 := om0
  clear om0 ch0
  go_wp2_with fail
  refine (eqInt_gives _ _ _ m0 ys0 hm0 g.row s.row).mono ?_; rintro e w10 ⟨rfl, hb⟩
  replace s := s.keep hb
  replace x0_0 := x0_0.keep hb
  replace g := g.keep hb
  replace X_a0 := Lib.hid (X_a0.out.step hb)
  replace X_x0 := Lib.hid (X_x0.out.step hb)
  replace B := below_step B hb
  have zz10 := hb.size
  clear hb
  clear x0_0
  go_wp2_with fail
  refine (markInt_own _ _ _ _ m0 _ 1 _ (by omega) (by omega) g).mono ?_; rintro e w11 ⟨rfl, om, ch⟩
  have zz11_0 := ch.size
  replace s := s.chg ch (by omega)
  replace X_a0 := Lib.hid (Blk.chg X_a0.out ch (by omega))
  replace X_x0 := Lib.hid (Blk.chg X_x0.out ch (by omega))
  replace B := B.trans (ch.below (B := w.heap.size) (by omega) (by omega))
  replace g := om
  clear om ch
  go_wp2_with fail
  refine (heldInt_gives _ _ m0 1 _ rfl (by omega) g.row).mono ?_; rintro e w12 ⟨rfl, hb⟩
  replace s := s.keep hb
  replace g := g.keep hb
  replace X_a0 := Lib.hid (X_a0.out.step hb)
  replace X_x0 := Lib.hid (X_x0.out.step hb)
  replace B := below_step B hb
  have zz12 := hb.size
  clear hb
  have q_a0_0 := X_a0.out.cell 0
  have q_a0_1 := X_a0.out.cell 1
  have q_a0_2 := X_a0.out.cell 2
  have q_a0_3 := X_a0.out.cell 3
  go_wp2_with fail
  refine (stYear.to_got _ _ _ _ _ n0_2 zs0_2 hn0_2 (H0_2.out.keep B)).mono ?_; rintro e w13 ⟨t5, l_p0_0, h_p0_0, rfl, ⟨p0_0, lo_p0_0⟩, hb⟩
  clear q_a0_0 q_a0_1 q_a0_2 q_a0_3
  replace s := s.keep hb
  replace g := g.keep hb
  replace X_a0 := Lib.hid (X_a0.out.step hb)
  replace X_x0 := Lib.hid (X_x0.out.step hb)
  replace B := below_step B hb
  have zz13 := hb.size
  have hi_p0_0 := p0_0.2.2
  clear hb
  go_wp2_with fail
  refine (HI.out _ _ p0_0.row).mono ?_; rintro e w14 ⟨t6, rfl, ho, hb⟩
  replace s := s.keep hb
  replace g := g.keep hb
  replace p0_0 := p0_0.keep hb
  replace X_a0 := Lib.hid (X_a0.out.step hb)
  replace X_x0 := Lib.hid (X_x0.out.step hb)
  replace B := below_step B hb
  have zz14 := hb.size
  have h := OwnR.of_own ho
  clear hb ho
  clear p0_0
  go_wp2_with fail
  refine (eqInt_gives _ _ _ m0 ys0 hm0 h.row s.row).mono ?_; rintro e w15 ⟨rfl, hb⟩
  replace s := s.keep hb
  replace g := g.keep hb
  replace h := h.keep hb
  replace X_a0 := Lib.hid (X_a0.out.step hb)
  replace X_x0 := Lib.hid (X_x0.out.step hb)
  replace B := below_step B hb
  have zz15 := hb.size
  clear hb
  clear h
  clear s
  go_wp2_with fail
  refine (heldInt_gives _ _ m0 1 _ rfl (by omega) g.row).mono ?_; rintro e w16 ⟨rfl, hb⟩
  replace g := g.keep hb
  replace X_a0 := Lib.hid (X_a0.out.step hb)
  replace X_x0 := Lib.hid (X_x0.out.step hb)
  replace B := below_step B hb
  have zz16 := hb.size
  clear hb
  go_wp2
  go_ret
  exact ⟨rfl, B⟩
theorem walk (w : World) (r s d : Int) (v : Value) (n : Nat) (cs : List Int) (hr : Row 1 w v n (cs.map (Value.int .i64))) (hm : n ≤ 9223372036854775807) (_ : (Lit.int .i64 r).wf = true) (_ : (Lit.int .i64 s).wf = true) (_ : (Lit.int .i64 d).wf = true) : Calls Try.prog 5 #[stYear.R r s v d] w fun e w' => e = .returned (.bool true) ∧ Below w.heap.size w w' := by
  by_cases hl : n ≤ 1048576
  · by_cases ok : YOk r s d n cs
    · have hn := ok.2.2.1.2
      exact core w r s d v n cs hl hr n (rw_ (fun k => lv r d s cs (k + 1)) n) hl hl (fun W u g => spec_lev_of W u n cs r s d n _ _ _ g (fun W' _ h => spec_run_yes W' u n cs r s d h ok)) (fun W u g => impl_lev_yes W u n cs r s d g ok)
    · exact core w r s d v n cs hl hr 0 [] (by omega) hl (fun W u g => spec_lev_of W u n cs r s d 0 _ _ _ g (fun W' _ h => spec_run_no W' u n cs r s d hl h ok)) (fun W u g => impl_lev_no W u n cs r s d hl g ok)
  · obtain ⟨a, c, rfl⟩ := hr.shape
    have X := Blk.new w 32 #[.int .i64 r, .int .i64 s, .slice a n c, .int .i64 d]
    obtain ⟨q0, q1, q2, q3⟩ := blk4 X
    go_enter Try.func5, Try.ntmps5
    go_wp2_with fail
    refine (stYear.sz_no _ r s d a n c _ (by omega) (by omega) hm).mono ?_; rintro e w1 ⟨rfl, hb⟩
    clear q0 q1 q2 q3
    go_wp2
    go_ret
    exact ⟨rfl, below_step (below_al (Below.refl _ _) _) hb⟩
end Go.Proofs.Ytnmmnnapoodiiaa.wFnExactLevelsOf
namespace Go.Proofs.Ytnmmnnapoodiiaa.wFnExactShortDays
open Go.RowKit Go.Proofs.Ytnmmnnapoodiiaa.kit Go.Proofs.Ytnmmnnapoodiiaa.lawi Go.Proofs.Ytnmmnnapoodiiaa.own Go.Proofs.Ytnmmnnapoodiiaa.rainl Go.Proofs.Ytnmmnnapoodiiaa.rain Go.Proofs.Ytnmmnnapoodiiaa.cis Go.Proofs.Ytnmmnnapoodiiaa.chl Go.Proofs.Ytnmmnnapoodiiaa.yrl Go.Proofs.Ytnmmnnapoodiiaa.yr
set_option maxRecDepth 100000 in
set_option maxHeartbeats 4000000 in
theorem core (w : World) (f0_0 f0_1 f0_3 : Int) (v0_2 : Value) (n0_2 : Nat) (zs0_2 : List Int) (hn0_2 : n0_2 ≤ 1048576) (h0_2 : Row 1 w v0_2 n0_2 (zs0_2.map (Value.int .i64))) (m0 : Nat) (ys0 : List Int) (hm0 : m0 ≤ 1048576)
    (hsum : n0_2 ≤ 1048576)
    (hs : ∀ W u0_2, Row 1 W u0_2 n0_2 (zs0_2.map (Value.int .i64)) → Calls Try.prog 28 #[stYear.R f0_0 f0_1 u0_2 f0_3] W (fun e W' => ∃ t, e = .returned (t) ∧ W'.ownsRow W.heap.size 3 1 t m0 (ys0.map (Value.int .i64)) ∧ Below W.heap.size W W'))
    (hi : ∀ W u0_2, Row 1 W u0_2 n0_2 (zs0_2.map (Value.int .i64)) → Calls Try.prog 16 #[stYear.R f0_0 f0_1 u0_2 f0_3] W (fun e W' => ∃ t, e = .returned (t) ∧ W'.ownsRow W.heap.size 3 1 t m0 (ys0.map (Value.int .i64)) ∧ Below W.heap.size W W')) :
    Calls Try.prog 6 #[stYear.R f0_0 f0_1 v0_2 f0_3] w (Gives w (.bool true)) := by
  obtain ⟨b0_2, c0_2, rfl⟩ := h0_2.shape
  have H0_2 := Lib.hid h0_2
  clear h0_2
  have HS := Lib.hid hs
  have HI := Lib.hid hi
  clear hs hi
  have X_a0 : Blk (w.alloc (.cells #[(.int .i64 f0_0), (.int .i64 f0_1), (.slice b0_2 n0_2 c0_2), (.int .i64 f0_3)] 32)) w.heap.size 32 #[(.int .i64 f0_0), (.int .i64 f0_1), (.slice b0_2 n0_2 c0_2), (.int .i64 f0_3)] := by
    have := Blk.new w 32 #[(.int .i64 f0_0), (.int .i64 f0_1), (.slice b0_2 n0_2 c0_2), (.int .i64 f0_3)]
    simpa using this
  replace X_a0 := Lib.hid X_a0
  have B : Below w.heap.size w (w.alloc (.cells #[(.int .i64 f0_0), (.int .i64 f0_1), (.slice b0_2 n0_2 c0_2), (.int .i64 f0_3)] 32)) := below_al (Below.refl _ _) _
  have zzb : (w.alloc (.cells #[(.int .i64 f0_0), (.int .i64 f0_1), (.slice b0_2 n0_2 c0_2), (.int .i64 f0_3)] 32)).heap.size = w.heap.size + 1 := by simp
  go_enter Try.func6, Try.ntmps6
  have q_a0_0 := X_a0.out.cell 0
  have q_a0_1 := X_a0.out.cell 1
  have q_a0_2 := X_a0.out.cell 2
  have q_a0_3 := X_a0.out.cell 3
  go_wp2_with fail
  refine (stYear.sz_yes _ _ _ _ _ n0_2 c0_2 _ (by omega) (by omega)).mono ?_; rintro e w1 ⟨rfl, hb⟩
  clear q_a0_0 q_a0_1 q_a0_2 q_a0_3
  replace X_a0 := Lib.hid (X_a0.out.step hb)
  replace B := below_step B hb
  have zz1 := hb.size
  clear hb
  have q_a0_0 := X_a0.out.cell 0
  have q_a0_1 := X_a0.out.cell 1
  have q_a0_2 := X_a0.out.cell 2
  have q_a0_3 := X_a0.out.cell 3
  go_wp2_with fail
  refine (stYear.to_got _ _ _ _ _ n0_2 zs0_2 hn0_2 (H0_2.out.keep B)).mono ?_; rintro e w2 ⟨t1, l_o0_0, h_o0_0, rfl, ⟨o0_0, lo_o0_0⟩, hb⟩
  clear q_a0_0 q_a0_1 q_a0_2 q_a0_3
  replace X_a0 := Lib.hid (X_a0.out.step hb)
  replace B := below_step B hb
  have zz2 := hb.size
  have hi_o0_0 := o0_0.2.2
  clear hb
  go_wp2_with fail
  refine (HS.out _ _ o0_0.row).mono ?_; rintro e w3 ⟨t2, rfl, ho, hb⟩
  replace o0_0 := o0_0.keep hb
  replace X_a0 := Lib.hid (X_a0.out.step hb)
  replace B := below_step B hb
  have zz3 := hb.size
  have s := OwnR.of_own ho
  clear hb ho
  clear o0_0
  have q_a0_0 := X_a0.out.cell 0
  have q_a0_1 := X_a0.out.cell 1
  have q_a0_2 := X_a0.out.cell 2
  have q_a0_3 := X_a0.out.cell 3
  go_wp2_with fail
  refine (stYear.to_got _ _ _ _ _ n0_2 zs0_2 hn0_2 (H0_2.out.keep B)).mono ?_; rintro e w4 ⟨t3, l_x0_0, h_x0_0, rfl, ⟨x0_0, lo_x0_0⟩, hb⟩
  clear q_a0_0 q_a0_1 q_a0_2 q_a0_3
  replace s := s.keep hb
  replace X_a0 := Lib.hid (X_a0.out.step hb)
  replace B := below_step B hb
  have zz4 := hb.size
  have hi_x0_0 := x0_0.2.2
  clear hb
  obtain ⟨ba_x00, ca_x00, rfl⟩ := own_shape x0_0.own
  have hb : Below w4.heap.size w4 (w4.alloc (.cells #[(.int .i64 f0_0), (.int .i64 f0_1), (.slice ba_x00 n0_2 ca_x00), (.int .i64 f0_3)] 26)) := below_al (Below.refl _ _) _
  replace s := s.keep hb
  replace x0_0 := x0_0.keep hb
  replace X_a0 := Lib.hid (X_a0.out.step hb)
  replace B := below_step B hb
  have zz5 := hb.size
  have X_x0 : Blk (w4.alloc (.cells #[(.int .i64 f0_0), (.int .i64 f0_1), (.slice ba_x00 n0_2 ca_x00), (.int .i64 f0_3)] 26)) w4.heap.size 26 #[(.int .i64 f0_0), (.int .i64 f0_1), (.slice ba_x00 n0_2 ca_x00), (.int .i64 f0_3)] := by
    have := Blk.new w4 26 #[(.int .i64 f0_0), (.int .i64 f0_1), (.slice ba_x00 n0_2 ca_x00), (.int .i64 f0_3)]
    simpa using this
  replace X_x0 := Lib.hid X_x0
  have zy5 : (w4.alloc (.cells #[(.int .i64 f0_0), (.int .i64 f0_1), (.slice ba_x00 n0_2 ca_x00), (.int .i64 f0_3)] 26)).heap.size = w4.heap.size + 1 := by simp
  clear hb
  have q_x0_0 := X_x0.out.cell 0
  have q_x0_1 := X_x0.out.cell 1
  have q_x0_2 := X_x0.out.cell 2
  have q_x0_3 := X_x0.out.cell 3
  go_wp2_with fail
  refine (HI.out _ _ x0_0.row).mono ?_; rintro e w6 ⟨t4, rfl, ho, hb⟩
  clear q_x0_0 q_x0_1 q_x0_2 q_x0_3
  replace s := s.keep hb
  replace x0_0 := x0_0.keep hb
  replace X_a0 := Lib.hid (X_a0.out.step hb)
  replace X_x0 := Lib.hid (X_x0.out.step hb)
  replace B := below_step B hb
  have zz6 := hb.size
  have g := OwnR.of_own ho
  clear hb ho
  go_wp2_with fail
  refine (eqInt_gives _ _ _ m0 ys0 hm0 g.row s.row).mono ?_; rintro e w7 ⟨rfl, hb⟩
  replace s := s.keep hb
  replace x0_0 := x0_0.keep hb
  replace g := g.keep hb
  replace X_a0 := Lib.hid (X_a0.out.step hb)
  replace X_x0 := Lib.hid (X_x0.out.step hb)
  replace B := below_step B hb
  have zz7 := hb.size
  clear hb
  have q_x0_0 := X_x0.out.cell 0
  have q_x0_1 := X_x0.out.cell 1
  have q_x0_2 := X_x0.out.cell 2
  have q_x0_3 := X_x0.out.cell 3
  have q_a0_0 := X_a0.out.cell 0
  have q_a0_1 := X_a0.out.cell 1
  have q_a0_2 := X_a0.out.cell 2
  have q_a0_3 := X_a0.out.cell 3
  go_wp2
  go_region_held3 (fun W => W.cell? ⟨w4.heap.size, 0, none⟩ = some (.int .i64 f0_0) ∧ W.cell? ⟨w4.heap.size, 1, none⟩ = some (.int .i64 f0_1) ∧ W.cell? ⟨w4.heap.size, 2, none⟩ = some (.slice ba_x00 n0_2 ca_x00) ∧ W.cell? ⟨w4.heap.size, 3, none⟩ = some (.int .i64 f0_3) ∧ W.cell? ⟨w.heap.size, 0, none⟩ = some (.int .i64 f0_0) ∧ W.cell? ⟨w.heap.size, 1, none⟩ = some (.int .i64 f0_1) ∧ W.cell? ⟨w.heap.size, 2, none⟩ = some (.slice b0_2 n0_2 c0_2) ∧ W.cell? ⟨w.heap.size, 3, none⟩ = some (.int .i64 f0_3)) (first | assumption | exact ⟨q_x0_0, q_x0_1, q_x0_2, q_x0_3, q_a0_0, q_a0_1, q_a0_2, q_a0_3⟩ | exact keep8 (by assumption) (by assumption) | fail)
    (first
      | (go_at_call 21; refine (stYear.to_got _ _ _ _ _ n0_2 zs0_2 hn0_2 (H0_2.out.keep (by repeat (first | assumption | (with_reducible exact Below.refl _ _) | (with_reducible refine below_dr ?_) | (with_reducible refine below_al ?_ _) | (with_reducible refine below_step ?_ (by assumption)) | fail)))).mono ?_; rintro e wt ⟨tc0, lc0, hc0, rfl, ⟨oc0, _⟩, hbt⟩)
      | (go_at_call 22; refine (stYear.eq_yes _ _ _ _ _ _ n0_2 zs0_2 hn0_2 (x0_0.keep (by repeat (first | assumption | (with_reducible exact Below.refl _ _) | (with_reducible refine below_dr ?_) | (with_reducible refine below_al ?_ _) | (with_reducible refine below_step ?_ (by assumption)) | fail))).row oc0.row).mono ?_; rintro e w8 ⟨rfl, hb⟩)
      | fail)
  have hc : Below w7.heap.size w7 w8 := (by repeat (first | assumption | (with_reducible exact Below.refl _ _) | (with_reducible refine below_dr ?_) | (with_reducible refine below_al ?_ _) | (with_reducible refine below_step ?_ (by assumption)) | fail))
  clear q_x0_0 q_x0_1 q_x0_2 q_x0_3 q_a0_0 q_a0_1 q_a0_2 q_a0_3 hb hbt oc0
  replace s := s.keep hc
  replace x0_0 := x0_0.keep hc
  replace g := g.keep hc
  replace X_a0 := Lib.hid (X_a0.out.step hc)
  replace X_x0 := Lib.hid (X_x0.out.step hc)
  replace B := below_step B hc
  have zz8 := hc.size
  clear hc
  have q_x0_0 := X_x0.out.cell 0
  have q_x0_1 := X_x0.out.cell 1
  have q_x0_2 := X_x0.out.cell 2
  have q_x0_3 := X_x0.out.cell 3
  go_wp2_with fail
  refine (stYear.mark_own _ _ _ _ 1 _ (by omega) _ _ _ n0_2 _ x0_0  (by omega)).mono ?_; rintro e w9 ⟨rfl, om0, ch0⟩
  clear q_x0_0 q_x0_1 q_x0_2 q_x0_3
  have zz9_0 := ch0.size
  replace s := s.chg ch0 (by omega)
  replace g := g.chg ch0 (by omega)
  replace X_a0 := Lib.hid (Blk.chg X_a0.out ch0 (by omega))
  replace X_x0 := Lib.hid (Blk.chg X_x0.out ch0 (by omega))
  replace B := B.trans (ch0.below (B := w.heap.size) (by omega) (by omega))
  replace x0_0 := om0
  clear om0 ch0
  go_wp2_with fail
  refine (eqInt_gives _ _ _ m0 ys0 hm0 g.row s.row).mono ?_; rintro e w10 ⟨rfl, hb⟩
  replace s := s.keep hb
  replace x0_0 := x0_0.keep hb
  replace g := g.keep hb
  replace X_a0 := Lib.hid (X_a0.out.step hb)
  replace X_x0 := Lib.hid (X_x0.out.step hb)
  replace B := below_step B hb
  have zz10 := hb.size
  clear hb
  clear x0_0
  go_wp2_with fail
  refine (markInt_own _ _ _ _ m0 _ 1 _ (by omega) (by omega) g).mono ?_; rintro e w11 ⟨rfl, om, ch⟩
  have zz11_0 := ch.size
  replace s := s.chg ch (by omega)
  replace X_a0 := Lib.hid (Blk.chg X_a0.out ch (by omega))
  replace X_x0 := Lib.hid (Blk.chg X_x0.out ch (by omega))
  replace B := B.trans (ch.below (B := w.heap.size) (by omega) (by omega))
  replace g := om
  clear om ch
  go_wp2_with fail
  refine (heldInt_gives _ _ m0 1 _ rfl (by omega) g.row).mono ?_; rintro e w12 ⟨rfl, hb⟩
  replace s := s.keep hb
  replace g := g.keep hb
  replace X_a0 := Lib.hid (X_a0.out.step hb)
  replace X_x0 := Lib.hid (X_x0.out.step hb)
  replace B := below_step B hb
  have zz12 := hb.size
  clear hb
  have q_a0_0 := X_a0.out.cell 0
  have q_a0_1 := X_a0.out.cell 1
  have q_a0_2 := X_a0.out.cell 2
  have q_a0_3 := X_a0.out.cell 3
  go_wp2_with fail
  refine (stYear.to_got _ _ _ _ _ n0_2 zs0_2 hn0_2 (H0_2.out.keep B)).mono ?_; rintro e w13 ⟨t5, l_p0_0, h_p0_0, rfl, ⟨p0_0, lo_p0_0⟩, hb⟩
  clear q_a0_0 q_a0_1 q_a0_2 q_a0_3
  replace s := s.keep hb
  replace g := g.keep hb
  replace X_a0 := Lib.hid (X_a0.out.step hb)
  replace X_x0 := Lib.hid (X_x0.out.step hb)
  replace B := below_step B hb
  have zz13 := hb.size
  have hi_p0_0 := p0_0.2.2
  clear hb
  go_wp2_with fail
  refine (HI.out _ _ p0_0.row).mono ?_; rintro e w14 ⟨t6, rfl, ho, hb⟩
  replace s := s.keep hb
  replace g := g.keep hb
  replace p0_0 := p0_0.keep hb
  replace X_a0 := Lib.hid (X_a0.out.step hb)
  replace X_x0 := Lib.hid (X_x0.out.step hb)
  replace B := below_step B hb
  have zz14 := hb.size
  have h := OwnR.of_own ho
  clear hb ho
  clear p0_0
  go_wp2_with fail
  refine (eqInt_gives _ _ _ m0 ys0 hm0 h.row s.row).mono ?_; rintro e w15 ⟨rfl, hb⟩
  replace s := s.keep hb
  replace g := g.keep hb
  replace h := h.keep hb
  replace X_a0 := Lib.hid (X_a0.out.step hb)
  replace X_x0 := Lib.hid (X_x0.out.step hb)
  replace B := below_step B hb
  have zz15 := hb.size
  clear hb
  clear h
  clear s
  go_wp2_with fail
  refine (heldInt_gives _ _ m0 1 _ rfl (by omega) g.row).mono ?_; rintro e w16 ⟨rfl, hb⟩
  replace g := g.keep hb
  replace X_a0 := Lib.hid (X_a0.out.step hb)
  replace X_x0 := Lib.hid (X_x0.out.step hb)
  replace B := below_step B hb
  have zz16 := hb.size
  clear hb
  go_wp2
  go_ret
  exact ⟨rfl, B⟩
theorem walk (w : World) (r s d : Int) (v : Value) (n : Nat) (cs : List Int) (hr : Row 1 w v n (cs.map (Value.int .i64))) (hm : n ≤ 9223372036854775807) (_ : (Lit.int .i64 r).wf = true) (_ : (Lit.int .i64 s).wf = true) (_ : (Lit.int .i64 d).wf = true) : Calls Try.prog 6 #[stYear.R r s v d] w fun e w' => e = .returned (.bool true) ∧ Below w.heap.size w w' := by
  by_cases hl : n ≤ 1048576
  · by_cases ok : YOk r s d n cs
    · have hn := ok.2.2.1.2
      exact core w r s d v n cs hl hr (dy (fun k => decide (tk r d s cs k < d)) n).length (dy (fun k => decide (tk r d s cs k < d)) n) (by have := dy_len (fun k => decide (tk r d s cs k < d)) n; omega) hl (fun W u g => by have h := spec_short_of W u n cs r s d n _ _ _ hn g (fun W' _ h => spec_run_yes W' u n cs r s d h ok); rwa [dy_congr (q := fun k => decide (tk r d s cs k < d)) n (fun k hk => by simp only [rw_at _ hk])] at h) (fun W u g => impl_short_yes W u n cs r s d g ok)
    · exact core w r s d v n cs hl hr 0 [] (by omega) hl (fun W u g => spec_short_of W u n cs r s d 0 [] [] [] (by omega) g (fun W' _ h => spec_run_no W' u n cs r s d hl h ok)) (fun W u g => impl_short_no W u n cs r s d hl g ok)
  · obtain ⟨a, c, rfl⟩ := hr.shape
    have X := Blk.new w 32 #[.int .i64 r, .int .i64 s, .slice a n c, .int .i64 d]
    obtain ⟨q0, q1, q2, q3⟩ := blk4 X
    go_enter Try.func6, Try.ntmps6
    go_wp2_with fail
    refine (stYear.sz_no _ r s d a n c _ (by omega) (by omega) hm).mono ?_; rintro e w1 ⟨rfl, hb⟩
    clear q0 q1 q2 q3
    go_wp2
    go_ret
    exact ⟨rfl, below_step (below_al (Below.refl _ _) _) hb⟩
end Go.Proofs.Ytnmmnnapoodiiaa.wFnExactShortDays
namespace Go.Proofs.Ytnmmnnapoodiiaa.wFnExactLostWater
open Go.RowKit Go.Proofs.Ytnmmnnapoodiiaa.kit Go.Proofs.Ytnmmnnapoodiiaa.lawi Go.Proofs.Ytnmmnnapoodiiaa.own Go.Proofs.Ytnmmnnapoodiiaa.rainl Go.Proofs.Ytnmmnnapoodiiaa.rain Go.Proofs.Ytnmmnnapoodiiaa.cis Go.Proofs.Ytnmmnnapoodiiaa.chl Go.Proofs.Ytnmmnnapoodiiaa.yrl Go.Proofs.Ytnmmnnapoodiiaa.yr
set_option maxRecDepth 100000 in
set_option maxHeartbeats 4000000 in
theorem core (w : World) (f0_0 f0_1 f0_3 : Int) (v0_2 : Value) (n0_2 : Nat) (zs0_2 : List Int) (hn0_2 : n0_2 ≤ 1048576) (h0_2 : Row 1 w v0_2 n0_2 (zs0_2.map (Value.int .i64))) (r0 : Int)
    (hsum : n0_2 ≤ 1048576)
    (hs : ∀ W u0_2, Row 1 W u0_2 n0_2 (zs0_2.map (Value.int .i64)) → Calls Try.prog 29 #[stYear.R f0_0 f0_1 u0_2 f0_3] W (Gives W (.int .i64 r0)))
    (hi : ∀ W u0_2, Row 1 W u0_2 n0_2 (zs0_2.map (Value.int .i64)) → Calls Try.prog 15 #[stYear.R f0_0 f0_1 u0_2 f0_3] W (Gives W (.int .i64 r0))) :
    Calls Try.prog 7 #[stYear.R f0_0 f0_1 v0_2 f0_3] w (Gives w (.bool true)) := by
  obtain ⟨b0_2, c0_2, rfl⟩ := h0_2.shape
  have H0_2 := Lib.hid h0_2
  clear h0_2
  have HS := Lib.hid hs
  have HI := Lib.hid hi
  clear hs hi
  have X_a0 : Blk (w.alloc (.cells #[(.int .i64 f0_0), (.int .i64 f0_1), (.slice b0_2 n0_2 c0_2), (.int .i64 f0_3)] 32)) w.heap.size 32 #[(.int .i64 f0_0), (.int .i64 f0_1), (.slice b0_2 n0_2 c0_2), (.int .i64 f0_3)] := by
    have := Blk.new w 32 #[(.int .i64 f0_0), (.int .i64 f0_1), (.slice b0_2 n0_2 c0_2), (.int .i64 f0_3)]
    simpa using this
  replace X_a0 := Lib.hid X_a0
  have B : Below w.heap.size w (w.alloc (.cells #[(.int .i64 f0_0), (.int .i64 f0_1), (.slice b0_2 n0_2 c0_2), (.int .i64 f0_3)] 32)) := below_al (Below.refl _ _) _
  have zzb : (w.alloc (.cells #[(.int .i64 f0_0), (.int .i64 f0_1), (.slice b0_2 n0_2 c0_2), (.int .i64 f0_3)] 32)).heap.size = w.heap.size + 1 := by simp
  go_enter Try.func7, Try.ntmps7
  have q_a0_0 := X_a0.out.cell 0
  have q_a0_1 := X_a0.out.cell 1
  have q_a0_2 := X_a0.out.cell 2
  have q_a0_3 := X_a0.out.cell 3
  go_wp2_with fail
  refine (stYear.sz_yes _ _ _ _ _ n0_2 c0_2 _ (by omega) (by omega)).mono ?_; rintro e w1 ⟨rfl, hb⟩
  clear q_a0_0 q_a0_1 q_a0_2 q_a0_3
  replace X_a0 := Lib.hid (X_a0.out.step hb)
  replace B := below_step B hb
  have zz1 := hb.size
  clear hb
  have q_a0_0 := X_a0.out.cell 0
  have q_a0_1 := X_a0.out.cell 1
  have q_a0_2 := X_a0.out.cell 2
  have q_a0_3 := X_a0.out.cell 3
  go_wp2_with fail
  refine (stYear.to_got _ _ _ _ _ n0_2 zs0_2 hn0_2 (H0_2.out.keep B)).mono ?_; rintro e w2 ⟨t1, l_o0_0, h_o0_0, rfl, ⟨o0_0, lo_o0_0⟩, hb⟩
  clear q_a0_0 q_a0_1 q_a0_2 q_a0_3
  replace X_a0 := Lib.hid (X_a0.out.step hb)
  replace B := below_step B hb
  have zz2 := hb.size
  have hi_o0_0 := o0_0.2.2
  clear hb
  go_wp2_with fail
  refine (HS.out _ _ o0_0.row).mono ?_; rintro e w3 ⟨rfl, hb⟩
  replace o0_0 := o0_0.keep hb
  replace X_a0 := Lib.hid (X_a0.out.step hb)
  replace B := below_step B hb
  have zz3 := hb.size
  clear hb
  clear o0_0
  have q_a0_0 := X_a0.out.cell 0
  have q_a0_1 := X_a0.out.cell 1
  have q_a0_2 := X_a0.out.cell 2
  have q_a0_3 := X_a0.out.cell 3
  go_wp2_with fail
  refine (stYear.to_got _ _ _ _ _ n0_2 zs0_2 hn0_2 (H0_2.out.keep B)).mono ?_; rintro e w4 ⟨t2, l_x0_0, h_x0_0, rfl, ⟨x0_0, lo_x0_0⟩, hb⟩
  clear q_a0_0 q_a0_1 q_a0_2 q_a0_3
  replace X_a0 := Lib.hid (X_a0.out.step hb)
  replace B := below_step B hb
  have zz4 := hb.size
  have hi_x0_0 := x0_0.2.2
  clear hb
  obtain ⟨ba_x00, ca_x00, rfl⟩ := own_shape x0_0.own
  have hb : Below w4.heap.size w4 (w4.alloc (.cells #[(.int .i64 f0_0), (.int .i64 f0_1), (.slice ba_x00 n0_2 ca_x00), (.int .i64 f0_3)] 26)) := below_al (Below.refl _ _) _
  replace x0_0 := x0_0.keep hb
  replace X_a0 := Lib.hid (X_a0.out.step hb)
  replace B := below_step B hb
  have zz5 := hb.size
  have X_x0 : Blk (w4.alloc (.cells #[(.int .i64 f0_0), (.int .i64 f0_1), (.slice ba_x00 n0_2 ca_x00), (.int .i64 f0_3)] 26)) w4.heap.size 26 #[(.int .i64 f0_0), (.int .i64 f0_1), (.slice ba_x00 n0_2 ca_x00), (.int .i64 f0_3)] := by
    have := Blk.new w4 26 #[(.int .i64 f0_0), (.int .i64 f0_1), (.slice ba_x00 n0_2 ca_x00), (.int .i64 f0_3)]
    simpa using this
  replace X_x0 := Lib.hid X_x0
  have zy5 : (w4.alloc (.cells #[(.int .i64 f0_0), (.int .i64 f0_1), (.slice ba_x00 n0_2 ca_x00), (.int .i64 f0_3)] 26)).heap.size = w4.heap.size + 1 := by simp
  clear hb
  have q_x0_0 := X_x0.out.cell 0
  have q_x0_1 := X_x0.out.cell 1
  have q_x0_2 := X_x0.out.cell 2
  have q_x0_3 := X_x0.out.cell 3
  go_wp2_with fail
  refine (HI.out _ _ x0_0.row).mono ?_; rintro e w6 ⟨rfl, hb⟩
  clear q_x0_0 q_x0_1 q_x0_2 q_x0_3
  replace x0_0 := x0_0.keep hb
  replace X_a0 := Lib.hid (X_a0.out.step hb)
  replace X_x0 := Lib.hid (X_x0.out.step hb)
  replace B := below_step B hb
  have zz6 := hb.size
  clear hb
  have q_x0_0 := X_x0.out.cell 0
  have q_x0_1 := X_x0.out.cell 1
  have q_x0_2 := X_x0.out.cell 2
  have q_x0_3 := X_x0.out.cell 3
  have q_a0_0 := X_a0.out.cell 0
  have q_a0_1 := X_a0.out.cell 1
  have q_a0_2 := X_a0.out.cell 2
  have q_a0_3 := X_a0.out.cell 3
  go_wp2
  go_region_held3 (fun W => W.cell? ⟨w4.heap.size, 0, none⟩ = some (.int .i64 f0_0) ∧ W.cell? ⟨w4.heap.size, 1, none⟩ = some (.int .i64 f0_1) ∧ W.cell? ⟨w4.heap.size, 2, none⟩ = some (.slice ba_x00 n0_2 ca_x00) ∧ W.cell? ⟨w4.heap.size, 3, none⟩ = some (.int .i64 f0_3) ∧ W.cell? ⟨w.heap.size, 0, none⟩ = some (.int .i64 f0_0) ∧ W.cell? ⟨w.heap.size, 1, none⟩ = some (.int .i64 f0_1) ∧ W.cell? ⟨w.heap.size, 2, none⟩ = some (.slice b0_2 n0_2 c0_2) ∧ W.cell? ⟨w.heap.size, 3, none⟩ = some (.int .i64 f0_3)) (first | assumption | exact ⟨q_x0_0, q_x0_1, q_x0_2, q_x0_3, q_a0_0, q_a0_1, q_a0_2, q_a0_3⟩ | exact keep8 (by assumption) (by assumption) | fail)
    (first
      | (go_at_call 21; refine (stYear.to_got _ _ _ _ _ n0_2 zs0_2 hn0_2 (H0_2.out.keep (by repeat (first | assumption | (with_reducible exact Below.refl _ _) | (with_reducible refine below_dr ?_) | (with_reducible refine below_al ?_ _) | (with_reducible refine below_step ?_ (by assumption)) | fail)))).mono ?_; rintro e wt ⟨tc0, lc0, hc0, rfl, ⟨oc0, _⟩, hbt⟩)
      | (go_at_call 22; refine (stYear.eq_yes _ _ _ _ _ _ n0_2 zs0_2 hn0_2 (x0_0.keep (by repeat (first | assumption | (with_reducible exact Below.refl _ _) | (with_reducible refine below_dr ?_) | (with_reducible refine below_al ?_ _) | (with_reducible refine below_step ?_ (by assumption)) | fail))).row oc0.row).mono ?_; rintro e w7 ⟨rfl, hb⟩)
      | fail)
  have hc : Below w6.heap.size w6 w7 := (by repeat (first | assumption | (with_reducible exact Below.refl _ _) | (with_reducible refine below_dr ?_) | (with_reducible refine below_al ?_ _) | (with_reducible refine below_step ?_ (by assumption)) | fail))
  clear q_x0_0 q_x0_1 q_x0_2 q_x0_3 q_a0_0 q_a0_1 q_a0_2 q_a0_3 hb hbt oc0
  replace x0_0 := x0_0.keep hc
  replace X_a0 := Lib.hid (X_a0.out.step hc)
  replace X_x0 := Lib.hid (X_x0.out.step hc)
  replace B := below_step B hc
  have zz7 := hc.size
  clear hc
  go_wp2
  go_ret
  exact ⟨rfl, B⟩
theorem walk (w : World) (r s d : Int) (v : Value) (n : Nat) (cs : List Int) (hr : Row 1 w v n (cs.map (Value.int .i64))) (hm : n ≤ 9223372036854775807) (_ : (Lit.int .i64 r).wf = true) (_ : (Lit.int .i64 s).wf = true) (_ : (Lit.int .i64 d).wf = true) : Calls Try.prog 7 #[stYear.R r s v d] w fun e w' => e = .returned (.bool true) ∧ Below w.heap.size w w' := by
  by_cases hl : n ≤ 1048576
  · by_cases ok : YOk r s d n cs
    · have hn := ok.2.2.1.2
      exact core w r s d v n cs hl hr (sm (ov r d s cs) n) hl (fun W u g => by have h := spec_lost_yes W u n cs r s d _ _ _ g ok (fun j hj => by rw [rw_at _ hj]; have := ov_bd ok hj; omega) (fun W' _ h => spec_run_yes W' u n cs r s d h ok); rwa [sm_congr (g := ov r d s cs) n (fun k hk => rw_at _ hk)] at h) (fun W u g => impl_lost_yes W u n cs r s d g ok)
    · exact core w r s d v n cs hl hr (-1) hl (fun W u g => spec_lost_no W u n cs r s d hl g ok) (fun W u g => impl_lost_no W u n cs r s d hl g ok)
  · obtain ⟨a, c, rfl⟩ := hr.shape
    have X := Blk.new w 32 #[.int .i64 r, .int .i64 s, .slice a n c, .int .i64 d]
    obtain ⟨q0, q1, q2, q3⟩ := blk4 X
    go_enter Try.func7, Try.ntmps7
    go_wp2_with fail
    refine (stYear.sz_no _ r s d a n c _ (by omega) (by omega) hm).mono ?_; rintro e w1 ⟨rfl, hb⟩
    clear q0 q1 q2 q3
    go_wp2
    go_ret
    exact ⟨rfl, below_step (below_al (Below.refl _ _) _) hb⟩
end Go.Proofs.Ytnmmnnapoodiiaa.wFnExactLostWater
namespace Go.Proofs.Ytnmmnnapoodiiaa.wFnExactTakenWater
open Go.RowKit Go.Proofs.Ytnmmnnapoodiiaa.kit Go.Proofs.Ytnmmnnapoodiiaa.lawi Go.Proofs.Ytnmmnnapoodiiaa.own Go.Proofs.Ytnmmnnapoodiiaa.rainl Go.Proofs.Ytnmmnnapoodiiaa.rain Go.Proofs.Ytnmmnnapoodiiaa.cis Go.Proofs.Ytnmmnnapoodiiaa.chl Go.Proofs.Ytnmmnnapoodiiaa.yrl Go.Proofs.Ytnmmnnapoodiiaa.yr
set_option maxRecDepth 100000 in
set_option maxHeartbeats 4000000 in
theorem core (w : World) (f0_0 f0_1 f0_3 : Int) (v0_2 : Value) (n0_2 : Nat) (zs0_2 : List Int) (hn0_2 : n0_2 ≤ 1048576) (h0_2 : Row 1 w v0_2 n0_2 (zs0_2.map (Value.int .i64))) (r0 : Int)
    (hsum : n0_2 ≤ 1048576)
    (hs : ∀ W u0_2, Row 1 W u0_2 n0_2 (zs0_2.map (Value.int .i64)) → Calls Try.prog 30 #[stYear.R f0_0 f0_1 u0_2 f0_3] W (Gives W (.int .i64 r0)))
    (hi : ∀ W u0_2, Row 1 W u0_2 n0_2 (zs0_2.map (Value.int .i64)) → Calls Try.prog 14 #[stYear.R f0_0 f0_1 u0_2 f0_3] W (Gives W (.int .i64 r0))) :
    Calls Try.prog 8 #[stYear.R f0_0 f0_1 v0_2 f0_3] w (Gives w (.bool true)) := by
  obtain ⟨b0_2, c0_2, rfl⟩ := h0_2.shape
  have H0_2 := Lib.hid h0_2
  clear h0_2
  have HS := Lib.hid hs
  have HI := Lib.hid hi
  clear hs hi
  have X_a0 : Blk (w.alloc (.cells #[(.int .i64 f0_0), (.int .i64 f0_1), (.slice b0_2 n0_2 c0_2), (.int .i64 f0_3)] 32)) w.heap.size 32 #[(.int .i64 f0_0), (.int .i64 f0_1), (.slice b0_2 n0_2 c0_2), (.int .i64 f0_3)] := by
    have := Blk.new w 32 #[(.int .i64 f0_0), (.int .i64 f0_1), (.slice b0_2 n0_2 c0_2), (.int .i64 f0_3)]
    simpa using this
  replace X_a0 := Lib.hid X_a0
  have B : Below w.heap.size w (w.alloc (.cells #[(.int .i64 f0_0), (.int .i64 f0_1), (.slice b0_2 n0_2 c0_2), (.int .i64 f0_3)] 32)) := below_al (Below.refl _ _) _
  have zzb : (w.alloc (.cells #[(.int .i64 f0_0), (.int .i64 f0_1), (.slice b0_2 n0_2 c0_2), (.int .i64 f0_3)] 32)).heap.size = w.heap.size + 1 := by simp
  go_enter Try.func8, Try.ntmps8
  have q_a0_0 := X_a0.out.cell 0
  have q_a0_1 := X_a0.out.cell 1
  have q_a0_2 := X_a0.out.cell 2
  have q_a0_3 := X_a0.out.cell 3
  go_wp2_with fail
  refine (stYear.sz_yes _ _ _ _ _ n0_2 c0_2 _ (by omega) (by omega)).mono ?_; rintro e w1 ⟨rfl, hb⟩
  clear q_a0_0 q_a0_1 q_a0_2 q_a0_3
  replace X_a0 := Lib.hid (X_a0.out.step hb)
  replace B := below_step B hb
  have zz1 := hb.size
  clear hb
  have q_a0_0 := X_a0.out.cell 0
  have q_a0_1 := X_a0.out.cell 1
  have q_a0_2 := X_a0.out.cell 2
  have q_a0_3 := X_a0.out.cell 3
  go_wp2_with fail
  refine (stYear.to_got _ _ _ _ _ n0_2 zs0_2 hn0_2 (H0_2.out.keep B)).mono ?_; rintro e w2 ⟨t1, l_o0_0, h_o0_0, rfl, ⟨o0_0, lo_o0_0⟩, hb⟩
  clear q_a0_0 q_a0_1 q_a0_2 q_a0_3
  replace X_a0 := Lib.hid (X_a0.out.step hb)
  replace B := below_step B hb
  have zz2 := hb.size
  have hi_o0_0 := o0_0.2.2
  clear hb
  go_wp2_with fail
  refine (HS.out _ _ o0_0.row).mono ?_; rintro e w3 ⟨rfl, hb⟩
  replace o0_0 := o0_0.keep hb
  replace X_a0 := Lib.hid (X_a0.out.step hb)
  replace B := below_step B hb
  have zz3 := hb.size
  clear hb
  clear o0_0
  have q_a0_0 := X_a0.out.cell 0
  have q_a0_1 := X_a0.out.cell 1
  have q_a0_2 := X_a0.out.cell 2
  have q_a0_3 := X_a0.out.cell 3
  go_wp2_with fail
  refine (stYear.to_got _ _ _ _ _ n0_2 zs0_2 hn0_2 (H0_2.out.keep B)).mono ?_; rintro e w4 ⟨t2, l_x0_0, h_x0_0, rfl, ⟨x0_0, lo_x0_0⟩, hb⟩
  clear q_a0_0 q_a0_1 q_a0_2 q_a0_3
  replace X_a0 := Lib.hid (X_a0.out.step hb)
  replace B := below_step B hb
  have zz4 := hb.size
  have hi_x0_0 := x0_0.2.2
  clear hb
  obtain ⟨ba_x00, ca_x00, rfl⟩ := own_shape x0_0.own
  have hb : Below w4.heap.size w4 (w4.alloc (.cells #[(.int .i64 f0_0), (.int .i64 f0_1), (.slice ba_x00 n0_2 ca_x00), (.int .i64 f0_3)] 26)) := below_al (Below.refl _ _) _
  replace x0_0 := x0_0.keep hb
  replace X_a0 := Lib.hid (X_a0.out.step hb)
  replace B := below_step B hb
  have zz5 := hb.size
  have X_x0 : Blk (w4.alloc (.cells #[(.int .i64 f0_0), (.int .i64 f0_1), (.slice ba_x00 n0_2 ca_x00), (.int .i64 f0_3)] 26)) w4.heap.size 26 #[(.int .i64 f0_0), (.int .i64 f0_1), (.slice ba_x00 n0_2 ca_x00), (.int .i64 f0_3)] := by
    have := Blk.new w4 26 #[(.int .i64 f0_0), (.int .i64 f0_1), (.slice ba_x00 n0_2 ca_x00), (.int .i64 f0_3)]
    simpa using this
  replace X_x0 := Lib.hid X_x0
  have zy5 : (w4.alloc (.cells #[(.int .i64 f0_0), (.int .i64 f0_1), (.slice ba_x00 n0_2 ca_x00), (.int .i64 f0_3)] 26)).heap.size = w4.heap.size + 1 := by simp
  clear hb
  have q_x0_0 := X_x0.out.cell 0
  have q_x0_1 := X_x0.out.cell 1
  have q_x0_2 := X_x0.out.cell 2
  have q_x0_3 := X_x0.out.cell 3
  go_wp2_with fail
  refine (HI.out _ _ x0_0.row).mono ?_; rintro e w6 ⟨rfl, hb⟩
  clear q_x0_0 q_x0_1 q_x0_2 q_x0_3
  replace x0_0 := x0_0.keep hb
  replace X_a0 := Lib.hid (X_a0.out.step hb)
  replace X_x0 := Lib.hid (X_x0.out.step hb)
  replace B := below_step B hb
  have zz6 := hb.size
  clear hb
  have q_x0_0 := X_x0.out.cell 0
  have q_x0_1 := X_x0.out.cell 1
  have q_x0_2 := X_x0.out.cell 2
  have q_x0_3 := X_x0.out.cell 3
  have q_a0_0 := X_a0.out.cell 0
  have q_a0_1 := X_a0.out.cell 1
  have q_a0_2 := X_a0.out.cell 2
  have q_a0_3 := X_a0.out.cell 3
  go_wp2
  go_region_held3 (fun W => W.cell? ⟨w4.heap.size, 0, none⟩ = some (.int .i64 f0_0) ∧ W.cell? ⟨w4.heap.size, 1, none⟩ = some (.int .i64 f0_1) ∧ W.cell? ⟨w4.heap.size, 2, none⟩ = some (.slice ba_x00 n0_2 ca_x00) ∧ W.cell? ⟨w4.heap.size, 3, none⟩ = some (.int .i64 f0_3) ∧ W.cell? ⟨w.heap.size, 0, none⟩ = some (.int .i64 f0_0) ∧ W.cell? ⟨w.heap.size, 1, none⟩ = some (.int .i64 f0_1) ∧ W.cell? ⟨w.heap.size, 2, none⟩ = some (.slice b0_2 n0_2 c0_2) ∧ W.cell? ⟨w.heap.size, 3, none⟩ = some (.int .i64 f0_3)) (first | assumption | exact ⟨q_x0_0, q_x0_1, q_x0_2, q_x0_3, q_a0_0, q_a0_1, q_a0_2, q_a0_3⟩ | exact keep8 (by assumption) (by assumption) | fail)
    (first
      | (go_at_call 21; refine (stYear.to_got _ _ _ _ _ n0_2 zs0_2 hn0_2 (H0_2.out.keep (by repeat (first | assumption | (with_reducible exact Below.refl _ _) | (with_reducible refine below_dr ?_) | (with_reducible refine below_al ?_ _) | (with_reducible refine below_step ?_ (by assumption)) | fail)))).mono ?_; rintro e wt ⟨tc0, lc0, hc0, rfl, ⟨oc0, _⟩, hbt⟩)
      | (go_at_call 22; refine (stYear.eq_yes _ _ _ _ _ _ n0_2 zs0_2 hn0_2 (x0_0.keep (by repeat (first | assumption | (with_reducible exact Below.refl _ _) | (with_reducible refine below_dr ?_) | (with_reducible refine below_al ?_ _) | (with_reducible refine below_step ?_ (by assumption)) | fail))).row oc0.row).mono ?_; rintro e w7 ⟨rfl, hb⟩)
      | fail)
  have hc : Below w6.heap.size w6 w7 := (by repeat (first | assumption | (with_reducible exact Below.refl _ _) | (with_reducible refine below_dr ?_) | (with_reducible refine below_al ?_ _) | (with_reducible refine below_step ?_ (by assumption)) | fail))
  clear q_x0_0 q_x0_1 q_x0_2 q_x0_3 q_a0_0 q_a0_1 q_a0_2 q_a0_3 hb hbt oc0
  replace x0_0 := x0_0.keep hc
  replace X_a0 := Lib.hid (X_a0.out.step hc)
  replace X_x0 := Lib.hid (X_x0.out.step hc)
  replace B := below_step B hc
  have zz7 := hc.size
  clear hc
  go_wp2
  go_ret
  exact ⟨rfl, B⟩
theorem walk (w : World) (r s d : Int) (v : Value) (n : Nat) (cs : List Int) (hr : Row 1 w v n (cs.map (Value.int .i64))) (hm : n ≤ 9223372036854775807) (_ : (Lit.int .i64 r).wf = true) (_ : (Lit.int .i64 s).wf = true) (_ : (Lit.int .i64 d).wf = true) : Calls Try.prog 8 #[stYear.R r s v d] w fun e w' => e = .returned (.bool true) ∧ Below w.heap.size w w' := by
  by_cases hl : n ≤ 1048576
  · by_cases ok : YOk r s d n cs
    · have hn := ok.2.2.1.2
      exact core w r s d v n cs hl hr (sm (tk r d s cs) n) hl (fun W u g => by have h := spec_taken_yes W u n cs r s d _ _ _ g ok (fun j hj => by rw [rw_at _ hj]; have := tk_bd ok hj; have := ok.2.2.2.1; omega) (fun W' _ h => spec_run_yes W' u n cs r s d h ok); rwa [sm_congr (g := tk r d s cs) n (fun k hk => rw_at _ hk)] at h) (fun W u g => impl_taken_yes W u n cs r s d g ok)
    · exact core w r s d v n cs hl hr (-1) hl (fun W u g => spec_taken_no W u n cs r s d hl g ok) (fun W u g => impl_taken_no W u n cs r s d hl g ok)
  · obtain ⟨a, c, rfl⟩ := hr.shape
    have X := Blk.new w 32 #[.int .i64 r, .int .i64 s, .slice a n c, .int .i64 d]
    obtain ⟨q0, q1, q2, q3⟩ := blk4 X
    go_enter Try.func8, Try.ntmps8
    go_wp2_with fail
    refine (stYear.sz_no _ r s d a n c _ (by omega) (by omega) hm).mono ?_; rintro e w1 ⟨rfl, hb⟩
    clear q0 q1 q2 q3
    go_wp2
    go_ret
    exact ⟨rfl, below_step (below_al (Below.refl _ _) _) hb⟩
end Go.Proofs.Ytnmmnnapoodiiaa.wFnExactTakenWater
namespace Go.Proofs.Ytnmmnnapoodiiaa.wFnExactDryDays
open Go.RowKit Go.Proofs.Ytnmmnnapoodiiaa.kit Go.Proofs.Ytnmmnnapoodiiaa.lawi Go.Proofs.Ytnmmnnapoodiiaa.own Go.Proofs.Ytnmmnnapoodiiaa.rainl Go.Proofs.Ytnmmnnapoodiiaa.rain Go.Proofs.Ytnmmnnapoodiiaa.cis Go.Proofs.Ytnmmnnapoodiiaa.chl Go.Proofs.Ytnmmnnapoodiiaa.yrl Go.Proofs.Ytnmmnnapoodiiaa.yr
set_option maxRecDepth 100000 in
set_option maxHeartbeats 4000000 in
theorem core (w : World) (f0_0 f0_1 f0_3 : Int) (v0_2 : Value) (n0_2 : Nat) (zs0_2 : List Int) (hn0_2 : n0_2 ≤ 1048576) (h0_2 : Row 1 w v0_2 n0_2 (zs0_2.map (Value.int .i64))) (r0 : Int)
    (hsum : n0_2 ≤ 1048576)
    (hs : ∀ W u0_2, Row 1 W u0_2 n0_2 (zs0_2.map (Value.int .i64)) → Calls Try.prog 31 #[stYear.R f0_0 f0_1 u0_2 f0_3] W (Gives W (.int .i64 r0)))
    (hi : ∀ W u0_2, Row 1 W u0_2 n0_2 (zs0_2.map (Value.int .i64)) → Calls Try.prog 17 #[stYear.R f0_0 f0_1 u0_2 f0_3] W (Gives W (.int .i64 r0))) :
    Calls Try.prog 9 #[stYear.R f0_0 f0_1 v0_2 f0_3] w (Gives w (.bool true)) := by
  obtain ⟨b0_2, c0_2, rfl⟩ := h0_2.shape
  have H0_2 := Lib.hid h0_2
  clear h0_2
  have HS := Lib.hid hs
  have HI := Lib.hid hi
  clear hs hi
  have X_a0 : Blk (w.alloc (.cells #[(.int .i64 f0_0), (.int .i64 f0_1), (.slice b0_2 n0_2 c0_2), (.int .i64 f0_3)] 32)) w.heap.size 32 #[(.int .i64 f0_0), (.int .i64 f0_1), (.slice b0_2 n0_2 c0_2), (.int .i64 f0_3)] := by
    have := Blk.new w 32 #[(.int .i64 f0_0), (.int .i64 f0_1), (.slice b0_2 n0_2 c0_2), (.int .i64 f0_3)]
    simpa using this
  replace X_a0 := Lib.hid X_a0
  have B : Below w.heap.size w (w.alloc (.cells #[(.int .i64 f0_0), (.int .i64 f0_1), (.slice b0_2 n0_2 c0_2), (.int .i64 f0_3)] 32)) := below_al (Below.refl _ _) _
  have zzb : (w.alloc (.cells #[(.int .i64 f0_0), (.int .i64 f0_1), (.slice b0_2 n0_2 c0_2), (.int .i64 f0_3)] 32)).heap.size = w.heap.size + 1 := by simp
  go_enter Try.func9, Try.ntmps9
  have q_a0_0 := X_a0.out.cell 0
  have q_a0_1 := X_a0.out.cell 1
  have q_a0_2 := X_a0.out.cell 2
  have q_a0_3 := X_a0.out.cell 3
  go_wp2_with fail
  refine (stYear.sz_yes _ _ _ _ _ n0_2 c0_2 _ (by omega) (by omega)).mono ?_; rintro e w1 ⟨rfl, hb⟩
  clear q_a0_0 q_a0_1 q_a0_2 q_a0_3
  replace X_a0 := Lib.hid (X_a0.out.step hb)
  replace B := below_step B hb
  have zz1 := hb.size
  clear hb
  have q_a0_0 := X_a0.out.cell 0
  have q_a0_1 := X_a0.out.cell 1
  have q_a0_2 := X_a0.out.cell 2
  have q_a0_3 := X_a0.out.cell 3
  go_wp2_with fail
  refine (stYear.to_got _ _ _ _ _ n0_2 zs0_2 hn0_2 (H0_2.out.keep B)).mono ?_; rintro e w2 ⟨t1, l_o0_0, h_o0_0, rfl, ⟨o0_0, lo_o0_0⟩, hb⟩
  clear q_a0_0 q_a0_1 q_a0_2 q_a0_3
  replace X_a0 := Lib.hid (X_a0.out.step hb)
  replace B := below_step B hb
  have zz2 := hb.size
  have hi_o0_0 := o0_0.2.2
  clear hb
  go_wp2_with fail
  refine (HS.out _ _ o0_0.row).mono ?_; rintro e w3 ⟨rfl, hb⟩
  replace o0_0 := o0_0.keep hb
  replace X_a0 := Lib.hid (X_a0.out.step hb)
  replace B := below_step B hb
  have zz3 := hb.size
  clear hb
  clear o0_0
  have q_a0_0 := X_a0.out.cell 0
  have q_a0_1 := X_a0.out.cell 1
  have q_a0_2 := X_a0.out.cell 2
  have q_a0_3 := X_a0.out.cell 3
  go_wp2_with fail
  refine (stYear.to_got _ _ _ _ _ n0_2 zs0_2 hn0_2 (H0_2.out.keep B)).mono ?_; rintro e w4 ⟨t2, l_x0_0, h_x0_0, rfl, ⟨x0_0, lo_x0_0⟩, hb⟩
  clear q_a0_0 q_a0_1 q_a0_2 q_a0_3
  replace X_a0 := Lib.hid (X_a0.out.step hb)
  replace B := below_step B hb
  have zz4 := hb.size
  have hi_x0_0 := x0_0.2.2
  clear hb
  obtain ⟨ba_x00, ca_x00, rfl⟩ := own_shape x0_0.own
  have hb : Below w4.heap.size w4 (w4.alloc (.cells #[(.int .i64 f0_0), (.int .i64 f0_1), (.slice ba_x00 n0_2 ca_x00), (.int .i64 f0_3)] 26)) := below_al (Below.refl _ _) _
  replace x0_0 := x0_0.keep hb
  replace X_a0 := Lib.hid (X_a0.out.step hb)
  replace B := below_step B hb
  have zz5 := hb.size
  have X_x0 : Blk (w4.alloc (.cells #[(.int .i64 f0_0), (.int .i64 f0_1), (.slice ba_x00 n0_2 ca_x00), (.int .i64 f0_3)] 26)) w4.heap.size 26 #[(.int .i64 f0_0), (.int .i64 f0_1), (.slice ba_x00 n0_2 ca_x00), (.int .i64 f0_3)] := by
    have := Blk.new w4 26 #[(.int .i64 f0_0), (.int .i64 f0_1), (.slice ba_x00 n0_2 ca_x00), (.int .i64 f0_3)]
    simpa using this
  replace X_x0 := Lib.hid X_x0
  have zy5 : (w4.alloc (.cells #[(.int .i64 f0_0), (.int .i64 f0_1), (.slice ba_x00 n0_2 ca_x00), (.int .i64 f0_3)] 26)).heap.size = w4.heap.size + 1 := by simp
  clear hb
  have q_x0_0 := X_x0.out.cell 0
  have q_x0_1 := X_x0.out.cell 1
  have q_x0_2 := X_x0.out.cell 2
  have q_x0_3 := X_x0.out.cell 3
  go_wp2_with fail
  refine (HI.out _ _ x0_0.row).mono ?_; rintro e w6 ⟨rfl, hb⟩
  clear q_x0_0 q_x0_1 q_x0_2 q_x0_3
  replace x0_0 := x0_0.keep hb
  replace X_a0 := Lib.hid (X_a0.out.step hb)
  replace X_x0 := Lib.hid (X_x0.out.step hb)
  replace B := below_step B hb
  have zz6 := hb.size
  clear hb
  have q_x0_0 := X_x0.out.cell 0
  have q_x0_1 := X_x0.out.cell 1
  have q_x0_2 := X_x0.out.cell 2
  have q_x0_3 := X_x0.out.cell 3
  have q_a0_0 := X_a0.out.cell 0
  have q_a0_1 := X_a0.out.cell 1
  have q_a0_2 := X_a0.out.cell 2
  have q_a0_3 := X_a0.out.cell 3
  go_wp2
  go_region_held3 (fun W => W.cell? ⟨w4.heap.size, 0, none⟩ = some (.int .i64 f0_0) ∧ W.cell? ⟨w4.heap.size, 1, none⟩ = some (.int .i64 f0_1) ∧ W.cell? ⟨w4.heap.size, 2, none⟩ = some (.slice ba_x00 n0_2 ca_x00) ∧ W.cell? ⟨w4.heap.size, 3, none⟩ = some (.int .i64 f0_3) ∧ W.cell? ⟨w.heap.size, 0, none⟩ = some (.int .i64 f0_0) ∧ W.cell? ⟨w.heap.size, 1, none⟩ = some (.int .i64 f0_1) ∧ W.cell? ⟨w.heap.size, 2, none⟩ = some (.slice b0_2 n0_2 c0_2) ∧ W.cell? ⟨w.heap.size, 3, none⟩ = some (.int .i64 f0_3)) (first | assumption | exact ⟨q_x0_0, q_x0_1, q_x0_2, q_x0_3, q_a0_0, q_a0_1, q_a0_2, q_a0_3⟩ | exact keep8 (by assumption) (by assumption) | fail)
    (first
      | (go_at_call 21; refine (stYear.to_got _ _ _ _ _ n0_2 zs0_2 hn0_2 (H0_2.out.keep (by repeat (first | assumption | (with_reducible exact Below.refl _ _) | (with_reducible refine below_dr ?_) | (with_reducible refine below_al ?_ _) | (with_reducible refine below_step ?_ (by assumption)) | fail)))).mono ?_; rintro e wt ⟨tc0, lc0, hc0, rfl, ⟨oc0, _⟩, hbt⟩)
      | (go_at_call 22; refine (stYear.eq_yes _ _ _ _ _ _ n0_2 zs0_2 hn0_2 (x0_0.keep (by repeat (first | assumption | (with_reducible exact Below.refl _ _) | (with_reducible refine below_dr ?_) | (with_reducible refine below_al ?_ _) | (with_reducible refine below_step ?_ (by assumption)) | fail))).row oc0.row).mono ?_; rintro e w7 ⟨rfl, hb⟩)
      | fail)
  have hc : Below w6.heap.size w6 w7 := (by repeat (first | assumption | (with_reducible exact Below.refl _ _) | (with_reducible refine below_dr ?_) | (with_reducible refine below_al ?_ _) | (with_reducible refine below_step ?_ (by assumption)) | fail))
  clear q_x0_0 q_x0_1 q_x0_2 q_x0_3 q_a0_0 q_a0_1 q_a0_2 q_a0_3 hb hbt oc0
  replace x0_0 := x0_0.keep hc
  replace X_a0 := Lib.hid (X_a0.out.step hc)
  replace X_x0 := Lib.hid (X_x0.out.step hc)
  replace B := below_step B hc
  have zz7 := hc.size
  clear hc
  go_wp2
  go_ret
  exact ⟨rfl, B⟩
theorem walk (w : World) (r s d : Int) (v : Value) (n : Nat) (cs : List Int) (hr : Row 1 w v n (cs.map (Value.int .i64))) (hm : n ≤ 9223372036854775807) (_ : (Lit.int .i64 r).wf = true) (_ : (Lit.int .i64 s).wf = true) (_ : (Lit.int .i64 d).wf = true) : Calls Try.prog 9 #[stYear.R r s v d] w fun e w' => e = .returned (.bool true) ∧ Below w.heap.size w w' := by
  by_cases hl : n ≤ 1048576
  · by_cases ok : YOk r s d n cs
    · have hn := ok.2.2.1.2
      exact core w r s d v n cs hl hr (ct (fun k => lv r d s cs (k + 1) == 0) n) hl (fun W u g => by have h := spec_dry_yes W u n cs r s d _ _ _ g ok (fun W' _ h => spec_run_yes W' u n cs r s d h ok); rwa [ct_congr (q := fun k => lv r d s cs (k + 1) == 0) n (fun k hk => by simp only [rw_at _ hk])] at h) (fun W u g => impl_dry_yes W u n cs r s d g ok)
    · exact core w r s d v n cs hl hr (-1) hl (fun W u g => spec_dry_no W u n cs r s d hl g ok) (fun W u g => impl_dry_no W u n cs r s d hl g ok)
  · obtain ⟨a, c, rfl⟩ := hr.shape
    have X := Blk.new w 32 #[.int .i64 r, .int .i64 s, .slice a n c, .int .i64 d]
    obtain ⟨q0, q1, q2, q3⟩ := blk4 X
    go_enter Try.func9, Try.ntmps9
    go_wp2_with fail
    refine (stYear.sz_no _ r s d a n c _ (by omega) (by omega) hm).mono ?_; rintro e w1 ⟨rfl, hb⟩
    clear q0 q1 q2 q3
    go_wp2
    go_ret
    exact ⟨rfl, below_step (below_al (Below.refl _ _) _) hb⟩
end Go.Proofs.Ytnmmnnapoodiiaa.wFnExactDryDays
