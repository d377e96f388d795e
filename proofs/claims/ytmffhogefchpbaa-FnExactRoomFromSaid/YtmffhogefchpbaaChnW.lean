/- The exact laws on chains return true. -/
import Derived.Test.YtmffhogefchpbaaStChain
import Derived.Test.YtmffhogefchpbaaChnS
import Derived.Test.YtmffhogefchpbaaChnI2
set_option linter.unusedVariables false
namespace Go.Proofs.Ytmffhogefchpbaa.wFnExactChainOk
open Go.RowKit Go.Proofs.Ytmffhogefchpbaa.kit Go.Proofs.Ytmffhogefchpbaa.lawi Go.Proofs.Ytmffhogefchpbaa.own Go.Proofs.Ytmffhogefchpbaa.rainl Go.Proofs.Ytmffhogefchpbaa.rain Go.Proofs.Ytmffhogefchpbaa.cis Go.Proofs.Ytmffhogefchpbaa.chl Go.Proofs.Ytmffhogefchpbaa.chn
set_option maxRecDepth 100000 in
set_option maxHeartbeats 4000000 in
theorem core (w : World) (v0_0 : Value) (n0_0 : Nat) (zs0_0 : List Int) (hn0_0 : n0_0 ≤ 1048576) (h0_0 : Row 2 w v0_0 n0_0 (zs0_0.map (Value.int .i64))) (v0_1 : Value) (n0_1 : Nat) (zs0_1 : List Int) (hn0_1 : n0_1 ≤ 1048576) (h0_1 : Row 1 w v0_1 n0_1 (zs0_1.map (Value.int .i64))) (r0 : Bool)
    (hsum : n0_0 + n0_1 ≤ 1048576)
    (hs : ∀ W u0_0 u0_1, Row 2 W u0_0 n0_0 (zs0_0.map (Value.int .i64)) → Row 1 W u0_1 n0_1 (zs0_1.map (Value.int .i64)) → Calls Try.prog 22 #[stChain.R u0_0 u0_1] W (Gives W (.bool r0)))
    (hi : ∀ W u0_0 u0_1, Row 2 W u0_0 n0_0 (zs0_0.map (Value.int .i64)) → Row 1 W u0_1 n0_1 (zs0_1.map (Value.int .i64)) → Calls Try.prog 18 #[stChain.R u0_0 u0_1] W (Gives W (.bool r0))) :
    Calls Try.prog 4 #[stChain.R v0_0 v0_1] w (Gives w (.bool true)) := by
  obtain ⟨b0_0, c0_0, rfl⟩ := h0_0.shape
  have H0_0 := Lib.hid h0_0
  clear h0_0
  obtain ⟨b0_1, c0_1, rfl⟩ := h0_1.shape
  have H0_1 := Lib.hid h0_1
  clear h0_1
  have HS := Lib.hid hs
  have HI := Lib.hid hi
  clear hs hi
  have X_a0 : Blk (w.alloc (.cells #[(.slice b0_0 n0_0 c0_0), (.slice b0_1 n0_1 c0_1)] 43)) w.heap.size 43 #[(.slice b0_0 n0_0 c0_0), (.slice b0_1 n0_1 c0_1)] := by
    have := Blk.new w 43 #[(.slice b0_0 n0_0 c0_0), (.slice b0_1 n0_1 c0_1)]
    simpa using this
  replace X_a0 := Lib.hid X_a0
  have B : Below w.heap.size w (w.alloc (.cells #[(.slice b0_0 n0_0 c0_0), (.slice b0_1 n0_1 c0_1)] 43)) := below_al (Below.refl _ _) _
  have zzb : (w.alloc (.cells #[(.slice b0_0 n0_0 c0_0), (.slice b0_1 n0_1 c0_1)] 43)).heap.size = w.heap.size + 1 := by simp
  go_enter Try.func4, Try.ntmps4
  have q_a0_0 := X_a0.out.cell 0
  have q_a0_1 := X_a0.out.cell 1
  go_wp2_with fail
  refine (stChain.sz_yes _ _ n0_0 c0_0 _ n0_1 c0_1 _ (by omega) (by omega)).mono ?_; rintro e w1 ⟨rfl, hb⟩
  clear q_a0_0 q_a0_1
  replace X_a0 := Lib.hid (X_a0.out.step hb)
  replace B := below_step B hb
  have zz1 := hb.size
  clear hb
  have q_a0_0 := X_a0.out.cell 0
  have q_a0_1 := X_a0.out.cell 1
  go_wp2_with fail
  refine (stChain.to_got _ _ n0_0 zs0_0 hn0_0 (H0_0.out.keep B) _ n0_1 zs0_1 hn0_1 (H0_1.out.keep B)).mono ?_; rintro e w2 ⟨t1, t2, l_o0_0, h_o0_0, l_o0_1, h_o0_1, rfl, ⟨o0_0, lo_o0_0⟩, ⟨o0_1, lo_o0_1⟩, dd_o0, hb⟩
  clear q_a0_0 q_a0_1
  replace X_a0 := Lib.hid (X_a0.out.step hb)
  replace B := below_step B hb
  have zz2 := hb.size
  have hi_o0_0 := o0_0.2.2
  have hi_o0_1 := o0_1.2.2
  clear hb
  go_wp2_with fail
  refine (HS.out _ _ _ o0_0.row o0_1.row).mono ?_; rintro e w3 ⟨rfl, hb⟩
  replace o0_0 := o0_0.keep hb
  replace o0_1 := o0_1.keep hb
  replace X_a0 := Lib.hid (X_a0.out.step hb)
  replace B := below_step B hb
  have zz3 := hb.size
  clear hb
  clear o0_0
  clear o0_1
  have q_a0_0 := X_a0.out.cell 0
  have q_a0_1 := X_a0.out.cell 1
  go_wp2_with fail
  refine (stChain.to_got _ _ n0_0 zs0_0 hn0_0 (H0_0.out.keep B) _ n0_1 zs0_1 hn0_1 (H0_1.out.keep B)).mono ?_; rintro e w4 ⟨t3, t4, l_x0_0, h_x0_0, l_x0_1, h_x0_1, rfl, ⟨x0_0, lo_x0_0⟩, ⟨x0_1, lo_x0_1⟩, dd_x0, hb⟩
  clear q_a0_0 q_a0_1
  replace X_a0 := Lib.hid (X_a0.out.step hb)
  replace B := below_step B hb
  have zz4 := hb.size
  have hi_x0_0 := x0_0.2.2
  have hi_x0_1 := x0_1.2.2
  clear hb
  obtain ⟨ba_x00, ca_x00, rfl⟩ := own_shape x0_0.own
  obtain ⟨ba_x01, ca_x01, rfl⟩ := own_shape x0_1.own
  have hb : Below w4.heap.size w4 (w4.alloc (.cells #[(.slice ba_x00 n0_0 ca_x00), (.slice ba_x01 n0_1 ca_x01)] 27)) := below_al (Below.refl _ _) _
  replace x0_0 := x0_0.keep hb
  replace x0_1 := x0_1.keep hb
  replace X_a0 := Lib.hid (X_a0.out.step hb)
  replace B := below_step B hb
  have zz5 := hb.size
  have X_x0 : Blk (w4.alloc (.cells #[(.slice ba_x00 n0_0 ca_x00), (.slice ba_x01 n0_1 ca_x01)] 27)) w4.heap.size 27 #[(.slice ba_x00 n0_0 ca_x00), (.slice ba_x01 n0_1 ca_x01)] := by
    have := Blk.new w4 27 #[(.slice ba_x00 n0_0 ca_x00), (.slice ba_x01 n0_1 ca_x01)]
    simpa using this
  replace X_x0 := Lib.hid X_x0
  have zy5 : (w4.alloc (.cells #[(.slice ba_x00 n0_0 ca_x00), (.slice ba_x01 n0_1 ca_x01)] 27)).heap.size = w4.heap.size + 1 := by simp
  clear hb
  have q_x0_0 := X_x0.out.cell 0
  have q_x0_1 := X_x0.out.cell 1
  go_wp2_with fail
  refine (HI.out _ _ _ x0_0.row x0_1.row).mono ?_; rintro e w6 ⟨rfl, hb⟩
  clear q_x0_0 q_x0_1
  replace x0_0 := x0_0.keep hb
  replace x0_1 := x0_1.keep hb
  replace X_a0 := Lib.hid (X_a0.out.step hb)
  replace X_x0 := Lib.hid (X_x0.out.step hb)
  replace B := below_step B hb
  have zz6 := hb.size
  clear hb
  have q_x0_0 := X_x0.out.cell 0
  have q_x0_1 := X_x0.out.cell 1
  have q_a0_0 := X_a0.out.cell 0
  have q_a0_1 := X_a0.out.cell 1
  go_wp2
  go_region_held3 (fun W => W.cell? ⟨w4.heap.size, 0, none⟩ = some (.slice ba_x00 n0_0 ca_x00) ∧ W.cell? ⟨w4.heap.size, 1, none⟩ = some (.slice ba_x01 n0_1 ca_x01) ∧ W.cell? ⟨w.heap.size, 0, none⟩ = some (.slice b0_0 n0_0 c0_0) ∧ W.cell? ⟨w.heap.size, 1, none⟩ = some (.slice b0_1 n0_1 c0_1)) (first | assumption | exact ⟨q_x0_0, q_x0_1, q_a0_0, q_a0_1⟩ | exact keep4 (by assumption) (by assumption) | fail)
    (first
      | (go_at_call 23; refine (stChain.to_got _ _ n0_0 zs0_0 hn0_0 (H0_0.out.keep (by repeat (first | assumption | (with_reducible exact Below.refl _ _) | (with_reducible refine below_dr ?_) | (with_reducible refine below_al ?_ _) | (with_reducible refine below_step ?_ (by assumption)) | fail))) _ n0_1 zs0_1 hn0_1 (H0_1.out.keep (by repeat (first | assumption | (with_reducible exact Below.refl _ _) | (with_reducible refine below_dr ?_) | (with_reducible refine below_al ?_ _) | (with_reducible refine below_step ?_ (by assumption)) | fail)))).mono ?_; rintro e wt ⟨tc0, tc1, lc0, hc0, lc1, hc1, rfl, ⟨oc0, _⟩, ⟨oc1, _⟩, _, hbt⟩)
      | (go_at_call 24; refine (stChain.eq_yes _ _ _ _ _ n0_0 zs0_0 hn0_0 (x0_0.keep (by repeat (first | assumption | (with_reducible exact Below.refl _ _) | (with_reducible refine below_dr ?_) | (with_reducible refine below_al ?_ _) | (with_reducible refine below_step ?_ (by assumption)) | fail))).row oc0.row n0_1 zs0_1 hn0_1 (x0_1.keep (by repeat (first | assumption | (with_reducible exact Below.refl _ _) | (with_reducible refine below_dr ?_) | (with_reducible refine below_al ?_ _) | (with_reducible refine below_step ?_ (by assumption)) | fail))).row oc1.row).mono ?_; rintro e w7 ⟨rfl, hb⟩)
      | fail)
  have hc : Below w6.heap.size w6 w7 := (by repeat (first | assumption | (with_reducible exact Below.refl _ _) | (with_reducible refine below_dr ?_) | (with_reducible refine below_al ?_ _) | (with_reducible refine below_step ?_ (by assumption)) | fail))
  clear q_x0_0 q_x0_1 q_a0_0 q_a0_1 hb hbt oc0 oc1
  replace x0_0 := x0_0.keep hc
  replace x0_1 := x0_1.keep hc
  replace X_a0 := Lib.hid (X_a0.out.step hc)
  replace X_x0 := Lib.hid (X_x0.out.step hc)
  replace B := below_step B hc
  have zz7 := hc.size
  clear hc
  go_wp2
  go_ret
  exact ⟨rfl, B⟩
theorem walk (w : World) (v0 : Value) (n0 : Nat) (zs0 : List Int) (h0 : Row 2 w v0 n0 (zs0.map (Value.int .i64))) (hm0 : n0 ≤ 9223372036854775807) (v1 : Value) (n1 : Nat) (zs1 : List Int) (h1 : Row 1 w v1 n1 (zs1.map (Value.int .i64))) (hm1 : n1 ≤ 9223372036854775807) : Calls Try.prog 4 #[stChain.R v0 v1] w fun e w' => e = .returned (.bool true) ∧ Below w.heap.size w w' := by
  by_cases hl : n0 + n1 ≤ 1048576
  · by_cases h : CO zs0 n0 zs1 n1
    · exact core w v0 n0 zs0 (by omega) h0 v1 n1 zs1 (by omega) h1 _ hl (fun W u0 u1 g0 g1 => spec_chok_yes W u0 u1 n0 n1 zs0 zs1 g0 g1 h) (fun W u0 u1 g0 g1 => impl_chok_yes W u0 u1 n0 n1 zs0 zs1 g0 g1 h)
    · exact core w v0 n0 zs0 (by omega) h0 v1 n1 zs1 (by omega) h1 _ hl (fun W u0 u1 g0 g1 => spec_chok_no W u0 u1 n0 n1 zs0 zs1 (by omega) (by omega) g0 g1 h) (fun W u0 u1 g0 g1 => impl_chok_no W u0 u1 n0 n1 zs0 zs1 (by omega) (by omega) g0 g1 h)
  · obtain ⟨a0, c0, rfl⟩ := h0.shape
    obtain ⟨a1, c1, rfl⟩ := h1.shape
    have X := Blk.new w 43 #[.slice a0 n0 c0, .slice a1 n1 c1]
    have q0 := X.cell 0
    have q1 := X.cell 1
    go_enter Try.func4, Try.ntmps4
    go_wp2_with fail
    refine (stChain.sz_no _ a0 n0 c0 a1 n1 c1 _ (by omega) (by omega) (by omega) hm0 hm1).mono ?_; rintro e w1 ⟨rfl, hb⟩
    clear q0 q1
    go_wp2
    go_ret
    exact ⟨rfl, below_step (below_al (Below.refl _ _) _) hb⟩
end Go.Proofs.Ytmffhogefchpbaa.wFnExactChainOk
namespace Go.Proofs.Ytmffhogefchpbaa.wFnExactWayOf
open Go.RowKit Go.Proofs.Ytmffhogefchpbaa.kit Go.Proofs.Ytmffhogefchpbaa.lawi Go.Proofs.Ytmffhogefchpbaa.own Go.Proofs.Ytmffhogefchpbaa.rainl Go.Proofs.Ytmffhogefchpbaa.rain Go.Proofs.Ytmffhogefchpbaa.cis Go.Proofs.Ytmffhogefchpbaa.chl Go.Proofs.Ytmffhogefchpbaa.chn
set_option maxRecDepth 100000 in
set_option maxHeartbeats 4000000 in
theorem core (w : World) (v0_0 : Value) (n0_0 : Nat) (zs0_0 : List Int) (hn0_0 : n0_0 ≤ 1048576) (h0_0 : Row 2 w v0_0 n0_0 (zs0_0.map (Value.int .i64))) (v0_1 : Value) (n0_1 : Nat) (zs0_1 : List Int) (hn0_1 : n0_1 ≤ 1048576) (h0_1 : Row 1 w v0_1 n0_1 (zs0_1.map (Value.int .i64))) (a1 : Int) (m0 : Nat) (ys0 : List Int) (hm0 : m0 ≤ 1048576)
    (hsum : n0_0 + n0_1 ≤ 1048576)
    (hs : ∀ W u0_0 u0_1, Row 2 W u0_0 n0_0 (zs0_0.map (Value.int .i64)) → Row 1 W u0_1 n0_1 (zs0_1.map (Value.int .i64)) → Calls Try.prog 29 #[stChain.R u0_0 u0_1, .int .i64 a1] W (fun e W' => ∃ t, e = .returned (t) ∧ W'.ownsRow W.heap.size 3 1 t m0 (ys0.map (Value.int .i64)) ∧ Below W.heap.size W W'))
    (hi : ∀ W u0_0 u0_1, Row 2 W u0_0 n0_0 (zs0_0.map (Value.int .i64)) → Row 1 W u0_1 n0_1 (zs0_1.map (Value.int .i64)) → Calls Try.prog 16 #[stChain.R u0_0 u0_1, .int .i64 a1] W (fun e W' => ∃ t, e = .returned (t) ∧ W'.ownsRow W.heap.size 3 1 t m0 (ys0.map (Value.int .i64)) ∧ Below W.heap.size W W')) :
    Calls Try.prog 7 #[stChain.R v0_0 v0_1, .int .i64 a1] w (Gives w (.bool true)) := by
  obtain ⟨b0_0, c0_0, rfl⟩ := h0_0.shape
  have H0_0 := Lib.hid h0_0
  clear h0_0
  obtain ⟨b0_1, c0_1, rfl⟩ := h0_1.shape
  have H0_1 := Lib.hid h0_1
  clear h0_1
  have HS := Lib.hid hs
  have HI := Lib.hid hi
  clear hs hi
  have X_a0 : Blk (w.alloc (.cells #[(.slice b0_0 n0_0 c0_0), (.slice b0_1 n0_1 c0_1)] 43)) w.heap.size 43 #[(.slice b0_0 n0_0 c0_0), (.slice b0_1 n0_1 c0_1)] := by
    have := Blk.new w 43 #[(.slice b0_0 n0_0 c0_0), (.slice b0_1 n0_1 c0_1)]
    simpa using this
  replace X_a0 := Lib.hid X_a0
  have B : Below w.heap.size w (w.alloc (.cells #[(.slice b0_0 n0_0 c0_0), (.slice b0_1 n0_1 c0_1)] 43)) := below_al (Below.refl _ _) _
  have zzb : (w.alloc (.cells #[(.slice b0_0 n0_0 c0_0), (.slice b0_1 n0_1 c0_1)] 43)).heap.size = w.heap.size + 1 := by simp
  go_enter Try.func7, Try.ntmps7
  have q_a0_0 := X_a0.out.cell 0
  have q_a0_1 := X_a0.out.cell 1
  go_wp2_with fail
  refine (stChain.sz_yes _ _ n0_0 c0_0 _ n0_1 c0_1 _ (by omega) (by omega)).mono ?_; rintro e w1 ⟨rfl, hb⟩
  clear q_a0_0 q_a0_1
  replace X_a0 := Lib.hid (X_a0.out.step hb)
  replace B := below_step B hb
  have zz1 := hb.size
  clear hb
  have q_a0_0 := X_a0.out.cell 0
  have q_a0_1 := X_a0.out.cell 1
  go_wp2_with fail
  refine (stChain.to_got _ _ n0_0 zs0_0 hn0_0 (H0_0.out.keep B) _ n0_1 zs0_1 hn0_1 (H0_1.out.keep B)).mono ?_; rintro e w2 ⟨t1, t2, l_o0_0, h_o0_0, l_o0_1, h_o0_1, rfl, ⟨o0_0, lo_o0_0⟩, ⟨o0_1, lo_o0_1⟩, dd_o0, hb⟩
  clear q_a0_0 q_a0_1
  replace X_a0 := Lib.hid (X_a0.out.step hb)
  replace B := below_step B hb
  have zz2 := hb.size
  have hi_o0_0 := o0_0.2.2
  have hi_o0_1 := o0_1.2.2
  clear hb
  go_wp2_with fail
  refine (HS.out _ _ _ o0_0.row o0_1.row).mono ?_; rintro e w3 ⟨t3, rfl, ho, hb⟩
  replace o0_0 := o0_0.keep hb
  replace o0_1 := o0_1.keep hb
  replace X_a0 := Lib.hid (X_a0.out.step hb)
  replace B := below_step B hb
  have zz3 := hb.size
  have s := OwnR.of_own ho
  clear hb ho
  clear o0_0
  clear o0_1
  have q_a0_0 := X_a0.out.cell 0
  have q_a0_1 := X_a0.out.cell 1
  go_wp2_with fail
  refine (stChain.to_got _ _ n0_0 zs0_0 hn0_0 (H0_0.out.keep B) _ n0_1 zs0_1 hn0_1 (H0_1.out.keep B)).mono ?_; rintro e w4 ⟨t4, t5, l_x0_0, h_x0_0, l_x0_1, h_x0_1, rfl, ⟨x0_0, lo_x0_0⟩, ⟨x0_1, lo_x0_1⟩, dd_x0, hb⟩
  clear q_a0_0 q_a0_1
  replace s := s.keep hb
  replace X_a0 := Lib.hid (X_a0.out.step hb)
  replace B := below_step B hb
  have zz4 := hb.size
  have hi_x0_0 := x0_0.2.2
  have hi_x0_1 := x0_1.2.2
  clear hb
  obtain ⟨ba_x00, ca_x00, rfl⟩ := own_shape x0_0.own
  obtain ⟨ba_x01, ca_x01, rfl⟩ := own_shape x0_1.own
  have hb : Below w4.heap.size w4 (w4.alloc (.cells #[(.slice ba_x00 n0_0 ca_x00), (.slice ba_x01 n0_1 ca_x01)] 27)) := below_al (Below.refl _ _) _
  replace s := s.keep hb
  replace x0_0 := x0_0.keep hb
  replace x0_1 := x0_1.keep hb
  replace X_a0 := Lib.hid (X_a0.out.step hb)
  replace B := below_step B hb
  have zz5 := hb.size
  have X_x0 : Blk (w4.alloc (.cells #[(.slice ba_x00 n0_0 ca_x00), (.slice ba_x01 n0_1 ca_x01)] 27)) w4.heap.size 27 #[(.slice ba_x00 n0_0 ca_x00), (.slice ba_x01 n0_1 ca_x01)] := by
    have := Blk.new w4 27 #[(.slice ba_x00 n0_0 ca_x00), (.slice ba_x01 n0_1 ca_x01)]
    simpa using this
  replace X_x0 := Lib.hid X_x0
  have zy5 : (w4.alloc (.cells #[(.slice ba_x00 n0_0 ca_x00), (.slice ba_x01 n0_1 ca_x01)] 27)).heap.size = w4.heap.size + 1 := by simp
  clear hb
  have q_x0_0 := X_x0.out.cell 0
  have q_x0_1 := X_x0.out.cell 1
  go_wp2_with fail
  refine (HI.out _ _ _ x0_0.row x0_1.row).mono ?_; rintro e w6 ⟨t6, rfl, ho, hb⟩
  clear q_x0_0 q_x0_1
  replace s := s.keep hb
  replace x0_0 := x0_0.keep hb
  replace x0_1 := x0_1.keep hb
  replace X_a0 := Lib.hid (X_a0.out.step hb)
  replace X_x0 := Lib.hid (X_x0.out.step hb)
  replace B := below_step B hb
  have zz6 := hb.size
  have g := OwnR.of_own ho
  clear hb ho
  go_wp2_with fail
  refine (eqInt_gives _ _ _ m0 ys0 hm0 g.row s.row).mono ?_; rintro e w7 ⟨rfl, hb⟩
  replace s := s.keep hb
  replace x0_0 := x0_0.keep hb
  replace x0_1 := x0_1.keep hb
  replace g := g.keep hb
  replace X_a0 := Lib.hid (X_a0.out.step hb)
  replace X_x0 := Lib.hid (X_x0.out.step hb)
  replace B := below_step B hb
  have zz7 := hb.size
  clear hb
  have q_x0_0 := X_x0.out.cell 0
  have q_x0_1 := X_x0.out.cell 1
  have q_a0_0 := X_a0.out.cell 0
  have q_a0_1 := X_a0.out.cell 1
  go_wp2
  go_region_held3 (fun W => W.cell? ⟨w4.heap.size, 0, none⟩ = some (.slice ba_x00 n0_0 ca_x00) ∧ W.cell? ⟨w4.heap.size, 1, none⟩ = some (.slice ba_x01 n0_1 ca_x01) ∧ W.cell? ⟨w.heap.size, 0, none⟩ = some (.slice b0_0 n0_0 c0_0) ∧ W.cell? ⟨w.heap.size, 1, none⟩ = some (.slice b0_1 n0_1 c0_1)) (first | assumption | exact ⟨q_x0_0, q_x0_1, q_a0_0, q_a0_1⟩ | exact keep4 (by assumption) (by assumption) | fail)
    (first
      | (go_at_call 23; refine (stChain.to_got _ _ n0_0 zs0_0 hn0_0 (H0_0.out.keep (by repeat (first | assumption | (with_reducible exact Below.refl _ _) | (with_reducible refine below_dr ?_) | (with_reducible refine below_al ?_ _) | (with_reducible refine below_step ?_ (by assumption)) | fail))) _ n0_1 zs0_1 hn0_1 (H0_1.out.keep (by repeat (first | assumption | (with_reducible exact Below.refl _ _) | (with_reducible refine below_dr ?_) | (with_reducible refine below_al ?_ _) | (with_reducible refine below_step ?_ (by assumption)) | fail)))).mono ?_; rintro e wt ⟨tc0, tc1, lc0, hc0, lc1, hc1, rfl, ⟨oc0, _⟩, ⟨oc1, _⟩, _, hbt⟩)
      | (go_at_call 24; refine (stChain.eq_yes _ _ _ _ _ n0_0 zs0_0 hn0_0 (x0_0.keep (by repeat (first | assumption | (with_reducible exact Below.refl _ _) | (with_reducible refine below_dr ?_) | (with_reducible refine below_al ?_ _) | (with_reducible refine below_step ?_ (by assumption)) | fail))).row oc0.row n0_1 zs0_1 hn0_1 (x0_1.keep (by repeat (first | assumption | (with_reducible exact Below.refl _ _) | (with_reducible refine below_dr ?_) | (with_reducible refine below_al ?_ _) | (with_reducible refine below_step ?_ (by assumption)) | fail))).row oc1.row).mono ?_; rintro e w8 ⟨rfl, hb⟩)
      | fail)
  have hc : Below w7.heap.size w7 w8 := (by repeat (first | assumption | (with_reducible exact Below.refl _ _) | (with_reducible refine below_dr ?_) | (with_reducible refine below_al ?_ _) | (with_reducible refine below_step ?_ (by assumption)) | fail))
  clear q_x0_0 q_x0_1 q_a0_0 q_a0_1 hb hbt oc0 oc1
  replace s := s.keep hc
  replace x0_0 := x0_0.keep hc
  replace x0_1 := x0_1.keep hc
  replace g := g.keep hc
  replace X_a0 := Lib.hid (X_a0.out.step hc)
  replace X_x0 := Lib.hid (X_x0.out.step hc)
  replace B := below_step B hc
  have zz8 := hc.size
  clear hc
  have q_x0_0 := X_x0.out.cell 0
  have q_x0_1 := X_x0.out.cell 1
  go_wp2_with fail
  refine (stChain.mark_own _ 1 _ (by omega) _ _ _ n0_0 _ x0_0 _ _ _ n0_1 _ x0_1 dd_x0 (by omega)).mono ?_; rintro e w9 ⟨rfl, om0, om1, wm9_0, ch0, ch1⟩
  clear q_x0_0 q_x0_1
  have zz9_0 := ch0.size
  have zz9_1 := ch1.size
  replace s := s.chg ch0 (by omega)
  replace s := s.chg ch1 (by omega)
  replace g := g.chg ch0 (by omega)
  replace g := g.chg ch1 (by omega)
  replace X_a0 := Lib.hid (Blk.chg (Blk.chg X_a0.out ch0 (by omega)) ch1 (by omega))
  replace X_x0 := Lib.hid (Blk.chg (Blk.chg X_x0.out ch0 (by omega)) ch1 (by omega))
  replace B := B.trans (ch0.below (B := w.heap.size) (by omega) (by omega))
  replace B := B.trans (ch1.below (B := w.heap.size) (by omega) (by omega))
  replace x0_0 := om0
  replace x0_1 := om1
  clear om0 om1 ch0 ch1
  go_wp2_with fail
  refine (eqInt_gives _ _ _ m0 ys0 hm0 g.row s.row).mono ?_; rintro e w10 ⟨rfl, hb⟩
  replace s := s.keep hb
  replace x0_0 := x0_0.keep hb
  replace x0_1 := x0_1.keep hb
  replace g := g.keep hb
  replace X_a0 := Lib.hid (X_a0.out.step hb)
  replace X_x0 := Lib.hid (X_x0.out.step hb)
  replace B := below_step B hb
  have zz10 := hb.size
  clear hb
  clear x0_0
  clear x0_1
  go_wp2_with fail
  refine (markInt_own _ _ _ _ m0 _ 1 _ (by omega) (by omega) g).mono ?_; rintro e w11 ⟨rfl, om, ch⟩
  have zz11_0 := ch.size
  replace s := s.chg ch (by omega)
  replace X_a0 := Lib.hid (Blk.chg X_a0.out ch (by omega))
  replace X_x0 := Lib.hid (Blk.chg X_x0.out ch (by omega))
  replace B := B.trans (ch.below (B := w.heap.size) (by omega) (by omega))
  replace g := om
  clear om ch
  go_wp2_with fail
  refine (heldInt_gives _ _ m0 1 _ rfl (by omega) g.row).mono ?_; rintro e w12 ⟨rfl, hb⟩
  replace s := s.keep hb
  replace g := g.keep hb
  replace X_a0 := Lib.hid (X_a0.out.step hb)
  replace X_x0 := Lib.hid (X_x0.out.step hb)
  replace B := below_step B hb
  have zz12 := hb.size
  clear hb
  have q_a0_0 := X_a0.out.cell 0
  have q_a0_1 := X_a0.out.cell 1
  go_wp2_with fail
  refine (stChain.to_got _ _ n0_0 zs0_0 hn0_0 (H0_0.out.keep B) _ n0_1 zs0_1 hn0_1 (H0_1.out.keep B)).mono ?_; rintro e w13 ⟨t7, t8, l_p0_0, h_p0_0, l_p0_1, h_p0_1, rfl, ⟨p0_0, lo_p0_0⟩, ⟨p0_1, lo_p0_1⟩, dd_p0, hb⟩
  clear q_a0_0 q_a0_1
  replace s := s.keep hb
  replace g := g.keep hb
  replace X_a0 := Lib.hid (X_a0.out.step hb)
  replace X_x0 := Lib.hid (X_x0.out.step hb)
  replace B := below_step B hb
  have zz13 := hb.size
  have hi_p0_0 := p0_0.2.2
  have hi_p0_1 := p0_1.2.2
  clear hb
  go_wp2_with fail
  refine (HI.out _ _ _ p0_0.row p0_1.row).mono ?_; rintro e w14 ⟨t9, rfl, ho, hb⟩
  replace s := s.keep hb
  replace g := g.keep hb
  replace p0_0 := p0_0.keep hb
  replace p0_1 := p0_1.keep hb
  replace X_a0 := Lib.hid (X_a0.out.step hb)
  replace X_x0 := Lib.hid (X_x0.out.step hb)
  replace B := below_step B hb
  have zz14 := hb.size
  have h := OwnR.of_own ho
  clear hb ho
  clear p0_0
  clear p0_1
  go_wp2_with fail
  refine (eqInt_gives _ _ _ m0 ys0 hm0 h.row s.row).mono ?_; rintro e w15 ⟨rfl, hb⟩
  replace s := s.keep hb
  replace g := g.keep hb
  replace h := h.keep hb
  replace X_a0 := Lib.hid (X_a0.out.step hb)
  replace X_x0 := Lib.hid (X_x0.out.step hb)
  replace B := below_step B hb
  have zz15 := hb.size
  clear hb
  clear h
  clear s
  go_wp2_with fail
  refine (heldInt_gives _ _ m0 1 _ rfl (by omega) g.row).mono ?_; rintro e w16 ⟨rfl, hb⟩
  replace g := g.keep hb
  replace X_a0 := Lib.hid (X_a0.out.step hb)
  replace X_x0 := Lib.hid (X_x0.out.step hb)
  replace B := below_step B hb
  have zz16 := hb.size
  clear hb
  go_wp2
  go_ret
  exact ⟨rfl, B⟩
theorem walk (w : World) (v0 : Value) (n0 : Nat) (zs0 : List Int) (h0 : Row 2 w v0 n0 (zs0.map (Value.int .i64))) (hm0 : n0 ≤ 9223372036854775807) (v1 : Value) (n1 : Nat) (zs1 : List Int) (h1 : Row 1 w v1 n1 (zs1.map (Value.int .i64))) (hm1 : n1 ≤ 9223372036854775807) (k : Int) (_ : (Lit.int .i64 k).wf = true) : Calls Try.prog 7 #[stChain.R v0 v1, .int .i64 k] w fun e w' => e = .returned (.bool true) ∧ Below w.heap.size w w' := by
  by_cases hl : n0 + n1 ≤ 1048576
  · by_cases h : CO zs0 n0 zs1 n1 ∧ In n0 k
    · obtain ⟨M, hM1, hM, hE⟩ := Leads.ex h.1.2.2.2.2.1 h.1.2.2.2.2.2 h.2
      exact core w v0 n0 zs0 (by omega) h0 v1 n1 zs1 (by omega) h1 k M _ (by omega) hl (fun W u0 u1 g0 g1 => spec_way_yes W u0 u1 n0 n1 zs0 zs1 k M g0 g1 h.1 h.2 hM hE) (fun W u0 u1 g0 g1 => impl_way_yes W u0 u1 n0 n1 zs0 zs1 k M g0 g1 h.1 h.2 hM hE)
    · exact core w v0 n0 zs0 (by omega) h0 v1 n1 zs1 (by omega) h1 k 0 [] (by omega) hl (fun W u0 u1 g0 g1 => spec_way_no W u0 u1 n0 n1 zs0 zs1 k (by omega) (by omega) g0 g1 h) (fun W u0 u1 g0 g1 => impl_way_no W u0 u1 n0 n1 zs0 zs1 k (by omega) (by omega) g0 g1 h)
  · obtain ⟨a0, c0, rfl⟩ := h0.shape
    obtain ⟨a1, c1, rfl⟩ := h1.shape
    have X := Blk.new w 43 #[.slice a0 n0 c0, .slice a1 n1 c1]
    have q0 := X.cell 0
    have q1 := X.cell 1
    go_enter Try.func7, Try.ntmps7
    go_wp2_with fail
    refine (stChain.sz_no _ a0 n0 c0 a1 n1 c1 _ (by omega) (by omega) (by omega) hm0 hm1).mono ?_; rintro e w1 ⟨rfl, hb⟩
    clear q0 q1
    go_wp2
    go_ret
    exact ⟨rfl, below_step (below_al (Below.refl _ _) _) hb⟩
end Go.Proofs.Ytmffhogefchpbaa.wFnExactWayOf
namespace Go.Proofs.Ytmffhogefchpbaa.wFnExactTotalLevel
open Go.RowKit Go.Proofs.Ytmffhogefchpbaa.kit Go.Proofs.Ytmffhogefchpbaa.lawi Go.Proofs.Ytmffhogefchpbaa.own Go.Proofs.Ytmffhogefchpbaa.rainl Go.Proofs.Ytmffhogefchpbaa.rain Go.Proofs.Ytmffhogefchpbaa.cis Go.Proofs.Ytmffhogefchpbaa.chl Go.Proofs.Ytmffhogefchpbaa.chn
set_option maxRecDepth 100000 in
set_option maxHeartbeats 4000000 in
theorem core (w : World) (v0_0 : Value) (n0_0 : Nat) (zs0_0 : List Int) (hn0_0 : n0_0 ≤ 1048576) (h0_0 : Row 2 w v0_0 n0_0 (zs0_0.map (Value.int .i64))) (v0_1 : Value) (n0_1 : Nat) (zs0_1 : List Int) (hn0_1 : n0_1 ≤ 1048576) (h0_1 : Row 1 w v0_1 n0_1 (zs0_1.map (Value.int .i64))) (r0 : Int)
    (hsum : n0_0 + n0_1 ≤ 1048576)
    (hs : ∀ W u0_0 u0_1, Row 2 W u0_0 n0_0 (zs0_0.map (Value.int .i64)) → Row 1 W u0_1 n0_1 (zs0_1.map (Value.int .i64)) → Calls Try.prog 28 #[stChain.R u0_0 u0_1] W (Gives W (.int .i64 r0)))
    (hi : ∀ W u0_0 u0_1, Row 2 W u0_0 n0_0 (zs0_0.map (Value.int .i64)) → Row 1 W u0_1 n0_1 (zs0_1.map (Value.int .i64)) → Calls Try.prog 14 #[stChain.R u0_0 u0_1] W (Gives W (.int .i64 r0))) :
    Calls Try.prog 6 #[stChain.R v0_0 v0_1] w (Gives w (.bool true)) := by
  obtain ⟨b0_0, c0_0, rfl⟩ := h0_0.shape
  have H0_0 := Lib.hid h0_0
  clear h0_0
  obtain ⟨b0_1, c0_1, rfl⟩ := h0_1.shape
  have H0_1 := Lib.hid h0_1
  clear h0_1
  have HS := Lib.hid hs
  have HI := Lib.hid hi
  clear hs hi
  have X_a0 : Blk (w.alloc (.cells #[(.slice b0_0 n0_0 c0_0), (.slice b0_1 n0_1 c0_1)] 43)) w.heap.size 43 #[(.slice b0_0 n0_0 c0_0), (.slice b0_1 n0_1 c0_1)] := by
    have := Blk.new w 43 #[(.slice b0_0 n0_0 c0_0), (.slice b0_1 n0_1 c0_1)]
    simpa using this
  replace X_a0 := Lib.hid X_a0
  have B : Below w.heap.size w (w.alloc (.cells #[(.slice b0_0 n0_0 c0_0), (.slice b0_1 n0_1 c0_1)] 43)) := below_al (Below.refl _ _) _
  have zzb : (w.alloc (.cells #[(.slice b0_0 n0_0 c0_0), (.slice b0_1 n0_1 c0_1)] 43)).heap.size = w.heap.size + 1 := by simp
  go_enter Try.func6, Try.ntmps6
  have q_a0_0 := X_a0.out.cell 0
  have q_a0_1 := X_a0.out.cell 1
  go_wp2_with fail
  refine (stChain.sz_yes _ _ n0_0 c0_0 _ n0_1 c0_1 _ (by omega) (by omega)).mono ?_; rintro e w1 ⟨rfl, hb⟩
  clear q_a0_0 q_a0_1
  replace X_a0 := Lib.hid (X_a0.out.step hb)
  replace B := below_step B hb
  have zz1 := hb.size
  clear hb
  have q_a0_0 := X_a0.out.cell 0
  have q_a0_1 := X_a0.out.cell 1
  go_wp2_with fail
  refine (stChain.to_got _ _ n0_0 zs0_0 hn0_0 (H0_0.out.keep B) _ n0_1 zs0_1 hn0_1 (H0_1.out.keep B)).mono ?_; rintro e w2 ⟨t1, t2, l_o0_0, h_o0_0, l_o0_1, h_o0_1, rfl, ⟨o0_0, lo_o0_0⟩, ⟨o0_1, lo_o0_1⟩, dd_o0, hb⟩
  clear q_a0_0 q_a0_1
  replace X_a0 := Lib.hid (X_a0.out.step hb)
  replace B := below_step B hb
  have zz2 := hb.size
  have hi_o0_0 := o0_0.2.2
  have hi_o0_1 := o0_1.2.2
  clear hb
  go_wp2_with fail
  refine (HS.out _ _ _ o0_0.row o0_1.row).mono ?_; rintro e w3 ⟨rfl, hb⟩
  replace o0_0 := o0_0.keep hb
  replace o0_1 := o0_1.keep hb
  replace X_a0 := Lib.hid (X_a0.out.step hb)
  replace B := below_step B hb
  have zz3 := hb.size
  clear hb
  clear o0_0
  clear o0_1
  have q_a0_0 := X_a0.out.cell 0
  have q_a0_1 := X_a0.out.cell 1
  go_wp2_with fail
  refine (stChain.to_got _ _ n0_0 zs0_0 hn0_0 (H0_0.out.keep B) _ n0_1 zs0_1 hn0_1 (H0_1.out.keep B)).mono ?_; rintro e w4 ⟨t3, t4, l_x0_0, h_x0_0, l_x0_1, h_x0_1, rfl, ⟨x0_0, lo_x0_0⟩, ⟨x0_1, lo_x0_1⟩, dd_x0, hb⟩
  clear q_a0_0 q_a0_1
  replace X_a0 := Lib.hid (X_a0.out.step hb)
  replace B := below_step B hb
  have zz4 := hb.size
  have hi_x0_0 := x0_0.2.2
  have hi_x0_1 := x0_1.2.2
  clear hb
  obtain ⟨ba_x00, ca_x00, rfl⟩ := own_shape x0_0.own
  obtain ⟨ba_x01, ca_x01, rfl⟩ := own_shape x0_1.own
  have hb : Below w4.heap.size w4 (w4.alloc (.cells #[(.slice ba_x00 n0_0 ca_x00), (.slice ba_x01 n0_1 ca_x01)] 27)) := below_al (Below.refl _ _) _
  replace x0_0 := x0_0.keep hb
  replace x0_1 := x0_1.keep hb
  replace X_a0 := Lib.hid (X_a0.out.step hb)
  replace B := below_step B hb
  have zz5 := hb.size
  have X_x0 : Blk (w4.alloc (.cells #[(.slice ba_x00 n0_0 ca_x00), (.slice ba_x01 n0_1 ca_x01)] 27)) w4.heap.size 27 #[(.slice ba_x00 n0_0 ca_x00), (.slice ba_x01 n0_1 ca_x01)] := by
    have := Blk.new w4 27 #[(.slice ba_x00 n0_0 ca_x00), (.slice ba_x01 n0_1 ca_x01)]
    simpa using this
  replace X_x0 := Lib.hid X_x0
  have zy5 : (w4.alloc (.cells #[(.slice ba_x00 n0_0 ca_x00), (.slice ba_x01 n0_1 ca_x01)] 27)).heap.size = w4.heap.size + 1 := by simp
  clear hb
  have q_x0_0 := X_x0.out.cell 0
  have q_x0_1 := X_x0.out.cell 1
  go_wp2_with fail
  refine (HI.out _ _ _ x0_0.row x0_1.row).mono ?_; rintro e w6 ⟨rfl, hb⟩
  clear q_x0_0 q_x0_1
  replace x0_0 := x0_0.keep hb
  replace x0_1 := x0_1.keep hb
  replace X_a0 := Lib.hid (X_a0.out.step hb)
  replace X_x0 := Lib.hid (X_x0.out.step hb)
  replace B := below_step B hb
  have zz6 := hb.size
  clear hb
  have q_x0_0 := X_x0.out.cell 0
  have q_x0_1 := X_x0.out.cell 1
  have q_a0_0 := X_a0.out.cell 0
  have q_a0_1 := X_a0.out.cell 1
  go_wp2
  go_region_held3 (fun W => W.cell? ⟨w4.heap.size, 0, none⟩ = some (.slice ba_x00 n0_0 ca_x00) ∧ W.cell? ⟨w4.heap.size, 1, none⟩ = some (.slice ba_x01 n0_1 ca_x01) ∧ W.cell? ⟨w.heap.size, 0, none⟩ = some (.slice b0_0 n0_0 c0_0) ∧ W.cell? ⟨w.heap.size, 1, none⟩ = some (.slice b0_1 n0_1 c0_1)) (first | assumption | exact ⟨q_x0_0, q_x0_1, q_a0_0, q_a0_1⟩ | exact keep4 (by assumption) (by assumption) | fail)
    (first
      | (go_at_call 23; refine (stChain.to_got _ _ n0_0 zs0_0 hn0_0 (H0_0.out.keep (by repeat (first | assumption | (with_reducible exact Below.refl _ _) | (with_reducible refine below_dr ?_) | (with_reducible refine below_al ?_ _) | (with_reducible refine below_step ?_ (by assumption)) | fail))) _ n0_1 zs0_1 hn0_1 (H0_1.out.keep (by repeat (first | assumption | (with_reducible exact Below.refl _ _) | (with_reducible refine below_dr ?_) | (with_reducible refine below_al ?_ _) | (with_reducible refine below_step ?_ (by assumption)) | fail)))).mono ?_; rintro e wt ⟨tc0, tc1, lc0, hc0, lc1, hc1, rfl, ⟨oc0, _⟩, ⟨oc1, _⟩, _, hbt⟩)
      | (go_at_call 24; refine (stChain.eq_yes _ _ _ _ _ n0_0 zs0_0 hn0_0 (x0_0.keep (by repeat (first | assumption | (with_reducible exact Below.refl _ _) | (with_reducible refine below_dr ?_) | (with_reducible refine below_al ?_ _) | (with_reducible refine below_step ?_ (by assumption)) | fail))).row oc0.row n0_1 zs0_1 hn0_1 (x0_1.keep (by repeat (first | assumption | (with_reducible exact Below.refl _ _) | (with_reducible refine below_dr ?_) | (with_reducible refine below_al ?_ _) | (with_reducible refine below_step ?_ (by assumption)) | fail))).row oc1.row).mono ?_; rintro e w7 ⟨rfl, hb⟩)
      | fail)
  have hc : Below w6.heap.size w6 w7 := (by repeat (first | assumption | (with_reducible exact Below.refl _ _) | (with_reducible refine below_dr ?_) | (with_reducible refine below_al ?_ _) | (with_reducible refine below_step ?_ (by assumption)) | fail))
  clear q_x0_0 q_x0_1 q_a0_0 q_a0_1 hb hbt oc0 oc1
  replace x0_0 := x0_0.keep hc
  replace x0_1 := x0_1.keep hc
  replace X_a0 := Lib.hid (X_a0.out.step hc)
  replace X_x0 := Lib.hid (X_x0.out.step hc)
  replace B := below_step B hc
  have zz7 := hc.size
  clear hc
  go_wp2
  go_ret
  exact ⟨rfl, B⟩
theorem walk (w : World) (v0 : Value) (n0 : Nat) (zs0 : List Int) (h0 : Row 2 w v0 n0 (zs0.map (Value.int .i64))) (hm0 : n0 ≤ 9223372036854775807) (v1 : Value) (n1 : Nat) (zs1 : List Int) (h1 : Row 1 w v1 n1 (zs1.map (Value.int .i64))) (hm1 : n1 ≤ 9223372036854775807) : Calls Try.prog 6 #[stChain.R v0 v1] w fun e w' => e = .returned (.bool true) ∧ Below w.heap.size w w' := by
  by_cases hl : n0 + n1 ≤ 1048576
  · by_cases h : CO zs0 n0 zs1 n1
    · exact core w v0 n0 zs0 (by omega) h0 v1 n1 zs1 (by omega) h1 _ hl (fun W u0 u1 g0 g1 => spec_tl_yes W u0 u1 n0 n1 zs0 zs1 g0 g1 h) (fun W u0 u1 g0 g1 => impl_tl_yes W u0 u1 n0 n1 zs0 zs1 g0 g1 h)
    · exact core w v0 n0 zs0 (by omega) h0 v1 n1 zs1 (by omega) h1 _ hl (fun W u0 u1 g0 g1 => spec_tl_no W u0 u1 n0 n1 zs0 zs1 (by omega) (by omega) g0 g1 h) (fun W u0 u1 g0 g1 => impl_tl_no W u0 u1 n0 n1 zs0 zs1 (by omega) (by omega) g0 g1 h)
  · obtain ⟨a0, c0, rfl⟩ := h0.shape
    obtain ⟨a1, c1, rfl⟩ := h1.shape
    have X := Blk.new w 43 #[.slice a0 n0 c0, .slice a1 n1 c1]
    have q0 := X.cell 0
    have q1 := X.cell 1
    go_enter Try.func6, Try.ntmps6
    go_wp2_with fail
    refine (stChain.sz_no _ a0 n0 c0 a1 n1 c1 _ (by omega) (by omega) (by omega) hm0 hm1).mono ?_; rintro e w1 ⟨rfl, hb⟩
    clear q0 q1
    go_wp2
    go_ret
    exact ⟨rfl, below_step (below_al (Below.refl _ _) _) hb⟩
end Go.Proofs.Ytmffhogefchpbaa.wFnExactTotalLevel
namespace Go.Proofs.Ytmffhogefchpbaa.wFnExactRoomFrom
open Go.RowKit Go.Proofs.Ytmffhogefchpbaa.kit Go.Proofs.Ytmffhogefchpbaa.lawi Go.Proofs.Ytmffhogefchpbaa.own Go.Proofs.Ytmffhogefchpbaa.rainl Go.Proofs.Ytmffhogefchpbaa.rain Go.Proofs.Ytmffhogefchpbaa.cis Go.Proofs.Ytmffhogefchpbaa.chl Go.Proofs.Ytmffhogefchpbaa.chn
set_option maxRecDepth 100000 in
set_option maxHeartbeats 4000000 in
theorem core (w : World) (v0_0 : Value) (n0_0 : Nat) (zs0_0 : List Int) (hn0_0 : n0_0 ≤ 1048576) (h0_0 : Row 2 w v0_0 n0_0 (zs0_0.map (Value.int .i64))) (v0_1 : Value) (n0_1 : Nat) (zs0_1 : List Int) (hn0_1 : n0_1 ≤ 1048576) (h0_1 : Row 1 w v0_1 n0_1 (zs0_1.map (Value.int .i64))) (a1 : Int) (r0 : Int)
    (hsum : n0_0 + n0_1 ≤ 1048576)
    (hs : ∀ W u0_0 u0_1, Row 2 W u0_0 n0_0 (zs0_0.map (Value.int .i64)) → Row 1 W u0_1 n0_1 (zs0_1.map (Value.int .i64)) → Calls Try.prog 33 #[stChain.R u0_0 u0_1, .int .i64 a1] W (Gives W (.int .i64 r0)))
    (hi : ∀ W u0_0 u0_1, Row 2 W u0_0 n0_0 (zs0_0.map (Value.int .i64)) → Row 1 W u0_1 n0_1 (zs0_1.map (Value.int .i64)) → Calls Try.prog 15 #[stChain.R u0_0 u0_1, .int .i64 a1] W (Gives W (.int .i64 r0))) :
    Calls Try.prog 8 #[stChain.R v0_0 v0_1, .int .i64 a1] w (Gives w (.bool true)) := by
  obtain ⟨b0_0, c0_0, rfl⟩ := h0_0.shape
  have H0_0 := Lib.hid h0_0
  clear h0_0
  obtain ⟨b0_1, c0_1, rfl⟩ := h0_1.shape
  have H0_1 := Lib.hid h0_1
  clear h0_1
  have HS := Lib.hid hs
  have HI := Lib.hid hi
  clear hs hi
  have X_a0 : Blk (w.alloc (.cells #[(.slice b0_0 n0_0 c0_0), (.slice b0_1 n0_1 c0_1)] 43)) w.heap.size 43 #[(.slice b0_0 n0_0 c0_0), (.slice b0_1 n0_1 c0_1)] := by
    have := Blk.new w 43 #[(.slice b0_0 n0_0 c0_0), (.slice b0_1 n0_1 c0_1)]
    simpa using this
  replace X_a0 := Lib.hid X_a0
  have B : Below w.heap.size w (w.alloc (.cells #[(.slice b0_0 n0_0 c0_0), (.slice b0_1 n0_1 c0_1)] 43)) := below_al (Below.refl _ _) _
  have zzb : (w.alloc (.cells #[(.slice b0_0 n0_0 c0_0), (.slice b0_1 n0_1 c0_1)] 43)).heap.size = w.heap.size + 1 := by simp
  go_enter Try.func8, Try.ntmps8
  have q_a0_0 := X_a0.out.cell 0
  have q_a0_1 := X_a0.out.cell 1
  go_wp2_with fail
  refine (stChain.sz_yes _ _ n0_0 c0_0 _ n0_1 c0_1 _ (by omega) (by omega)).mono ?_; rintro e w1 ⟨rfl, hb⟩
  clear q_a0_0 q_a0_1
  replace X_a0 := Lib.hid (X_a0.out.step hb)
  replace B := below_step B hb
  have zz1 := hb.size
  clear hb
  have q_a0_0 := X_a0.out.cell 0
  have q_a0_1 := X_a0.out.cell 1
  go_wp2_with fail
  refine (stChain.to_got _ _ n0_0 zs0_0 hn0_0 (H0_0.out.keep B) _ n0_1 zs0_1 hn0_1 (H0_1.out.keep B)).mono ?_; rintro e w2 ⟨t1, t2, l_o0_0, h_o0_0, l_o0_1, h_o0_1, rfl, ⟨o0_0, lo_o0_0⟩, ⟨o0_1, lo_o0_1⟩, dd_o0, hb⟩
  clear q_a0_0 q_a0_1
  replace X_a0 := Lib.hid (X_a0.out.step hb)
  replace B := below_step B hb
  have zz2 := hb.size
  have hi_o0_0 := o0_0.2.2
  have hi_o0_1 := o0_1.2.2
  clear hb
  go_wp2_with fail
  refine (HS.out _ _ _ o0_0.row o0_1.row).mono ?_; rintro e w3 ⟨rfl, hb⟩
  replace o0_0 := o0_0.keep hb
  replace o0_1 := o0_1.keep hb
  replace X_a0 := Lib.hid (X_a0.out.step hb)
  replace B := below_step B hb
  have zz3 := hb.size
  clear hb
  clear o0_0
  clear o0_1
  have q_a0_0 := X_a0.out.cell 0
  have q_a0_1 := X_a0.out.cell 1
  go_wp2_with fail
  refine (stChain.to_got _ _ n0_0 zs0_0 hn0_0 (H0_0.out.keep B) _ n0_1 zs0_1 hn0_1 (H0_1.out.keep B)).mono ?_; rintro e w4 ⟨t3, t4, l_x0_0, h_x0_0, l_x0_1, h_x0_1, rfl, ⟨x0_0, lo_x0_0⟩, ⟨x0_1, lo_x0_1⟩, dd_x0, hb⟩
  clear q_a0_0 q_a0_1
  replace X_a0 := Lib.hid (X_a0.out.step hb)
  replace B := below_step B hb
  have zz4 := hb.size
  have hi_x0_0 := x0_0.2.2
  have hi_x0_1 := x0_1.2.2
  clear hb
  obtain ⟨ba_x00, ca_x00, rfl⟩ := own_shape x0_0.own
  obtain ⟨ba_x01, ca_x01, rfl⟩ := own_shape x0_1.own
  have hb : Below w4.heap.size w4 (w4.alloc (.cells #[(.slice ba_x00 n0_0 ca_x00), (.slice ba_x01 n0_1 ca_x01)] 27)) := below_al (Below.refl _ _) _
  replace x0_0 := x0_0.keep hb
  replace x0_1 := x0_1.keep hb
  replace X_a0 := Lib.hid (X_a0.out.step hb)
  replace B := below_step B hb
  have zz5 := hb.size
  have X_x0 : Blk (w4.alloc (.cells #[(.slice ba_x00 n0_0 ca_x00), (.slice ba_x01 n0_1 ca_x01)] 27)) w4.heap.size 27 #[(.slice ba_x00 n0_0 ca_x00), (.slice ba_x01 n0_1 ca_x01)] := by
    have := Blk.new w4 27 #[(.slice ba_x00 n0_0 ca_x00), (.slice ba_x01 n0_1 ca_x01)]
    simpa using this
  replace X_x0 := Lib.hid X_x0
  have zy5 : (w4.alloc (.cells #[(.slice ba_x00 n0_0 ca_x00), (.slice ba_x01 n0_1 ca_x01)] 27)).heap.size = w4.heap.size + 1 := by simp
  clear hb
  have q_x0_0 := X_x0.out.cell 0
  have q_x0_1 := X_x0.out.cell 1
  go_wp2_with fail
  refine (HI.out _ _ _ x0_0.row x0_1.row).mono ?_; rintro e w6 ⟨rfl, hb⟩
  clear q_x0_0 q_x0_1
  replace x0_0 := x0_0.keep hb
  replace x0_1 := x0_1.keep hb
  replace X_a0 := Lib.hid (X_a0.out.step hb)
  replace X_x0 := Lib.hid (X_x0.out.step hb)
  replace B := below_step B hb
  have zz6 := hb.size
  clear hb
  have q_x0_0 := X_x0.out.cell 0
  have q_x0_1 := X_x0.out.cell 1
  have q_a0_0 := X_a0.out.cell 0
  have q_a0_1 := X_a0.out.cell 1
  go_wp2
  go_region_held3 (fun W => W.cell? ⟨w4.heap.size, 0, none⟩ = some (.slice ba_x00 n0_0 ca_x00) ∧ W.cell? ⟨w4.heap.size, 1, none⟩ = some (.slice ba_x01 n0_1 ca_x01) ∧ W.cell? ⟨w.heap.size, 0, none⟩ = some (.slice b0_0 n0_0 c0_0) ∧ W.cell? ⟨w.heap.size, 1, none⟩ = some (.slice b0_1 n0_1 c0_1)) (first | assumption | exact ⟨q_x0_0, q_x0_1, q_a0_0, q_a0_1⟩ | exact keep4 (by assumption) (by assumption) | fail)
    (first
      | (go_at_call 23; refine (stChain.to_got _ _ n0_0 zs0_0 hn0_0 (H0_0.out.keep (by repeat (first | assumption | (with_reducible exact Below.refl _ _) | (with_reducible refine below_dr ?_) | (with_reducible refine below_al ?_ _) | (with_reducible refine below_step ?_ (by assumption)) | fail))) _ n0_1 zs0_1 hn0_1 (H0_1.out.keep (by repeat (first | assumption | (with_reducible exact Below.refl _ _) | (with_reducible refine below_dr ?_) | (with_reducible refine below_al ?_ _) | (with_reducible refine below_step ?_ (by assumption)) | fail)))).mono ?_; rintro e wt ⟨tc0, tc1, lc0, hc0, lc1, hc1, rfl, ⟨oc0, _⟩, ⟨oc1, _⟩, _, hbt⟩)
      | (go_at_call 24; refine (stChain.eq_yes _ _ _ _ _ n0_0 zs0_0 hn0_0 (x0_0.keep (by repeat (first | assumption | (with_reducible exact Below.refl _ _) | (with_reducible refine below_dr ?_) | (with_reducible refine below_al ?_ _) | (with_reducible refine below_step ?_ (by assumption)) | fail))).row oc0.row n0_1 zs0_1 hn0_1 (x0_1.keep (by repeat (first | assumption | (with_reducible exact Below.refl _ _) | (with_reducible refine below_dr ?_) | (with_reducible refine below_al ?_ _) | (with_reducible refine below_step ?_ (by assumption)) | fail))).row oc1.row).mono ?_; rintro e w7 ⟨rfl, hb⟩)
      | fail)
  have hc : Below w6.heap.size w6 w7 := (by repeat (first | assumption | (with_reducible exact Below.refl _ _) | (with_reducible refine below_dr ?_) | (with_reducible refine below_al ?_ _) | (with_reducible refine below_step ?_ (by assumption)) | fail))
  clear q_x0_0 q_x0_1 q_a0_0 q_a0_1 hb hbt oc0 oc1
  replace x0_0 := x0_0.keep hc
  replace x0_1 := x0_1.keep hc
  replace X_a0 := Lib.hid (X_a0.out.step hc)
  replace X_x0 := Lib.hid (X_x0.out.step hc)
  replace B := below_step B hc
  have zz7 := hc.size
  clear hc
  go_wp2
  go_ret
  exact ⟨rfl, B⟩
theorem walk (w : World) (v0 : Value) (n0 : Nat) (zs0 : List Int) (h0 : Row 2 w v0 n0 (zs0.map (Value.int .i64))) (hm0 : n0 ≤ 9223372036854775807) (v1 : Value) (n1 : Nat) (zs1 : List Int) (h1 : Row 1 w v1 n1 (zs1.map (Value.int .i64))) (hm1 : n1 ≤ 9223372036854775807) (k : Int) (_ : (Lit.int .i64 k).wf = true) : Calls Try.prog 8 #[stChain.R v0 v1, .int .i64 k] w fun e w' => e = .returned (.bool true) ∧ Below w.heap.size w w' := by
  by_cases hl : n0 + n1 ≤ 1048576
  · by_cases h : CO zs0 n0 zs1 n1 ∧ In n0 k
    · obtain ⟨M, hM1, hM, hE⟩ := Leads.ex h.1.2.2.2.2.1 h.1.2.2.2.2.2 h.2
      exact core w v0 n0 zs0 (by omega) h0 v1 n1 zs1 (by omega) h1 k _ hl (fun W u0 u1 g0 g1 => spec_room_yes W u0 u1 n0 n1 zs0 zs1 k M g0 g1 h.1 h.2 hM1 hM hE) (fun W u0 u1 g0 g1 => impl_room_yes W u0 u1 n0 n1 zs0 zs1 k M g0 g1 h.1 h.2 hM hE)
    · exact core w v0 n0 zs0 (by omega) h0 v1 n1 zs1 (by omega) h1 k _ hl (fun W u0 u1 g0 g1 => spec_room_no W u0 u1 n0 n1 zs0 zs1 k (by omega) (by omega) g0 g1 h) (fun W u0 u1 g0 g1 => impl_room_no W u0 u1 n0 n1 zs0 zs1 k (by omega) (by omega) g0 g1 h)
  · obtain ⟨a0, c0, rfl⟩ := h0.shape
    obtain ⟨a1, c1, rfl⟩ := h1.shape
    have X := Blk.new w 43 #[.slice a0 n0 c0, .slice a1 n1 c1]
    have q0 := X.cell 0
    have q1 := X.cell 1
    go_enter Try.func8, Try.ntmps8
    go_wp2_with fail
    refine (stChain.sz_no _ a0 n0 c0 a1 n1 c1 _ (by omega) (by omega) (by omega) hm0 hm1).mono ?_; rintro e w1 ⟨rfl, hb⟩
    clear q0 q1
    go_wp2
    go_ret
    exact ⟨rfl, below_step (below_al (Below.refl _ _) _) hb⟩
end Go.Proofs.Ytmffhogefchpbaa.wFnExactRoomFrom
namespace Go.Proofs.Ytmffhogefchpbaa.wFnExactCircleIn
open Go.RowKit Go.Proofs.Ytmffhogefchpbaa.kit Go.Proofs.Ytmffhogefchpbaa.lawi Go.Proofs.Ytmffhogefchpbaa.own Go.Proofs.Ytmffhogefchpbaa.rainl Go.Proofs.Ytmffhogefchpbaa.rain Go.Proofs.Ytmffhogefchpbaa.cis Go.Proofs.Ytmffhogefchpbaa.chl Go.Proofs.Ytmffhogefchpbaa.chn
set_option maxRecDepth 100000 in
set_option maxHeartbeats 4000000 in
theorem core (w : World) (v0 : Value) (n0 : Nat) (zs0 : List Int) (hn0 : n0 ≤ 1048576) (h0 : Row 1 w v0 n0 (zs0.map (Value.int .i64))) (m0 : Nat) (ys0 : List Int) (hm0 : m0 ≤ 1048576)
    (hs : ∀ W u0, Row 1 W u0 n0 (zs0.map (Value.int .i64)) → Calls Try.prog 34 #[u0] W (fun e W' => ∃ t, e = .returned (t) ∧ W'.ownsRow W.heap.size 3 1 t m0 (ys0.map (Value.int .i64)) ∧ Below W.heap.size W W'))
    (hi : ∀ W u0, Row 1 W u0 n0 (zs0.map (Value.int .i64)) → Calls Try.prog 19 #[u0] W (fun e W' => ∃ t, e = .returned (t) ∧ W'.ownsRow W.heap.size 3 1 t m0 (ys0.map (Value.int .i64)) ∧ Below W.heap.size W W')) :
    Calls Try.prog 9 #[v0] w (Gives w (.bool true)) := by
  obtain ⟨b0, c0, rfl⟩ := h0.shape
  have H0 := Lib.hid h0
  clear h0
  have HS := Lib.hid hs
  have HI := Lib.hid hi
  clear hs hi
  have B : Below w.heap.size w w := Below.refl _ _
  go_enter Try.func9, Try.ntmps9
  go_wp2_with fail
  refine (toInt_got _ _ n0 zs0 hn0 (H0.out.keep B)).mono ?_; rintro e w1 ⟨t1, rfl, ho, hb⟩
  replace B := below_step B hb
  have zz1 := hb.size
  have o0 := OwnR.of_own ho
  clear hb ho
  go_wp2_with fail
  refine (HS.out _ _ o0.row).mono ?_; rintro e w2 ⟨t2, rfl, ho, hb⟩
  replace o0 := o0.keep hb
  replace B := below_step B hb
  have zz2 := hb.size
  have s := OwnR.of_own ho
  clear hb ho
  clear o0
  go_wp2_with fail
  refine (toInt_got _ _ n0 zs0 hn0 (H0.out.keep B)).mono ?_; rintro e w3 ⟨t3, rfl, ho, hb⟩
  replace s := s.keep hb
  replace B := below_step B hb
  have zz3 := hb.size
  have x0 := OwnR.of_own ho
  clear hb ho
  go_wp2_with fail
  refine (HI.out _ _ x0.row).mono ?_; rintro e w4 ⟨t4, rfl, ho, hb⟩
  replace s := s.keep hb
  replace x0 := x0.keep hb
  replace B := below_step B hb
  have zz4 := hb.size
  have g := OwnR.of_own ho
  clear hb ho
  go_wp2_with fail
  refine (eqInt_gives _ _ _ m0 ys0 hm0 g.row s.row).mono ?_; rintro e w5 ⟨rfl, hb⟩
  replace s := s.keep hb
  replace x0 := x0.keep hb
  replace g := g.keep hb
  replace B := below_step B hb
  have zz5 := hb.size
  clear hb
  go_wp2_with fail
  refine (toInt_got _ _ n0 zs0 hn0 (H0.out.keep B)).mono ?_; rintro e w6 ⟨t5, rfl, ho, hb⟩
  replace s := s.keep hb
  replace x0 := x0.keep hb
  replace g := g.keep hb
  replace B := below_step B hb
  have zz6 := hb.size
  have oe0 := OwnR.of_own ho
  clear hb ho
  go_wp2_with fail
  refine (eqInt_gives _ _ _ n0 zs0 hn0 x0.row oe0.row).mono ?_; rintro e w7 ⟨rfl, hb⟩
  replace s := s.keep hb
  replace x0 := x0.keep hb
  replace g := g.keep hb
  replace oe0 := oe0.keep hb
  replace B := below_step B hb
  have zz7 := hb.size
  clear hb
  clear oe0
  go_wp2_with fail
  refine (markInt_own _ _ _ _ n0 _ 1 _ (by omega) (by omega) x0).mono ?_; rintro e w8 ⟨rfl, om, ch⟩
  have zz8_0 := ch.size
  replace s := s.chg ch (by omega)
  replace g := g.chg ch (by omega)
  replace B := B.trans (ch.below (B := w.heap.size) (by omega) (by omega))
  replace x0 := om
  clear om ch
  go_wp2_with fail
  refine (eqInt_gives _ _ _ m0 ys0 hm0 g.row s.row).mono ?_; rintro e w9 ⟨rfl, hb⟩
  replace s := s.keep hb
  replace x0 := x0.keep hb
  replace g := g.keep hb
  replace B := below_step B hb
  have zz9 := hb.size
  clear hb
  clear x0
  go_wp2_with fail
  refine (markInt_own _ _ _ _ m0 _ 1 _ (by omega) (by omega) g).mono ?_; rintro e w10 ⟨rfl, om, ch⟩
  have zz10_0 := ch.size
  replace s := s.chg ch (by omega)
  replace B := B.trans (ch.below (B := w.heap.size) (by omega) (by omega))
  replace g := om
  clear om ch
  go_wp2_with fail
  refine (heldInt_gives _ _ m0 1 _ rfl (by omega) g.row).mono ?_; rintro e w11 ⟨rfl, hb⟩
  replace s := s.keep hb
  replace g := g.keep hb
  replace B := below_step B hb
  have zz11 := hb.size
  clear hb
  go_wp2_with fail
  refine (toInt_got _ _ n0 zs0 hn0 (H0.out.keep B)).mono ?_; rintro e w12 ⟨t6, rfl, ho, hb⟩
  replace s := s.keep hb
  replace g := g.keep hb
  replace B := below_step B hb
  have zz12 := hb.size
  have p0 := OwnR.of_own ho
  clear hb ho
  go_wp2_with fail
  refine (HI.out _ _ p0.row).mono ?_; rintro e w13 ⟨t7, rfl, ho, hb⟩
  replace s := s.keep hb
  replace g := g.keep hb
  replace p0 := p0.keep hb
  replace B := below_step B hb
  have zz13 := hb.size
  have h := OwnR.of_own ho
  clear hb ho
  clear p0
  go_wp2_with fail
  refine (eqInt_gives _ _ _ m0 ys0 hm0 h.row s.row).mono ?_; rintro e w14 ⟨rfl, hb⟩
  replace s := s.keep hb
  replace g := g.keep hb
  replace h := h.keep hb
  replace B := below_step B hb
  have zz14 := hb.size
  clear hb
  clear h
  clear s
  go_wp2_with fail
  refine (heldInt_gives _ _ m0 1 _ rfl (by omega) g.row).mono ?_; rintro e w15 ⟨rfl, hb⟩
  replace g := g.keep hb
  replace B := below_step B hb
  have zz15 := hb.size
  clear hb
  go_wp2
  go_ret
  exact ⟨rfl, B⟩
theorem circ_le (ns : List Int) (n : Nat) : ∀ m, (circ ns n m).length ≤ m
  | 0 => by simp [circ]
  | m + 1 => by
    have := circ_le ns n m
    rw [circ]
    split <;> simp <;> omega
theorem walk (w : World) (a0 : Option Addr) (n0 c0 : Nat) (z0 : List Int) (w0 : IsRow .i64 w a0 n0 c0 z0) : Calls Try.prog 9 #[.slice a0 n0 c0] w fun e w' => e = .returned (.bool true) ∧ Below w.heap.size w w' := by
  have fits : n0 ≤ 1048576 ∨ 1048576 < n0 := by omega
  rcases fits with hl | hl
  · have h0 := w0.row
    obtain ⟨zs0, hzs⟩ : ∃ zs, z0.take n0 = zs := ⟨_, rfl⟩
    rw [hzs] at h0
    by_cases h : n0 ≤ 20
    · exact core w _ n0 zs0 hl h0 _ _ (by have := circ_le zs0 n0 n0; omega) (fun W u0 g0 => spec_circ W u0 n0 zs0 h g0) (fun W u0 g0 => impl_circ W u0 n0 zs0 h g0)
    · exact core w _ n0 zs0 hl h0 0 [] (by omega) (fun W u0 g0 => spec_circ_no W u0 n0 zs0 (by omega) hl g0) (fun W u0 g0 => impl_circ_no W u0 n0 zs0 (by omega) hl g0)
  · have t : decide ((n0 : Int) > 1048576) = true := decide_eq_true (by omega)
    go_enter Try.func9, Try.ntmps9
    go_wp2
    go_ret
    exact ⟨rfl, Below.refl _ _⟩
end Go.Proofs.Ytmffhogefchpbaa.wFnExactCircleIn
