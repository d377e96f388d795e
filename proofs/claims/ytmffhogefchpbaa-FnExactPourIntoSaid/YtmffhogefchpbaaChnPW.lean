/- The exact laws on chains return true. -/
import Derived.Test.YtmffhogefchpbaaStChain
import Derived.Test.YtmffhogefchpbaaChnS
import Derived.Test.YtmffhogefchpbaaChnI2
import Derived.Test.YtmffhogefchpbaaChnQ
set_option linter.unusedVariables false
namespace Go.Proofs.Ytmffhogefchpbaa.wFnExactPourInto
open Go.RowKit Go.Proofs.Ytmffhogefchpbaa.kit Go.Proofs.Ytmffhogefchpbaa.lawi Go.Proofs.Ytmffhogefchpbaa.own Go.Proofs.Ytmffhogefchpbaa.rainl Go.Proofs.Ytmffhogefchpbaa.rain Go.Proofs.Ytmffhogefchpbaa.cis Go.Proofs.Ytmffhogefchpbaa.chl Go.Proofs.Ytmffhogefchpbaa.chn
set_option maxRecDepth 100000 in
set_option maxHeartbeats 4000000 in
theorem core (w : World) (v0_0 : Value) (n0_0 : Nat) (zs0_0 : List Int) (hn0_0 : n0_0 ≤ 1048576) (h0_0 : Row 2 w v0_0 n0_0 (zs0_0.map (Value.int .i64))) (v0_1 : Value) (n0_1 : Nat) (zs0_1 : List Int) (hn0_1 : n0_1 ≤ 1048576) (h0_1 : Row 1 w v0_1 n0_1 (zs0_1.map (Value.int .i64))) (a1 : Int) (a2 : Int) (m0_0 : Nat) (ys0_0 : List Int) (hm0_0 : m0_0 ≤ 1048576) (m0_1 : Nat) (ys0_1 : List Int) (hm0_1 : m0_1 ≤ 1048576) (r1 : Int)
    (hsum : n0_0 + n0_1 ≤ 1048576)
    (hs : ∀ W u0_0 u0_1, Row 2 W u0_0 n0_0 (zs0_0.map (Value.int .i64)) → Row 1 W u0_1 n0_1 (zs0_1.map (Value.int .i64)) → Calls Try.prog 25 #[stChain.R u0_0 u0_1, .int .i64 a1, .int .i64 a2] W (stChain.Got W m0_0 ys0_0 m0_1 ys0_1 (fun t => .tuple #[t, .int .i64 r1])))
    (hi : ∀ W u0_0 u0_1, Row 2 W u0_0 n0_0 (zs0_0.map (Value.int .i64)) → Row 1 W u0_1 n0_1 (zs0_1.map (Value.int .i64)) → Calls Try.prog 13 #[stChain.R u0_0 u0_1, .int .i64 a1, .int .i64 a2] W (stChain.Got W m0_0 ys0_0 m0_1 ys0_1 (fun t => .tuple #[t, .int .i64 r1]))) :
    Calls Try.prog 5 #[stChain.R v0_0 v0_1, .int .i64 a1, .int .i64 a2] w (Gives w (.bool true)) := by
  obtain ⟨b0_0, c0_0, rfl⟩ := h0_0.shape
  have H0_0 := Lib.hid h0_0
  clear h0_0
  obtain ⟨b0_1, c0_1, rfl⟩ := h0_1.shape
  have H0_1 := Lib.hid h0_1
  clear h0_1
  have HS := Lib.hid hs
  have HI := Lib.hid hi
  clear hs hi
  have X_a0 : Blk (w.alloc (.cells #[(.slice b0_0 n0_0 c0_0), (.slice b0_1 n0_1 c0_1)] 43)) w.heap.size 43 #[(.slice b0_0 n0_0 c0_0), (.slice b0_1 n0_1 c0_1)] := by
    have := Blk.new w 43 #[(.slice b0_0 n0_0 c0_0), (.slice b0_1 n0_1 c0_1)]
    simpa using this
  replace X_a0 := Lib.hid X_a0
  have B : Below w.heap.size w (w.alloc (.cells #[(.slice b0_0 n0_0 c0_0), (.slice b0_1 n0_1 c0_1)] 43)) := below_al (Below.refl _ _) _
  have zzb : (w.alloc (.cells #[(.slice b0_0 n0_0 c0_0), (.slice b0_1 n0_1 c0_1)] 43)).heap.size = w.heap.size + 1 := by simp
  go_enter Try.func5, Try.ntmps5
  have q_a0_0 := X_a0.out.cell 0
  have q_a0_1 := X_a0.out.cell 1
  go_wp2_with fail
  refine (stChain.sz_yes _ _ n0_0 c0_0 _ n0_1 c0_1 _ (by omega) (by omega)).mono ?_; rintro e w1 ⟨rfl, hb⟩
  clear q_a0_0 q_a0_1
  replace X_a0 := Lib.hid (X_a0.out.step hb)
  replace B := below_step B hb
  have zz1 := hb.size
  clear hb
  have q_a0_0 := X_a0.out.cell 0
  have q_a0_1 := X_a0.out.cell 1
  go_wp2_with fail
  refine (stChain.to_got _ _ n0_0 zs0_0 hn0_0 (H0_0.out.keep B) _ n0_1 zs0_1 hn0_1 (H0_1.out.keep B)).mono ?_; rintro e w2 ⟨t1, t2, l_o0_0, h_o0_0, l_o0_1, h_o0_1, rfl, ⟨o0_0, lo_o0_0⟩, ⟨o0_1, lo_o0_1⟩, dd_o0, hb⟩
  clear q_a0_0 q_a0_1
  replace X_a0 := Lib.hid (X_a0.out.step hb)
  replace B := below_step B hb
  have zz2 := hb.size
  have hi_o0_0 := o0_0.2.2
  have hi_o0_1 := o0_1.2.2
  clear hb
  go_wp2_with fail
  refine (HS.out _ _ _ o0_0.row o0_1.row).mono ?_; rintro e w3 ⟨t3, t4, l_s_0, h_s_0, l_s_1, h_s_1, rfl, ⟨s_0, lo_s_0⟩, ⟨s_1, lo_s_1⟩, dd_s, hb⟩
  replace o0_0 := o0_0.keep hb
  replace o0_1 := o0_1.keep hb
  replace X_a0 := Lib.hid (X_a0.out.step hb)
  replace B := below_step B hb
  have zz3 := hb.size
  have hi_s_0 := s_0.2.2
  have hi_s_1 := s_1.2.2
  clear hb
  clear o0_0
  clear o0_1
  obtain ⟨ba_s0, ca_s0, rfl⟩ := own_shape s_0.own
  obtain ⟨ba_s1, ca_s1, rfl⟩ := own_shape s_1.own
  have hb : Below w3.heap.size w3 (w3.alloc (.cells #[(.slice ba_s0 m0_0 ca_s0), (.slice ba_s1 m0_1 ca_s1)] 27)) := below_al (Below.refl _ _) _
  replace s_0 := s_0.keep hb
  replace s_1 := s_1.keep hb
  replace X_a0 := Lib.hid (X_a0.out.step hb)
  replace B := below_step B hb
  have zz4 := hb.size
  have X_s : Blk (w3.alloc (.cells #[(.slice ba_s0 m0_0 ca_s0), (.slice ba_s1 m0_1 ca_s1)] 27)) w3.heap.size 27 #[(.slice ba_s0 m0_0 ca_s0), (.slice ba_s1 m0_1 ca_s1)] := by
    have := Blk.new w3 27 #[(.slice ba_s0 m0_0 ca_s0), (.slice ba_s1 m0_1 ca_s1)]
    simpa using this
  replace X_s := Lib.hid X_s
  have zy4 : (w3.alloc (.cells #[(.slice ba_s0 m0_0 ca_s0), (.slice ba_s1 m0_1 ca_s1)] 27)).heap.size = w3.heap.size + 1 := by simp
  clear hb
  have q_a0_0 := X_a0.out.cell 0
  have q_a0_1 := X_a0.out.cell 1
  go_wp2_with fail
  refine (stChain.to_got _ _ n0_0 zs0_0 hn0_0 (H0_0.out.keep B) _ n0_1 zs0_1 hn0_1 (H0_1.out.keep B)).mono ?_; rintro e w5 ⟨t5, t6, l_x0_0, h_x0_0, l_x0_1, h_x0_1, rfl, ⟨x0_0, lo_x0_0⟩, ⟨x0_1, lo_x0_1⟩, dd_x0, hb⟩
  clear q_a0_0 q_a0_1
  replace s_0 := s_0.keep hb
  replace s_1 := s_1.keep hb
  replace X_a0 := Lib.hid (X_a0.out.step hb)
  replace X_s := Lib.hid (X_s.out.step hb)
  replace B := below_step B hb
  have zz5 := hb.size
  have hi_x0_0 := x0_0.2.2
  have hi_x0_1 := x0_1.2.2
  clear hb
  obtain ⟨ba_x00, ca_x00, rfl⟩ := own_shape x0_0.own
  obtain ⟨ba_x01, ca_x01, rfl⟩ := own_shape x0_1.own
  have hb : Below w5.heap.size w5 (w5.alloc (.cells #[(.slice ba_x00 n0_0 ca_x00), (.slice ba_x01 n0_1 ca_x01)] 27)) := below_al (Below.refl _ _) _
  replace s_0 := s_0.keep hb
  replace s_1 := s_1.keep hb
  replace x0_0 := x0_0.keep hb
  replace x0_1 := x0_1.keep hb
  replace X_a0 := Lib.hid (X_a0.out.step hb)
  replace X_s := Lib.hid (X_s.out.step hb)
  replace B := below_step B hb
  have zz6 := hb.size
  have X_x0 : Blk (w5.alloc (.cells #[(.slice ba_x00 n0_0 ca_x00), (.slice ba_x01 n0_1 ca_x01)] 27)) w5.heap.size 27 #[(.slice ba_x00 n0_0 ca_x00), (.slice ba_x01 n0_1 ca_x01)] := by
    have := Blk.new w5 27 #[(.slice ba_x00 n0_0 ca_x00), (.slice ba_x01 n0_1 ca_x01)]
    simpa using this
  replace X_x0 := Lib.hid X_x0
  have zy6 : (w5.alloc (.cells #[(.slice ba_x00 n0_0 ca_x00), (.slice ba_x01 n0_1 ca_x01)] 27)).heap.size = w5.heap.size + 1 := by simp
  clear hb
  have q_x0_0 := X_x0.out.cell 0
  have q_x0_1 := X_x0.out.cell 1
  go_wp2_with fail
  refine (HI.out _ _ _ x0_0.row x0_1.row).mono ?_; rintro e w7 ⟨t7, t8, l_g_0, h_g_0, l_g_1, h_g_1, rfl, ⟨g_0, lo_g_0⟩, ⟨g_1, lo_g_1⟩, dd_g, hb⟩
  clear q_x0_0 q_x0_1
  replace s_0 := s_0.keep hb
  replace s_1 := s_1.keep hb
  replace x0_0 := x0_0.keep hb
  replace x0_1 := x0_1.keep hb
  replace X_a0 := Lib.hid (X_a0.out.step hb)
  replace X_s := Lib.hid (X_s.out.step hb)
  replace X_x0 := Lib.hid (X_x0.out.step hb)
  replace B := below_step B hb
  have zz7 := hb.size
  have hi_g_0 := g_0.2.2
  have hi_g_1 := g_1.2.2
  clear hb
  obtain ⟨ba_g0, ca_g0, rfl⟩ := own_shape g_0.own
  obtain ⟨ba_g1, ca_g1, rfl⟩ := own_shape g_1.own
  have hb : Below w7.heap.size w7 (w7.alloc (.cells #[(.slice ba_g0 m0_0 ca_g0), (.slice ba_g1 m0_1 ca_g1)] 27)) := below_al (Below.refl _ _) _
  replace s_0 := s_0.keep hb
  replace s_1 := s_1.keep hb
  replace x0_0 := x0_0.keep hb
  replace x0_1 := x0_1.keep hb
  replace g_0 := g_0.keep hb
  replace g_1 := g_1.keep hb
  replace X_a0 := Lib.hid (X_a0.out.step hb)
  replace X_s := Lib.hid (X_s.out.step hb)
  replace X_x0 := Lib.hid (X_x0.out.step hb)
  replace B := below_step B hb
  have zz8 := hb.size
  have X_g : Blk (w7.alloc (.cells #[(.slice ba_g0 m0_0 ca_g0), (.slice ba_g1 m0_1 ca_g1)] 27)) w7.heap.size 27 #[(.slice ba_g0 m0_0 ca_g0), (.slice ba_g1 m0_1 ca_g1)] := by
    have := Blk.new w7 27 #[(.slice ba_g0 m0_0 ca_g0), (.slice ba_g1 m0_1 ca_g1)]
    simpa using this
  replace X_g := Lib.hid X_g
  have zy8 : (w7.alloc (.cells #[(.slice ba_g0 m0_0 ca_g0), (.slice ba_g1 m0_1 ca_g1)] 27)).heap.size = w7.heap.size + 1 := by simp
  clear hb
  have q_g_0 := X_g.out.cell 0
  have q_g_1 := X_g.out.cell 1
  have q_s_0 := X_s.out.cell 0
  have q_s_1 := X_s.out.cell 1
  go_wp2_with fail
  refine (stChain.eq_yes _ _ _ _ _ m0_0 ys0_0 hm0_0 g_0.row s_0.row m0_1 ys0_1 hm0_1 g_1.row s_1.row).mono ?_; rintro e w9 ⟨rfl, hb⟩
  clear q_g_0 q_g_1 q_s_0 q_s_1
  replace s_0 := s_0.keep hb
  replace s_1 := s_1.keep hb
  replace x0_0 := x0_0.keep hb
  replace x0_1 := x0_1.keep hb
  replace g_0 := g_0.keep hb
  replace g_1 := g_1.keep hb
  replace X_a0 := Lib.hid (X_a0.out.step hb)
  replace X_s := Lib.hid (X_s.out.step hb)
  replace X_x0 := Lib.hid (X_x0.out.step hb)
  replace X_g := Lib.hid (X_g.out.step hb)
  replace B := below_step B hb
  have zz9 := hb.size
  clear hb
  have q_x0_0 := X_x0.out.cell 0
  have q_x0_1 := X_x0.out.cell 1
  have q_a0_0 := X_a0.out.cell 0
  have q_a0_1 := X_a0.out.cell 1
  go_wp2
  go_region_held3 (fun W => W.cell? ⟨w5.heap.size, 0, none⟩ = some (.slice ba_x00 n0_0 ca_x00) ∧ W.cell? ⟨w5.heap.size, 1, none⟩ = some (.slice ba_x01 n0_1 ca_x01) ∧ W.cell? ⟨w.heap.size, 0, none⟩ = some (.slice b0_0 n0_0 c0_0) ∧ W.cell? ⟨w.heap.size, 1, none⟩ = some (.slice b0_1 n0_1 c0_1)) (first | assumption | exact ⟨q_x0_0, q_x0_1, q_a0_0, q_a0_1⟩ | exact keep4 (by assumption) (by assumption) | fail)
    (first
      | (go_at_call 23; refine (stChain.to_got _ _ n0_0 zs0_0 hn0_0 (H0_0.out.keep (by repeat (first | assumption | (with_reducible exact Below.refl _ _) | (with_reducible refine below_dr ?_) | (with_reducible refine below_al ?_ _) | (with_reducible refine below_step ?_ (by assumption)) | fail))) _ n0_1 zs0_1 hn0_1 (H0_1.out.keep (by repeat (first | assumption | (with_reducible exact Below.refl _ _) | (with_reducible refine below_dr ?_) | (with_reducible refine below_al ?_ _) | (with_reducible refine below_step ?_ (by assumption)) | fail)))).mono ?_; rintro e wt ⟨tc0, tc1, lc0, hc0, lc1, hc1, rfl, ⟨oc0, _⟩, ⟨oc1, _⟩, _, hbt⟩)
      | (go_at_call 24; refine (stChain.eq_yes _ _ _ _ _ n0_0 zs0_0 hn0_0 (x0_0.keep (by repeat (first | assumption | (with_reducible exact Below.refl _ _) | (with_reducible refine below_dr ?_) | (with_reducible refine below_al ?_ _) | (with_reducible refine below_step ?_ (by assumption)) | fail))).row oc0.row n0_1 zs0_1 hn0_1 (x0_1.keep (by repeat (first | assumption | (with_reducible exact Below.refl _ _) | (with_reducible refine below_dr ?_) | (with_reducible refine below_al ?_ _) | (with_reducible refine below_step ?_ (by assumption)) | fail))).row oc1.row).mono ?_; rintro e w10 ⟨rfl, hb⟩)
      | fail)
  have hc : Below w9.heap.size w9 w10 := (by repeat (first | assumption | (with_reducible exact Below.refl _ _) | (with_reducible refine below_dr ?_) | (with_reducible refine below_al ?_ _) | (with_reducible refine below_step ?_ (by assumption)) | fail))
  clear q_x0_0 q_x0_1 q_a0_0 q_a0_1 hb hbt oc0 oc1
  replace s_0 := s_0.keep hc
  replace s_1 := s_1.keep hc
  replace x0_0 := x0_0.keep hc
  replace x0_1 := x0_1.keep hc
  replace g_0 := g_0.keep hc
  replace g_1 := g_1.keep hc
  replace X_a0 := Lib.hid (X_a0.out.step hc)
  replace X_s := Lib.hid (X_s.out.step hc)
  replace X_x0 := Lib.hid (X_x0.out.step hc)
  replace X_g := Lib.hid (X_g.out.step hc)
  replace B := below_step B hc
  have zz10 := hc.size
  clear hc
  have q_x0_0 := X_x0.out.cell 0
  have q_x0_1 := X_x0.out.cell 1
  go_wp2_with fail
  refine (stChain.mark_own _ 1 _ (by omega) _ _ _ n0_0 _ x0_0 _ _ _ n0_1 _ x0_1 dd_x0 (by omega)).mono ?_; rintro e w11 ⟨rfl, om0, om1, wm11_0, ch0, ch1⟩
  clear q_x0_0 q_x0_1
  have zz11_0 := ch0.size
  have zz11_1 := ch1.size
  replace s_0 := s_0.chg ch0 (by omega)
  replace s_0 := s_0.chg ch1 (by omega)
  replace s_1 := s_1.chg ch0 (by omega)
  replace s_1 := s_1.chg ch1 (by omega)
  replace g_0 := g_0.chg ch0 (by omega)
  replace g_0 := g_0.chg ch1 (by omega)
  replace g_1 := g_1.chg ch0 (by omega)
  replace g_1 := g_1.chg ch1 (by omega)
  replace X_a0 := Lib.hid (Blk.chg (Blk.chg X_a0.out ch0 (by omega)) ch1 (by omega))
  replace X_s := Lib.hid (Blk.chg (Blk.chg X_s.out ch0 (by omega)) ch1 (by omega))
  replace X_x0 := Lib.hid (Blk.chg (Blk.chg X_x0.out ch0 (by omega)) ch1 (by omega))
  replace X_g := Lib.hid (Blk.chg (Blk.chg X_g.out ch0 (by omega)) ch1 (by omega))
  replace B := B.trans (ch0.below (B := w.heap.size) (by omega) (by omega))
  replace B := B.trans (ch1.below (B := w.heap.size) (by omega) (by omega))
  replace x0_0 := om0
  replace x0_1 := om1
  clear om0 om1 ch0 ch1
  have q_g_0 := X_g.out.cell 0
  have q_g_1 := X_g.out.cell 1
  have q_s_0 := X_s.out.cell 0
  have q_s_1 := X_s.out.cell 1
  go_wp2_with fail
  refine (stChain.eq_yes _ _ _ _ _ m0_0 ys0_0 hm0_0 g_0.row s_0.row m0_1 ys0_1 hm0_1 g_1.row s_1.row).mono ?_; rintro e w12 ⟨rfl, hb⟩
  clear q_g_0 q_g_1 q_s_0 q_s_1
  replace s_0 := s_0.keep hb
  replace s_1 := s_1.keep hb
  replace x0_0 := x0_0.keep hb
  replace x0_1 := x0_1.keep hb
  replace g_0 := g_0.keep hb
  replace g_1 := g_1.keep hb
  replace X_a0 := Lib.hid (X_a0.out.step hb)
  replace X_s := Lib.hid (X_s.out.step hb)
  replace X_x0 := Lib.hid (X_x0.out.step hb)
  replace X_g := Lib.hid (X_g.out.step hb)
  replace B := below_step B hb
  have zz12 := hb.size
  clear hb
  clear x0_0
  clear x0_1
  have q_g_0 := X_g.out.cell 0
  have q_g_1 := X_g.out.cell 1
  go_wp2_with fail
  refine (stChain.mark_own _ 1 _ (by omega) _ _ _ m0_0 _ g_0 _ _ _ m0_1 _ g_1 dd_g (by omega)).mono ?_; rintro e w13 ⟨rfl, om0, om1, wm13_0, ch0, ch1⟩
  clear q_g_0 q_g_1
  have zz13_0 := ch0.size
  have zz13_1 := ch1.size
  replace s_0 := s_0.chg ch0 (by omega)
  replace s_0 := s_0.chg ch1 (by omega)
  replace s_1 := s_1.chg ch0 (by omega)
  replace s_1 := s_1.chg ch1 (by omega)
  replace X_a0 := Lib.hid (Blk.chg (Blk.chg X_a0.out ch0 (by omega)) ch1 (by omega))
  replace X_s := Lib.hid (Blk.chg (Blk.chg X_s.out ch0 (by omega)) ch1 (by omega))
  replace X_x0 := Lib.hid (Blk.chg (Blk.chg X_x0.out ch0 (by omega)) ch1 (by omega))
  replace X_g := Lib.hid (Blk.chg (Blk.chg X_g.out ch0 (by omega)) ch1 (by omega))
  replace B := B.trans (ch0.below (B := w.heap.size) (by omega) (by omega))
  replace B := B.trans (ch1.below (B := w.heap.size) (by omega) (by omega))
  replace g_0 := om0
  replace g_1 := om1
  clear om0 om1 ch0 ch1
  have q_g_0 := X_g.out.cell 0
  have q_g_1 := X_g.out.cell 1
  go_wp2_with fail
  refine (stChain.held_gives _ 1 _ rfl _ m0_0 g_0.row _ m0_1 g_1.row (by omega)).mono ?_; rintro e w14 ⟨rfl, hb⟩
  clear q_g_0 q_g_1
  replace s_0 := s_0.keep hb
  replace s_1 := s_1.keep hb
  replace g_0 := g_0.keep hb
  replace g_1 := g_1.keep hb
  replace X_a0 := Lib.hid (X_a0.out.step hb)
  replace X_s := Lib.hid (X_s.out.step hb)
  replace X_x0 := Lib.hid (X_x0.out.step hb)
  replace X_g := Lib.hid (X_g.out.step hb)
  replace B := below_step B hb
  have zz14 := hb.size
  clear hb
  have q_a0_0 := X_a0.out.cell 0
  have q_a0_1 := X_a0.out.cell 1
  go_wp2_with fail
  refine (stChain.to_got _ _ n0_0 zs0_0 hn0_0 (H0_0.out.keep B) _ n0_1 zs0_1 hn0_1 (H0_1.out.keep B)).mono ?_; rintro e w15 ⟨t9, t10, l_p0_0, h_p0_0, l_p0_1, h_p0_1, rfl, ⟨p0_0, lo_p0_0⟩, ⟨p0_1, lo_p0_1⟩, dd_p0, hb⟩
  clear q_a0_0 q_a0_1
  replace s_0 := s_0.keep hb
  replace s_1 := s_1.keep hb
  replace g_0 := g_0.keep hb
  replace g_1 := g_1.keep hb
  replace X_a0 := Lib.hid (X_a0.out.step hb)
  replace X_s := Lib.hid (X_s.out.step hb)
  replace X_x0 := Lib.hid (X_x0.out.step hb)
  replace X_g := Lib.hid (X_g.out.step hb)
  replace B := below_step B hb
  have zz15 := hb.size
  have hi_p0_0 := p0_0.2.2
  have hi_p0_1 := p0_1.2.2
  clear hb
  go_wp2_with fail
  refine (HI.out _ _ _ p0_0.row p0_1.row).mono ?_; rintro e w16 ⟨t11, t12, l_h_0, h_h_0, l_h_1, h_h_1, rfl, ⟨h_0, lo_h_0⟩, ⟨h_1, lo_h_1⟩, dd_h, hb⟩
  replace s_0 := s_0.keep hb
  replace s_1 := s_1.keep hb
  replace g_0 := g_0.keep hb
  replace g_1 := g_1.keep hb
  replace p0_0 := p0_0.keep hb
  replace p0_1 := p0_1.keep hb
  replace X_a0 := Lib.hid (X_a0.out.step hb)
  replace X_s := Lib.hid (X_s.out.step hb)
  replace X_x0 := Lib.hid (X_x0.out.step hb)
  replace X_g := Lib.hid (X_g.out.step hb)
  replace B := below_step B hb
  have zz16 := hb.size
  have hi_h_0 := h_0.2.2
  have hi_h_1 := h_1.2.2
  clear hb
  clear p0_0
  clear p0_1
  obtain ⟨ba_h0, ca_h0, rfl⟩ := own_shape h_0.own
  obtain ⟨ba_h1, ca_h1, rfl⟩ := own_shape h_1.own
  have hb : Below w16.heap.size w16 (w16.alloc (.cells #[(.slice ba_h0 m0_0 ca_h0), (.slice ba_h1 m0_1 ca_h1)] 27)) := below_al (Below.refl _ _) _
  replace s_0 := s_0.keep hb
  replace s_1 := s_1.keep hb
  replace g_0 := g_0.keep hb
  replace g_1 := g_1.keep hb
  replace h_0 := h_0.keep hb
  replace h_1 := h_1.keep hb
  replace X_a0 := Lib.hid (X_a0.out.step hb)
  replace X_s := Lib.hid (X_s.out.step hb)
  replace X_x0 := Lib.hid (X_x0.out.step hb)
  replace X_g := Lib.hid (X_g.out.step hb)
  replace B := below_step B hb
  have zz17 := hb.size
  have X_h : Blk (w16.alloc (.cells #[(.slice ba_h0 m0_0 ca_h0), (.slice ba_h1 m0_1 ca_h1)] 27)) w16.heap.size 27 #[(.slice ba_h0 m0_0 ca_h0), (.slice ba_h1 m0_1 ca_h1)] := by
    have := Blk.new w16 27 #[(.slice ba_h0 m0_0 ca_h0), (.slice ba_h1 m0_1 ca_h1)]
    simpa using this
  replace X_h := Lib.hid X_h
  have zy17 : (w16.alloc (.cells #[(.slice ba_h0 m0_0 ca_h0), (.slice ba_h1 m0_1 ca_h1)] 27)).heap.size = w16.heap.size + 1 := by simp
  clear hb
  have q_h_0 := X_h.out.cell 0
  have q_h_1 := X_h.out.cell 1
  have q_s_0 := X_s.out.cell 0
  have q_s_1 := X_s.out.cell 1
  go_wp2_with fail
  refine (stChain.eq_yes _ _ _ _ _ m0_0 ys0_0 hm0_0 h_0.row s_0.row m0_1 ys0_1 hm0_1 h_1.row s_1.row).mono ?_; rintro e w18 ⟨rfl, hb⟩
  clear q_h_0 q_h_1 q_s_0 q_s_1
  replace s_0 := s_0.keep hb
  replace s_1 := s_1.keep hb
  replace g_0 := g_0.keep hb
  replace g_1 := g_1.keep hb
  replace h_0 := h_0.keep hb
  replace h_1 := h_1.keep hb
  replace X_a0 := Lib.hid (X_a0.out.step hb)
  replace X_s := Lib.hid (X_s.out.step hb)
  replace X_x0 := Lib.hid (X_x0.out.step hb)
  replace X_g := Lib.hid (X_g.out.step hb)
  replace X_h := Lib.hid (X_h.out.step hb)
  replace B := below_step B hb
  have zz18 := hb.size
  clear hb
  clear h_0
  clear h_1
  clear s_0
  clear s_1
  have q_g_0 := X_g.out.cell 0
  have q_g_1 := X_g.out.cell 1
  go_wp2_with fail
  refine (stChain.held_gives _ 1 _ rfl _ m0_0 g_0.row _ m0_1 g_1.row (by omega)).mono ?_; rintro e w19 ⟨rfl, hb⟩
  clear q_g_0 q_g_1
  replace g_0 := g_0.keep hb
  replace g_1 := g_1.keep hb
  replace X_a0 := Lib.hid (X_a0.out.step hb)
  replace X_s := Lib.hid (X_s.out.step hb)
  replace X_x0 := Lib.hid (X_x0.out.step hb)
  replace X_g := Lib.hid (X_g.out.step hb)
  replace X_h := Lib.hid (X_h.out.step hb)
  replace B := below_step B hb
  have zz19 := hb.size
  clear hb
  go_wp2
  go_ret
  exact ⟨rfl, B⟩
theorem walk (w : World) (v0 : Value) (n0 : Nat) (zs0 : List Int) (h0 : Row 2 w v0 n0 (zs0.map (Value.int .i64))) (hm0 : n0 ≤ 9223372036854775807) (v1 : Value) (n1 : Nat) (zs1 : List Int) (h1 : Row 1 w v1 n1 (zs1.map (Value.int .i64))) (hm1 : n1 ≤ 9223372036854775807) (k : Int) (_ : (Lit.int .i64 k).wf = true) (x : Int) (_ : (Lit.int .i64 x).wf = true) : Calls Try.prog 5 #[stChain.R v0 v1, .int .i64 k, .int .i64 x] w fun e w' => e = .returned (.bool true) ∧ Below w.heap.size w w' := by
  by_cases hl : n0 + n1 ≤ 1048576
  · by_cases h : CO zs0 n0 zs1 n1 ∧ In n0 k ∧ Wok x
    · obtain ⟨M, hM1, hM, hE⟩ := Leads.ex h.1.2.2.2.2.1 h.1.2.2.2.2.2 h.2.1
      exact core w v0 n0 zs0 (by omega) h0 v1 n1 zs1 (by omega) h1 k x n0 (pst zs1 n0 k zs0 x M).1 (by omega) n1 zs1 (by omega) (pst zs1 n0 k zs0 x M).2 hl (fun W u0 u1 g0 g1 => spec_pinto_yes W u0 u1 n0 n1 zs0 zs1 k x M g0 g1 h.1 h.2.1 h.2.2 hM1 hM hE) (fun W u0 u1 g0 g1 => impl_pinto_yes W u0 u1 n0 n1 zs0 zs1 k x M g0 g1 h.1 h.2.1 h.2.2 hM1 hM hE)
    · exact core w v0 n0 zs0 (by omega) h0 v1 n1 zs1 (by omega) h1 k x n0 zs0 (by omega) n1 zs1 (by omega) (-1) hl (fun W u0 u1 g0 g1 => spec_pinto_no W u0 u1 n0 n1 zs0 zs1 k x (by omega) (by omega) g0 g1 h) (fun W u0 u1 g0 g1 => impl_pinto_no W u0 u1 n0 n1 zs0 zs1 k x (by omega) (by omega) g0 g1 h)
  · obtain ⟨a0, c0, rfl⟩ := h0.shape
    obtain ⟨a1, c1, rfl⟩ := h1.shape
    have X := Blk.new w 43 #[.slice a0 n0 c0, .slice a1 n1 c1]
    have q0 := X.cell 0
    have q1 := X.cell 1
    go_enter Try.func5, Try.ntmps5
    go_wp2_with fail
    refine (stChain.sz_no _ a0 n0 c0 a1 n1 c1 _ (by omega) (by omega) (by omega) hm0 hm1).mono ?_; rintro e w1 ⟨rfl, hb⟩
    clear q0 q1
    go_wp2
    go_ret
    exact ⟨rfl, below_step (below_al (Below.refl _ _) _) hb⟩
end Go.Proofs.Ytmffhogefchpbaa.wFnExactPourInto
