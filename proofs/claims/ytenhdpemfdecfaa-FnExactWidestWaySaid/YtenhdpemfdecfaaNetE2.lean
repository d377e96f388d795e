/- Nets of pipes: TurnNet where the net is none, and the program's TurnNet. -/
import Derived.Test.YtenhdpemfdecfaaNetE
namespace Go.Proofs.Ytenhdpemfdecfaa.nt
open Go.RowKit Go.Proofs.Ytenhdpemfdecfaa.kit Go.Proofs.Ytenhdpemfdecfaa.lawi Go.Proofs.Ytenhdpemfdecfaa.own Go.Proofs.Ytenhdpemfdecfaa.rain Go.Proofs.Ytenhdpemfdecfaa.yrl Go.Proofs.Ytenhdpemfdecfaa.net Go.Proofs.Ytenhdpemfdecfaa.cpy
set_option maxHeartbeats 4000000 in
theorem spec_turn_no (w : World) (P : Int) (v : Value) (n : Nat) (zs : List Int) (hr : Row 3 w v n (IV zs)) (hn : n ≤ 1048576) (no : ¬ NO P n zs) :
    Calls Try.prog 27 #[Nv P v] w (stNet.Got w P n zs id) := by
  obtain ⟨a, ca, rfl⟩ := hr.shape
  have hl : zs.length = n * 3 := by simpa using hr.1
  obtain ⟨w0, hw0⟩ : ∃ w0, (w.alloc (.cells #[.int .i64 P, .slice a n ca] TN)).alloc (.cells #[.int .i64 0, .slice none 0 0] TN) = w0 := ⟨_, rfl⟩
  have X0 : Hid (Blk w0 w.heap.size TN #[.int .i64 P, .slice a n ca]) := Lib.hid (hw0 ▸ (Blk.new _ _ _).alloc _)
  have X1 : Hid (Blk w0 (w.heap.size + 1) TN #[.int .i64 0, .slice none 0 0]) := Lib.hid (hw0 ▸ Blk.new1 w TN #[.int .i64 0, .slice none 0 0] _)
  have B0 : Hid (Below w.heap.size w w0) := Lib.hid (hw0 ▸ below_al (below_al (Below.refl _ _) _) _)
  have z0 : w0.heap.size = w.heap.size + 2 := by rw [← hw0]; simp
  have HR := Lib.hid hr
  have OK := Lib.hid no
  have HW := Lib.hid hw0
  have HZ := Lib.hid z0
  obtain ⟨p0, p1⟩ := stNet.blk_ X0.out
  clear hr no z0
  go_enter Try.func27, Try.ntmps27
  go_wp2_with fail
  refine (spec_copy _ _ _ n zs hn (HR.out.keep B0.out)).mono ?_; rintro e w1 ⟨u, lo, hi, rfl, ⟨ho, hlo⟩, hb⟩
  obtain ⟨au, cu, rfl⟩ := own_shape ho.own
  have hz0 := HZ.out
  have hz1 := hb.size
  have S0 : TS w P (.slice a n ca) (.slice au n cu) w1.heap.size lo hi n zs (w1.alloc (.cells #[.int .i64 P, .slice au n cu] TN)) := by
    exact ⟨ho.keep (below_al (Below.refl _ _) _), (X0.out.step hb).alloc _, (X1.out.step hb).alloc _, Blk.new _ _ _, below_al (below_step B0.out hb) _⟩
  have h1 : w.heap.size + 2 ≤ lo := by omega
  have h2 : hi ≤ w1.heap.size := ho.2.2
  have HS := Lib.hid S0
  obtain ⟨G3, hG3⟩ : ∃ G3, w1.heap.size = G3 := ⟨_, rfl⟩
  clear hw0 p0 p1 S0 ho hb hz0 hz1 X0 X1 B0 HW HZ hlo
  go_wp2
  rw [hG3] at HS h2
  go_loopg [4] 0 (fun g s4 wr => s4 = .int .i64 0 ∧ TS w P (.slice a n ca) (.slice au n cu) G3 lo hi n zs wr)
  case atStart => exact ⟨rfl, HS.out⟩
  case round =>
    clear HS
    obtain ⟨rfl, hS⟩ := hrel
    obtain ⟨p0, p1⟩ := stNet.blk_ hS.arg
    obtain ⟨q0, q1⟩ := stNet.blk_ hS.out
    by_cases hlt : 0 < n
    · go_wp2_with fail
      refine (spec_nok _ _ _ n zs hn (HR.out.keep hS.bel) false ⟨fun h => (by cases h), fun h => absurd h OK.out⟩).mono ?_; rintro e w2 ⟨rfl, hb2⟩
      replace hS := hS.step hb2
      clear p0 p1 q0 q1 hb2
      obtain ⟨q0, q1⟩ := stNet.blk_ hS.out
      obtain ⟨r0, r1⟩ := stNet.blk_ hS.res
      obtain ⟨f0, f1⟩ := stNet.fz_ hS.res
      have HS := Lib.hid hS
      clear hS
      go_wp2
      refine bodyPost_ret (v := Nv P (.slice au n cu)) (by simp [*, results, Try.results27, go_sem]) rfl ⟨_, lo, hi, rfl, ⟨HS.out.own.chg (lo' := w.heap.size + 1) (hi' := w.heap.size + 2) ?_ (.inr (by omega)), by omega⟩, ?_⟩
      · repeat (refine Chg.trans ?_ (Chg.set _ _ _ (by omega) (by omega)))
        exact Chg.refl
      · repeat (refine Below.setCell ?_ (by simp only []; omega) _)
        exact HS.out.bel
    · have hn0 : n = 0 := by omega
      subst hn0
      obtain ⟨r0, r1⟩ := stNet.blk_ hS.res
      obtain ⟨f0, f1⟩ := stNet.fz_ hS.res
      have HS := Lib.hid hS
      clear hS
      go_wp2
      refine bodyPost_ret (v := Nv P (.slice au 0 cu)) (by simp [*, results, Try.results27, go_sem]) rfl ⟨_, lo, hi, rfl, ⟨HS.out.own.chg (lo' := w.heap.size + 1) (hi' := w.heap.size + 2) ?_ (.inr (by omega)), by omega⟩, ?_⟩
      · repeat (refine Chg.trans ?_ (Chg.set _ _ _ (by omega) (by omega)))
        exact Chg.refl
      · repeat (refine Below.setCell ?_ (by simp only []; omega) _)
        exact HS.out.bel
set_option maxHeartbeats 4000000 in
theorem impl_turn_no (w : World) (P : Int) (v : Value) (n : Nat) (zs : List Int) (hr : Row 3 w v n (IV zs)) (hn : n ≤ 1048576) (no : ¬ NO P n zs) :
    Calls Try.prog 15 #[Nv P v] w (stNet.Got w P n zs id) := by
  obtain ⟨a, ca, rfl⟩ := hr.shape
  have hl : zs.length = n * 3 := by simpa using hr.1
  obtain ⟨w0, hw0⟩ : ∃ w0, (w.alloc (.cells #[.int .i64 P, .slice a n ca] TN)).alloc (.cells #[.int .i64 0, .slice none 0 0] TN) = w0 := ⟨_, rfl⟩
  have X0 : Hid (Blk w0 w.heap.size TN #[.int .i64 P, .slice a n ca]) := Lib.hid (hw0 ▸ (Blk.new _ _ _).alloc _)
  have X1 : Hid (Blk w0 (w.heap.size + 1) TN #[.int .i64 0, .slice none 0 0]) := Lib.hid (hw0 ▸ Blk.new1 w TN #[.int .i64 0, .slice none 0 0] _)
  have B0 : Hid (Below w.heap.size w w0) := Lib.hid (hw0 ▸ below_al (below_al (Below.refl _ _) _) _)
  have z0 : w0.heap.size = w.heap.size + 2 := by rw [← hw0]; simp
  have HR := Lib.hid hr
  have OK := Lib.hid no
  have HW := Lib.hid hw0
  have HZ := Lib.hid z0
  obtain ⟨p0, p1⟩ := stNet.blk_ X0.out
  clear hr no z0
  go_enter Try.func15, Try.ntmps15
  go_wp2_with fail
  refine (impl_copy _ _ _ n zs hn (HR.out.keep B0.out)).mono ?_; rintro e w1 ⟨u, lo, hi, rfl, ⟨ho, hlo⟩, hb⟩
  obtain ⟨au, cu, rfl⟩ := own_shape ho.own
  have hz0 := HZ.out
  have hz1 := hb.size
  have S0 : TS w P (.slice a n ca) (.slice au n cu) w1.heap.size lo hi n zs (w1.alloc (.cells #[.int .i64 P, .slice au n cu] TN)) := by
    exact ⟨ho.keep (below_al (Below.refl _ _) _), (X0.out.step hb).alloc _, (X1.out.step hb).alloc _, Blk.new _ _ _, below_al (below_step B0.out hb) _⟩
  have h1 : w.heap.size + 2 ≤ lo := by omega
  have h2 : hi ≤ w1.heap.size := ho.2.2
  have HS := Lib.hid S0
  obtain ⟨G3, hG3⟩ : ∃ G3, w1.heap.size = G3 := ⟨_, rfl⟩
  obtain ⟨y0, y1⟩ := stNet.blk_ (X0.out.step hb)
  obtain ⟨x0, x1⟩ := stNet.blk_ S0.arg
  clear hw0 p0 p1 S0 ho hb hz0 hz1 X0 X1 B0 HW HZ hlo
  go_wp2_with fail
  refine (impl_nok _ _ _ n zs hn (HR.out.keep HS.out.bel) false ⟨fun h => (by cases h), fun h => absurd h OK.out⟩).mono ?_; rintro e w2 ⟨rfl, hb2⟩
  clear x0 x1 y0 y1
  rw [hG3] at HS h2
  replace HS := Lib.hid (HS.out.step hb2)
  clear hb2
  have hS := HS.out
  obtain ⟨q0, q1⟩ := stNet.blk_ hS.out
  obtain ⟨r0, r1⟩ := stNet.blk_ hS.res
  obtain ⟨f0, f1⟩ := stNet.fz_ hS.res
  have HS := Lib.hid hS
  clear hS
  go_wp2
  refine bodyPost_ret (v := Nv P (.slice au n cu)) (by simp [*, results, Try.results15, go_sem]) rfl ⟨_, lo, hi, rfl, ⟨HS.out.own.chg (lo' := w.heap.size + 1) (hi' := w.heap.size + 2) ?_ (.inr (by omega)), by omega⟩, ?_⟩
  · repeat (refine Chg.trans ?_ (Chg.set _ _ _ (by omega) (by omega)))
    exact Chg.refl
  · repeat (refine Below.setCell ?_ (by simp only []; omega) _)
    exact HS.out.bel
set_option maxHeartbeats 4000000 in
theorem impl_turn_yes (w : World) (P : Int) (v : Value) (n : Nat) (zs : List Int) (hr : Row 3 w v n (IV zs)) (ok : NO P n zs) :
    Calls Try.prog 15 #[Nv P v] w (stNet.Got w P n (turned zs n) id) := by
  obtain ⟨a, ca, rfl⟩ := hr.shape
  have hl : zs.length = n * 3 := by simpa using hr.1
  have hn := ok.2.2.1
  obtain ⟨w0, hw0⟩ : ∃ w0, (w.alloc (.cells #[.int .i64 P, .slice a n ca] TN)).alloc (.cells #[.int .i64 0, .slice none 0 0] TN) = w0 := ⟨_, rfl⟩
  have X0 : Hid (Blk w0 w.heap.size TN #[.int .i64 P, .slice a n ca]) := Lib.hid (hw0 ▸ (Blk.new _ _ _).alloc _)
  have X1 : Hid (Blk w0 (w.heap.size + 1) TN #[.int .i64 0, .slice none 0 0]) := Lib.hid (hw0 ▸ Blk.new1 w TN #[.int .i64 0, .slice none 0 0] _)
  have B0 : Hid (Below w.heap.size w w0) := Lib.hid (hw0 ▸ below_al (below_al (Below.refl _ _) _) _)
  have z0 : w0.heap.size = w.heap.size + 2 := by rw [← hw0]; simp
  have HR := Lib.hid hr
  have OK := Lib.hid ok
  have HW := Lib.hid hw0
  have HZ := Lib.hid z0
  obtain ⟨p0, p1⟩ := stNet.blk_ X0.out
  clear hr ok z0
  go_enter Try.func15, Try.ntmps15
  go_wp2_with fail
  refine (impl_copy _ _ _ n zs (by omega) (HR.out.keep B0.out)).mono ?_; rintro e w1 ⟨u, lo, hi, rfl, ⟨ho, hlo⟩, hb⟩
  obtain ⟨au, cu, rfl⟩ := own_shape ho.own
  have hz0 := HZ.out
  have hz1 := hb.size
  have S0 : TS w P (.slice a n ca) (.slice au n cu) w1.heap.size lo hi n zs (w1.alloc (.cells #[.int .i64 P, .slice au n cu] TN)) := by
    exact ⟨ho.keep (below_al (Below.refl _ _) _), (X0.out.step hb).alloc _, (X1.out.step hb).alloc _, Blk.new _ _ _, below_al (below_step B0.out hb) _⟩
  have h1 : w.heap.size + 2 ≤ lo := by omega
  have h2 : hi ≤ w1.heap.size := ho.2.2
  have HS := Lib.hid S0
  obtain ⟨G3, hG3⟩ : ∃ G3, w1.heap.size = G3 := ⟨_, rfl⟩
  obtain ⟨y0, y1⟩ := stNet.blk_ (X0.out.step hb)
  obtain ⟨x0, x1⟩ := stNet.blk_ S0.arg
  clear hw0 p0 p1 S0 ho hb hz0 hz1 X0 X1 B0 HW HZ hlo
  go_wp2_with fail
  refine (impl_nok _ _ _ n zs (by omega) (HR.out.keep HS.out.bel) true ⟨fun _ => OK.out, fun _ => rfl⟩).mono ?_; rintro e w2 ⟨rfl, hb2⟩
  clear x0 x1 y0 y1
  rw [hG3] at HS h2
  replace HS := Lib.hid (HS.out.step hb2)
  clear hb2
  obtain ⟨q0, q1⟩ := stNet.blk_ HS.out.out
  go_wp2
  clear q0 q1
  go_loopg [15] n (fun g s4 wr => ∃ k : Nat, k + g = n ∧ s4 = .int .i64 k ∧ TS w P (.slice a n ca) (.slice au n cu) G3 lo hi n (half zs n k) wr)
  case atStart => exact ⟨0, by omega, rfl, by rw [half_zero hl]; exact HS.out⟩
  case round =>
    clear HS
    obtain ⟨k, hkg, rfl, hS⟩ := hrel
    by_cases hlt : k < n
    · obtain ⟨gk, rfl⟩ : ∃ g', gk = g' + 1 := ⟨gk - 1, by omega⟩
      obtain ⟨g, cg, eg, hg1, hg2⟩ := own_some hS.own.own (by omega)
      cases eg
      have hH := half_succ zs hlt
      have hlen := half_len zs n k
      have c0 := own_cell hS.own.own (g := g) rfl (k * 3) _ (getI (by omega))
      have c1 := own_cell hS.own.own (g := g) rfl (k * 3 + 1) _ (getI (by omega))
      have c2 := own_cell hS.own.own (g := g) rfl (k * 3 + 2) _ (getI (by omega))
      have hA := half_at zs hlt
      have hGH := set_same hlen hlt hA.2.2 _ hH
      unfold pF pT pW at hA
      rw [hA.1] at c0
      rw [hA.2.1] at c1
      rw [hA.2.2] at c2
      change wr.cell? _ = some (.int .i64 (pF zs k)) at c0
      change wr.cell? _ = some (.int .i64 (pT zs k)) at c1
      change wr.cell? _ = some (.int .i64 (pW zs k)) at c2
      clear hA hH
      generalize pF zs k = F at c0 hGH
      generalize pT zs k = T at c1 hGH
      generalize pW zs k = W at c2 hGH
      obtain ⟨w4, hw4⟩ : ∃ w4, wr.alloc (.cells #[.int .i64 F, .int .i64 T, .int .i64 W] TP) = w4 := ⟨_, rfl⟩
      have hS2 : TS w P (.slice a n ca) (.slice (some ⟨g, 0, none⟩) n cu) G3 lo hi n (half zs n k) w4 := hw4 ▸ hS.step (below_al (Below.refl _ _) (.cells #[.int .i64 F, .int .i64 T, .int .i64 W] TP))
      obtain ⟨d0, d1, d2⟩ := stPipe3 (hw4 ▸ Blk.new wr TP #[.int .i64 F, .int .i64 T, .int .i64 W] : Blk w4 wr.heap.size TP #[.int .i64 F, .int .i64 T, .int .i64 W])
      obtain ⟨q0, q1⟩ := stNet.blk_ hS2.out
      have r0 := own_cell hS2.own.own (g := g) rfl (k * 3) _ (getI (by omega))
      have r1 := own_cell hS2.own.own (g := g) rfl (k * 3 + 1) _ (getI (by omega))
      have r2 := own_cell hS2.own.own (g := g) rfl (k * 3 + 2) _ (getI (by omega))
      have f0 := own_free hS2.own.own (g := g) rfl (k * 3)
      have f1 := own_free hS2.own.own (g := g) rfl (k * 3 + 1)
      have f2 := own_free hS2.own.own (g := g) rfl (k * 3 + 2)
      have HS5 := Lib.hid (((hS2.set_ (g := g) rfl h1 h2 (k * 3) T _ rfl).set_ (g := g) rfl h1 h2 (k * 3 + 1) F _ rfl).set_ (g := g) rfl h1 h2 (k * 3 + 2) W _ hGH)
      have hlt2 : k < n := hlt
      clear hGH hS hS2
      go_wp2
      clear r0 r1 r2 f0 f1 f2 q0 q1 c0 c1 c2 d0 d1 d2
      go_roundg gk
      case measure => omega
      case rel => exact ⟨k + 1, by omega, by go_num, HS5.out⟩
    · obtain rfl : k = n := by omega
      rw [half_full] at hS
      obtain ⟨q0, q1⟩ := stNet.blk_ hS.out
      obtain ⟨r0, r1⟩ := stNet.blk_ hS.res
      obtain ⟨f0, f1⟩ := stNet.fz_ hS.res
      have HS := Lib.hid hS
      clear hS
      go_wp2
      refine bodyPost_ret (v := Nv P (.slice au k cu)) (by simp [*, results, Try.results15, go_sem]) rfl ⟨_, lo, hi, rfl, ⟨HS.out.own.chg (lo' := w.heap.size + 1) (hi' := w.heap.size + 2) ?_ (.inr (by omega)), by omega⟩, ?_⟩
      · repeat (refine Chg.trans ?_ (Chg.set _ _ _ (by omega) (by omega)))
        exact Chg.refl
      · repeat (refine Below.setCell ?_ (by simp only []; omega) _)
        exact HS.out.bel
end Go.Proofs.Ytenhdpemfdecfaa.nt
