/- Nets of pipes: WithoutPipe of both sides. -/
import Derived.Test.YtilabfmnaegidaaNetE
import Derived.Test.YtilabfmnaegidaaNetF
namespace Go.Proofs.Ytilabfmnaegidaa.nt
open Go.RowKit Go.Proofs.Ytilabfmnaegidaa.kit Go.Proofs.Ytilabfmnaegidaa.lawi Go.Proofs.Ytilabfmnaegidaa.own Go.Proofs.Ytilabfmnaegidaa.rain Go.Proofs.Ytilabfmnaegidaa.yrl Go.Proofs.Ytilabfmnaegidaa.net Go.Proofs.Ytilabfmnaegidaa.cpy Go.Proofs.Ytilabfmnaegidaa.del
theorem wrap_len {n : Nat} (h : n ≤ 1048576) : IntKind.i64.wrap ((n : Int) - 1) = (n : Int) - 1 := IntWalk.i64_in _ (by omega)
set_option maxHeartbeats 4000000 in
theorem impl_without_yes (w : World) (P : Int) (v : Value) (n k : Nat) (zs : List Int) (hr : Row 3 w v n (IV zs)) (ok : NO P n zs) (hk : k < n) :
    Calls Try.prog 53 #[Nv P v, .int .i64 k] w (stNet.Got w P (n - 1) (less zs k) fun t => .tuple #[t, .bool true]) := by
  obtain ⟨a, ca, rfl⟩ := hr.shape
  have hn := ok.2.2.1
  obtain ⟨w0, hw0⟩ : ∃ w0, (w.alloc (.cells #[.int .i64 P, .slice a n ca] TN)).alloc (.cells #[.int .i64 0, .slice none 0 0] TN) = w0 := ⟨_, rfl⟩
  have X0 : Hid (Blk w0 w.heap.size TN #[.int .i64 P, .slice a n ca]) := Lib.hid (hw0 ▸ (Blk.new _ _ _).alloc _)
  have X1 : Hid (Blk w0 (w.heap.size + 1) TN #[.int .i64 0, .slice none 0 0]) := Lib.hid (hw0 ▸ Blk.new1 w TN #[.int .i64 0, .slice none 0 0] _)
  have B0 : Hid (Below w.heap.size w w0) := Lib.hid (hw0 ▸ below_al (below_al (Below.refl _ _) _) _)
  have z0 : w0.heap.size = w.heap.size + 2 := by rw [← hw0]; simp
  have HR := Lib.hid hr
  have OK := Lib.hid ok
  have HZ := Lib.hid z0
  obtain ⟨p0, p1⟩ := stNet.blk_ X0.out
  have hwl := wrap_len (n := n) (by omega)
  clear hr ok z0
  go_enter Try.func53, Try.ntmps53
  go_wp2_with fail
  refine (impl_copy _ _ _ n zs (by omega) (HR.out.keep B0.out)).mono ?_; rintro e w1 ⟨u, lo, hi, rfl, ⟨ho, hlo⟩, hb⟩
  obtain ⟨au, cu, rfl⟩ := own_shape ho.own
  have hz0 := HZ.out
  have hz1 := hb.size
  have h3 : w.heap.size + 2 ≤ w1.heap.size := by omega
  have S0 : TS w P (.slice a n ca) (.slice au n cu) w1.heap.size lo hi n zs (w1.alloc (.cells #[.int .i64 P, .slice au n cu] TN)) := by
    exact ⟨ho.keep (below_al (Below.refl _ _) _), (X0.out.step hb).alloc _, (X1.out.step hb).alloc _, Blk.new _ _ _, below_al (below_step B0.out hb) _⟩
  have h1 : w.heap.size + 2 ≤ lo := by omega
  have h2 : hi ≤ w1.heap.size := ho.2.2
  have HS := Lib.hid S0
  obtain ⟨G3, hG3⟩ : ∃ G3, w1.heap.size = G3 := ⟨_, rfl⟩
  obtain ⟨y0, y1⟩ := stNet.blk_ (X0.out.step hb)
  obtain ⟨x0, x1⟩ := stNet.blk_ S0.arg
  clear hw0 p0 p1 S0 ho hb hz0 hz1 X0 X1 B0 HZ hlo
  go_wp2_with fail
  refine (impl_nok _ _ _ n zs (by omega) (HR.out.keep HS.out.bel) true ⟨fun _ => OK.out, fun _ => rfl⟩).mono ?_; rintro e w2 ⟨rfl, hb2⟩
  clear x0 x1 y0 y1
  rw [hG3] at HS h2 h3
  replace HS := Lib.hid (HS.out.step hb2)
  obtain ⟨x0, x1⟩ := stNet.blk_ HS.out.arg
  clear hb2
  go_wp2_with fail
  refine (inR_yes _ _ _ _ (by omega : (0 : Int) ≤ k) (by omega : (k : Int) ≤ (n : Int) - 1)).mono ?_; rintro e w2 ⟨rfl, rfl⟩
  obtain ⟨q0, q1⟩ := stNet.blk_ HS.out.out
  have hjw : IntKind.i64.wrap ((k : Int) + 1) = (k : Int) + 1 := IntWalk.i64_in _ (by omega)
  clear x0 x1
  go_wp2_with fail
  refine (delete_pipe _ lo hi _ n k zs hk (by omega) _ rfl HS.out.own).mono ?_; rintro e w3 ⟨u3, rfl, ho3, hc3⟩
  obtain ⟨a3, c3, rfl⟩ := own_shape ho3.own
  have S3 := HS.out
  have hob : OwnR (w3.setCell ⟨G3, 1, none⟩ (.slice a3 (n - 1) c3)) lo hi TP 3 (.slice a3 (n - 1) c3) (n - 1) (IV (less zs k)) := ho3.chg (Chg.set (lo := G3) (hi := G3 + 1) G3 1 _ (Nat.le_refl _) (by omega)) (.inl h2)
  have hou := S3.out.chg hc3 (.inr h2)
  have hout : Blk (w3.setCell ⟨G3, 1, none⟩ (.slice a3 (n - 1) c3)) G3 TN #[.int .i64 P, .slice a3 (n - 1) c3] := by simpa using hou.set_ 1 (.slice a3 (n - 1) c3)
  have hres : Blk (w3.setCell ⟨G3, 1, none⟩ (.slice a3 (n - 1) c3)) (w.heap.size + 1) TN #[.int .i64 0, .slice none 0 0] := (S3.res.chg hc3 (.inl (by omega))).far (by show w.heap.size + 1 ≠ G3; omega) _
  have hbel : Below w.heap.size w w3 := S3.bel.trans (hc3.below S3.bel.size (by omega))
  clear q0 q1
  obtain ⟨q0, q1⟩ := stNet.blk_ hou
  obtain ⟨f0, f1⟩ := stNet.fz_ hou
  obtain ⟨r0, r1⟩ := stNet.blk_ hres
  obtain ⟨e0, e1⟩ := stNet.fz_ hres
  obtain ⟨o0, o1⟩ := stNet.blk_ hout
  have HO := Lib.hid hob
  have HL := Lib.hid hbel
  clear S3 hob hou hout hres hbel ho3 hc3 HS
  go_wp2
  refine bodyPost_ret (v := .tuple #[Nv P (.slice a3 (n - 1) c3), .bool true]) (by simp [*, results, Try.results53, go_sem]) rfl ⟨_, lo, hi, rfl, ⟨HO.out.chg (lo' := w.heap.size + 1) (hi' := w.heap.size + 2) ?_ (.inr (by omega)), by omega⟩, ?_⟩
  · repeat (refine Chg.trans ?_ (Chg.set _ _ _ (by omega) (by omega)))
    exact Chg.refl
  · repeat (refine Below.setCell ?_ (by simp only []; omega) _)
    exact HL.out
set_option maxHeartbeats 4000000 in
theorem impl_without_no (w : World) (P : Int) (v : Value) (n : Nat) (zs : List Int) (x : Int) (hn : n ≤ 1048576) (hr : Row 3 w v n (IV zs)) (no : ¬ (NO P n zs ∧ 0 ≤ x ∧ x < n)) :
    Calls Try.prog 53 #[Nv P v, .int .i64 x] w (stNet.Got w P n zs fun t => .tuple #[t, .bool false]) := by
  obtain ⟨a, ca, rfl⟩ := hr.shape
  obtain ⟨w0, hw0⟩ : ∃ w0, (w.alloc (.cells #[.int .i64 P, .slice a n ca] TN)).alloc (.cells #[.int .i64 0, .slice none 0 0] TN) = w0 := ⟨_, rfl⟩
  have X0 : Hid (Blk w0 w.heap.size TN #[.int .i64 P, .slice a n ca]) := Lib.hid (hw0 ▸ (Blk.new _ _ _).alloc _)
  have X1 : Hid (Blk w0 (w.heap.size + 1) TN #[.int .i64 0, .slice none 0 0]) := Lib.hid (hw0 ▸ Blk.new1 w TN #[.int .i64 0, .slice none 0 0] _)
  have B0 : Hid (Below w.heap.size w w0) := Lib.hid (hw0 ▸ below_al (below_al (Below.refl _ _) _) _)
  have z0 : w0.heap.size = w.heap.size + 2 := by rw [← hw0]; simp
  have HR := Lib.hid hr
  have NN := Lib.hid no
  have HZ := Lib.hid z0
  obtain ⟨p0, p1⟩ := stNet.blk_ X0.out
  have hwl := wrap_len (n := n) (by omega)
  clear hr no z0
  go_enter Try.func53, Try.ntmps53
  go_wp2_with fail
  refine (impl_copy _ _ _ n zs hn (HR.out.keep B0.out)).mono ?_; rintro e w1 ⟨u, lo, hi, rfl, ⟨ho, hlo⟩, hb⟩
  obtain ⟨au, cu, rfl⟩ := own_shape ho.own
  have hz0 := HZ.out
  have hz1 := hb.size
  have h3 : w.heap.size + 2 ≤ w1.heap.size := by omega
  have S0 : TS w P (.slice a n ca) (.slice au n cu) w1.heap.size lo hi n zs (w1.alloc (.cells #[.int .i64 P, .slice au n cu] TN)) := by
    exact ⟨ho.keep (below_al (Below.refl _ _) _), (X0.out.step hb).alloc _, (X1.out.step hb).alloc _, Blk.new _ _ _, below_al (below_step B0.out hb) _⟩
  have h1 : w.heap.size + 2 ≤ lo := by omega
  have h2 : hi ≤ w1.heap.size := ho.2.2
  have HS := Lib.hid S0
  obtain ⟨G3, hG3⟩ : ∃ G3, w1.heap.size = G3 := ⟨_, rfl⟩
  obtain ⟨y0, y1⟩ := stNet.blk_ (X0.out.step hb)
  obtain ⟨x0, x1⟩ := stNet.blk_ S0.arg
  clear hw0 p0 p1 S0 ho hb hz0 hz1 X0 X1 B0 HZ hlo
  by_cases ok : NO P n zs
  · have OK := Lib.hid ok
    have hn20 := ok.2.2.1
    have hx : ¬ (0 ≤ x ∧ x ≤ (n : Int) - 1) := fun h => NN.out ⟨ok, h.1, by omega⟩
    clear ok
    go_wp2_with fail
    refine (impl_nok _ _ _ n zs (by omega) (HR.out.keep HS.out.bel) true ⟨fun _ => OK.out, fun _ => rfl⟩).mono ?_; rintro e w2 ⟨rfl, hb2⟩
    clear x0 x1 y0 y1
    rw [hG3] at HS h2 h3
    replace HS := Lib.hid (HS.out.step hb2)
    obtain ⟨x0, x1⟩ := stNet.blk_ HS.out.arg
    clear hb2
    go_wp2_with fail
    refine (inR_no _ _ _ _ hx).mono ?_; rintro e w2 ⟨rfl, rfl⟩
    clear x0 x1 hx
    have S3 := HS.out
    obtain ⟨q0, q1⟩ := stNet.blk_ S3.out
    obtain ⟨r0, r1⟩ := stNet.blk_ S3.res
    obtain ⟨e0, e1⟩ := stNet.fz_ S3.res
    clear S3
    go_wp2
    refine bodyPost_ret (v := .tuple #[Nv P (.slice au n cu), .bool false]) (by simp [*, results, Try.results53, go_sem]) rfl ⟨_, lo, hi, rfl, ⟨HS.out.own.chg (lo' := w.heap.size + 1) (hi' := w.heap.size + 2) ?_ (.inr (by omega)), by omega⟩, ?_⟩
    · repeat (refine Chg.trans ?_ (Chg.set _ _ _ (by omega) (by omega)))
      exact Chg.refl
    · repeat (refine Below.setCell ?_ (by simp only []; omega) _)
      exact HS.out.bel
  · have OK := Lib.hid ok
    clear ok
    go_wp2_with fail
    refine (impl_nok _ _ _ n zs hn (HR.out.keep HS.out.bel) false ⟨fun h => (by cases h), fun h => absurd h OK.out⟩).mono ?_; rintro e w2 ⟨rfl, hb2⟩
    clear x0 x1 y0 y1
    rw [hG3] at HS h2 h3
    replace HS := Lib.hid (HS.out.step hb2)
    clear hb2
    have S3 := HS.out
    obtain ⟨q0, q1⟩ := stNet.blk_ S3.out
    obtain ⟨r0, r1⟩ := stNet.blk_ S3.res
    obtain ⟨e0, e1⟩ := stNet.fz_ S3.res
    clear S3
    go_wp2
    refine bodyPost_ret (v := .tuple #[Nv P (.slice au n cu), .bool false]) (by simp [*, results, Try.results53, go_sem]) rfl ⟨_, lo, hi, rfl, ⟨HS.out.own.chg (lo' := w.heap.size + 1) (hi' := w.heap.size + 2) ?_ (.inr (by omega)), by omega⟩, ?_⟩
    · repeat (refine Chg.trans ?_ (Chg.set _ _ _ (by omega) (by omega)))
      exact Chg.refl
    · repeat (refine Below.setCell ?_ (by simp only []; omega) _)
      exact HS.out.bel
set_option maxHeartbeats 4000000 in
theorem spec_without_no (w : World) (P : Int) (v : Value) (n : Nat) (zs : List Int) (x : Int) (hn : n ≤ 1048576) (hr : Row 3 w v n (IV zs)) (no : ¬ (NO P n zs ∧ 0 ≤ x ∧ x < n)) :
    Calls Try.prog 21 #[Nv P v, .int .i64 x] w (stNet.Got w P n zs fun t => .tuple #[t, .bool false]) := by
  obtain ⟨a, ca, rfl⟩ := hr.shape
  obtain ⟨w0, hw0⟩ : ∃ w0, (w.alloc (.cells #[.int .i64 P, .slice a n ca] TN)).alloc (.cells #[.int .i64 0, .slice none 0 0] TN) = w0 := ⟨_, rfl⟩
  have X0 : Hid (Blk w0 w.heap.size TN #[.int .i64 P, .slice a n ca]) := Lib.hid (hw0 ▸ (Blk.new _ _ _).alloc _)
  have X1 : Hid (Blk w0 (w.heap.size + 1) TN #[.int .i64 0, .slice none 0 0]) := Lib.hid (hw0 ▸ Blk.new1 w TN #[.int .i64 0, .slice none 0 0] _)
  have B0 : Hid (Below w.heap.size w w0) := Lib.hid (hw0 ▸ below_al (below_al (Below.refl _ _) _) _)
  have z0 : w0.heap.size = w.heap.size + 2 := by rw [← hw0]; simp
  have HR := Lib.hid hr
  have NN := Lib.hid no
  have HZ := Lib.hid z0
  obtain ⟨p0, p1⟩ := stNet.blk_ X0.out
  have hwl := wrap_len (n := n) (by omega)
  clear hr no z0
  go_enter Try.func21, Try.ntmps21
  by_cases ok : NO P n zs
  · have OK := Lib.hid ok
    have hn20 := ok.2.2.1
    have hx : ¬ (0 ≤ x ∧ x ≤ (n : Int) - 1) := fun h => NN.out ⟨ok, h.1, by omega⟩
    clear ok
    go_wp2_with fail
    refine (spec_nok _ _ _ n zs (by omega) (HR.out.keep B0.out) true ⟨fun _ => OK.out, fun _ => rfl⟩).mono ?_; rintro e w1 ⟨rfl, hb1⟩
    have B1 := Lib.hid (below_step B0.out hb1)
    clear p0 p1
    obtain ⟨x0, x1⟩ := stNet.blk_ (X0.out.step hb1)
    go_wp2_with fail
    refine (in_no _ _ _ _ hx).mono ?_; rintro e w2 ⟨rfl, rfl⟩
    clear hx
    go_wp2_with fail
    refine (spec_copy _ _ _ n zs hn (HR.out.keep B1.out)).mono ?_; rintro e w2 ⟨u, lo, hi, rfl, ⟨ho, hlo⟩, hb⟩
    obtain ⟨au, cu, rfl⟩ := own_shape ho.own
    have hz1 := hb1.size
    have hz0 := HZ.out
    obtain ⟨r0, r1⟩ := stNet.blk_ ((X1.out.step hb1).step hb)
    obtain ⟨e0, e1⟩ := stNet.fz_ ((X1.out.step hb1).step hb)
    have HO := Lib.hid ho
    have HL := Lib.hid (below_step B1.out hb)
    have hl2 : w.heap.size + 2 ≤ lo := by omega
    clear ho hb hb1 hz1 hz0 HZ hlo x0 x1 hw0
    go_wp2
    refine bodyPost_ret (v := .tuple #[Nv P (.slice au n cu), .bool false]) (by simp [*, results, Try.results21, go_sem]) rfl ⟨_, lo, hi, rfl, ⟨HO.out.chg (lo' := w.heap.size + 1) (hi' := w.heap.size + 2) ?_ (.inr (by omega)), by omega⟩, ?_⟩
    · repeat (refine Chg.trans ?_ (Chg.set _ _ _ (by omega) (by omega)))
      exact Chg.refl
    · repeat (refine Below.setCell ?_ (by simp only []; omega) _)
      exact HL.out
  · have OK := Lib.hid ok
    clear ok
    go_wp2_with fail
    refine (spec_nok _ _ _ n zs hn (HR.out.keep B0.out) false ⟨fun h => (by cases h), fun h => absurd h OK.out⟩).mono ?_; rintro e w1 ⟨rfl, hb1⟩
    have B1 := Lib.hid (below_step B0.out hb1)
    clear p0 p1
    obtain ⟨x0, x1⟩ := stNet.blk_ (X0.out.step hb1)
    go_wp2_with fail
    refine (spec_copy _ _ _ n zs hn (HR.out.keep B1.out)).mono ?_; rintro e w2 ⟨u, lo, hi, rfl, ⟨ho, hlo⟩, hb⟩
    obtain ⟨au, cu, rfl⟩ := own_shape ho.own
    have hz1 := hb1.size
    have hz0 := HZ.out
    obtain ⟨r0, r1⟩ := stNet.blk_ ((X1.out.step hb1).step hb)
    obtain ⟨e0, e1⟩ := stNet.fz_ ((X1.out.step hb1).step hb)
    have HO := Lib.hid ho
    have HL := Lib.hid (below_step B1.out hb)
    have hl2 : w.heap.size + 2 ≤ lo := by omega
    clear ho hb hb1 hz1 hz0 HZ hlo x0 x1 hw0
    go_wp2
    refine bodyPost_ret (v := .tuple #[Nv P (.slice au n cu), .bool false]) (by simp [*, results, Try.results21, go_sem]) rfl ⟨_, lo, hi, rfl, ⟨HO.out.chg (lo' := w.heap.size + 1) (hi' := w.heap.size + 2) ?_ (.inr (by omega)), by omega⟩, ?_⟩
    · repeat (refine Chg.trans ?_ (Chg.set _ _ _ (by omega) (by omega)))
      exact Chg.refl
    · repeat (refine Below.setCell ?_ (by simp only []; omega) _)
      exact HL.out
end Go.Proofs.Ytilabfmnaegidaa.nt
