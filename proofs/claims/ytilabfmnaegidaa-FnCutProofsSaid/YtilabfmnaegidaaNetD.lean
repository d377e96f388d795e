/- Nets of pipes: copied, by both sides. -/
import Derived.Test.YtilabfmnaegidaaNetA
import Derived.Test.YtilabfmnaegidaaCpy
import Derived.Deep.DeepCutAuto
namespace Go.Proofs.Ytilabfmnaegidaa.nt
open Go.RowKit Go.Proofs.Ytilabfmnaegidaa.kit Go.Proofs.Ytilabfmnaegidaa.lawi Go.Proofs.Ytilabfmnaegidaa.own Go.Proofs.Ytilabfmnaegidaa.rain Go.Proofs.Ytilabfmnaegidaa.yrl Go.Proofs.Ytilabfmnaegidaa.net Go.Proofs.Ytilabfmnaegidaa.cpy
theorem clone_pipe (w : World) (v : Value) (n : Nat) (zs : List Int) (hn : n ≤ 1048576) (h : Row 3 w v n (zs.map (Value.int .i64))) :
    Calls Try.prog 73 #[v] w (GotR 63 3 w n (zs.map (Value.int .i64))) := by
  obtain ⟨i0, hi, hz0, hz1, hz2⟩ := info_parts stPipe.info
  obtain ⟨a, ca, rfl⟩ := h.shape
  cases a with
  | none =>
    have hnil : zs.map (Value.int .i64) = [] := by
      obtain ⟨hl, a, ca, he, ha⟩ := h
      cases he
      rcases ha with h | ⟨b, off, h, _⟩
      · exact List.eq_nil_of_length_eq_zero (by simpa [h] using hl)
      · cases h
    have h0 : n = 0 := by have := h.1; rw [hnil] at this; simp at this; omega
    subst h0
    rw [hnil]
    clear h hnil
    have he : ∀ W : World, (binOp .eql 24 (.slice none 0 ca) (.slice none 0 0)).run Try.prog W = .ok (.bool true) W := fun W => Lib.run_eql_slice_nil (P := Try.prog) W 24 63 none 0 ca 0 0 Try.underlying24
    go_enter Try.func73, Try.ntmps73
    go_wp2
    go_ret
    exact ⟨_, rfl, World.ownsRow_nil _ _ _ _, Below.refl _ _⟩
  | some ad =>
    have HR := Lib.hid (h.keep (below_al (Below.refl _ _) (.cells #[] 63)))
    clear h
    have he : ∀ W : World, (binOp .eql 24 (.slice (some ad) n ca) (.slice none 0 0)).run Try.prog W = .ok (.bool false) W := fun W => Lib.run_eql_slice_nil (P := Try.prog) W 24 63 (some ad) n ca 0 0 Try.underlying24
    go_enter Try.func73, Try.ntmps73
    go_wp2_with (at_builtin; refine wp_copy rfl _ _ 24 rfl 63 i0 (stPipe.R 0 0 0) 3 24 Try.underlying24 hi hz0 hz1 hz2 rfl (by decide) w.heap.size (Blk.new _ _ _) _ n zs HR.out hn (by decide) rfl rfl ?_; intro v' w1 hown1 hg1 _)
    go_ret
    exact ⟨_, rfl, hown1, below_grown (grown_trans (World.grownBy_alloc w _ _) hg1) (Nat.le_refl _) (fun k hk => by cases hk; exact Nat.le_refl _)⟩
set_option maxHeartbeats 4000000 in
theorem spec_copy (w : World) (P : Int) (v : Value) (n : Nat) (zs : List Int) (hn : n ≤ 1048576) (hr : Row 3 w v n (IV zs)) :
    Calls Try.prog 56 #[Nv P v] w (stNet.Got w P n zs id) := by
  obtain ⟨iI, hiI, hz0I, hz1I, hz2I⟩ := info_parts stPipe.info
  obtain ⟨a, ca, rfl⟩ := hr.shape
  have HR := Lib.hid hr
  clear hr
  go_enter Try.func56, Try.ntmps56
  go_upto_region 1 with fail
  obtain ⟨w0, hw0⟩ : ∃ w0, (w.alloc (.cells #[.int .i64 P, .slice a n ca] TN)).alloc (.cells #[.int .i64 0, .slice none 0 0] TN) = w0 := ⟨_, rfl⟩
  have X0 : Blk w0 w.heap.size TN #[.int .i64 P, .slice a n ca] := hw0 ▸ (Blk.new _ _ _).alloc _
  have X1 : Blk w0 (w.heap.size + 1) TN #[.int .i64 0, .slice none 0 0] := hw0 ▸ Blk.new1 w TN #[.int .i64 0, .slice none 0 0] _
  have B0 : Below w.heap.size w w0 := hw0 ▸ below_al (below_al (Below.refl _ _) _) _
  have z0 : w0.heap.size = w.heap.size + 2 := by rw [← hw0]; simp
  rw [hw0]
  clear hw0
  obtain ⟨p0, p1⟩ := stNet.blk_ X0
  have HX := Lib.hid X1
  have HZ := Lib.hid z0
  have HL := Lib.hid B0
  replace HR := Lib.hid (HR.out.keep B0)
  clear X0 X1 B0 z0
  go_region_held3 (fun W => W.cell? ⟨w.heap.size, 0, none⟩ = some (.int .i64 P) ∧ W.cell? ⟨w.heap.size, 1, none⟩ = some (.slice a n ca))
    (first | assumption | exact ⟨p0, p1⟩ | (refine keep2 ⟨p0, p1⟩ ?_; (repeat (first | assumption | (with_reducible exact Below.refl _ _) | (with_reducible refine below_dr ?_) | (with_reducible refine below_al ?_ _) | (with_reducible refine below_step ?_ (by assumption)) | fail)); done) | go_keep | fail)
    (first
      | (refine step_copy rfl _ _ 24 rfl 63 iI (stPipe.R 0 0 0) 3 24 Try.underlying24 hiI hz0I hz1I hz2I rfl (by decide) _ rfl (by repeat (first | (with_reducible exact Blk.new _ _ _) | (with_reducible exact Blk.new1 _ _ _ _) | (with_reducible refine Blk.drew ?_) | (with_reducible refine Blk.alloc ?_ _) | (refine Blk.grown ?_ (by assumption) (by simp <;> omega)) | fail)) _ n zs (HR.out.keep (by repeat (first | assumption | (with_reducible exact Below.refl _ _) | (with_reducible refine below_dr ?_) | (with_reducible refine below_al ?_ _) | (with_reducible refine below_step ?_ (by assumption)) | fail))) hn (by decide) rfl ?_; intro vI wI oI gI hI
         obtain ⟨aI, cI, rfl⟩ := own_shape oI
         obtain ⟨qI, OI, eI⟩ := own_tight oI hI
         have hzI := gI.size
         (try simp only [World.size_drew, World.size_alloc] at eI hzI)
         have BI : Below w0.heap.size w0 wI := below_gr (by repeat (first | assumption | (with_reducible exact Below.refl _ _) | (with_reducible refine below_dr ?_) | (with_reducible refine below_al ?_ _) | (with_reducible refine below_step ?_ (by assumption)) | fail)) gI (by intro k hk; cases hk; (try simp only [World.size_drew, World.size_alloc]); omega)
         obtain ⟨q0, q1⟩ := stNet.blk_ (HX.out.step BI)
         obtain ⟨f0, f1⟩ := stNet.fz_ (HX.out.step BI)
         have OI := Lib.hid OI
         clear oI))
  all_goals
    go_wp2
    have hz := HZ.out
    have hl := below_step HL.out BI
    refine bodyPost_ret (v := Nv P (.slice aI n cI)) (by clear hz; simp [*, results, Try.results56, go_sem]) rfl ⟨_, qI, qI + 1, rfl, ⟨OI.out.chg (lo' := w.heap.size + 1) (hi' := w.heap.size + 2) ?_ (.inr (by omega)), by omega⟩, ?_⟩
    · repeat (refine Chg.trans ?_ (Chg.set _ _ _ (by omega) (by omega)))
      exact Chg.refl
    · repeat (refine Below.setCell ?_ (by simp only []; omega) _)
      exact hl
set_option maxHeartbeats 4000000 in
theorem impl_copy (w : World) (P : Int) (v : Value) (n : Nat) (zs : List Int) (hn : n ≤ 1048576) (hr : Row 3 w v n (IV zs)) :
    Calls Try.prog 68 #[Nv P v] w (stNet.Got w P n zs id) := by
  obtain ⟨a, ca, rfl⟩ := hr.shape
  have HR := Lib.hid hr
  clear hr
  go_enter Try.func68, Try.ntmps68
  go_upto_region 1 with fail
  obtain ⟨w0, hw0⟩ : ∃ w0, (w.alloc (.cells #[.int .i64 P, .slice a n ca] TN)).alloc (.cells #[.int .i64 0, .slice none 0 0] TN) = w0 := ⟨_, rfl⟩
  have X0 : Blk w0 w.heap.size TN #[.int .i64 P, .slice a n ca] := hw0 ▸ (Blk.new _ _ _).alloc _
  have X1 : Blk w0 (w.heap.size + 1) TN #[.int .i64 0, .slice none 0 0] := hw0 ▸ Blk.new1 w TN #[.int .i64 0, .slice none 0 0] _
  have B0 : Below w.heap.size w w0 := hw0 ▸ below_al (below_al (Below.refl _ _) _) _
  have z0 : w0.heap.size = w.heap.size + 2 := by rw [← hw0]; simp
  rw [hw0]
  clear hw0
  obtain ⟨p0, p1⟩ := stNet.blk_ X0
  have HX := Lib.hid X1
  have HZ := Lib.hid z0
  have HL := Lib.hid B0
  replace HR := Lib.hid (HR.out.keep B0)
  clear X0 X1 B0 z0
  go_region_held3 (fun W => W.cell? ⟨w.heap.size, 0, none⟩ = some (.int .i64 P) ∧ W.cell? ⟨w.heap.size, 1, none⟩ = some (.slice a n ca))
    (first | assumption | exact ⟨p0, p1⟩ | exact keep2 (by assumption) (by assumption) | go_keep | fail)
    (first
      | (go_at_call 73; refine (clone_pipe _ _ n zs hn (HR.out.keep (by repeat (first | assumption | (with_reducible exact Below.refl _ _) | (with_reducible refine below_dr ?_) | (with_reducible refine below_al ?_ _) | (with_reducible refine below_step ?_ (by assumption)) | fail)))).mono ?_; rintro e wI ⟨vI, rfl, oI, bI⟩
         obtain ⟨aI, cI, rfl⟩ := own_shape oI
         have CI : Below w0.heap.size w0 wI := (by repeat (first | assumption | (with_reducible exact Below.refl _ _) | (with_reducible refine below_dr ?_) | (with_reducible refine below_al ?_ _) | (with_reducible refine below_step ?_ (by assumption)) | fail))
         obtain ⟨q0, q1⟩ := stNet.blk_ (HX.out.step CI)
         obtain ⟨f0, f1⟩ := stNet.fz_ (HX.out.step CI)
         have OI := Lib.hid (OwnR.of_own oI)
         have hzI := bI.size
         clear oI)
      | fail)
  all_goals
    go_wp2
    have hOI := OI.out
    have hz := HZ.out
    have hl := below_step HL.out CI
    refine bodyPost_ret (v := Nv P (.slice aI n cI)) (by clear hz; simp [*, results, Try.results68, go_sem]) rfl ?_
    simp only [World.size_drew] at hOI hzI
    refine ⟨_, _, _, rfl, ⟨hOI.chg (lo' := w.heap.size + 1) (hi' := w.heap.size + 2) ?_ (.inr (by omega)), by omega⟩, ?_⟩
    · repeat (refine Chg.trans ?_ (Chg.set _ _ _ (by omega) (by omega)))
      exact Chg.refl
    · repeat (refine Below.setCell ?_ (by simp only []; omega) _)
      exact hl
end Go.Proofs.Ytilabfmnaegidaa.nt
