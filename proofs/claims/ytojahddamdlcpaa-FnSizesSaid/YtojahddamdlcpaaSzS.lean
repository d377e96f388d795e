/- How large a cistern must be: the specification's functions. -/
import Derived.Test.YtojahddamdlcpaaYrS2
import Derived.Test.YtojahddamdlcpaaSzL
import Derived.Test.YtojahddamdlcpaaCpy
import Derived.Test.YtojahddamdlcpaaStYear
import Derived.Deep.DeepCutAuto
import Derived.Outline
namespace Go.Proofs.Ytojahddamdlcpaa.sz
open Go.RowKit Go.Proofs.Ytojahddamdlcpaa.kit Go.Proofs.Ytojahddamdlcpaa.lawi Go.Proofs.Ytojahddamdlcpaa.own Go.Proofs.Ytojahddamdlcpaa.rainl Go.Proofs.Ytojahddamdlcpaa.rain Go.Proofs.Ytojahddamdlcpaa.cis Go.Proofs.Ytojahddamdlcpaa.chl Go.Proofs.Ytojahddamdlcpaa.yrl Go.Proofs.Ytojahddamdlcpaa.yr Go.Proofs.Ytojahddamdlcpaa.szl Go.Proofs.Ytojahddamdlcpaa.cpy
set_option maxHeartbeats 4000000 in
theorem spec_copy (w : World) (v : Value) (n : Nat) (cs : List Int) (r s d : Int) (hn : n ≤ 1048576) (hr : Row 1 w v n (IV cs)) :
    Calls Try.prog 72 #[Yv r s v d] w (stYear.Got w r s d n cs id) := by
  obtain ⟨iI, hiI, hz0I, hz1I, hz2I⟩ := info_parts infoI
  obtain ⟨a, ca, rfl⟩ := hr.shape
  have HR := Lib.hid hr
  clear hr
  go_enter Try.func72, Try.ntmps72
  go_upto_region 1 with fail
  obtain ⟨w0, hw0⟩ : ∃ w0, (w.alloc (.cells #[.int .i64 r, .int .i64 s, .slice a n ca, .int .i64 d] TY)).alloc (.cells #[.int .i64 0, .int .i64 0, .slice none 0 0, .int .i64 0] TY) = w0 := ⟨_, rfl⟩
  have X0 : Blk w0 w.heap.size TY #[.int .i64 r, .int .i64 s, .slice a n ca, .int .i64 d] := hw0 ▸ (Blk.new _ _ _).alloc _
  have X1 : Blk w0 (w.heap.size + 1) TY #[.int .i64 0, .int .i64 0, .slice none 0 0, .int .i64 0] := hw0 ▸ Blk.new1 w TY #[.int .i64 0, .int .i64 0, .slice none 0 0, .int .i64 0] _
  have B0 : Below w.heap.size w w0 := hw0 ▸ below_al (below_al (Below.refl _ _) _) _
  have z0 : w0.heap.size = w.heap.size + 2 := by rw [← hw0]; simp
  rw [hw0]
  clear hw0
  obtain ⟨p0, p1, p2, p3⟩ := blk4 X0
  have HX := Lib.hid X1
  have HZ := Lib.hid z0
  have HL := Lib.hid B0
  replace HR := Lib.hid (HR.out.keep B0)
  clear X0 X1 B0 z0
  go_region_held3 (fun W => W.cell? ⟨w.heap.size, 0, none⟩ = some (.int .i64 r) ∧ W.cell? ⟨w.heap.size, 1, none⟩ = some (.int .i64 s) ∧ W.cell? ⟨w.heap.size, 2, none⟩ = some (.slice a n ca) ∧ W.cell? ⟨w.heap.size, 3, none⟩ = some (.int .i64 d))
    (first | assumption | exact ⟨p0, p1, p2, p3⟩ | (refine keep4 ⟨p0, p1, p2, p3⟩ ?_; (repeat (first | assumption | (with_reducible exact Below.refl _ _) | (with_reducible refine below_dr ?_) | (with_reducible refine below_al ?_ _) | (with_reducible refine below_step ?_ (by assumption)) | fail)); done) | go_keep | fail)
    (first
      | (refine step_copy rfl _ _ 24 rfl 3 iI (.int .i64 0) 1 8 Try.underlying24 hiI hz0I hz1I hz2I rfl (by decide) _ rfl (by repeat (first | (with_reducible exact Blk.new _ _ _) | (with_reducible exact Blk.new1 _ _ _ _) | (with_reducible refine Blk.drew ?_) | (with_reducible refine Blk.alloc ?_ _) | (refine Blk.grown ?_ (by assumption) (by simp <;> omega)) | fail)) _ n cs (HR.out.keep (by repeat (first | assumption | (with_reducible exact Below.refl _ _) | (with_reducible refine below_dr ?_) | (with_reducible refine below_al ?_ _) | (with_reducible refine below_step ?_ (by assumption)) | fail))) hn (by decide) rfl ?_; intro vI wI oI gI hI
         obtain ⟨aI, cI, rfl⟩ := own_shape oI
         obtain ⟨qI, OI, eI⟩ := own_tight oI hI
         have hzI := gI.size
         (try simp only [World.size_drew, World.size_alloc] at eI hzI)
         have BI : Below w0.heap.size w0 wI := below_gr (by repeat (first | assumption | (with_reducible exact Below.refl _ _) | (with_reducible refine below_dr ?_) | (with_reducible refine below_al ?_ _) | (with_reducible refine below_step ?_ (by assumption)) | fail)) gI (by intro k hk; cases hk; (try simp only [World.size_drew, World.size_alloc]); omega)
         obtain ⟨q0, q1, q2, q3⟩ := blk4 (HX.out.step BI)
         obtain ⟨f0, f1, f2, f3⟩ := stYear.fz4 (HX.out.step BI)
         have OI := Lib.hid OI
         clear oI))
  all_goals
    go_wp2
    have hz := HZ.out
    have hl := below_step HL.out BI
    refine bodyPost_ret (v := Yv r s (.slice aI n cI) d) (by clear hz; simp [*, results, Try.results72, go_sem]) rfl ⟨_, qI, qI + 1, rfl, ⟨OI.out.chg (lo' := w.heap.size + 1) (hi' := w.heap.size + 2) ?_ (.inr (by omega)), by omega⟩, ?_⟩
    · repeat (refine Chg.trans ?_ (Chg.set _ _ _ (by omega) (by omega)))
      exact Chg.refl
    · repeat (refine Below.setCell ?_ (by simp only []; omega) _)
      exact hl
/-- IsEnough of the specification. -/
theorem spec_enough (w : World) (v : Value) (n : Nat) (cs : List Int) (r s d : Int) (hn : n ≤ 1048576) (hr : Row 1 w v n (IV cs)) (b : Bool) (hb : b = true ↔ En r s d n cs) :
    Calls Try.prog 39 #[Yv r s v d] w (Gives w (.bool b)) := by
  obtain ⟨a, ca, rfl⟩ := hr.shape
  have B0 : Below w.heap.size w (w.alloc (.cells #[.int .i64 r, .int .i64 s, .slice a n ca, .int .i64 d] TY)) := below_al (Below.refl _ _) _
  have HR := Lib.hid hr
  have HB := Lib.hid B0
  have HX := Lib.hid (Blk.new w TY #[.int .i64 r, .int .i64 s, .slice a n ca, .int .i64 d])
  by_cases ok : YOk r s d n cs
  · have h0 := en_iff ok
    obtain ⟨L, hL⟩ : ∃ L, dy (fun k => decide (tk r d s cs k < d)) n = L := ⟨_, rfl⟩
    have hle : L.length ≤ n := hL ▸ dy_len _ _
    have hn4 := ok.2.2.1.2
    rw [hL] at h0
    have hbL : b = decide (L.length = 0) := by
      cases b
      · have : ¬ L = [] := fun e => by have := hb.2 (h0.2 e); cases this
        symm
        rw [decide_eq_false_iff_not]
        intro e
        exact this (List.eq_nil_of_length_eq_zero e)
      · have : L = [] := h0.1 (hb.1 rfl)
        subst this
        rfl
    have HL := Lib.hid hL
    have OK := Lib.hid ok
    clear ok hr B0 hn h0 hb hL
    go_enter Try.func39, Try.ntmps39
    go_wp2_with fail
    refine (spec_yok_yes _ _ n cs r s d (HR.out.keep HB.out) OK.out).mono ?_; rintro e w1 ⟨rfl, hb⟩
    replace HX := Lib.hid (HX.out.step hb)
    replace HB := Lib.hid (below_step HB.out hb)
    clear hb
    obtain ⟨p0, p1, p2, p3⟩ := blk4 HX.out
    go_wp2_with fail
    refine (spec_short_of _ _ n cs r s d n _ _ _ hn4 (HR.out.keep HB.out) (fun W' _ h => spec_run_yes W' _ n cs r s d h OK.out)).mono ?_; rintro e w2 ⟨v2, rfl, ho, hb⟩
    rw [dy_congr (q := fun k => decide (tk r d s cs k < d)) n (fun k hk => by simp only [rw_at _ hk]), HL.out] at ho
    obtain ⟨a2, c2, rfl⟩ := own_shape ho
    replace HB := Lib.hid (below_step HB.out hb)
    clear hb ho p0 p1 p2 p3
    obtain ⟨m, hm⟩ : ∃ m, L.length = m := ⟨_, rfl⟩
    rw [hm] at hbL hle
    rw [hm]
    clear hm HL
    have e : ((m : Int) == 0) = b := by
      rw [hbL, Bool.eq_iff_iff]
      simp
    go_wp2
    go_ret
    exact ⟨by rw [hbL]; rfl, HB.out⟩
  · have NO := Lib.hid ok
    have hbf : b = false := by
      cases b
      · rfl
      · exact absurd (hb.1 rfl).1 ok
    subst hbf
    clear ok hr B0 hb
    go_enter Try.func39, Try.ntmps39
    go_wp2_with fail
    refine (spec_yok_no _ _ n cs r s d hn (HR.out.keep HB.out) NO.out).mono ?_; rintro e w1 ⟨rfl, hb⟩
    replace HB := Lib.hid (below_step HB.out hb)
    clear hb
    go_wp2
    go_ret
    exact ⟨rfl, HB.out⟩
end Go.Proofs.Ytojahddamdlcpaa.sz
