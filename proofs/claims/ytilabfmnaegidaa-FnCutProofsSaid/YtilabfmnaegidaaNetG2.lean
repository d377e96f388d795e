/- Nets of pipes: the specification's WithoutPipe where there is such a pipe. -/
import Derived.Test.YtilabfmnaegidaaNetG
namespace Go.Proofs.Ytilabfmnaegidaa.nt
open Go.RowKit Go.Proofs.Ytilabfmnaegidaa.kit Go.Proofs.Ytilabfmnaegidaa.lawi Go.Proofs.Ytilabfmnaegidaa.own Go.Proofs.Ytilabfmnaegidaa.rain Go.Proofs.Ytilabfmnaegidaa.yrl Go.Proofs.Ytilabfmnaegidaa.net Go.Proofs.Ytilabfmnaegidaa.cpy Go.Proofs.Ytilabfmnaegidaa.del
/-- A row's first elements, and those from an element on. -/
theorem row_take {w : World} {b o n ca k : Nat} {zs : List Int} (h : Row 3 w (.slice (some ⟨b, o, none⟩) n ca) n (IV zs)) (hk : k ≤ n) (hn : 0 < n) : Row 3 w (.slice (some ⟨b, o, none⟩) k ca) k (IV (zs.take (k * 3))) := by
  have hl : zs.length = n * 3 := by simpa using h.1
  obtain ⟨b', o', e, hc⟩ := h.at_ hn
  cases e
  refine ⟨by simp [IV]; omega, _, _, rfl, .inr ⟨b, o, rfl, fun j u hu => hc j u ?_⟩⟩
  rw [← hu]
  have hj : j < k * 3 := by
    have := (List.getElem?_eq_some_iff.1 hu).1
    simp [IV] at this
    omega
  unfold IV
  rw [List.map_take, List.getElem?_take_of_lt hj]
theorem row_drop {w : World} {b o n ca c' i : Nat} {zs : List Int} (h : Row 3 w (.slice (some ⟨b, o, none⟩) n ca) n (IV zs)) (hi : i ≤ n) (hn : 0 < n) (A : Addr) (hA : A = ⟨b, o + i * 3, none⟩ ∨ n = i) (hs : A.spot = none) : Row 3 w (.slice (some A) (n - i) c') (n - i) (IV (zs.drop (i * 3))) := by
  have hl : zs.length = n * 3 := by simpa using h.1
  obtain ⟨b', o', e, hc⟩ := h.at_ hn
  cases e
  refine ⟨by simp [IV]; omega, _, _, rfl, ?_⟩
  rcases hA with rfl | hA
  · refine .inr ⟨b, o + i * 3, rfl, fun j u hu => ?_⟩
    have := hc (i * 3 + j) u (by rw [← hu]; unfold IV; rw [List.map_drop, List.getElem?_drop])
    rwa [← Nat.add_assoc] at this
  · exact .inl (by omega)
set_option maxHeartbeats 8000000 in
theorem spec_without_yes (w : World) (P : Int) (v : Value) (n k : Nat) (zs : List Int) (hcp : Cap v) (hr : Row 3 w v n (IV zs)) (ok : NO P n zs) (hk : k < n) :
    Calls Try.prog 21 #[Nv P v, .int .i64 k] w (stNet.Got w P (n - 1) (less zs k) fun t => .tuple #[t, .bool true]) := by
  obtain ⟨iI, hiI, hz0I, hz1I, hz2I⟩ := info_parts stPipe.info
  obtain ⟨a, ca, rfl⟩ := hr.shape
  have hcap : n ≤ ca := hcp _ _ _ rfl
  have hn := ok.2.2.1
  obtain ⟨b1, o1, rfl, hc⟩ := hr.at_ (by omega)
  obtain ⟨w0, hw0⟩ : ∃ w0, (w.alloc (.cells #[.int .i64 P, .slice (some ⟨b1, o1, none⟩) n ca] TN)).alloc (.cells #[.int .i64 0, .slice none 0 0] TN) = w0 := ⟨_, rfl⟩
  have X0 : Hid (Blk w0 w.heap.size TN #[.int .i64 P, .slice (some ⟨b1, o1, none⟩) n ca]) := Lib.hid (hw0 ▸ (Blk.new _ _ _).alloc _)
  have X1 : Hid (Blk w0 (w.heap.size + 1) TN #[.int .i64 0, .slice none 0 0]) := Lib.hid (hw0 ▸ Blk.new1 w TN #[.int .i64 0, .slice none 0 0] _)
  have B0 : Hid (Below w.heap.size w w0) := Lib.hid (hw0 ▸ below_al (below_al (Below.refl _ _) _) _)
  have z0 : w0.heap.size = w.heap.size + 2 := by rw [← hw0]; simp
  have HR := Lib.hid hr
  have OK := Lib.hid ok
  have HZ := Lib.hid z0
  obtain ⟨p0, p1⟩ := stNet.blk_ X0.out
  have hwl := wrap_len (n := n) (by omega)
  clear hr ok z0 hc hcp
  go_enter Try.func21, Try.ntmps21
  go_wp2_with fail
  refine (spec_nok _ _ _ n zs (by omega) (HR.out.keep B0.out) true ⟨fun _ => OK.out, fun _ => rfl⟩).mono ?_; rintro e w1 ⟨rfl, hb1⟩
  replace B0 := Lib.hid (below_step B0.out hb1)
  replace X0 := Lib.hid (X0.out.step hb1)
  replace X1 := Lib.hid (X1.out.step hb1)
  have hz1 : w.heap.size + 2 ≤ w1.heap.size := by have := hb1.size; have := HZ.out; omega
  replace HZ := Lib.hid hz1
  clear p0 p1 hw0 hb1 hz1
  obtain ⟨p0, p1⟩ := stNet.blk_ X0.out
  go_wp2_with fail
  refine (in_yes _ _ _ _ (by omega : (0 : Int) ≤ k) (by omega : (k : Int) ≤ (n : Int) - 1)).mono ?_; rintro e w2 ⟨rfl, rfl⟩
  clear hwl
  obtain ⟨A, hA, hA2, hA3⟩ : ∃ A : Addr, (if ca = k + 1 then (some ⟨b1, o1, none⟩ : Option Addr) else some ⟨b1, o1 + (k + 1) * 3, none⟩) = some A ∧ (A = ⟨b1, o1 + (k + 1) * 3, none⟩ ∨ n = k + 1) ∧ A.spot = none := by
    by_cases h1 : ca = k + 1
    · exact ⟨⟨b1, o1, none⟩, by simp [h1], .inr (by omega), rfl⟩
    · exact ⟨⟨b1, o1 + (k + 1) * 3, none⟩, by simp [h1], .inl rfl, rfl⟩
  have RT := Lib.hid (row_take (HR.out.keep B0.out) (Nat.le_of_lt hk) (by omega))
  have RD := Lib.hid (row_drop (c' := ca - (k + 1)) (HR.out.keep B0.out) (show k + 1 ≤ n by omega) (by omega) A hA2 hA3)
  have hjw : IntKind.i64.wrap ((k : Int) + 1) = (k : Int) + 1 := IntWalk.i64_in _ (by omega)
  have hic : k ≤ ca := by omega
  have hjc : k + 1 ≤ ca := by omega
  have hjn : (k : Int) + 1 ≤ (n : Int) := by omega
  have hp0 : (0 : Int) ≤ (k : Int) + 1 := by omega
  have hp2 : ((k : Int) + 1).toNat = k + 1 := by omega
  clear hA2 hA3
  go_upto_region 3 with fail
  go_region_held3 (fun W => W.cell? ⟨w.heap.size, 0, none⟩ = some (.int .i64 P) ∧ W.cell? ⟨w.heap.size, 1, none⟩ = some (.slice (some ⟨b1, o1, none⟩) n ca))
    (first | assumption | exact ⟨p0, p1⟩ | (refine keep2 ⟨p0, p1⟩ ?_; (repeat (first | assumption | (with_reducible exact Below.refl _ _) | (with_reducible refine below_dr ?_) | (with_reducible refine below_al ?_ _) | (with_reducible refine below_step ?_ (by assumption)) | fail)); done) | go_keep | fail)
    (first
      | (fail_if_success (have _h := OI)
         refine step_copy rfl _ _ 24 rfl 63 iI (stPipe.R 0 0 0) 3 24 Try.underlying24 hiI hz0I hz1I hz2I rfl (by decide) _ rfl (by repeat (first | (with_reducible exact Blk.new _ _ _) | (with_reducible exact Blk.new1 _ _ _ _) | (with_reducible refine Blk.drew ?_) | (with_reducible refine Blk.alloc ?_ _) | (refine Blk.grown ?_ (by assumption) (by simp <;> omega)) | fail)) _ k (zs.take (k * 3)) (RT.out.keep (by repeat (first | assumption | (with_reducible exact Below.refl _ _) | (with_reducible refine below_dr ?_) | (with_reducible refine below_al ?_ _) | (with_reducible refine below_step ?_ (by assumption)) | fail))) (by omega) (by decide) rfl ?_; intro vI wI oI gI hI
         obtain ⟨aI, cI, rfl⟩ := own_shape oI
         obtain ⟨qI, OI, eI, uI⟩ := own_tight2 oI hI
         have hzI := gI.size
         (try simp only [World.size_drew, World.size_alloc] at eI hzI)
         have BI : Below w1.heap.size w1 wI := below_gr (by repeat (first | assumption | (with_reducible exact Below.refl _ _) | (with_reducible refine below_dr ?_) | (with_reducible refine below_al ?_ _) | (with_reducible refine below_step ?_ (by assumption)) | fail)) gI (by intro k hk; cases hk; (try simp only [World.size_drew, World.size_alloc]); omega)
         have OI := Lib.hid OI
         clear oI)
      | (refine step_more rfl _ _ 24 rfl 63 iI (stPipe.R 0 0 0) 3 24 Try.underlying24 hiI hz0I hz1I hz2I rfl (by decide) (.slice aI k cI) rfl qI k _ (OI.out.keep (by repeat (first | assumption | (with_reducible exact Below.refl _ _) | (with_reducible refine below_dr ?_) | (with_reducible refine below_al ?_ _) | (with_reducible refine below_step ?_ (by assumption)) | fail))).own (.slice (some A) (n - (k + 1)) (ca - (k + 1))) rfl (n - (k + 1)) (zs.drop ((k + 1) * 3)) (RD.out.keep (by repeat (first | assumption | (with_reducible exact Below.refl _ _) | (with_reducible refine below_dr ?_) | (with_reducible refine below_al ?_ _) | (with_reducible refine below_step ?_ (by assumption)) | fail))) (by omega) (by decide) (by have := OI.out.2.2; omega) ?_; intro vJ wJ oJ gJ hJ
         obtain ⟨aJ, cJ, rfl⟩ := own_shape oJ
         rw [uI] at gJ hJ
         obtain ⟨qJ, OJ, eJ, uJ⟩ := own_tight2 oJ hJ
         have hzJ := gJ.size
         (try simp only [World.size_drew, World.size_alloc] at eJ hzJ)
         have BJ : Below w1.heap.size w1 wJ := below_gr (by repeat (first | assumption | (with_reducible exact Below.refl _ _) | (with_reducible refine below_dr ?_) | (with_reducible refine below_al ?_ _) | (with_reducible refine below_step ?_ (by assumption)) | fail)) gJ (by intro k hk; cases hk; omega)
         obtain ⟨q0, q1⟩ := stNet.blk_ (X1.out.step BJ)
         obtain ⟨f0, f1⟩ := stNet.fz_ (X1.out.step BJ)
         have OJ := Lib.hid OJ
         clear oJ))
  all_goals
    have hO : OwnR wJ qJ (qJ + 1) TP 3 (.slice aJ (k + (n - (k + 1))) cJ) (n - 1) (IV (less zs k)) := by
      have := OJ.out
      rw [show n - 1 = k + (n - (k + 1)) by omega]
      unfold IV less
      rw [List.map_append]
      exact this
    have HO := Lib.hid hO
    have HL := Lib.hid (Below.trans B0.out (BJ.mono B0.out.size))
    rename_i hheld
    clear hheld hO
    go_wp2
    have hz := HZ.out
    refine bodyPost_ret (v := .tuple #[Nv P (.slice aJ (k + (n - (k + 1))) cJ), .bool true]) (by clear hz; simp [*, results, Try.results21, go_sem]) rfl ⟨_, qJ, qJ + 1, rfl, ⟨HO.out.chg (lo' := w.heap.size + 1) (hi' := w.heap.size + 2) ?_ (.inr (by omega)), by omega⟩, ?_⟩
    · repeat (refine Chg.trans ?_ (Chg.set _ _ _ (by omega) (by omega)))
      exact Chg.refl
    · repeat (refine Below.setCell ?_ (by simp only []; omega) _)
      exact HL.out
end Go.Proofs.Ytilabfmnaegidaa.nt
