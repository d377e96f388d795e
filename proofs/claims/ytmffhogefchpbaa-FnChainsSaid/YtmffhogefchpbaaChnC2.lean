/- Chains copied: both sides. -/
import Derived.Test.YtmffhogefchpbaaChnC
import Derived.Deep.DeepCutAuto
import Derived.Outline
namespace Go.Proofs.Ytmffhogefchpbaa.chn
open Go.RowKit Go.Proofs.Ytmffhogefchpbaa.kit Go.Proofs.Ytmffhogefchpbaa.lawi Go.Proofs.Ytmffhogefchpbaa.own Go.Proofs.Ytmffhogefchpbaa.rainl Go.Proofs.Ytmffhogefchpbaa.rain Go.Proofs.Ytmffhogefchpbaa.cis Go.Proofs.Ytmffhogefchpbaa.chl
set_option maxHeartbeats 1000000 in
theorem impl_copy (w : World) (va vb : Value) (n m : Nat) (zs ns : List Int) (hn : n ≤ 1048576) (hm : m ≤ 1048576) (ha : Row 2 w va n (IV zs)) (hb : Row 1 w vb m (IV ns)) :
    Calls Try.prog 38 #[CH va vb] w (stChain.Got w n zs m ns id) := by
  obtain ⟨a, ca, rfl⟩ := ha.shape
  obtain ⟨b, cb, rfl⟩ := hb.shape
  have HA := Lib.hid ha
  have HB := Lib.hid hb
  clear ha hb
  go_enter Try.func38, Try.ntmps38
  go_upto_region 1 with fail
  obtain ⟨w0, hw0⟩ : ∃ w0, (w.alloc (.cells #[.slice a n ca, .slice b m cb] TC)).alloc (.cells #[.slice none 0 0, .slice none 0 0] TC) = w0 := ⟨_, rfl⟩
  have X0 : Blk w0 w.heap.size TC #[.slice a n ca, .slice b m cb] := hw0 ▸ (Blk.new _ _ _).alloc _
  have X1 : Blk w0 (w.heap.size + 1) TC #[.slice none 0 0, .slice none 0 0] := hw0 ▸ Blk.new1 w TC #[.slice none 0 0, .slice none 0 0] _
  have B0 : Below w.heap.size w w0 := hw0 ▸ below_al (below_al (Below.refl _ _) _) _
  have z0 : w0.heap.size = w.heap.size + 2 := by rw [← hw0]; simp
  rw [hw0]
  clear hw0
  have p0 : w0.cell? ⟨w.heap.size, 0, none⟩ = some (.slice a n ca) := X0.cell 0
  have p1 : w0.cell? ⟨w.heap.size, 1, none⟩ = some (.slice b m cb) := X0.cell 1
  have HX := Lib.hid X1
  have HZ := Lib.hid z0
  have HL := Lib.hid B0
  have HRA := Lib.hid (HA.out.keep B0)
  have HRB := Lib.hid (HB.out.keep B0)
  clear X0 X1 B0 z0 HA HB
  go_region_held3 (fun W => W.cell? ⟨w.heap.size, 0, none⟩ = some (.slice a n ca) ∧ W.cell? ⟨w.heap.size, 1, none⟩ = some (.slice b m cb))
    (first | assumption | exact ⟨p0, p1⟩ | exact keep2 (by assumption) (by assumption) | go_keep | fail)
    (first
      | (go_at_call 62; refine (clone_int _ _ m ns hm (HRB.out.keep (by repeat (first | assumption | (with_reducible exact Below.refl _ _) | (with_reducible refine below_dr ?_) | (with_reducible refine below_al ?_ _) | (with_reducible refine below_step ?_ (by assumption)) | fail)))).mono ?_; rintro e wI ⟨vI, rfl, oI, bI⟩
         obtain ⟨aI, cI, rfl⟩ := own_shape oI
         have CI : Below w0.heap.size w0 wI := (by repeat (first | assumption | (with_reducible exact Below.refl _ _) | (with_reducible refine below_dr ?_) | (with_reducible refine below_al ?_ _) | (with_reducible refine below_step ?_ (by assumption)) | fail))
         obtain ⟨f0, f1, f2, f3⟩ := blk2 (HX.out.step CI)
         have OI := Lib.hid (OwnR.of_own oI)
         (try replace OC := Lib.hid (OC.out.keep bI))
         have hzI := bI.size
         clear oI)
      | (go_at_call 61; refine (clone_cis _ _ n zs hn (HRA.out.keep (by repeat (first | assumption | (with_reducible exact Below.refl _ _) | (with_reducible refine below_dr ?_) | (with_reducible refine below_al ?_ _) | (with_reducible refine below_step ?_ (by assumption)) | fail)))).mono ?_; rintro e wC ⟨vC, rfl, oC, bC⟩
         obtain ⟨aC, cC, rfl⟩ := own_shape oC
         have CC : Below w0.heap.size w0 wC := (by repeat (first | assumption | (with_reducible exact Below.refl _ _) | (with_reducible refine below_dr ?_) | (with_reducible refine below_al ?_ _) | (with_reducible refine below_step ?_ (by assumption)) | fail))
         obtain ⟨f0, f1, f2, f3⟩ := blk2 (HX.out.step CC)
         have OC := Lib.hid (OwnR.of_own oC)
         (try replace OI := Lib.hid (OI.out.keep bC))
         have hzC := bC.size
         clear oC)
      | fail)
  all_goals
    go_wp2
    have hOC := OC.out
    have hOI := OI.out
    have hz := HZ.out
    have hl := HL.out
    rename_i hheld
    clear hheld
    refine bodyPost_ret (v := CH (.slice aC n cC) (.slice aI m cI)) (by clear hz; simp [*, results, Try.results38, go_sem]) rfl ?_
    simp only [World.size_drew] at hOC hOI hzC hzI
    refine stChain.got_of (K := id) (w.heap.size + 1) (w.heap.size + 2) hOC hOI ?_ (.inr (by omega)) (.inr (by omega)) (by omega) (by omega) (by omega) (by omega) (below_step hl (by assumption))
    refine Chg.trans ?_ (Chg.set _ _ _ (by omega) (by omega))
    exact Chg.set _ _ _ (by omega) (by omega)
/-- An own row, told by its block. -/
theorem tight {w : World} {g h : Nat} {e : TypeId} {sz : Nat} {v : Value} {n : Nat} {xs : List Value} (o : w.ownsRow g e sz v n xs) (hb : v.ownBlock = some g ∨ v.ownBlock = some h) :
    ∃ q, OwnR w q (q + 1) e sz v n xs ∧ (q = g ∨ q = h) := by
  have key : ∀ q, v.ownBlock = some q → OwnR w q (q + 1) e sz v n xs := fun q hq => by
    refine ⟨⟨o.1, ?_⟩, fun b hb => by rw [hq] at hb; cases hb; omega, by have := (o.lt q hq).2; omega⟩
    rcases o.2 with ⟨rfl, _⟩ | ⟨g', cap, cur, rfl, hgg, rest⟩
    · simp [Value.ownBlock] at hq
    · simp [Value.ownBlock] at hq
      subst hq
      exact .inr ⟨g', cap, cur, rfl, Nat.le_refl _, rest⟩
  rcases hb with hb | hb
  · exact ⟨g, key g hb, .inl rfl⟩
  · exact ⟨h, key h hb, .inr rfl⟩
theorem below_gr {w a b : World} {row : Option Nat} (h : Below w.heap.size w a) (hg : a.grownBy b row) (hr : ∀ k, row = some k → w.heap.size ≤ k) : Below w.heap.size w b := h.grown hg h.size hr
set_option maxHeartbeats 4000000 in
theorem spec_copy (w : World) (va vb : Value) (n m : Nat) (zs ns : List Int) (hn : n ≤ 1048576) (hm : m ≤ 1048576) (ha : Row 2 w va n (IV zs)) (hb : Row 1 w vb m (IV ns)) :
    Calls Try.prog 52 #[CH va vb] w (stChain.Got w n zs m ns id) := by
  obtain ⟨iC, hiC, hz0C, hz1C, hz2C⟩ := info_parts stCistern.info
  obtain ⟨iI, hiI, hz0I, hz1I, hz2I⟩ := info_parts infoI
  obtain ⟨a, ca, rfl⟩ := ha.shape
  obtain ⟨b, cb, rfl⟩ := hb.shape
  have HA := Lib.hid ha
  have HB := Lib.hid hb
  clear ha hb
  go_enter Try.func52, Try.ntmps52
  go_upto_region 1 with fail
  obtain ⟨w0, hw0⟩ : ∃ w0, (w.alloc (.cells #[.slice a n ca, .slice b m cb] TC)).alloc (.cells #[.slice none 0 0, .slice none 0 0] TC) = w0 := ⟨_, rfl⟩
  have X0 : Blk w0 w.heap.size TC #[.slice a n ca, .slice b m cb] := hw0 ▸ (Blk.new _ _ _).alloc _
  have X1 : Blk w0 (w.heap.size + 1) TC #[.slice none 0 0, .slice none 0 0] := hw0 ▸ Blk.new1 w TC #[.slice none 0 0, .slice none 0 0] _
  have B0 : Below w.heap.size w w0 := hw0 ▸ below_al (below_al (Below.refl _ _) _) _
  have z0 : w0.heap.size = w.heap.size + 2 := by rw [← hw0]; simp
  rw [hw0]
  clear hw0
  have p0 : w0.cell? ⟨w.heap.size, 0, none⟩ = some (.slice a n ca) := X0.cell 0
  have p1 : w0.cell? ⟨w.heap.size, 1, none⟩ = some (.slice b m cb) := X0.cell 1
  have HX := Lib.hid X1
  have HZ := Lib.hid z0
  have HL := Lib.hid B0
  have HRA := Lib.hid (HA.out.keep B0)
  have HRB := Lib.hid (HB.out.keep B0)
  clear X0 X1 B0 z0 HA HB
  go_region_held3 (fun W => W.cell? ⟨w.heap.size, 0, none⟩ = some (.slice a n ca) ∧ W.cell? ⟨w.heap.size, 1, none⟩ = some (.slice b m cb))
    (first | assumption | exact ⟨p0, p1⟩ | (refine keep2 ⟨p0, p1⟩ ?_; (repeat (first | assumption | (with_reducible exact Below.refl _ _) | (with_reducible refine below_dr ?_) | (with_reducible refine below_al ?_ _) | (with_reducible refine below_step ?_ (by assumption)) | fail)); done) | go_keep | fail)
    (first
      | (refine step_copy rfl _ _ 24 rfl 36 iC _ 2 16 Try.underlying24 hiC hz0C hz1C hz2C rfl (by decide) _ rfl (by repeat (first | (with_reducible exact Blk.new _ _ _) | (with_reducible exact Blk.new1 _ _ _ _) | (with_reducible refine Blk.drew ?_) | (with_reducible refine Blk.alloc ?_ _) | (refine Blk.grown ?_ (by assumption) (by simp <;> omega)) | fail)) _ n zs (HRA.out.keep (by repeat (first | assumption | (with_reducible exact Below.refl _ _) | (with_reducible refine below_dr ?_) | (with_reducible refine below_al ?_ _) | (with_reducible refine below_step ?_ (by assumption)) | fail))) hn (by decide) rfl ?_; intro vC wC oC gC hC
         obtain ⟨aC, cC, rfl⟩ := own_shape oC
         obtain ⟨qC, OC, eC⟩ := tight oC hC
         have hzC := gC.size
         (try simp only [World.size_drew, World.size_alloc] at eC hzC)
         have BC : Below w0.heap.size w0 wC := below_gr (by repeat (first | assumption | (with_reducible exact Below.refl _ _) | (with_reducible refine below_dr ?_) | (with_reducible refine below_al ?_ _) | (with_reducible refine below_step ?_ (by assumption)) | fail)) gC (by intro k hk; cases hk; omega)
         obtain ⟨f0, f1, f2, f3⟩ := blk2 (HX.out.step BC)
         have OC := Lib.hid OC
         (try replace OI := Lib.hid ((OI.out.keep (by repeat (first | assumption | (with_reducible exact Below.refl _ _) | (with_reducible refine below_dr ?_) | (with_reducible refine below_al ?_ _) | (with_reducible refine below_step ?_ (by assumption)) | fail))).chg (lo' := qC) (hi' := qC + 1) (Chg.of_grown gC (fun b hb => by cases hb; omega)) (by omega)))
         clear oC)
      | (refine step_copy rfl _ _ 25 rfl 3 iI (.int .i64 0) 1 8 Try.underlying25 hiI hz0I hz1I hz2I rfl (by decide) _ rfl (by repeat (first | (with_reducible exact Blk.new _ _ _) | (with_reducible exact Blk.new1 _ _ _ _) | (with_reducible refine Blk.drew ?_) | (with_reducible refine Blk.alloc ?_ _) | (refine Blk.grown ?_ (by assumption) (by simp <;> omega)) | fail)) _ m ns (HRB.out.keep (by repeat (first | assumption | (with_reducible exact Below.refl _ _) | (with_reducible refine below_dr ?_) | (with_reducible refine below_al ?_ _) | (with_reducible refine below_step ?_ (by assumption)) | fail))) hm (by decide) rfl ?_; intro vI wI oI gI hI
         obtain ⟨aI, cI, rfl⟩ := own_shape oI
         obtain ⟨qI, OI, eI⟩ := tight oI hI
         have hzI := gI.size
         (try simp only [World.size_alloc] at eI hzI)
         have BI : Below w0.heap.size w0 wI := below_gr (by repeat (first | assumption | (with_reducible exact Below.refl _ _) | (with_reducible refine below_dr ?_) | (with_reducible refine below_al ?_ _) | (with_reducible refine below_step ?_ (by assumption)) | fail)) gI (by intro k hk; cases hk; omega)
         obtain ⟨f0, f1, f2, f3⟩ := blk2 (HX.out.step BI)
         have OI := Lib.hid OI
         (try replace OC := Lib.hid ((OC.out.keep (by repeat (first | assumption | (with_reducible exact Below.refl _ _) | (with_reducible refine below_dr ?_) | (with_reducible refine below_al ?_ _) | (with_reducible refine below_step ?_ (by assumption)) | fail))).chg (lo' := qI) (hi' := qI + 1) (Chg.of_grown gI (fun b hb => by cases hb; omega)) (by omega)))
         clear oI)
      | fail)
  all_goals
    go_wp2
    have hOC := OC.out
    have hOI := OI.out
    have hz := HZ.out
    have hl := HL.out
    rename_i hHeld
    have hq := hOC.2.2
    have key : ∀ (r : Nat) (W : World), (W = wC ∨ ∃ o, W = wC.alloc o) → W.grownBy wI (some r) → qC ≠ r → OwnR wI qC (qC + 1) 36 2 (.slice aC n cC) n (IV zs) := fun r W hW hg hr => by
      have h1 : OwnR W qC (qC + 1) 36 2 (.slice aC n cC) n (IV zs) := by
        rcases hW with rfl | ⟨o, rfl⟩
        · exact hOC
        · exact hOC.keep (below_al (Below.refl _ _) _)
      exact h1.chg (Chg.of_grown (lo := r) (hi := r + 1) hg (fun b hb => by cases hb; omega)) (by omega)
    have hOC' := key _ _ (by first | exact .inl rfl | exact .inr ⟨_, rfl⟩) gI (by omega)
    clear hHeld key hOC HX HZ HL HRA HRB OC OI hC hI gC gI
    refine bodyPost_ret (v := CH (.slice aC n cC) (.slice aI m cI)) (by clear hz; simp [*, results, Try.results52, go_sem]) rfl ?_
    refine stChain.got_of (K := id) (w.heap.size + 1) (w.heap.size + 2) hOC' hOI ?_ (.inr (by omega)) (.inr (by omega)) (by omega) (by omega) (by omega) (by omega) (below_step hl BI)
    refine Chg.trans ?_ (Chg.set _ _ _ (by omega) (by omega))
    exact Chg.set _ _ _ (by omega) (by omega)
end Go.Proofs.Ytmffhogefchpbaa.chn
