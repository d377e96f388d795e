/- Flows: the program's FindFlow, GreatestFlow. -/
import Derived.Test.YtilabfmnaegidaaFlwO
import Derived.Test.YtilabfmnaegidaaFlwJ
import Derived.Test.YtilabfmnaegidaaFlwP
namespace Go.Proofs.Ytilabfmnaegidaa.fl_
open Go.RowKit Go.Proofs.Ytilabfmnaegidaa.kit Go.Proofs.Ytilabfmnaegidaa.lawi Go.Proofs.Ytilabfmnaegidaa.own Go.Proofs.Ytilabfmnaegidaa.rain Go.Proofs.Ytilabfmnaegidaa.yrl Go.Proofs.Ytilabfmnaegidaa.net Go.Proofs.Ytilabfmnaegidaa.nt Go.Proofs.Ytilabfmnaegidaa.flw Go.Proofs.Ytilabfmnaegidaa.take Go.Proofs.Ytilabfmnaegidaa.mapv
theorem Pth.lt {F T : Nat → Int} {m : Nat} {a v : Int} {by_ : Int → Int} {r : List (Nat × Bool)} (h : Pth F T m a by_ v r) : ∀ e, e ∈ r → e.1 < m := by
  induction h with
  | nil => exact fun e he => (by cases he)
  | fw v k r _ hk _ _ _ ih =>
    intro e he
    rcases List.mem_cons.1 he with rfl | he
    · exact hk
    · exact ih e he
  | bw v k r _ hk _ _ _ ih =>
    intro e he
    rcases List.mem_cons.1 he with rfl | he
    · exact hk
    · exact ih e he
set_option maxHeartbeats 8000000 in
theorem impl_find_in (w : World) (P : Nat) (v : Value) (n : Nat) (zs : List Int) (a b : Nat) (hr : Row 3 w v n (IV zs)) (two : Two (P : Int) n zs (a : Int) (b : Int)) (r : Nat → Int) (hrun : Run (pF zs) (pT zs) (pW zs) n P a b (fun _ => 0) r) :
    Calls Try.prog 67 #[Nv P v, .int .i64 a, .int .i64 b] w (Found w n r true) := by
  obtain ⟨i0, hi, hz0, hz1, hz2⟩ := info_parts infoI
  obtain ⟨av, ca, rfl⟩ := hr.shape
  have ok := two.1
  have hn := ok.2.2.1
  have hP8 : P ≤ 8 := by have := ok.2.1; omega
  obtain ⟨_, ⟨_, ha⟩, ⟨_, hb⟩, hab⟩ := two
  have ha' : a < P := by omega
  have hb' : b < P := by omega
  have wfb := wf_small (by omega : (0 : Int) ≤ (b : Int)) (by omega : (b : Int) ≤ 1000000)
  obtain ⟨w0, hw0⟩ : ∃ w0, w.alloc (.cells #[.int .i64 (P : Int), .slice av n ca] TN) = w0 := ⟨_, rfl⟩
  have B0 : Below w.heap.size w w0 := hw0 ▸ below_al (Below.refl _ _) _
  have HX : Hid (Blk w0 w.heap.size TN #[.int .i64 (P : Int), .slice av n ca]) := Lib.hid (hw0 ▸ Blk.new w TN #[.int .i64 (P : Int), .slice av n ca])
  have HR := Lib.hid (hr.keep B0)
  have OK := Lib.hid ok
  have HB := Lib.hid B0
  have HRUN := Lib.hid hrun
  have hpl : Hid (Pl (pF zs) (pT zs) n (P : Int)) := Lib.hid fun j hj => by
    obtain ⟨⟨F0, F1⟩, ⟨T0, T1⟩, _⟩ := ok.2.2.2 j hj
    exact ⟨⟨F0, by omega⟩, ⟨T0, by omega⟩⟩
  have hW : Hid (∀ k, k < n → 0 ≤ pW zs k ∧ pW zs k ≤ 1000) := Lib.hid fun j hj => by
    obtain ⟨_, _, _, W0, W1⟩ := ok.2.2.2 j hj
    omega
  have TWO : Hid (Two (P : Int) n zs (a : Int) (b : Int)) := Lib.hid ⟨ok, ⟨by omega, by omega⟩, ⟨by omega, by omega⟩, hab⟩
  obtain ⟨p0, p1⟩ := stNet.blk_ HX.out
  clear hr ok B0 hrun
  go_enter Try.func67, Try.ntmps67
  go_wp2_with fail
  refine (impl_two _ _ _ n zs (by omega) HR.out a b true ⟨fun _ => TWO.out, fun _ => rfl⟩).mono ?_; rintro e w1 ⟨rfl, hb1⟩
  have hX1 := HX.out.step hb1
  have HL := Lib.hid hb1
  clear p0 p1 hw0 hb1
  obtain ⟨p0, p1⟩ := stNet.blk_ hX1
  clear hX1
  go_wp2_with (at_make; refine wpList_make_full _ rfl _ _ 30 rfl w1.heap.size TI i0 (.int .i64 0) 1 Try.underlying30 hi hz0 hz1 _ _ _ _ n rfl rfl rfl rfl (by rw [hz2]; omega) (by unfold maxLen; omega) (Nat.le_refl _) ?_; intro w2 hown hg
               have hb2 := below_grown hg (Nat.le_refl _) (by simp)
               have L2 := Lib.hid (below_step HL.out hb2)
               have O2 := Lib.hid hown
               clear hown hg hb2)
  have hGw := HL.out.size
  have O3 : Hid (OwnR w2 w1.heap.size (w1.heap.size + 1) TI 1 (.slice (some ⟨w1.heap.size, 0, none⟩) n n) n (IV (List.replicate n 0))) := by
    have h := O2.out
    rw [show (madeCells (Value.int .i64 0).cells (n * 1)).toList = IV (List.replicate n 0) by
      show (madeCells #[Value.int .i64 0] (n * 1)).toList = _
      rw [toList_madeCells_one]; simp [IV]] at h
    exact Lib.hid ⟨h, fun b hb => by cases hb; exact Nat.lt_succ_self _, (h.lt _ rfl).2⟩
  clear O2 HL hz0 hz1 hz2 hi p0 p1
  go_wp2
  go_loopg [9] (1000 * n + 1) (fun g s9 wr => ∃ fs : List Int, fs.length = n ∧ 1000 * (n : Int) - Go.Proofs.Ytilabfmnaegidaa.flw.nt (pF zs) (pT zs) (gd fs) a n < g ∧ FO (pF zs) (pT zs) (pW zs) (gd fs) n P a b ∧ Run (pF zs) (pT zs) (pW zs) n P a b (gd fs) r ∧
    OwnR wr w1.heap.size (w1.heap.size + 1) TI 1 (.slice (some ⟨w1.heap.size, 0, none⟩) n n) n (IV fs) ∧ Below w0.heap.size w0 wr)
  case atStart =>
    refine ⟨List.replicate n 0, by simp, ?_, ?_, ?_, O3.out, L2.out⟩
    · rw [gd_zero, nt_zero]; omega
    · rw [gd_zero]; exact .zero (fun k hk => (hW.out k hk).1)
    · rw [gd_zero]; exact HRUN.out
  case round =>
    clear O3 L2 HRUN
    obtain ⟨fs, hlf, hms, hFO, hRun, hown, hbel⟩ := hrel
    obtain ⟨p0, p1⟩ := stNet.blk_ (HX.out.step hbel)
    have HRUN := Lib.hid hRun
    have HFO := Lib.hid hFO
    have HMS := Lib.hid hms
    have HOW := Lib.hid hown
    have HL := Lib.hid hbel
    have hcap : Hid (∀ k, k < n → 0 ≤ gd fs k ∧ gd fs k ≤ 1000) := Lib.hid fun k hk => by have := hFO.bd k hk; have := hW.out k hk; omega
    clear hms hFO hRun hown hbel
    go_wp2_with fail
    refine (impl_ways _ P _ _ n zs fs a (HR.out.keep HL.out) HOW.out.row OK.out ha' hcap.out).mono ?_; rintro e w5 ⟨mb, f, rfl, hM, hy, hno, hb5⟩
    have HM := Lib.hid hM
    have O5 := Lib.hid (HOW.out.keep hb5)
    have L5 := Lib.hid (below_step HL.out hb5)
    have hg0 : w1.heap.size < wr.heap.size := (HOW.out.own.lt _ rfl).2
    clear hM hb5 HOW HL p0 p1
    by_cases hreach : RR (pF zs) (pT zs) (pW zs) (gd fs) n a b
    · obtain ⟨q, hq, hM1, hM2, hF2, hN2⟩ := Nxt.ex (by omega) (by omega) hpl.out (by omega) HFO.out hreach
      obtain ⟨q', rv, hfb, hq', hq8, hrow⟩ := hy b hreach
      obtain rfl := hq.uniq hq'
      have HR2 := Lib.hid (HRUN.out.go ⟨hreach, q, hq, rfl⟩)
      have hql : q.length ≠ 0 := fun e => by
        rcases hq.inv with ⟨e', _⟩ | ⟨k, _, _, _, _, _, e', _⟩ | ⟨k, _, _, _, _, _, e', _⟩
        · exact hab (by omega)
        · rw [e'] at e; simp at e
        · rw [e'] at e; simp at e
      have hqk := Pth.lt hq
      obtain ⟨aR, cR, rfl⟩ := own_shape hrow
      have hqb : (Value.slice aR q.length cR).ownBlock ≠ some w1.heap.size := fun e => by have := (hrow.lt _ e).1; omega
      have hbn := Go.Proofs.Ytilabfmnaegidaa.flw.nt_bd (F := pF zs) (T := pT zs) (f := gd fs) (v := (a : Int)) n hcap.out
      obtain ⟨gko, rfl⟩ : ∃ g', gk = g' + 1 := ⟨gk - 1, by have := HMS.out; omega⟩
      have ROW : Hid (Row 2 w5 (.slice aR q.length cR) q.reverse.length (IV (enc q.reverse))) := Lib.hid (by rw [List.length_reverse]; exact Row.of_own hrow)
      have eq1 : Hid (aug (mst (pW zs) (gd fs) q.reverse 1000) q.reverse (gd fs) = aug (mst (pW zs) (gd fs) q 1000) q (gd fs)) := Lib.hid (by
        funext j
        rw [aug_sgn, aug_sgn, sgn_rev, mst_rev])
      have HF2 := Lib.hid hF2
      have HN2 := Lib.hid hN2
      have HM1 := Lib.hid hM1
      have HFB := Lib.hid hfb
      have SND := Lib.hid (impl_send w5 P (.slice av n ca) (.slice aR q.length cR) n w1.heap.size n zs fs q.reverse (HR.out.keep L5.out) OK.out O5.out ROW.out hqb (fun e he => hqk e (List.mem_reverse.1 he)) HFO.out.bd (by rw [List.length_reverse]; exact hq8))
      have e0 : ((q.length : Int) == 0) = false := beq_eq_false_iff_ne.2 (by omega)
      obtain ⟨p0, p1⟩ := stNet.blk_ (HX.out.step L5.out)
      clear hF2 hN2 hM1 hM2 hq hq' hfb hy hno hrow hbn HRUN hqk hqb
      go_wp2_with (first
        | (refine wp_lookV _ rfl _ _ TW rfl TI TL Try.underlying3 Try.underlying66 (.slice none 0 0) zero_way mb 8 f rfl HM.out b rfl wfb ?_; rw [HFB.out])
        | fail)
      refine SND.out.mono ?_; rintro e w6 ⟨rfl, ⟨fs', hl', he', ho'⟩, hchg⟩
      have HE : Hid (gd fs' = aug (mst (pW zs) (gd fs) q 1000) q (gd fs)) := Lib.hid (he'.trans eq1.out)
      have HO := Lib.hid ho'
      have L6 := Lib.hid (L5.out.trans (hchg.below L5.out.size hGw))
      clear he' ho' hchg p0 p1 SND
      go_wp2
      go_roundg gko
      case measure => omega
      case rel =>
        refine ⟨fs', hl', ?_, by rw [HE.out]; exact HF2.out, by rw [HE.out]; exact HR2.out, HO.out, L6.out⟩
        rw [HE.out, HN2.out]
        have := HMS.out
        have := HM1.out
        omega
    · have hfb := hno b hreach
      have HFB := Lib.hid hfb
      have hr := HRUN.out.stop hreach
      clear hfb hno hy
      go_wp2_with (first
        | (refine wp_lookV _ rfl _ _ TW rfl TI TL Try.underlying3 Try.underlying66 (.slice none 0 0) zero_way mb 8 f rfl HM.out b rfl wfb ?_; rw [HFB.out])
        | fail)
      refine bodyPost_ret (v := .tuple #[.slice (some ⟨w1.heap.size, 0, none⟩) n n, .bool true]) (by simp [*, results, Try.results67, go_sem]) rfl ⟨_, rfl, ?_, ?_⟩
      · rw [hr, ← gd_row hlf]
        exact own_mono O5.out.own (Nat.le_trans HB.out.size hGw)
      · exact HB.out.trans (L5.out.mono HB.out.size)
theorem impl_find (w : World) (P : Int) (v : Value) (n : Nat) (zs : List Int) (a b : Int) (hr : Row 3 w v n (IV zs)) (two : Two P n zs a b) (r : Nat → Int) (hrun : Run (pF zs) (pT zs) (pW zs) n P a b (fun _ => 0) r) :
    Calls Try.prog 67 #[Nv P v, .int .i64 a, .int .i64 b] w (Found w n r true) := by
  obtain ⟨R, rfl⟩ : ∃ R : Nat, P = (R : Int) := ⟨P.toNat, by have := two.1.1; omega⟩
  obtain ⟨A, rfl⟩ : ∃ A : Nat, a = (A : Int) := ⟨a.toNat, by have := two.2.1.1; omega⟩
  obtain ⟨B, rfl⟩ : ∃ B : Nat, b = (B : Int) := ⟨b.toNat, by have := two.2.2.1.1; omega⟩
  exact impl_find_in w R v n zs A B hr two r hrun
theorem impl_find_no (w : World) (P : Int) (v : Value) (n : Nat) (zs : List Int) (a b : Int) (hn : n ≤ 1048576) (hr : Row 3 w v n (IV zs)) (two : ¬ Two P n zs a b) :
    Calls Try.prog 67 #[Nv P v, .int .i64 a, .int .i64 b] w (Found w 0 (fun _ => 0) false) := by
  obtain ⟨av, ca, rfl⟩ := hr.shape
  obtain ⟨w0, hw0⟩ : ∃ w0, w.alloc (.cells #[.int .i64 P, .slice av n ca] TN) = w0 := ⟨_, rfl⟩
  have B0 : Below w.heap.size w w0 := hw0 ▸ below_al (Below.refl _ _) _
  have HX : Hid (Blk w0 w.heap.size TN #[.int .i64 P, .slice av n ca]) := Lib.hid (hw0 ▸ Blk.new w TN #[.int .i64 P, .slice av n ca])
  have HR := Lib.hid (hr.keep B0)
  have TW := Lib.hid two
  have HB := Lib.hid B0
  obtain ⟨p0, p1⟩ := stNet.blk_ HX.out
  clear hr two B0
  go_enter Try.func67, Try.ntmps67
  go_wp2_with fail
  refine (impl_two _ _ _ n zs (by omega) HR.out a b false ⟨fun h => (by cases h), fun h => absurd h TW.out⟩).mono ?_; rintro e w1 ⟨rfl, hb1⟩
  have HL := Lib.hid hb1
  clear hb1 p0 p1
  go_wp2
  refine bodyPost_ret (v := .tuple #[.slice none 0 0, .bool false]) (by simp [*, results, Try.results67, go_sem]) rfl ⟨_, rfl, ?_, HB.out.trans (HL.out.mono HB.out.size)⟩
  rw [show IV (rw_ (fun _ => (0 : Int)) 0) = [] by simp [rw_, IV]]
  exact World.ownsRow_nil _ _ _ _
theorem impl_great (w : World) (P : Int) (v : Value) (n : Nat) (zs : List Int) (a b x : Int) (hr : Row 3 w v n (IV zs)) (two : Two P n zs a b) (hx : MF (pF zs) (pT zs) (pW zs) n P a b x) :
    Calls Try.prog 52 #[Nv P v, .int .i64 a, .int .i64 b] w (Gives w (.int .i64 x)) := by
  obtain ⟨r, hrun⟩ := Two.run two
  obtain ⟨hf, hm⟩ := Two.great two hrun
  have hx0 := hx.nonneg (fun k hk => (Two.wd two k hk).1)
  rw [← hx.uniq hm] at hm
  have hcg : ∀ k, k < n → r k = gd (rw_ r n) k := fun k hk => (rw_at r hk).symm
  have hsz : Hid (FSz P n zs n (rw_ r n) a b x) := Lib.hid ⟨fun _ => by
      rw [← nt_congr (f := r) (g := gd (rw_ r n)) n hcg, ← hx.uniq (Two.great two hrun).2, if_pos (by omega)], fun h => absurd ⟨two, rfl, hf.amounts hcg⟩ h⟩
  have hn := two.1.2.2.1
  obtain ⟨av, ca, rfl⟩ := hr.shape
  obtain ⟨w0, hw0⟩ : ∃ w0, w.alloc (.cells #[.int .i64 P, .slice av n ca] TN) = w0 := ⟨_, rfl⟩
  have B0 : Below w.heap.size w w0 := hw0 ▸ below_al (Below.refl _ _) _
  have HX : Hid (Blk w0 w.heap.size TN #[.int .i64 P, .slice av n ca]) := Lib.hid (hw0 ▸ Blk.new w TN #[.int .i64 P, .slice av n ca])
  have HR := Lib.hid (hr.keep B0)
  have TW := Lib.hid two
  have HB := Lib.hid B0
  have HRUN := Lib.hid hrun
  obtain ⟨p0, p1⟩ := stNet.blk_ HX.out
  clear hr two B0 hrun hf hm hx hcg
  go_enter Try.func52, Try.ntmps52
  go_wp2_with fail
  refine (impl_find _ _ _ n zs a b HR.out TW.out r HRUN.out).mono ?_; rintro e w1 ⟨fv, rfl, ho, hb1⟩
  obtain ⟨lf, cf, rfl⟩ := own_shape ho
  have hX1 := HX.out.step hb1
  have HO := Lib.hid ho
  have HL := Lib.hid hb1
  clear p0 p1 ho hb1 hw0
  obtain ⟨p0, p1⟩ := stNet.blk_ hX1
  clear hX1
  go_wp2_with fail
  refine (impl_fsz _ _ _ _ n n zs (rw_ r n) a b (by omega) (by omega) (HR.out.keep HL.out) (Row.of_own HO.out) x hsz.out).mono ?_; rintro e w2 ⟨rfl, hb2⟩
  go_wp2
  go_ret
  exact ⟨rfl, HB.out.trans ((below_step HL.out hb2).mono HB.out.size)⟩
theorem impl_great_no (w : World) (P : Int) (v : Value) (n : Nat) (zs : List Int) (a b : Int) (hn : n ≤ 1048576) (hr : Row 3 w v n (IV zs)) (two : ¬ Two P n zs a b) :
    Calls Try.prog 52 #[Nv P v, .int .i64 a, .int .i64 b] w (Gives w (.int .i64 (-1))) := by
  obtain ⟨av, ca, rfl⟩ := hr.shape
  obtain ⟨w0, hw0⟩ : ∃ w0, w.alloc (.cells #[.int .i64 P, .slice av n ca] TN) = w0 := ⟨_, rfl⟩
  have B0 : Below w.heap.size w w0 := hw0 ▸ below_al (Below.refl _ _) _
  have HX : Hid (Blk w0 w.heap.size TN #[.int .i64 P, .slice av n ca]) := Lib.hid (hw0 ▸ Blk.new w TN #[.int .i64 P, .slice av n ca])
  have HR := Lib.hid (hr.keep B0)
  have TW := Lib.hid two
  have HB := Lib.hid B0
  obtain ⟨p0, p1⟩ := stNet.blk_ HX.out
  clear hr two B0
  go_enter Try.func52, Try.ntmps52
  go_wp2_with fail
  refine (impl_find_no _ _ _ n zs a b (by omega) HR.out TW.out).mono ?_; rintro e w1 ⟨fv, rfl, ho, hb1⟩
  obtain ⟨lf, cf, rfl⟩ := own_shape ho
  have hX1 := HX.out.step hb1
  have HO := Lib.hid ho
  have HL := Lib.hid hb1
  clear p0 p1 ho hb1 hw0
  obtain ⟨p0, p1⟩ := stNet.blk_ hX1
  clear hX1
  go_wp2_with fail
  refine (impl_fsz _ _ _ _ n 0 zs (rw_ (fun _ => 0) 0) a b hn (by omega) (HR.out.keep HL.out) (Row.of_own HO.out) (-1) ⟨fun h => absurd h.1 TW.out, fun _ => rfl⟩).mono ?_; rintro e w2 ⟨rfl, hb2⟩
  go_wp2
  go_ret
  exact ⟨rfl, HB.out.trans ((below_step HL.out hb2).mono HB.out.size)⟩
end Go.Proofs.Ytilabfmnaegidaa.fl_
