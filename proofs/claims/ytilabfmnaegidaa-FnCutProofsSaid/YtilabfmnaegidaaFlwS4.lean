/- Flows: the specification's FindFlow. -/
import Derived.Test.YtilabfmnaegidaaFlwS3
import Derived.Test.YtilabfmnaegidaaTake
namespace Go.Proofs.Ytilabfmnaegidaa.fl_
open Go.RowKit Go.Proofs.Ytilabfmnaegidaa.kit Go.Proofs.Ytilabfmnaegidaa.lawi Go.Proofs.Ytilabfmnaegidaa.own Go.Proofs.Ytilabfmnaegidaa.rain Go.Proofs.Ytilabfmnaegidaa.yrl Go.Proofs.Ytilabfmnaegidaa.net Go.Proofs.Ytilabfmnaegidaa.nt Go.Proofs.Ytilabfmnaegidaa.flw Go.Proofs.Ytilabfmnaegidaa.take
theorem gd_set {fs : List Int} {k : Nat} (x : Int) (h : k < fs.length) : gd (fs.set k x) = upd (gd fs) k x := by
  funext j
  unfold gd upd
  rw [List.getD_eq_getElem?_getD, List.getElem?_set]
  by_cases e : k = j
  · subst e
    rw [if_pos rfl, if_pos h, if_pos rfl]
    rfl
  · rw [if_neg e, if_neg (fun e' => e e'.symm), ← List.getD_eq_getElem?_getD]
theorem gd_zero (n : Nat) : gd (List.replicate n 0) = fun _ => 0 := by
  funext j
  unfold gd
  rw [List.getD_eq_getElem?_getD, List.getElem?_replicate]
  split <;> rfl
/-- A list is told by its length and its amounts. -/
theorem gd_row {fs : List Int} {n : Nat} (h : fs.length = n) : fs = rw_ (gd fs) n := by
  refine List.ext_getElem (by rw [rw_len, h]) fun i h1 h2 => ?_
  simp only [rw_, List.getElem_map, List.getElem_range]
  unfold gd
  rw [List.getD_eq_getElem?_getD, List.getElem?_eq_getElem h1]
  rfl
/-- While a flow is sought: its row, and the row of steps of one search. -/
structure FS (w0 wr : World) (g0 n P : Nat) (fs : List Int) (lo : Nat) (bv : Value) (bl : List Int) : Prop where
  fl : OwnR wr g0 (g0 + 1) TI 1 (.slice (some ⟨g0, 0, none⟩) n n) n (IV fs)
  st : wr.ownsRow lo TI 1 bv P (IV bl)
  lt : g0 + 1 ≤ lo
  bw : Below w0.heap.size w0 wr
  hg : w0.heap.size ≤ g0
section
variable {w0 wr wr' : World} {g0 n P : Nat} {fs : List Int} {lo : Nat} {bv : Value} {bl : List Int}
theorem FS.keep (h : FS w0 wr g0 n P fs lo bv bl) (hb : Below wr.heap.size wr wr') : FS w0 wr' g0 n P fs lo bv bl := ⟨h.fl.keep hb, own_below h.st hb, h.lt, below_step h.bw hb, h.hg⟩
theorem FS.set (h : FS w0 wr g0 n P fs lo bv bl) (k : Nat) (x : Int) : FS w0 (wr.setCell ⟨g0, k, none⟩ (.int .i64 x)) g0 n P (fs.set k x) lo bv bl :=
  ⟨own_iv h.fl rfl k x, h.st.kept (grown_setCell (grown_refl wr (some g0)) k none _) (.inr (fun e => by have := (h.st.lt g0 e).1; have := h.lt; omega)), h.lt, h.bw.setCell h.hg _, h.hg⟩
end
/-- What FindFlow gives. -/
def Found (w : World) (n : Nat) (r : Nat → Int) (b : Bool) (e : Ending) (w' : World) : Prop :=
  ∃ fv, e = .returned (.tuple #[fv, .bool b]) ∧ w'.ownsRow w.heap.size TI 1 fv n (IV (rw_ r n)) ∧ Below w.heap.size w w'
set_option maxHeartbeats 8000000 in
set_option maxRecDepth 4000 in
theorem spec_find_in (w : World) (P : Nat) (v : Value) (n : Nat) (zs : List Int) (a b : Nat) (hr : Row 3 w v n (IV zs)) (two : Two (P : Int) n zs (a : Int) (b : Int)) (r : Nat → Int) (hrun : Run (pF zs) (pT zs) (pW zs) n P a b (fun _ => 0) r) :
    Calls Try.prog 13 #[Nv P v, .int .i64 a, .int .i64 b] w (Found w n r true) := by
  obtain ⟨i0, hi, hz0, hz1, hz2⟩ := info_parts infoI
  obtain ⟨av, ca, rfl⟩ := hr.shape
  have hl : zs.length = n * 3 := by simpa using hr.1
  have ok := two.1
  have hn := ok.2.2.1
  have hP8 : P ≤ 8 := by have := ok.2.1; omega
  obtain ⟨_, ⟨_, ha⟩, ⟨_, hb⟩, hab⟩ := two
  have ha' : a < P := by omega
  have hb' : b < P := by omega
  obtain ⟨w0, hw0⟩ : ∃ w0, w.alloc (.cells #[.int .i64 (P : Int), .slice av n ca] TN) = w0 := ⟨_, rfl⟩
  have B0 : Below w.heap.size w w0 := hw0 ▸ below_al (Below.refl _ _) _
  have HX : Hid (Blk w0 w.heap.size TN #[.int .i64 (P : Int), .slice av n ca]) := Lib.hid (hw0 ▸ Blk.new w TN #[.int .i64 (P : Int), .slice av n ca])
  have HR := Lib.hid (hr.keep B0)
  have OK := Lib.hid ok
  have HB := Lib.hid B0
  have HRUN := Lib.hid hrun
  have hpl : Hid (Pl (pF zs) (pT zs) n (P : Int)) := Lib.hid fun j hj => by
    obtain ⟨⟨F0, F1⟩, ⟨T0, T1⟩, _⟩ := ok.2.2.2 j hj
    exact ⟨⟨F0, by omega⟩, ⟨T0, by omega⟩⟩
  have hW : Hid (∀ k, k < n → 0 ≤ pW zs k ∧ pW zs k ≤ 1000) := Lib.hid fun j hj => by
    obtain ⟨_, _, _, W0, W1⟩ := ok.2.2.2 j hj
    omega
  have TWO : Hid (Two (P : Int) n zs (a : Int) (b : Int)) := Lib.hid ⟨ok, ⟨by omega, by omega⟩, ⟨by omega, by omega⟩, hab⟩
  obtain ⟨p0, p1⟩ := stNet.blk_ HX.out
  clear hr ok B0 hrun
  go_enter Try.func13, Try.ntmps13
  go_wp2_with fail
  refine (spec_two _ _ _ n zs (by omega) HR.out a b true ⟨fun _ => TWO.out, fun _ => rfl⟩).mono ?_; rintro e w1 ⟨rfl, hb1⟩
  have hX1 := HX.out.step hb1
  have HL := Lib.hid hb1
  clear p0 p1 hw0 hb1
  obtain ⟨p0, p1⟩ := stNet.blk_ hX1
  clear hX1
  go_wp2_with (at_make; refine wpList_make_full _ rfl _ _ 30 rfl w1.heap.size TI i0 (.int .i64 0) 1 Try.underlying30 hi hz0 hz1 _ _ _ _ n rfl rfl rfl rfl (by rw [hz2]; omega) (by unfold maxLen; omega) (Nat.le_refl _) ?_; intro w2 hown hg
               have hb2 := below_grown hg (Nat.le_refl _) (by simp)
               have L2 := Lib.hid (below_step HL.out hb2)
               have O2 := Lib.hid hown
               clear hown hg hb2)
  have hGw := HL.out.size
  have O3 : Hid (OwnR w2 w1.heap.size (w1.heap.size + 1) TI 1 (.slice (some ⟨w1.heap.size, 0, none⟩) n n) n (IV (List.replicate n 0))) := by
    have h := O2.out
    rw [show (madeCells (Value.int .i64 0).cells (n * 1)).toList = IV (List.replicate n 0) by
      show (madeCells #[Value.int .i64 0] (n * 1)).toList = _
      rw [toList_madeCells_one]; simp [IV]] at h
    exact Lib.hid ⟨h, fun b hb => by cases hb; exact Nat.lt_succ_self _, (h.lt _ rfl).2⟩
  clear O2 HL hz0 hz1 hz2 hi p0 p1
  go_wp2
  go_loopg [9] (1000 * n + 1) (fun g s9 wr => ∃ fs : List Int, fs.length = n ∧ 1000 * (n : Int) - Go.Proofs.Ytilabfmnaegidaa.flw.nt (pF zs) (pT zs) (gd fs) a n < g ∧ FO (pF zs) (pT zs) (pW zs) (gd fs) n P a b ∧ Run (pF zs) (pT zs) (pW zs) n P a b (gd fs) r ∧
    OwnR wr w1.heap.size (w1.heap.size + 1) TI 1 (.slice (some ⟨w1.heap.size, 0, none⟩) n n) n (IV fs) ∧ Below w0.heap.size w0 wr)
  case atStart =>
    refine ⟨List.replicate n 0, by simp, ?_, ?_, ?_, O3.out, L2.out⟩
    · rw [gd_zero, nt_zero]; omega
    · rw [gd_zero]; exact .zero (fun k hk => (hW.out k hk).1)
    · rw [gd_zero]; exact HRUN.out
  case round =>
    clear O3 L2 HRUN
    obtain ⟨fs, hlf, hms, hFO, hRun, hown, hbel⟩ := hrel
    obtain ⟨p0, p1⟩ := stNet.blk_ (HX.out.step hbel)
    have HRUN := Lib.hid hRun
    have HFO := Lib.hid hFO
    have HMS := Lib.hid hms
    have HOW := Lib.hid hown
    have HL := Lib.hid hbel
    clear hms hFO hRun hown hbel
    go_wp2_with fail
    refine (spec_search _ _ _ _ n zs fs a (HR.out.keep HL.out) HOW.out.row OK.out ha').mono ?_; rintro e w5 ⟨bv, rfl, hby, hb5⟩
    obtain ⟨gb, cb, rfl, _, _⟩ := own_some hby (by omega)
    have S5 : Hid (FS w0 w5 w1.heap.size n P fs wr.heap.size (.slice (some ⟨gb, 0, none⟩) P cb) _) := Lib.hid ⟨HOW.out.keep hb5, hby, HOW.out.2.2, below_step HL.out hb5, hGw⟩
    have cb0 := own_cell hby (g := gb) rfl b _ (getI (by rw [rw_len]; omega))
    rw [rw_at _ hb'] at cb0
    clear hby hb5 HOW HL p0 p1
    obtain ⟨p0, p1⟩ := stNet.blk_ (HX.out.step S5.out.bw)
    by_cases hreach : RR (pF zs) (pT zs) (pW zs) (gd fs) n a b
    · obtain ⟨q, hq, hM1, hM2, hF2, hN2⟩ := Nxt.ex (by omega) (by omega) hpl.out (by omega) HFO.out hreach
      have hshort := fin_short (by omega) (by omega) hpl.out hreach hq
      have HR2 := Lib.hid (HRUN.out.go ⟨hreach, q, hq, rfl⟩)
      obtain ⟨By, hBy⟩ : ∃ y, (fin_ (pF zs) (pT zs) (pW zs) (gd fs) n P a).2 = y := ⟨_, rfl⟩
      rw [hBy] at S5 cb0 hq
      obtain ⟨M, hM⟩ : ∃ M, mst (pW zs) (gd fs) q 1000 = M := ⟨_, rfl⟩
      rw [hM] at hM1 hM2 hF2 hN2 HR2
      have HF2 := Lib.hid hF2
      have HN2 := Lib.hid hN2
      have HQ := Lib.hid hq
      have HMM := Lib.hid hM
      obtain ⟨yb, hyb⟩ : ∃ y, By b = y := ⟨_, rfl⟩
      rw [hyb] at cb0
      have hy0 : ¬ yb < 0 := by
        rcases hq.inv with ⟨e, _⟩ | ⟨k, _, _, _, e, _⟩ | ⟨k, _, _, _, e, _⟩ <;> omega
      obtain ⟨lo, hlo⟩ : ∃ lo, wr.heap.size = lo := ⟨_, rfl⟩
      rw [hlo] at S5
      have hbn := Go.Proofs.Ytilabfmnaegidaa.flw.nt_bd (F := pF zs) (T := pT zs) (f := gd fs) (v := (a : Int)) n fun j hj => by have := HFO.out.bd j hj; have := hW.out j hj; omega
      obtain ⟨gko, rfl⟩ : ∃ g', gk = g' + 1 := ⟨gk - 1, by have := HMS.out; omega⟩
      clear hF2 hN2 hq hM hBy hyb HRUN hlo hbn
      go_wp2
      clear cb0 hy0 p0 p1
      have hcap := Lib.hid HFO.out.bd
      go_loopg [10, 11] q.length (fun g s10 s11 wq => ∃ (t : Nat) (X : Int) (p : List (Nat × Bool)), p.length = g ∧ s11 = .int .i64 t ∧ s10 = .int .i64 X ∧ t < P ∧ Pth (pF zs) (pT zs) n a By t p ∧ mst (pW zs) (gd fs) p X = M ∧
        FS w0 wq w1.heap.size n P fs lo (.slice (some ⟨gb, 0, none⟩) P cb) (rw_ (fun v => By (v : Int)) P))
      case atStart => exact ⟨b, 1000, q, rfl, rfl, rfl, hb', HQ.out, HMM.out, S5.out⟩
      case round =>
        clear S5
        obtain ⟨t, X, p, hlp, rfl, rfl, ht, hp, hm, hst⟩ := hrel
        obtain ⟨p0, p1⟩ := stNet.blk_ (HX.out.step hst.bw)
        have cb0 := own_cell hst.st (g := gb) rfl t _ (getI (by rw [rw_len]; omega))
        rw [rw_at _ ht] at cb0
        rcases hp.inv with ⟨e, rfl⟩ | ⟨k, p', hne, hk, hbk, hTk, rfl, hp'⟩ | ⟨k, p', hne, hk, hbk, hTk, rfl, hp'⟩
        · obtain rfl : a = t := by omega
          obtain rfl : M = X := (show X = M from hm).symm
          have HST := Lib.hid hst
          clear hp hm hst
          go_wp2
          clear p0 p1 cb0
          go_loopg [13, 14] q.length (fun g s13 s14 wq => ∃ (t : Nat) (p : List (Nat × Bool)) (fs' : List Int), p.length = g ∧ s13 = .int .i64 t ∧ t < P ∧ Pth (pF zs) (pT zs) n a By t p ∧ aug M p (gd fs') = aug M q (gd fs) ∧ fs'.length = n ∧
            (∀ k, k < n → -1000 * (9 - (p.length : Int)) ≤ gd fs' k ∧ gd fs' k ≤ 1000 * (9 - (p.length : Int))) ∧ FS w0 wq w1.heap.size n P fs' lo (.slice (some ⟨gb, 0, none⟩) P cb) (rw_ (fun v => By (v : Int)) P))
          case atStart =>
            refine ⟨b, q, fs, rfl, rfl, hb', HQ.out, rfl, hlf, fun k hk => ?_, HST.out⟩
            have h1 := hcap.out k hk
            have h2 := (hW.out k hk).2
            omega
          case round =>
            clear HST
            obtain ⟨t, p, fs', hlp, rfl, ht, hp, hau, hlf', hbd, hst⟩ := hrel
            obtain ⟨p0, p1⟩ := stNet.blk_ (HX.out.step hst.bw)
            have cb0 := own_cell hst.st (g := gb) rfl t _ (getI (by rw [rw_len]; omega))
            rw [rw_at _ ht] at cb0
            rcases hp.inv with ⟨e, rfl⟩ | ⟨k, p', hne, hk, hbk, hTk, rfl, hp'⟩ | ⟨k, p', hne, hk, hbk, hTk, rfl, hp'⟩
            · obtain rfl : a = t := by omega
              have HAU : Hid (gd fs' = aug M q (gd fs)) := Lib.hid hau
              have HST := Lib.hid hst
              clear hp hau hst hbd cb0
              go_wp2
              clear p0 p1
              go_roundg gko
              case measure => omega
              case rel =>
                refine ⟨fs', hlf', ?_, by rw [HAU.out]; exact HF2.out, by rw [HAU.out]; exact HR2.out, HST.out.fl, HST.out.bw⟩
                rw [HAU.out, HN2.out]
                have := HMS.out
                omega
            · obtain ⟨gk3, rfl⟩ : ∃ g', gk = g' + 1 := ⟨gk - 1, by simp at hlp; omega⟩
              obtain ⟨z, hz⟩ : ∃ z, By t = z := ⟨_, rfl⟩
              rw [hz] at cb0 hbk
              have z1 : z.tdiv 2 = (k : Int) := by rw [hbk]; exact Int.mul_tdiv_cancel_left _ (by decide)
              have z2 : z.tmod 2 = 0 := by rw [hbk]; exact Int.mul_tmod_right ..
              obtain ⟨b1, o1, rfl, h1⟩ := (HR.out.keep hst.bw).at_ (by omega)
              have hb1 : b1 < w0.heap.size := by
                obtain ⟨b', o', e, h⟩ := HR.out.at_ (by omega)
                cases e
                exact World.block_lt_of_cell? w0 _ (pipe_at h hl hk).1
              obtain ⟨g1, g2, g3⟩ := pipe_at h1 hl hk
              have g4 := own_cell hst.fl.own (g := w1.heap.size) rfl k _ (getI (by omega))
              have z0 := own_free hst.fl.own (g := w1.heap.size) rfl k
              obtain ⟨⟨F0, F1⟩, ⟨T0, T1⟩, _⟩ := OK.out.2.2.2 k hk
              obtain ⟨F, hF⟩ : ∃ F : Nat, pF zs k = (F : Int) := ⟨(pF zs k).toNat, by omega⟩
              obtain ⟨T, hT⟩ : ∃ T : Nat, pT zs k = (T : Int) := ⟨(pT zs k).toNat, by omega⟩
              rw [hF] at g1 F0 F1
              rw [hT] at g2 T0 T1
              rw [hF] at hp'
              have hs := hst.set k (gd fs' k + M)
              have hg := gd_set (fs := fs') (k := k) (gd fs' k + M) (by omega)
              have hau' : aug M p' (gd (fs'.set k (gd fs' k + M))) = aug M q (gd fs) := by rw [hg]; exact hau
              have hbo := hbd k hk
              have hbd' : ∀ j, j < n → -1000 * (9 - (p'.length : Int)) ≤ gd (fs'.set k (gd fs' k + M)) j ∧ gd (fs'.set k (gd fs' k + M)) j ≤ 1000 * (9 - (p'.length : Int)) := fun j hj => by
                have h := hbd j hj
                simp only [List.length_cons] at h hbo
                rw [hg]
                unfold upd
                split <;> omega
              replace g4 : wr.cell? ⟨w1.heap.size, k, none⟩ = some (.int .i64 (gd fs' k)) := g4
              have hlf2 : (fs'.set k (gd fs' k + M)).length = n := by simpa using hlf'
              generalize hfs : fs'.set k (gd fs' k + M) = fs2 at hs hau' hbd' hlf2
              generalize gd fs' k = f at g4 hbo hs hfs
              simp only [List.length_cons] at hbo
              have iN : F < P := by omega
              have HP := Lib.hid hp'
              have HAU := Lib.hid hau'
              have HBD := Lib.hid hbd'
              have HS := Lib.hid hs
              have HLF := Lib.hid hlf2
              have q1 : ((t : Int) != (a : Int)) = true := bne_iff_ne.2 hne
              have e2 : IntKind.i64.wrap (f + M) = f + M := IntWalk.i64_in _ (by omega)
              have j0 : (0 : Int) ≤ (k : Int) := by omega
              have j1 : (k : Int) < (n : Int) := by omega
              have e3 : IntKind.i64.wrap (k : Int) = (k : Int) := IntWalk.i64_in _ (by omega)
              have n1 : b1 ≠ w1.heap.size := by omega
              have n2 : w.heap.size ≠ w1.heap.size := by have := HX.out.lt; omega
              have k1 := keepT1 (a := k) (x := .int .i64 (f + M)) p1 n2
              have k2 := keepT1 (a := k) (x := .int .i64 (f + M)) g1 n1
              have k3 := keepT1 (a := k) (x := .int .i64 (f + M)) g2 n1
              clear hp hp' hau hau' hbd hbd' hst hs h1 hz hbk hTk hF hT hlf2 hg hfs hbo hb1 g3
              go_wp2
              go_roundg gk3
              case measure => omega
              case rel => exact ⟨F, p', fs2, by simpa using hlp, rfl, iN, HP.out, HAU.out, HLF.out, HBD.out, HS.out⟩
            · obtain ⟨gk3, rfl⟩ : ∃ g', gk = g' + 1 := ⟨gk - 1, by simp at hlp; omega⟩
              obtain ⟨z, hz⟩ : ∃ z, By t = z := ⟨_, rfl⟩
              rw [hz] at cb0 hbk
              have z1 : z.tdiv 2 = (k : Int) := by rw [hbk]; exact by rw [Int.tdiv_eq_ediv_of_nonneg (by omega)]; omega
              have z2 : z.tmod 2 = 1 := by rw [hbk]; exact by rw [Int.tmod_eq_emod_of_nonneg (by omega)]; omega
              obtain ⟨b1, o1, rfl, h1⟩ := (HR.out.keep hst.bw).at_ (by omega)
              have hb1 : b1 < w0.heap.size := by
                obtain ⟨b', o', e, h⟩ := HR.out.at_ (by omega)
                cases e
                exact World.block_lt_of_cell? w0 _ (pipe_at h hl hk).1
              obtain ⟨g1, g2, g3⟩ := pipe_at h1 hl hk
              have g4 := own_cell hst.fl.own (g := w1.heap.size) rfl k _ (getI (by omega))
              have z0 := own_free hst.fl.own (g := w1.heap.size) rfl k
              obtain ⟨⟨F0, F1⟩, ⟨T0, T1⟩, _⟩ := OK.out.2.2.2 k hk
              obtain ⟨F, hF⟩ : ∃ F : Nat, pF zs k = (F : Int) := ⟨(pF zs k).toNat, by omega⟩
              obtain ⟨T, hT⟩ : ∃ T : Nat, pT zs k = (T : Int) := ⟨(pT zs k).toNat, by omega⟩
              rw [hF] at g1 F0 F1
              rw [hT] at g2 T0 T1
              rw [hT] at hp'
              have hs := hst.set k (gd fs' k - M)
              have hg := gd_set (fs := fs') (k := k) (gd fs' k - M) (by omega)
              have hau' : aug M p' (gd (fs'.set k (gd fs' k - M))) = aug M q (gd fs) := by rw [hg]; exact hau
              have hbo := hbd k hk
              have hbd' : ∀ j, j < n → -1000 * (9 - (p'.length : Int)) ≤ gd (fs'.set k (gd fs' k - M)) j ∧ gd (fs'.set k (gd fs' k - M)) j ≤ 1000 * (9 - (p'.length : Int)) := fun j hj => by
                have h := hbd j hj
                simp only [List.length_cons] at h hbo
                rw [hg]
                unfold upd
                split <;> omega
              replace g4 : wr.cell? ⟨w1.heap.size, k, none⟩ = some (.int .i64 (gd fs' k)) := g4
              have hlf2 : (fs'.set k (gd fs' k - M)).length = n := by simpa using hlf'
              generalize hfs : fs'.set k (gd fs' k - M) = fs2 at hs hau' hbd' hlf2
              generalize gd fs' k = f at g4 hbo hs hfs
              simp only [List.length_cons] at hbo
              have iN : T < P := by omega
              have HP := Lib.hid hp'
              have HAU := Lib.hid hau'
              have HBD := Lib.hid hbd'
              have HS := Lib.hid hs
              have HLF := Lib.hid hlf2
              have q1 : ((t : Int) != (a : Int)) = true := bne_iff_ne.2 hne
              have e2 : IntKind.i64.wrap (f - M) = f - M := IntWalk.i64_in _ (by omega)
              have j0 : (0 : Int) ≤ (k : Int) := by omega
              have j1 : (k : Int) < (n : Int) := by omega
              have e3 : IntKind.i64.wrap (k : Int) = (k : Int) := IntWalk.i64_in _ (by omega)
              have n1 : b1 ≠ w1.heap.size := by omega
              have n2 : w.heap.size ≠ w1.heap.size := by have := HX.out.lt; omega
              have k1 := keepT1 (a := k) (x := .int .i64 (f - M)) p1 n2
              have k2 := keepT1 (a := k) (x := .int .i64 (f - M)) g1 n1
              have k3 := keepT1 (a := k) (x := .int .i64 (f - M)) g2 n1
              clear hp hp' hau hau' hbd hbd' hst hs h1 hz hbk hTk hF hT hlf2 hg hfs hbo hb1 g3
              go_wp2
              go_roundg gk3
              case measure => omega
              case rel => exact ⟨T, p', fs2, by simpa using hlp, rfl, iN, HP.out, HAU.out, HLF.out, HBD.out, HS.out⟩
        · obtain ⟨gk2, rfl⟩ : ∃ g', gk = g' + 1 := ⟨gk - 1, by simp at hlp; omega⟩
          obtain ⟨z, hz⟩ : ∃ z, By t = z := ⟨_, rfl⟩
          rw [hz] at cb0 hbk
          have z1 : z.tdiv 2 = (k : Int) := by rw [hbk]; exact Int.mul_tdiv_cancel_left _ (by decide)
          have z2 : z.tmod 2 = 0 := by rw [hbk]; exact Int.mul_tmod_right ..
          obtain ⟨b1, o1, rfl, h1⟩ := (HR.out.keep hst.bw).at_ (by omega)
          obtain ⟨g1, g2, g3⟩ := pipe_at h1 hl hk
          have g4 := own_cell hst.fl.own (g := w1.heap.size) rfl k _ (getI (by omega))
          obtain ⟨⟨F0, F1⟩, ⟨T0, T1⟩, _, W0, W1⟩ := OK.out.2.2.2 k hk
          obtain ⟨F, hF⟩ : ∃ F : Nat, pF zs k = (F : Int) := ⟨(pF zs k).toNat, by omega⟩
          obtain ⟨T, hT⟩ : ∃ T : Nat, pT zs k = (T : Int) := ⟨(pT zs k).toNat, by omega⟩
          have c4 := hcap.out k hk
          have hm' : mst (pW zs) (gd fs) p' (if X ≤ pW zs k - gd fs k then X else pW zs k - gd fs k) = M := hm
          rw [hF] at g1 F0 F1
          rw [hT] at g2 T0 T1
          rw [hF] at hp'
          replace g4 : wr.cell? ⟨w1.heap.size, k, none⟩ = some (.int .i64 (gd fs k)) := g4
          generalize pW zs k = W at g3 W0 W1 c4 hm'
          generalize gd fs k = f at g4 c4 hm'
          have iN : F < P := by omega
          have HP := Lib.hid hp'
          have HM := Lib.hid hm
          have HST := Lib.hid hst
          have q1 : ((t : Int) != (a : Int)) = true := bne_iff_ne.2 hne
          have e2 : IntKind.i64.wrap (W - f) = W - f := IntWalk.i64_in _ (by omega)
          have j0 : (0 : Int) ≤ (k : Int) := by omega
          have j1 : (k : Int) < (n : Int) := by omega
          have e3 : IntKind.i64.wrap (k : Int) = (k : Int) := IntWalk.i64_in _ (by omega)
          obtain ⟨w6, hw6⟩ : ∃ w6, wr.alloc (.cells #[.int .i64 0, .int .i64 0, .int .i64 0] TP) = w6 := ⟨_, rfl⟩
          have X6 : Hid (Blk w6 wr.heap.size TP #[.int .i64 0, .int .i64 0, .int .i64 0]) := Lib.hid (hw6 ▸ Blk.new wr TP #[.int .i64 0, .int .i64 0, .int .i64 0])
          have B6 : Below wr.heap.size wr w6 := hw6 ▸ below_al (Below.refl _ _) _
          have X7 := Lib.hid (((X6.out.set_ 0 (.int .i64 (F : Int))).set_ 1 (.int .i64 (T : Int))).set_ 2 (.int .i64 W))
          have B7 : Below wr.heap.size wr (((w6.setCell ⟨wr.heap.size, 0, none⟩ (.int .i64 (F : Int))).setCell ⟨wr.heap.size, 1, none⟩ (.int .i64 (T : Int))).setCell ⟨wr.heap.size, 2, none⟩ (.int .i64 W)) :=
            ((B6.setCell (p := ⟨wr.heap.size, 0, none⟩) (Nat.le_refl _) _).setCell (p := ⟨wr.heap.size, 1, none⟩) (Nat.le_refl _) _).setCell (p := ⟨wr.heap.size, 2, none⟩) (Nat.le_refl _) _
          obtain ⟨x0, x1, x2⟩ := stPipe3 X6.out
          have y0 := X6.out.frozen 0
          have y1 := X6.out.frozen 1
          have y2 := X6.out.frozen 2
          obtain ⟨x3, x4, x5⟩ := stPipe3 X7.out
          have K6 := keep5 ⟨p1, cb0, g1, g2, g3⟩ B6
          have K7 := keep5 ⟨p1, cb0, g1, g2, g3⟩ B7
          have S7 := Lib.hid (HST.out.keep B7)
          have f7 := keep1 g4 B7
          have c7 := keep1 cb0 B7
          clear B6 B7 hp hp' hm hst h1 hz hbk hTk hF hT HM
          by_cases hmin : X ≤ (W - f)
          case pos =>
            rw [if_pos hmin] at hm'
            have HM := Lib.hid hm'
            replace hmin : ¬ (W - f) < X := by omega
            clear hm'
            go_wp2
            go_region_held3 (fun V => V.cell? ⟨w.heap.size, 1, none⟩ = some (.slice (some ⟨b1, o1, none⟩) n ca) ∧ V.cell? ⟨gb, t, none⟩ = some (.int .i64 z) ∧ V.cell? ⟨b1, o1 + k * 3, none⟩ = some (.int .i64 (F : Int)) ∧ V.cell? ⟨b1, o1 + k * 3 + 1, none⟩ = some (.int .i64 (T : Int)) ∧ V.cell? ⟨b1, o1 + k * 3 + 2, none⟩ = some (.int .i64 W))
              (first | assumption | exact ⟨p1, cb0, g1, g2, g3⟩ | exact K6 | exact K7 | fail) (fail)
            all_goals
              obtain ⟨w7, hw7⟩ : ∃ w7, ((w6.setCell ⟨wr.heap.size, 0, none⟩ (.int .i64 (F : Int))).setCell ⟨wr.heap.size, 1, none⟩ (.int .i64 (T : Int))).setCell ⟨wr.heap.size, 2, none⟩ (.int .i64 W) = w7 := ⟨_, rfl⟩
              rw [hw7] at S7 x3 x4 x5 f7 c7
              rw [hw7]
              clear hw7 hw6 x0 x1 x2 y0 y1 y2 K6 K7 X6 X7 g1 g2 g3 g4 cb0 p0 p1 HST
              go_wp2
              go_quiet (fail)
              go_wp2
              go_roundg gk2
              case measure => omega
              case rel => exact ⟨F, _, p', by simpa using hlp, rfl, rfl, iN, HP.out, HM.out, S7.out.keep (by exact below_drewN (Below.refl _ _) _)⟩
          case neg =>
            rw [if_neg hmin] at hm'
            have HM := Lib.hid hm'
            replace hmin : (W - f) < X := by omega
            clear hm'
            go_wp2
            go_region_held3 (fun V => V.cell? ⟨w.heap.size, 1, none⟩ = some (.slice (some ⟨b1, o1, none⟩) n ca) ∧ V.cell? ⟨gb, t, none⟩ = some (.int .i64 z) ∧ V.cell? ⟨b1, o1 + k * 3, none⟩ = some (.int .i64 (F : Int)) ∧ V.cell? ⟨b1, o1 + k * 3 + 1, none⟩ = some (.int .i64 (T : Int)) ∧ V.cell? ⟨b1, o1 + k * 3 + 2, none⟩ = some (.int .i64 W))
              (first | assumption | exact ⟨p1, cb0, g1, g2, g3⟩ | exact K6 | exact K7 | fail) (fail)
            all_goals
              obtain ⟨w7, hw7⟩ : ∃ w7, ((w6.setCell ⟨wr.heap.size, 0, none⟩ (.int .i64 (F : Int))).setCell ⟨wr.heap.size, 1, none⟩ (.int .i64 (T : Int))).setCell ⟨wr.heap.size, 2, none⟩ (.int .i64 W) = w7 := ⟨_, rfl⟩
              rw [hw7] at S7 x3 x4 x5 f7 c7
              rw [hw7]
              clear hw7 hw6 x0 x1 x2 y0 y1 y2 K6 K7 X6 X7 g1 g2 g3 g4 cb0 p0 p1 HST
              go_wp2
              go_quiet (fail)
              go_wp2
              go_roundg gk2
              case measure => omega
              case rel => exact ⟨F, _, p', by simpa using hlp, rfl, rfl, iN, HP.out, HM.out, S7.out.keep (by exact below_drewN (Below.refl _ _) _)⟩
        · obtain ⟨gk2, rfl⟩ : ∃ g', gk = g' + 1 := ⟨gk - 1, by simp at hlp; omega⟩
          obtain ⟨z, hz⟩ : ∃ z, By t = z := ⟨_, rfl⟩
          rw [hz] at cb0 hbk
          have z1 : z.tdiv 2 = (k : Int) := by rw [hbk]; exact by rw [Int.tdiv_eq_ediv_of_nonneg (by omega)]; omega
          have z2 : z.tmod 2 = 1 := by rw [hbk]; exact by rw [Int.tmod_eq_emod_of_nonneg (by omega)]; omega
          obtain ⟨b1, o1, rfl, h1⟩ := (HR.out.keep hst.bw).at_ (by omega)
          obtain ⟨g1, g2, g3⟩ := pipe_at h1 hl hk
          have g4 := own_cell hst.fl.own (g := w1.heap.size) rfl k _ (getI (by omega))
          obtain ⟨⟨F0, F1⟩, ⟨T0, T1⟩, _, W0, W1⟩ := OK.out.2.2.2 k hk
          obtain ⟨F, hF⟩ : ∃ F : Nat, pF zs k = (F : Int) := ⟨(pF zs k).toNat, by omega⟩
          obtain ⟨T, hT⟩ : ∃ T : Nat, pT zs k = (T : Int) := ⟨(pT zs k).toNat, by omega⟩
          have c4 := hcap.out k hk
          have hm' : mst (pW zs) (gd fs) p' (if X ≤ gd fs k then X else gd fs k) = M := hm
          rw [hF] at g1 F0 F1
          rw [hT] at g2 T0 T1
          rw [hT] at hp'
          replace g4 : wr.cell? ⟨w1.heap.size, k, none⟩ = some (.int .i64 (gd fs k)) := g4
          generalize pW zs k = W at g3 W0 W1 c4 hm'
          generalize gd fs k = f at g4 c4 hm'
          have iN : T < P := by omega
          have HP := Lib.hid hp'
          have HM := Lib.hid hm
          have HST := Lib.hid hst
          have q1 : ((t : Int) != (a : Int)) = true := bne_iff_ne.2 hne
          have e2 : IntKind.i64.wrap (W - f) = W - f := IntWalk.i64_in _ (by omega)
          have j0 : (0 : Int) ≤ (k : Int) := by omega
          have j1 : (k : Int) < (n : Int) := by omega
          have e3 : IntKind.i64.wrap (k : Int) = (k : Int) := IntWalk.i64_in _ (by omega)
          obtain ⟨w6, hw6⟩ : ∃ w6, wr.alloc (.cells #[.int .i64 0, .int .i64 0, .int .i64 0] TP) = w6 := ⟨_, rfl⟩
          have X6 : Hid (Blk w6 wr.heap.size TP #[.int .i64 0, .int .i64 0, .int .i64 0]) := Lib.hid (hw6 ▸ Blk.new wr TP #[.int .i64 0, .int .i64 0, .int .i64 0])
          have B6 : Below wr.heap.size wr w6 := hw6 ▸ below_al (Below.refl _ _) _
          have X7 := Lib.hid (((X6.out.set_ 0 (.int .i64 (F : Int))).set_ 1 (.int .i64 (T : Int))).set_ 2 (.int .i64 W))
          have B7 : Below wr.heap.size wr (((w6.setCell ⟨wr.heap.size, 0, none⟩ (.int .i64 (F : Int))).setCell ⟨wr.heap.size, 1, none⟩ (.int .i64 (T : Int))).setCell ⟨wr.heap.size, 2, none⟩ (.int .i64 W)) :=
            ((B6.setCell (p := ⟨wr.heap.size, 0, none⟩) (Nat.le_refl _) _).setCell (p := ⟨wr.heap.size, 1, none⟩) (Nat.le_refl _) _).setCell (p := ⟨wr.heap.size, 2, none⟩) (Nat.le_refl _) _
          obtain ⟨x0, x1, x2⟩ := stPipe3 X6.out
          have y0 := X6.out.frozen 0
          have y1 := X6.out.frozen 1
          have y2 := X6.out.frozen 2
          obtain ⟨x3, x4, x5⟩ := stPipe3 X7.out
          have K6 := keep5 ⟨p1, cb0, g1, g2, g3⟩ B6
          have K7 := keep5 ⟨p1, cb0, g1, g2, g3⟩ B7
          have S7 := Lib.hid (HST.out.keep B7)
          have f7 := keep1 g4 B7
          have c7 := keep1 cb0 B7
          clear B6 B7 hp hp' hm hst h1 hz hbk hTk hF hT HM
          by_cases hmin : X ≤ f
          case pos =>
            rw [if_pos hmin] at hm'
            have HM := Lib.hid hm'
            replace hmin : ¬ f < X := by omega
            clear hm'
            go_wp2
            go_region_held3 (fun V => V.cell? ⟨w.heap.size, 1, none⟩ = some (.slice (some ⟨b1, o1, none⟩) n ca) ∧ V.cell? ⟨gb, t, none⟩ = some (.int .i64 z) ∧ V.cell? ⟨b1, o1 + k * 3, none⟩ = some (.int .i64 (F : Int)) ∧ V.cell? ⟨b1, o1 + k * 3 + 1, none⟩ = some (.int .i64 (T : Int)) ∧ V.cell? ⟨b1, o1 + k * 3 + 2, none⟩ = some (.int .i64 W))
              (first | assumption | exact ⟨p1, cb0, g1, g2, g3⟩ | exact K6 | exact K7 | fail) (fail)
            all_goals
              obtain ⟨w7, hw7⟩ : ∃ w7, ((w6.setCell ⟨wr.heap.size, 0, none⟩ (.int .i64 (F : Int))).setCell ⟨wr.heap.size, 1, none⟩ (.int .i64 (T : Int))).setCell ⟨wr.heap.size, 2, none⟩ (.int .i64 W) = w7 := ⟨_, rfl⟩
              rw [hw7] at S7 x3 x4 x5 f7 c7
              rw [hw7]
              clear hw7 hw6 x0 x1 x2 y0 y1 y2 K6 K7 X6 X7 g1 g2 g3 g4 cb0 p0 p1 HST
              go_wp2
              skip
              go_roundg gk2
              case measure => omega
              case rel => exact ⟨T, _, p', by simpa using hlp, rfl, rfl, iN, HP.out, HM.out, S7.out.keep (by exact below_dr (Below.refl _ _))⟩
          case neg =>
            rw [if_neg hmin] at hm'
            have HM := Lib.hid hm'
            replace hmin : f < X := by omega
            clear hm'
            go_wp2
            go_region_held3 (fun V => V.cell? ⟨w.heap.size, 1, none⟩ = some (.slice (some ⟨b1, o1, none⟩) n ca) ∧ V.cell? ⟨gb, t, none⟩ = some (.int .i64 z) ∧ V.cell? ⟨b1, o1 + k * 3, none⟩ = some (.int .i64 (F : Int)) ∧ V.cell? ⟨b1, o1 + k * 3 + 1, none⟩ = some (.int .i64 (T : Int)) ∧ V.cell? ⟨b1, o1 + k * 3 + 2, none⟩ = some (.int .i64 W))
              (first | assumption | exact ⟨p1, cb0, g1, g2, g3⟩ | exact K6 | exact K7 | fail) (fail)
            all_goals
              obtain ⟨w7, hw7⟩ : ∃ w7, ((w6.setCell ⟨wr.heap.size, 0, none⟩ (.int .i64 (F : Int))).setCell ⟨wr.heap.size, 1, none⟩ (.int .i64 (T : Int))).setCell ⟨wr.heap.size, 2, none⟩ (.int .i64 W) = w7 := ⟨_, rfl⟩
              rw [hw7] at S7 x3 x4 x5 f7 c7
              rw [hw7]
              clear hw7 hw6 x0 x1 x2 y0 y1 y2 K6 K7 X6 X7 g1 g2 g3 g4 cb0 p0 p1 HST
              go_wp2
              skip
              go_roundg gk2
              case measure => omega
              case rel => exact ⟨T, _, p', by simpa using hlp, rfl, rfl, iN, HP.out, HM.out, S7.out.keep (by exact below_dr (Below.refl _ _))⟩
    · have hno := fin_no (by omega) (by omega) hpl.out hreach
      rw [hno] at cb0
      have hr := HRUN.out.stop hreach
      clear hno
      go_wp2
      refine bodyPost_ret (v := .tuple #[.slice (some ⟨w1.heap.size, 0, none⟩) n n, .bool true]) (by simp [*, results, Try.results13, go_sem]) rfl ⟨_, rfl, ?_, ?_⟩
      · rw [hr, ← gd_row hlf]
        exact own_mono S5.out.fl.own (Nat.le_trans HB.out.size hGw)
      · exact HB.out.trans (S5.out.bw.mono HB.out.size)
end Go.Proofs.Ytilabfmnaegidaa.fl_
