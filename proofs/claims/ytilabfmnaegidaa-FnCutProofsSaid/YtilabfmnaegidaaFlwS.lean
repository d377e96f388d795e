/- Flows: the specification's FlowOk. -/
import Derived.Test.YtilabfmnaegidaaNetC
import Derived.Test.YtilabfmnaegidaaNetI
import Derived.Test.YtilabfmnaegidaaFlwL
import Derived.Test.YtilabfmnaegidaaTake
namespace Go.Proofs.Ytilabfmnaegidaa.fl_
open Go.RowKit Go.Proofs.Ytilabfmnaegidaa.kit Go.Proofs.Ytilabfmnaegidaa.lawi Go.Proofs.Ytilabfmnaegidaa.own Go.Proofs.Ytilabfmnaegidaa.rain Go.Proofs.Ytilabfmnaegidaa.yrl Go.Proofs.Ytilabfmnaegidaa.net Go.Proofs.Ytilabfmnaegidaa.nt Go.Proofs.Ytilabfmnaegidaa.flw Go.Proofs.Ytilabfmnaegidaa.take
/-- The amounts of a list. -/
def gd (fs : List Int) (k : Nat) : Int := fs.getD k 0
/-- The amounts of a list are a flow. -/
def FK (P : Int) (n : Nat) (zs : List Int) (m : Nat) (fs : List Int) (a b : Int) : Prop := Two P n zs a b ∧ m = n ∧ FO (pF zs) (pT zs) (pW zs) (gd fs) n P a b
/-- What is in each place, behind the first k pipes. -/
def sums (zs fs : List Int) (P k : Nat) : List Int := rw_ (fun v => - Go.Proofs.Ytilabfmnaegidaa.flw.nt (pF zs) (pT zs) (gd fs) (v : Int) k) P
theorem sums_len (zs fs : List Int) (P k : Nat) : (sums zs fs P k).length = P := rw_len _ _
theorem sums_zero (zs fs : List Int) (P : Nat) : sums zs fs P 0 = List.replicate P 0 := by
  refine List.ext_getElem (by simp [sums_len]) fun i h1 h2 => ?_
  simp [sums, rw_, Go.Proofs.Ytilabfmnaegidaa.flw.nt]
theorem sums_at (zs fs : List Int) {P v : Nat} (k : Nat) (h : v < P) : (sums zs fs P k).getD v 0 = - Go.Proofs.Ytilabfmnaegidaa.flw.nt (pF zs) (pT zs) (gd fs) (v : Int) k := rw_at _ h
/-- Two stores add the next pipe. -/
theorem sums_succ (zs fs : List Int) {P k F T : Nat} (hF : F < P) (hT : T < P) (eF : pF zs k = (F : Int)) (eT : pT zs k = (T : Int)) :
    ((sums zs fs P k).set F ((sums zs fs P k).getD F 0 - gd fs k)).set T (((sums zs fs P k).set F ((sums zs fs P k).getD F 0 - gd fs k)).getD T 0 + gd fs k) = sums zs fs P (k + 1) := by
  refine List.ext_getElem (by simp [sums_len]) fun i h1 h2 => ?_
  have hi : i < P := by simpa [sums_len] using h2
  have e2 : (sums zs fs P (k + 1))[i] = (sums zs fs P (k + 1)).getD i 0 := by rw [List.getD_eq_getElem?_getD, List.getElem?_eq_getElem h2]; rfl
  have e3 : (sums zs fs P k)[i]'(by rw [sums_len]; exact hi) = (sums zs fs P k).getD i 0 := by rw [List.getD_eq_getElem?_getD, List.getElem?_eq_getElem (by rw [sums_len]; exact hi)]; rfl
  rw [e2, sums_at zs fs _ hi, Go.Proofs.Ytilabfmnaegidaa.flw.nt, eF, eT, List.getElem_set, List.getElem_set, e3, sums_at zs fs _ hi]
  have e4 : ((sums zs fs P k).set F ((sums zs fs P k).getD F 0 - gd fs k)).getD T 0 = if F = T then (sums zs fs P k).getD F 0 - gd fs k else (sums zs fs P k).getD T 0 := by
    rw [List.getD_eq_getElem?_getD, List.getElem?_set]
    split
    · rw [if_pos (by rw [sums_len]; omega)]; rfl
    · rw [← List.getD_eq_getElem?_getD]
  rw [e4, sums_at zs fs _ hF, sums_at zs fs _ hT]
  by_cases h1 : T = i
  · subst h1
    rw [if_pos rfl, if_pos rfl]
    by_cases h2 : F = T
    · subst h2
      rw [if_pos rfl, if_pos rfl]; omega
    · rw [if_neg h2, if_neg (show ¬ ((F : Int) = T) by omega)]; omega
  · rw [if_neg h1, if_neg (show ¬ ((T : Int) = i) by omega)]
    by_cases h2 : F = i
    · subst h2
      rw [if_pos rfl, if_pos rfl]; omega
    · rw [if_neg h2, if_neg (show ¬ ((F : Int) = i) by omega)]; omega
/-- What the tests say of FlowOk's answer. -/
structure FAns (P : Int) (n : Nat) (zs fs : List Int) (a b : Int) (r : Bool) : Prop where
  bad : ∀ k, k < n → ¬ (0 ≤ gd fs k ∧ gd fs k ≤ pW zs k) → r = false
  lost : ∀ v, 0 ≤ v → v < P → v ≠ a → v ≠ b → Go.Proofs.Ytilabfmnaegidaa.flw.nt (pF zs) (pT zs) (gd fs) v n ≠ 0 → r = false
  good : (∀ k, k < n → 0 ≤ gd fs k ∧ gd fs k ≤ pW zs k) → (∀ v, 0 ≤ v → v < P → v ≠ a → v ≠ b → Go.Proofs.Ytilabfmnaegidaa.flw.nt (pF zs) (pT zs) (gd fs) v n = 0) → r = true
theorem FAns.of {P : Int} {n : Nat} {zs fs : List Int} {a b : Int} {r : Bool} (two : Two P n zs a b) (h : r = true ↔ FK P n zs n fs a b) : FAns P n zs fs a b r := by
  refine ⟨fun k hk hn => ?_, fun v h0 h1 h2 h3 hn => ?_, fun h1 h2 => h.2 ⟨two, rfl, ⟨h1, h2⟩⟩⟩
  · cases r
    · rfl
    · exact absurd ((h.1 rfl).2.2.bd k hk) hn
  · cases r
    · rfl
    · exact absurd ((h.1 rfl).2.2.kp v h0 h1 h2 h3) hn
theorem keepT {W : World} {p p' : Addr} {v v' : Value} {q a : Nat} {x : Value} (h : W.cell? p = some v ∧ W.cell? p' = some v') (n : p.block ≠ q) (n' : p'.block ≠ q) :
    (W.setCell ⟨q, a, none⟩ x).cell? p = some v ∧ (W.setCell ⟨q, a, none⟩ x).cell? p' = some v' :=
  ⟨by rw [← h.1]; exact World.cell?_setCell_other _ _ _ _ (fun e => n (by rw [← e])), by rw [← h.2]; exact World.cell?_setCell_other _ _ _ _ (fun e => n' (by rw [← e]))⟩
theorem keepT1 {W : World} {p : Addr} {v : Value} {q a : Nat} {x : Value} (h : W.cell? p = some v) (n : p.block ≠ q) : (W.setCell ⟨q, a, none⟩ x).cell? p = some v := by
  rw [← h]; exact World.cell?_setCell_other _ _ _ _ (fun e => n (by rw [← e]))
theorem OwnR.drew {w : World} {lo hi : Nat} {e : TypeId} {sz : Nat} {v : Value} {n : Nat} {xs : List Value} (h : OwnR w lo hi e sz v n xs) : OwnR w.drew lo hi e sz v n xs := h.keep (below_dr (Below.refl _ _))
/-- A set amount in a row of ints that a call owns. -/
theorem own_iv {w : World} {g e P : Nat} {v : Value} {xs : List Int} (h : OwnR w g (g + 1) e 1 v P (IV xs)) (hv : v.ownBlock = some g) (j : Nat) (x : Int) : OwnR (w.setCell ⟨g, j, none⟩ (.int .i64 x)) g (g + 1) e 1 v P (IV (xs.set j x)) := by
  have h1 := own_set h.1 hv j (.int .i64 x)
  rw [show (IV xs).set j (.int .i64 x) = IV (xs.set j x) by simp [IV, List.map_set]] at h1
  exact ⟨h1, h.2.1, by simpa using h.2.2⟩
theorem pb_succ {zs fs : List Int} {k : Nat} (h : ∀ j, j < k → 0 ≤ gd fs j ∧ gd fs j ≤ pW zs j) (h1 : 0 ≤ gd fs k ∧ gd fs k ≤ pW zs k) : ∀ j, j < k + 1 → 0 ≤ gd fs j ∧ gd fs j ≤ pW zs j := fun j hj => by
  rcases Nat.lt_succ_iff_lt_or_eq.1 hj with h2 | rfl
  · exact h j h2
  · exact h1
set_option maxHeartbeats 4000000 in
theorem spec_fok_in (w : World) (P : Nat) (v u : Value) (n : Nat) (zs fs : List Int) (a b : Int) (hr : Row 3 w v n (IV zs)) (hf : Row 1 w u n (IV fs)) (two : Two (P : Int) n zs a b) (r : Bool) (hb : r = true ↔ FK P n zs n fs a b) :
    Calls Try.prog 60 #[Nv P v, u, .int .i64 a, .int .i64 b] w (Gives w (.bool r)) := by
  obtain ⟨i0, hi, hz0, hz1, hz2⟩ := info_parts infoI
  obtain ⟨av, ca, rfl⟩ := hr.shape
  obtain ⟨au, cu, rfl⟩ := hf.shape
  have hl : zs.length = n * 3 := by simpa using hr.1
  have hlf : fs.length = n := by simpa using hf.1
  have ok := two.1
  have hn := ok.2.2.1
  have hP8 : P ≤ 8 := by have := ok.2.1; omega
  obtain ⟨w0, hw0⟩ : ∃ w0, w.alloc (.cells #[.int .i64 (P : Int), .slice av n ca] TN) = w0 := ⟨_, rfl⟩
  have B0 : Below w.heap.size w w0 := hw0 ▸ below_al (Below.refl _ _) _
  have HX : Hid (Blk w0 w.heap.size TN #[.int .i64 (P : Int), .slice av n ca]) := Lib.hid (hw0 ▸ Blk.new w TN #[.int .i64 (P : Int), .slice av n ca])
  have HR := Lib.hid (hr.keep B0)
  have HF := Lib.hid (hf.keep B0)
  have OK := Lib.hid ok
  have TW := Lib.hid two
  have HB := Lib.hid B0
  have A := Lib.hid (FAns.of two hb)
  obtain ⟨p0, p1⟩ := stNet.blk_ HX.out
  clear hr hf ok two B0 hb
  go_enter Try.func60, Try.ntmps60
  go_wp2_with fail
  refine (spec_two _ _ _ n zs (by omega) HR.out a b true ⟨fun _ => TW.out, fun _ => rfl⟩).mono ?_; rintro e w1 ⟨rfl, hb1⟩
  have hX1 := HX.out.step hb1
  obtain ⟨q0, q1⟩ := stNet.blk_ hX1
  have HL := Lib.hid hb1
  clear p0 p1 hw0 hb1 hX1
  go_wp2_with (at_make; refine wpList_make_full _ rfl _ _ 30 rfl w1.heap.size TI i0 (.int .i64 0) 1 Try.underlying30 hi hz0 hz1 _ _ _ _ P rfl rfl rfl rfl (by rw [hz2]; omega) (by unfold maxLen; omega) (Nat.le_refl _) ?_; intro w2 hown hg
               have hb2 := below_grown hg (Nat.le_refl _) (by simp)
               have L2 := Lib.hid (below_step HL.out hb2)
               have O2 := Lib.hid hown
               have Z2 := Lib.hid hg.size
               replace q0 := keep1 q0 hb2
               replace q1 := keep1 q1 hb2
               clear hown hg hb2)
  clear q0 q1
  have hGw := HL.out.size
  have O3 : Hid (OwnR w2 w1.heap.size (w1.heap.size + 1) TI 1 (.slice (some ⟨w1.heap.size, 0, none⟩) P P) P (IV (sums zs fs P 0))) := by
    have h := O2.out
    rw [show (madeCells (Value.int .i64 0).cells (P * 1)).toList = IV (sums zs fs P 0) by
      show (madeCells #[Value.int .i64 0] (P * 1)).toList = _
      rw [toList_madeCells_one, sums_zero]; simp [IV]] at h
    exact Lib.hid ⟨h, fun b hb => by cases hb; exact Nat.lt_succ_self _, (h.lt _ rfl).2⟩
  clear O2 Z2 HL hz0 hz1 hz2 hi
  go_wp2
  go_loopg [10] n (fun g s10 wr => ∃ k : Nat, k + g = n ∧ s10 = .int .i64 k ∧ (∀ j, j < k → 0 ≤ gd fs j ∧ gd fs j ≤ pW zs j) ∧ OwnR wr w1.heap.size (w1.heap.size + 1) TI 1 (.slice (some ⟨w1.heap.size, 0, none⟩) P P) P (IV (sums zs fs P k)) ∧ Below w0.heap.size w0 wr)
  case atStart => exact ⟨0, by omega, rfl, fun j hj => by omega, O3.out, L2.out⟩
  case round =>
    clear O3 L2
    obtain ⟨k, hkg, rfl, hbd, hown, hbel⟩ := hrel
    obtain ⟨p0, p1⟩ := stNet.blk_ (HX.out.step hbel)
    by_cases hlt : k < n
    · obtain ⟨gk, rfl⟩ : ∃ g', gk = g' + 1 := ⟨gk - 1, by omega⟩
      obtain ⟨b1, o1, rfl, h1⟩ := (HR.out.keep hbel).at_ (by omega)
      obtain ⟨g1, g2, g3⟩ := pipe_at h1 hl hlt
      obtain ⟨b2, o2, rfl, h2⟩ := (HF.out.keep hbel).at_ (by omega)
      have g4 : wr.cell? ⟨b2, o2 + k, none⟩ = some (.int .i64 (gd fs k)) := h2 k _ (getI (by omega))
      obtain ⟨⟨F0, F1⟩, ⟨T0, T1⟩, FT, W0, W1⟩ := OK.out.2.2.2 k hlt
      obtain ⟨F, hF⟩ : ∃ F : Nat, pF zs k = (F : Int) := ⟨(pF zs k).toNat, by omega⟩
      obtain ⟨T, hT⟩ : ∃ T : Nat, pT zs k = (T : Int) := ⟨(pT zs k).toNat, by omega⟩
      have HSU := Lib.hid (sums_succ zs fs (P := P) (k := k) (F := F) (T := T) (by omega) (by omega) hF hT)
      have hbad := A.out.bad k hlt
      have hcap : ∀ j, j < k → 0 ≤ gd fs j ∧ gd fs j ≤ 1000 := fun j hj => by have := hbd j hj; have := (OK.out.2.2.2 j (by omega)).2.2.2.2; omega
      have y0 := Go.Proofs.Ytilabfmnaegidaa.flw.nt_bd (F := pF zs) (T := pT zs) (v := (F : Int)) k hcap
      have y1 := Go.Proofs.Ytilabfmnaegidaa.flw.nt_bd (F := pF zs) (T := pT zs) (v := (T : Int)) k hcap
      rw [hF] at g1 F0 F1 FT
      rw [hT] at g2 T0 T1 FT
      have hGr := (hown.own.lt _ rfl).2
      have hb2 : b2 < w0.heap.size := by
        obtain ⟨b', o', e, h⟩ := HF.out.at_ (by omega)
        cases e
        exact World.block_lt_of_cell? w0 _ (h k _ (getI (by omega)))
      have hbs := pb_succ hbd
      clear hF hT hcap
      generalize pW zs k = W at g3 W0 W1 hbad hbs
      generalize hf : gd fs k = f at g4 hbad hbs
      obtain ⟨x, hx⟩ : ∃ x, (sums zs fs P k).getD F 0 = x := ⟨_, rfl⟩
      obtain ⟨y, hy⟩ : ∃ y, ((sums zs fs P k).set F (x - f)).getD T 0 = y := ⟨_, rfl⟩
      have hx1 : x = - Go.Proofs.Ytilabfmnaegidaa.flw.nt (pF zs) (pT zs) (gd fs) (F : Int) k := by rw [← hx]; exact sums_at zs fs k (by omega)
      have hy1 : y = - Go.Proofs.Ytilabfmnaegidaa.flw.nt (pF zs) (pT zs) (gd fs) (T : Int) k := by
        rw [← hy, List.getD_eq_getElem?_getD, List.getElem?_set, if_neg (by omega), ← List.getD_eq_getElem?_getD]; exact sums_at zs fs k (by omega)
      rw [hx, hf, hy] at HSU
      generalize Go.Proofs.Ytilabfmnaegidaa.flw.nt (pF zs) (pT zs) (gd fs) (F : Int) k = x' at y0 hx1
      generalize Go.Proofs.Ytilabfmnaegidaa.flw.nt (pF zs) (pT zs) (gd fs) (T : Int) k = y' at y1 hy1
      obtain ⟨w4, hw4⟩ : ∃ w4, wr.alloc (.cells #[.int .i64 (F : Int), .int .i64 (T : Int), .int .i64 W] TP) = w4 := ⟨_, rfl⟩
      obtain ⟨d0, d1, d2⟩ := stPipe3 (hw4 ▸ Blk.new wr TP #[.int .i64 (F : Int), .int .i64 (T : Int), .int .i64 W] : Blk w4 wr.heap.size TP #[.int .i64 (F : Int), .int .i64 (T : Int), .int .i64 W])
      have b4 : Below wr.heap.size wr w4 := hw4 ▸ below_al (Below.refl _ _) _
      have f4 := keep1 g4 b4
      have HO := Lib.hid (hown.keep b4)
      have L4 := Lib.hid (below_step hbel b4)
      have HS := Lib.hid hbs
      have HY := Lib.hid hy
      have HX1 := Lib.hid hx
      clear h1 h2 hbd hown hbel b4 hbs hx hy
      by_cases hin : 0 ≤ f ∧ f ≤ W
      · clear hbad
        go_wp2
        go_region_held3 (fun V => V.cell? ⟨b2, o2 + k, none⟩ = some (.int .i64 f) ∧ V.cell? ⟨wr.heap.size, 2, none⟩ = some (.int .i64 W)) (first | assumption | exact ⟨f4, d2⟩ | fail)
          (first | (go_at_call 55; refine (in_yes _ _ _ _ hin.1 hin.2).mono ?_; rintro e w5 ⟨rfl, rfl⟩) | fail)
        all_goals
          have e1 : IntKind.i64.wrap (x - f) = x - f := IntWalk.i64_in _ (by omega)
          have e2 : IntKind.i64.wrap (y + f) = y + f := IntWalk.i64_in _ (by omega)
          have iF : F < P := by omega
          have iT : T < P := by omega
          have c0 := own_cell HO.out.own (g := w1.heap.size) rfl F _ (getI (by rw [sums_len]; omega))
          rw [HX1.out] at c0
          have z0 := own_free HO.out.own (g := w1.heap.size) rfl F
          have n1 : wr.heap.size ≠ w1.heap.size := by omega
          have n2 : b2 ≠ w1.heap.size := by omega
          have T1 := Lib.hid (own_iv HO.out rfl F (x - f))
          have z1 := own_free T1.out.own (g := w1.heap.size) rfl T
          have c1 := own_cell T1.out.own (g := w1.heap.size) rfl T _ (getI (by rw [List.length_set, sums_len]; omega))
          rw [HY.out] at c1
          have T2 := Lib.hid (own_iv T1.out rfl T (y + f))
          rw [HSU.out] at T2
          have f5 := keepT1 (a := F) (x := .int .i64 (x - f)) (W := w4) f4 n2
          have d5 := keepT1 (a := F) (x := .int .i64 (x - f)) (W := w4) d1 n1
          clear y0 y1 hx1 hy1
          go_wp2
          refine wp_region_held_drew (S := fun V => V.cell? ⟨b2, o2 + k, none⟩ = some (.int .i64 f) ∧ V.cell? ⟨wr.heap.size, 0, none⟩ = some (.int .i64 (F : Int))) (by kernel_rfl) ⟨f4, d0⟩ (fun hHeld => ?_)
          refine takeH 0 (by simp only [List.getElem?_toArray, List.getElem?_cons_zero]; rfl) (by kernel_rfl) (by kernel_rfl) (by kernel_rfl) (by rfl) (by intro w hSw; (try dsimp only at hSw); go_simp; first | done | with_reducible rfl) (by intro _ _ _ h; exact h) (by assumption) ?_
          (try simp only [Act.put, List.setIfInBounds_toArray, List.set_cons_zero, List.set_cons_succ])
          refine takeH 1 (by simp only [List.getElem?_toArray, List.getElem?_cons_succ, List.getElem?_cons_zero]; rfl) (by kernel_rfl) (by kernel_rfl) (by kernel_rfl) (by rfl) (by intro w hSw; (try dsimp only at hSw); go_simp; first | done | with_reducible rfl) (by intro _ _ _ h; exact h) (by assumption) ?_
          (try simp only [Act.put, List.setIfInBounds_toArray, List.set_cons_zero, List.set_cons_succ])
          refine takeH 2 (by simp only [List.getElem?_toArray, List.getElem?_cons_succ, List.getElem?_cons_zero]; rfl) (by kernel_rfl) (by kernel_rfl) (by kernel_rfl) (by rfl) (by intro w hSw; (try dsimp only at hSw); go_simp; first | done | with_reducible rfl) (by intro _ _ _ h; exact h) (by assumption) ?_
          (try simp only [Act.put, List.setIfInBounds_toArray, List.set_cons_zero, List.set_cons_succ])
          refine takeH 3 (by simp only [List.getElem?_toArray, List.getElem?_cons_succ, List.getElem?_cons_zero]; rfl) (by kernel_rfl) (by kernel_rfl) (by kernel_rfl) (by rfl) (by intro w hSw; (try dsimp only at hSw); go_simp; first | done | with_reducible rfl) (by intro _ _ _ h; exact h) (by assumption) ?_
          (try simp only [Act.put, List.setIfInBounds_toArray, List.set_cons_zero, List.set_cons_succ])
          refine takeH 4 (by simp only [List.getElem?_toArray, List.getElem?_cons_succ, List.getElem?_cons_zero]; rfl) (by kernel_rfl) (by kernel_rfl) (by kernel_rfl) (by rfl) (by intro w hSw; (try dsimp only at hSw); go_simp; first | done | with_reducible rfl) (by intro _ _ _ h; exact h) (by assumption) ?_
          (try simp only [Act.put, List.setIfInBounds_toArray, List.set_cons_zero, List.set_cons_succ])
          refine takeH 5 (by simp only [List.getElem?_toArray, List.getElem?_cons_succ, List.getElem?_cons_zero]; rfl) (by kernel_rfl) (by kernel_rfl) (by kernel_rfl) (by rfl) (by intro w hSw; (try dsimp only at hSw); go_simp; first | done | with_reducible rfl) (by intro _ _ _ h; exact h) (by assumption) ?_
          (try simp only [Act.put, List.setIfInBounds_toArray, List.set_cons_zero, List.set_cons_succ])
          refine takeH 6 (by simp only [List.getElem?_toArray, List.getElem?_cons_succ, List.getElem?_cons_zero]; rfl) (by kernel_rfl) (by kernel_rfl) (by kernel_rfl) (by rfl) (by intro w hSw; (try dsimp only at hSw); go_simp; first | done | with_reducible rfl) (by intro _ _ _ h; exact h) (by assumption) ?_
          (try simp only [Act.put, List.setIfInBounds_toArray, List.set_cons_zero, List.set_cons_succ])
          refine takeH 8 (by simp only [List.getElem?_toArray, List.getElem?_cons_succ, List.getElem?_cons_zero]; rfl) (by kernel_rfl) (by kernel_rfl) (by kernel_rfl) (by rfl) (by intro w hSw; (try dsimp only at hSw); go_simp; first | done | with_reducible rfl) (by intro _ _ _ h; exact h) (by assumption) ?_
          (try simp only [Act.put, List.setIfInBounds_toArray, List.set_cons_zero, List.set_cons_succ])
          refine takeH 9 (by simp only [List.getElem?_toArray, List.getElem?_cons_succ, List.getElem?_cons_zero]; rfl) (by kernel_rfl) (by kernel_rfl) (by kernel_rfl) (by rfl) (by intro w hSw; (try dsimp only at hSw); go_simp; first | done | with_reducible rfl) (by intro _ _ _ h; exact h) (by assumption) ?_
          (try simp only [Act.put, List.setIfInBounds_toArray, List.set_cons_zero, List.set_cons_succ])
          refine takeH 10 (by simp only [List.getElem?_toArray, List.getElem?_cons_succ, List.getElem?_cons_zero]; rfl) (by kernel_rfl) (by kernel_rfl) (by kernel_rfl) (by rfl) (by intro w hSw; (try dsimp only at hSw); go_simp; first | done | with_reducible rfl) (by intro _ _ _ h; exact h) (by assumption) ?_
          (try simp only [Act.put, List.setIfInBounds_toArray, List.set_cons_zero, List.set_cons_succ])
          refine takeH 11 (by simp only [List.getElem?_toArray, List.getElem?_cons_succ, List.getElem?_cons_zero]; rfl) (by kernel_rfl) (by kernel_rfl) (by kernel_rfl) (by rfl) (by intro w hSw; (try dsimp only at hSw); go_simp; first | done | with_reducible rfl) (by intro _ _ _ h; exact h) (by assumption) ?_
          (try simp only [Act.put, List.setIfInBounds_toArray, List.set_cons_zero, List.set_cons_succ])
          refine wpAnyH_ready (rs := [7]) (by kernel_rfl) (by simp) (AllReadyH.cons (by simp only [List.getElem?_toArray, List.getElem?_cons_succ, List.getElem?_cons_zero]; rfl) (fun K hK => ?_) AllReadyH.nil)
          go_simp
          refine hK.out _ _ (⟨f4, d0⟩) (fun hHeld => ?_)
          clear hK K
          (try simp only [Act.put, List.setIfInBounds_toArray, List.set_cons_zero, List.set_cons_succ])
          refine takeH 12 (by simp only [List.getElem?_toArray, List.getElem?_cons_succ, List.getElem?_cons_zero]; rfl) (by kernel_rfl) (by kernel_rfl) (by kernel_rfl) (by rfl) (by intro w hSw; (try dsimp only at hSw); go_simp; first | done | with_reducible rfl) (by intro _ _ _ h; exact h) (by assumption) ?_
          (try simp only [Act.put, List.setIfInBounds_toArray, List.set_cons_zero, List.set_cons_succ])
          refine takeH 13 (by simp only [List.getElem?_toArray, List.getElem?_cons_succ, List.getElem?_cons_zero]; rfl) (by kernel_rfl) (by kernel_rfl) (by kernel_rfl) (by rfl) (by intro w hSw; (try dsimp only at hSw); go_simp; first | done | with_reducible rfl) (by intro _ _ _ h; exact h) (by assumption) ?_
          (try simp only [Act.put, List.setIfInBounds_toArray, List.set_cons_zero, List.set_cons_succ])
          refine wpAnyH_ready (rs := [14]) (by kernel_rfl) (by simp) (AllReadyH.cons (by simp only [List.getElem?_toArray, List.getElem?_cons_succ, List.getElem?_cons_zero]; rfl) (fun K hK => ?_) AllReadyH.nil)
          go_simp
          refine hK.out _ _ (keepT hHeld n2 n1) (fun hHeld => ?_)
          clear hK K
          (try simp only [Act.put, List.setIfInBounds_toArray, List.set_cons_zero, List.set_cons_succ])
          refine wpAnyH_done (by kernel_rfl) ?_ _
          clear c0 z0 e1 hHeld
          go_wp2
          refine wp_region_held_drew (S := fun V => V.cell? ⟨b2, o2 + k, none⟩ = some (.int .i64 f) ∧ V.cell? ⟨wr.heap.size, 1, none⟩ = some (.int .i64 (T : Int))) (by kernel_rfl) ⟨f5, d5⟩ (fun hHeld => ?_)
          refine takeH 0 (by simp only [List.getElem?_toArray, List.getElem?_cons_zero]; rfl) (by kernel_rfl) (by kernel_rfl) (by kernel_rfl) (by rfl) (by intro w hSw; (try dsimp only at hSw); go_simp; first | done | with_reducible rfl) (by intro _ _ _ h; exact h) (by assumption) ?_
          (try simp only [Act.put, List.setIfInBounds_toArray, List.set_cons_zero, List.set_cons_succ])
          refine takeH 1 (by simp only [List.getElem?_toArray, List.getElem?_cons_succ, List.getElem?_cons_zero]; rfl) (by kernel_rfl) (by kernel_rfl) (by kernel_rfl) (by rfl) (by intro w hSw; (try dsimp only at hSw); go_simp; first | done | with_reducible rfl) (by intro _ _ _ h; exact h) (by assumption) ?_
          (try simp only [Act.put, List.setIfInBounds_toArray, List.set_cons_zero, List.set_cons_succ])
          refine takeH 2 (by simp only [List.getElem?_toArray, List.getElem?_cons_succ, List.getElem?_cons_zero]; rfl) (by kernel_rfl) (by kernel_rfl) (by kernel_rfl) (by rfl) (by intro w hSw; (try dsimp only at hSw); go_simp; first | done | with_reducible rfl) (by intro _ _ _ h; exact h) (by assumption) ?_
          (try simp only [Act.put, List.setIfInBounds_toArray, List.set_cons_zero, List.set_cons_succ])
          refine takeH 3 (by simp only [List.getElem?_toArray, List.getElem?_cons_succ, List.getElem?_cons_zero]; rfl) (by kernel_rfl) (by kernel_rfl) (by kernel_rfl) (by rfl) (by intro w hSw; (try dsimp only at hSw); go_simp; first | done | with_reducible rfl) (by intro _ _ _ h; exact h) (by assumption) ?_
          (try simp only [Act.put, List.setIfInBounds_toArray, List.set_cons_zero, List.set_cons_succ])
          refine takeH 4 (by simp only [List.getElem?_toArray, List.getElem?_cons_succ, List.getElem?_cons_zero]; rfl) (by kernel_rfl) (by kernel_rfl) (by kernel_rfl) (by rfl) (by intro w hSw; (try dsimp only at hSw); go_simp; first | done | with_reducible rfl) (by intro _ _ _ h; exact h) (by assumption) ?_
          (try simp only [Act.put, List.setIfInBounds_toArray, List.set_cons_zero, List.set_cons_succ])
          refine takeH 5 (by simp only [List.getElem?_toArray, List.getElem?_cons_succ, List.getElem?_cons_zero]; rfl) (by kernel_rfl) (by kernel_rfl) (by kernel_rfl) (by rfl) (by intro w hSw; (try dsimp only at hSw); go_simp; first | done | with_reducible rfl) (by intro _ _ _ h; exact h) (by assumption) ?_
          (try simp only [Act.put, List.setIfInBounds_toArray, List.set_cons_zero, List.set_cons_succ])
          refine takeH 6 (by simp only [List.getElem?_toArray, List.getElem?_cons_succ, List.getElem?_cons_zero]; rfl) (by kernel_rfl) (by kernel_rfl) (by kernel_rfl) (by rfl) (by intro w hSw; (try dsimp only at hSw); go_simp; first | done | with_reducible rfl) (by intro _ _ _ h; exact h) (by assumption) ?_
          (try simp only [Act.put, List.setIfInBounds_toArray, List.set_cons_zero, List.set_cons_succ])
          refine takeH 8 (by simp only [List.getElem?_toArray, List.getElem?_cons_succ, List.getElem?_cons_zero]; rfl) (by kernel_rfl) (by kernel_rfl) (by kernel_rfl) (by rfl) (by intro w hSw; (try dsimp only at hSw); go_simp; first | done | with_reducible rfl) (by intro _ _ _ h; exact h) (by assumption) ?_
          (try simp only [Act.put, List.setIfInBounds_toArray, List.set_cons_zero, List.set_cons_succ])
          refine takeH 9 (by simp only [List.getElem?_toArray, List.getElem?_cons_succ, List.getElem?_cons_zero]; rfl) (by kernel_rfl) (by kernel_rfl) (by kernel_rfl) (by rfl) (by intro w hSw; (try dsimp only at hSw); go_simp; first | done | with_reducible rfl) (by intro _ _ _ h; exact h) (by assumption) ?_
          (try simp only [Act.put, List.setIfInBounds_toArray, List.set_cons_zero, List.set_cons_succ])
          refine takeH 10 (by simp only [List.getElem?_toArray, List.getElem?_cons_succ, List.getElem?_cons_zero]; rfl) (by kernel_rfl) (by kernel_rfl) (by kernel_rfl) (by rfl) (by intro w hSw; (try dsimp only at hSw); go_simp; first | done | with_reducible rfl) (by intro _ _ _ h; exact h) (by assumption) ?_
          (try simp only [Act.put, List.setIfInBounds_toArray, List.set_cons_zero, List.set_cons_succ])
          refine takeH 11 (by simp only [List.getElem?_toArray, List.getElem?_cons_succ, List.getElem?_cons_zero]; rfl) (by kernel_rfl) (by kernel_rfl) (by kernel_rfl) (by rfl) (by intro w hSw; (try dsimp only at hSw); go_simp; first | done | with_reducible rfl) (by intro _ _ _ h; exact h) (by assumption) ?_
          (try simp only [Act.put, List.setIfInBounds_toArray, List.set_cons_zero, List.set_cons_succ])
          refine wpAnyH_ready (rs := [7]) (by kernel_rfl) (by simp) (AllReadyH.cons (by simp only [List.getElem?_toArray, List.getElem?_cons_succ, List.getElem?_cons_zero]; rfl) (fun K hK => ?_) AllReadyH.nil)
          go_simp
          refine hK.out _ _ (⟨f5, d5⟩) (fun hHeld => ?_)
          clear hK K
          (try simp only [Act.put, List.setIfInBounds_toArray, List.set_cons_zero, List.set_cons_succ])
          refine takeH 12 (by simp only [List.getElem?_toArray, List.getElem?_cons_succ, List.getElem?_cons_zero]; rfl) (by kernel_rfl) (by kernel_rfl) (by kernel_rfl) (by rfl) (by intro w hSw; (try dsimp only at hSw); go_simp; first | done | with_reducible rfl) (by intro _ _ _ h; exact h) (by assumption) ?_
          (try simp only [Act.put, List.setIfInBounds_toArray, List.set_cons_zero, List.set_cons_succ])
          refine takeH 13 (by simp only [List.getElem?_toArray, List.getElem?_cons_succ, List.getElem?_cons_zero]; rfl) (by kernel_rfl) (by kernel_rfl) (by kernel_rfl) (by rfl) (by intro w hSw; (try dsimp only at hSw); go_simp; first | done | with_reducible rfl) (by intro _ _ _ h; exact h) (by assumption) ?_
          (try simp only [Act.put, List.setIfInBounds_toArray, List.set_cons_zero, List.set_cons_succ])
          refine wpAnyH_ready (rs := [14]) (by kernel_rfl) (by simp) (AllReadyH.cons (by simp only [List.getElem?_toArray, List.getElem?_cons_succ, List.getElem?_cons_zero]; rfl) (fun K hK => ?_) AllReadyH.nil)
          go_simp
          refine hK.out _ _ (keepT hHeld n2 n1) (fun hHeld => ?_)
          clear hK K
          (try simp only [Act.put, List.setIfInBounds_toArray, List.set_cons_zero, List.set_cons_succ])
          refine wpAnyH_done (by kernel_rfl) ?_ _
          clear c1 z1 e2 hHeld f5 d5 f4 d0 d1 d2 g1 g2 g3 g4 p0 p1
          have LL : Below w0.heap.size w0 ((w4.setCell ⟨w1.heap.size, F, none⟩ (.int .i64 (x - f))).setCell ⟨w1.heap.size, T, none⟩ (.int .i64 (y + f))) := by
            repeat (first | exact L4.out | refine below_dr ?_ | refine Below.setCell ?_ (by simp only []; omega) _)
          go_wp2
          go_roundg gk
          case measure => omega
          case rel => exact ⟨k + 1, by omega, by go_num, HS.out hin, OwnR.drew (OwnR.drew (OwnR.drew T2.out)), below_dr (below_dr (below_dr LL))⟩
      · have hr := hbad hin
        clear hbad
        go_wp2
        go_region_held3 (fun V => V.cell? ⟨b2, o2 + k, none⟩ = some (.int .i64 f) ∧ V.cell? ⟨wr.heap.size, 2, none⟩ = some (.int .i64 W)) (first | assumption | exact ⟨f4, d2⟩ | fail)
          (first | (go_at_call 55; refine (in_no _ _ _ _ hin).mono ?_; rintro e w5 ⟨rfl, rfl⟩) | fail)
        all_goals
          go_wp2
          go_ret
          exact ⟨by rw [hr]; rfl, HB.out.trans ((below_dr L4.out).mono HB.out.size)⟩
    · obtain rfl : k = n := by omega
      have HBD := Lib.hid hbd
      have HO := Lib.hid hown
      have HL := Lib.hid hbel
      clear hbd hown hbel
      go_wp2
      go_loopg [12] P (fun g s12 wr => ∃ i : Nat, i + g = P ∧ s12 = .int .i64 i ∧ (∀ j : Nat, j < i → (j : Int) ≠ a → (j : Int) ≠ b → Go.Proofs.Ytilabfmnaegidaa.flw.nt (pF zs) (pT zs) (gd fs) (j : Int) k = 0) ∧ OwnR wr w1.heap.size (w1.heap.size + 1) TI 1 (.slice (some ⟨w1.heap.size, 0, none⟩) P P) P (IV (sums zs fs P k)) ∧ Below w0.heap.size w0 wr)
      case atStart => exact ⟨0, by omega, rfl, fun j hj => by omega, HO.out, HL.out⟩
      case round =>
        clear HO HL p0 p1
        obtain ⟨i, hig, rfl, hz, hown, hbel⟩ := hrel
        obtain ⟨p0, p1⟩ := stNet.blk_ (HX.out.step hbel)
        by_cases hlt2 : i < P
        · obtain ⟨gk2, rfl⟩ : ∃ g', gk = g' + 1 := ⟨gk - 1, by omega⟩
          have c0 := own_cell hown.own (g := w1.heap.size) rfl i _ (getI (by rw [sums_len]; omega))
          obtain ⟨x, hx⟩ : ∃ x, (sums zs fs P k).getD i 0 = x := ⟨_, rfl⟩
          have hx1 : x = - Go.Proofs.Ytilabfmnaegidaa.flw.nt (pF zs) (pT zs) (gd fs) (i : Int) k := by rw [← hx]; exact sums_at zs fs k (by omega)
          rw [hx] at c0
          have hlost := A.out.lost (i : Int) (by omega) (by omega)
          have HZ := Lib.hid hz
          have HO := Lib.hid hown
          have HL := Lib.hid hbel
          have HX1 := Lib.hid hx1
          have HLO := Lib.hid hlost
          clear hx hx1 hz hown hbel hlost
          have hstep : ((i : Int) = a ∨ (i : Int) = b ∨ x = 0) → ∀ j : Nat, j < i + 1 → (j : Int) ≠ a → (j : Int) ≠ b → Go.Proofs.Ytilabfmnaegidaa.flw.nt (pF zs) (pT zs) (gd fs) (j : Int) k = 0 := fun h j hj h1 h2 => by
            by_cases e : j < i
            · exact HZ.out j e h1 h2
            · obtain rfl : j = i := by omega
              rcases h with h | h | h
              · exact absurd h h1
              · exact absurd h h2
              · have := HX1.out; omega
          have HST := Lib.hid hstep
          clear hstep
          by_cases ha : (i : Int) = a
          · have HN := Lib.hid (HST.out (.inl ha))
            clear HLO HX1 HZ HST
            go_wp2
            go_roundg gk2
            case measure => omega
            case rel => exact ⟨i + 1, by omega, by go_num, HN.out, HO.out, HL.out⟩
          · by_cases hb : (i : Int) = b
            · have HN := Lib.hid (HST.out (.inr (.inl hb)))
              clear HLO HX1 HZ HST
              go_wp2
              go_roundg gk2
              case measure => omega
              case rel => exact ⟨i + 1, by omega, by go_num, HN.out, HO.out, HL.out⟩
            · by_cases hx : x = 0
              · have HN := Lib.hid (HST.out (.inr (.inr hx)))
                clear HLO HX1 HZ HST
                go_wp2
                go_roundg gk2
                case measure => omega
                case rel => exact ⟨i + 1, by omega, by go_num, HN.out, HO.out, HL.out⟩
              · have hr := HLO.out ha hb (by have := HX1.out; omega)
                clear HLO HX1 HZ HST
                have b1 : ((i : Int) != a) = true := bne_iff_ne.2 ha
                have b2 : ((i : Int) != b) = true := bne_iff_ne.2 hb
                have b3 : (x != 0) = true := bne_iff_ne.2 hx
                go_wp2
                go_ret
                exact ⟨by rw [hr]; rfl, HB.out.trans (HL.out.mono HB.out.size)⟩
        · obtain rfl : i = P := by omega
          have hr := A.out.good HBD.out (fun v h0 h1 h2 h3 => by
            obtain ⟨V, rfl⟩ : ∃ V : Nat, v = (V : Int) := ⟨v.toNat, by omega⟩
            exact hz V (by omega) h2 h3)
          have HL := Lib.hid hbel
          clear hz hown hbel
          go_wp2
          go_ret
          exact ⟨by rw [hr]; rfl, HB.out.trans (HL.out.mono HB.out.size)⟩
theorem spec_fok (w : World) (P : Int) (v u : Value) (n m : Nat) (zs fs : List Int) (a b : Int) (hn : n ≤ 1048576) (hr : Row 3 w v n (IV zs)) (hf : Row 1 w u m (IV fs)) (r : Bool) (hb : r = true ↔ FK P n zs m fs a b) :
    Calls Try.prog 60 #[Nv P v, u, .int .i64 a, .int .i64 b] w (Gives w (.bool r)) := by
  by_cases two : Two P n zs a b
  · by_cases hmn : m = n
    · subst hmn
      obtain ⟨R, rfl⟩ : ∃ R : Nat, P = (R : Int) := ⟨P.toNat, by have := two.1.1; omega⟩
      exact spec_fok_in w R v u m zs fs a b hr hf two r hb
    · have hr0 : r = false := by
        cases r
        · rfl
        · exact absurd (hb.1 rfl).2.1 hmn
      obtain ⟨av, ca, rfl⟩ := hr.shape
      obtain ⟨au, cu, rfl⟩ := hf.shape
      obtain ⟨w0, hw0⟩ : ∃ w0, w.alloc (.cells #[.int .i64 P, .slice av n ca] TN) = w0 := ⟨_, rfl⟩
      have B0 : Below w.heap.size w w0 := hw0 ▸ below_al (Below.refl _ _) _
      have HX : Hid (Blk w0 w.heap.size TN #[.int .i64 P, .slice av n ca]) := Lib.hid (hw0 ▸ Blk.new w TN #[.int .i64 P, .slice av n ca])
      have HR := Lib.hid (hr.keep B0)
      have TW := Lib.hid two
      have HB := Lib.hid B0
      obtain ⟨p0, p1⟩ := stNet.blk_ HX.out
      clear hr hf two B0 hb
      go_enter Try.func60, Try.ntmps60
      go_wp2_with fail
      refine (spec_two _ _ _ n zs (by omega) HR.out a b true ⟨fun _ => TW.out, fun _ => rfl⟩).mono ?_; rintro e w1 ⟨rfl, hb1⟩
      obtain ⟨q0, q1⟩ := stNet.blk_ (HX.out.step hb1)
      have e1 : ((m : Int) != (n : Int)) = true := bne_iff_ne.2 (by omega)
      go_wp2
      go_ret
      exact ⟨by rw [hr0]; rfl, HB.out.trans (hb1.mono HB.out.size)⟩
  · have hr0 : r = false := by
      cases r
      · rfl
      · exact absurd (hb.1 rfl).1 two
    obtain ⟨av, ca, rfl⟩ := hr.shape
    obtain ⟨au, cu, rfl⟩ := hf.shape
    obtain ⟨w0, hw0⟩ : ∃ w0, w.alloc (.cells #[.int .i64 P, .slice av n ca] TN) = w0 := ⟨_, rfl⟩
    have B0 : Below w.heap.size w w0 := hw0 ▸ below_al (Below.refl _ _) _
    have HX : Hid (Blk w0 w.heap.size TN #[.int .i64 P, .slice av n ca]) := Lib.hid (hw0 ▸ Blk.new w TN #[.int .i64 P, .slice av n ca])
    have HR := Lib.hid (hr.keep B0)
    have TW := Lib.hid two
    have HB := Lib.hid B0
    obtain ⟨p0, p1⟩ := stNet.blk_ HX.out
    clear hr hf two B0 hb
    go_enter Try.func60, Try.ntmps60
    go_wp2_with fail
    refine (spec_two _ _ _ n zs (by omega) HR.out a b false ⟨fun h => (by cases h), fun h => absurd h TW.out⟩).mono ?_; rintro e w1 ⟨rfl, hb1⟩
    obtain ⟨q0, q1⟩ := stNet.blk_ (HX.out.step hb1)
    go_wp2
    go_ret
    exact ⟨by rw [hr0]; rfl, HB.out.trans (hb1.mono HB.out.size)⟩
end Go.Proofs.Ytilabfmnaegidaa.fl_
