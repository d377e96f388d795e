/- FnFlows returns true. -/
import Derived.Test.YtenhdpemfdecfaaFlwI
import Derived.Test.YtenhdpemfdecfaaFlwP
import Derived.Test.YtenhdpemfdecfaaNetP
import Derived.Test.YtenhdpemfdecfaaNetC
import Derived.Test.YtenhdpemfdecfaaNetE
import Derived.Test.YtenhdpemfdecfaaNetK
import Derived.Test.YtenhdpemfdecfaaNetR2
set_option linter.unusedVariables false
namespace Go.Proofs.Ytenhdpemfdecfaa.wFnFlows
open Go.RowKit Go.Proofs.Ytenhdpemfdecfaa.kit Go.Proofs.Ytenhdpemfdecfaa.lawi Go.Proofs.Ytenhdpemfdecfaa.own Go.Proofs.Ytenhdpemfdecfaa.rain Go.Proofs.Ytenhdpemfdecfaa.yrl Go.Proofs.Ytenhdpemfdecfaa.net Go.Proofs.Ytenhdpemfdecfaa.nt Go.Proofs.Ytenhdpemfdecfaa.draw Go.Proofs.Ytenhdpemfdecfaa.flw Go.Proofs.Ytenhdpemfdecfaa.fl_
/-- The drawn net's variable and the flow that is found. -/
structure FW (w W : World) (g1 : Nat) (v u : Value) (P : Int) (n : Nat) (zs fs : List Int) : Prop where
  b1 : Blk W g1 TN #[.int .i64 P, v]
  r1 : Row 3 W v n (IV zs)
  rf : Row 1 W u n (IV fs)
  bl : Below w.heap.size w W
theorem FW.keep {w W W' : World} {g1 : Nat} {v u : Value} {P : Int} {n : Nat} {zs fs : List Int} (h : FW w W g1 v u P n zs fs) (hb : Below W.heap.size W W') : FW w W' g1 v u P n zs fs :=
  ⟨h.b1.step hb, h.r1.keep hb, h.rf.keep hb, below_step h.bl hb⟩
theorem row_ex {w : World} {g : Nat} (h : Blk w g TP #[.int .i64 0, .int .i64 1, .int .i64 5, .int .i64 1, .int .i64 2, .int .i64 3]) : Row 3 w (.slice (some ⟨g, 0, none⟩) 2 2) 2 (IV exN) := by
  refine ⟨by simp [IV, exN], some ⟨g, 0, none⟩, 2, rfl, .inr ⟨g, 0, rfl, fun j u hu => ?_⟩⟩
  rcases j with _ | _ | _ | _ | _ | _ | j
  · cases hu; exact h.cell 0
  · cases hu; exact h.cell 1
  · cases hu; exact h.cell 2
  · cases hu; exact h.cell 3
  · cases hu; exact h.cell 4
  · cases hu; exact h.cell 5
  · simp [IV, exN] at hu
set_option maxRecDepth 10000000 in
set_option maxHeartbeats 4000000 in
theorem walk (w : World) (a0 : Option Addr) (len0 cap0 : Nat) (z0 : List Int) (w0 : IsRow .u8 w a0 len0 cap0 z0) :
    Calls Try.prog 4 #[.slice a0 len0 cap0] w fun e w' => e = .returned (.bool true) ∧ Below w.heap.size w w' := by
  classical
  by_cases hbig : 1048576 < len0
  · go_enter Try.func4, Try.ntmps4
    go_wp2_with fail
    refine (big_yes _ _ _ _ hbig).mono ?_; rintro e w1 ⟨rfl, rfl⟩
    go_wp2
    go_ret
    exact ⟨rfl, Below.refl _ _⟩
  · have hlen : len0 ≤ 1048576 := by omega
    have hby := w0.bytes
    have hlow : ∀ x, a0 = some x → 0 < len0 → x.block < w.heap.size := w0.lt
    have HL := Lib.hid hlow
    clear hbig w0 hlow
    go_enter Try.func4, Try.ntmps4
    go_wp2_with fail
    refine (big_no _ _ _ _ hlen).mono ?_; rintro e w1 ⟨rfl, rfl⟩
    go_wp2_with fail
    refine (drawEnds _ _ _ _ hby hlen HL.out).mono ?_; rintro e w1 ⟨P, n, zs, v, A, B, rfl, P1, P2, n9, hF, hA, hB, hAB, r1, B1⟩
    have ok := hF.ok P1 P2 n9
    have hl := hF.1
    have two : Two P n zs A B := ⟨ok, hA, hB, hAB⟩
    obtain ⟨y, hy⟩ := Wide.ex (F := pF zs) (T := pT zs) (W := pW zs) (m := n) hAB.symm
    obtain ⟨r, hr⟩ := Two.run two
    obtain ⟨hfo, hmf⟩ := Two.great two hr
    obtain ⟨x, hx⟩ : ∃ x, Go.Proofs.Ytenhdpemfdecfaa.flw.nt (pF zs) (pT zs) r A n = x := ⟨_, rfl⟩
    rw [hx] at hmf
    have hW : ∀ k, k < n → 0 ≤ pW zs k := fun k hk => (Two.wd two k hk).1
    have hW1 : ∀ k, k < n → 1 ≤ pW zs k := fun k hk => (two.1.2.2.2 k hk).2.2.2.1
    have hx0 := hmf.nonneg hW
    have hxO := hmf.le_out
    have hxy := hmf.ge_wide hW hy
    have hpos := hmf.pos (Two.pl two) hA.1 hA.2 hAB.symm hW1 hy
    obtain ⟨aV, cV, rfl⟩ := r1.shape
    have BA : Below w1.heap.size w1 (w1.alloc (.cells #[.int .i64 P, .slice aV n cV] TN)) := below_al (Below.refl _ _) _
    have X1 := Lib.hid (Blk.new w1 TN #[.int .i64 P, .slice aV n cV])
    have R1 := Lib.hid (r1.keep BA)
    have BL := Lib.hid (below_step B1 BA)
    have OK := Lib.hid ok
    have TW := Lib.hid two
    have HY := Lib.hid hy
    have HM := Lib.hid hmf
    have HRUN := Lib.hid hr
    have HSZ := Lib.hid (fsz_run two hr hmf)
    have HFK := Lib.hid (fk_run two hr)
    have HLZ := Lib.hid hl
    have HFO := Lib.hid (fun k (hk : k < n) => hfo.bd k hk)
    clear hby HL r1 B1 BA ok hr hfo hx hmf hW hW1 hl hF hy
    obtain ⟨A0, A1⟩ := hA
    obtain ⟨B0, B1'⟩ := hB
    go_wp2_with fail
    refine (impl_find _ _ _ n zs A B R1.out TW.out r HRUN.out).mono ?_; rintro e w2 ⟨fv, rfl, ho, hb⟩
    obtain ⟨aF, cF, rfl⟩ := own_shape ho
    have FF : Hid (FW w w2 w1.heap.size (.slice aV n cV) (.slice aF n cF) P n zs (rw_ r n)) := Lib.hid ⟨X1.out.step hb, R1.out.keep hb, Row.of_own ho, below_step BL.out hb⟩
    obtain ⟨g1, hg1⟩ : ∃ g, w1.heap.size = g := ⟨_, rfl⟩
    rw [hg1] at FF
    clear X1 R1 BL ho hb
    obtain ⟨p0, p1⟩ := stNet.blk_ FF.out.b1
    go_wp2_with fail
    refine (impl_great _ _ _ n zs A B x FF.out.r1 TW.out HM.out).mono ?_; rintro e w3 ⟨rfl, hb⟩
    replace FF := Lib.hid (FF.out.keep hb)
    clear hb p0 p1
    obtain ⟨p0, p1⟩ := stNet.blk_ FF.out.b1
    obtain ⟨O, hO⟩ : ∃ O, outs (pF zs) (pW zs) A n = O := ⟨_, rfl⟩
    rw [hO] at hxO
    have t1 : decide (x < 0) = false := decide_eq_false (by omega)
    have t2 : decide (x > O) = false := decide_eq_false (by omega)
    have t3 : decide (O < x) = false := decide_eq_false (by omega)
    have t4 : decide (x < y) = false := decide_eq_false (by omega)
    obtain ⟨bb, hbb⟩ : ∃ bb, decide (0 < x) = bb := ⟨_, rfl⟩
    have tb : decide (x > 0) = bb := hbb
    have tc : decide (0 < y) = bb := by rw [← hbb]; exact decide_eq_decide.2 hpos.symm
    have td : decide (y > 0) = bb := tc
    clear hpos
    go_wp2_with fail
    refine (impl_fok _ _ _ _ n n zs _ A B (by omega) FF.out.r1 FF.out.rf true ⟨fun _ => HFK.out, fun _ => rfl⟩).mono ?_; rintro e w4 ⟨rfl, hb⟩
    replace FF := Lib.hid (FF.out.keep hb)
    clear hb p0 p1
    obtain ⟨p0, p1⟩ := stNet.blk_ FF.out.b1
    go_wp2_with fail
    refine (impl_fsz _ _ _ _ n n zs _ A B (by omega) (by omega) FF.out.r1 FF.out.rf x HSZ.out).mono ?_; rintro e w5 ⟨rfl, hb⟩
    replace FF := Lib.hid (FF.out.keep hb)
    clear hb p0 p1
    obtain ⟨p0, p1⟩ := stNet.blk_ FF.out.b1
    go_wp2_with fail
    refine (spec_out _ _ _ n zs FF.out.r1 A OK.out A0 A1).mono ?_; rintro e w6 ⟨rfl, hb⟩
    replace FF := Lib.hid (FF.out.keep hb)
    clear hb p0 p1
    obtain ⟨p0, p1⟩ := stNet.blk_ FF.out.b1
    rw [hO]
    go_wp2_with fail
    refine (spec_wide_yes _ _ _ n zs FF.out.r1 A B TW.out y HY.out).mono ?_; rintro e w7 ⟨rfl, hb⟩
    replace FF := Lib.hid (FF.out.keep hb)
    clear hb p0 p1
    obtain ⟨p0, p1⟩ := stNet.blk_ FF.out.b1
    go_wp2
    clear p0 p1 hg1
    go_loopg [9] n (fun g s9 wr => ∃ k : Nat, k + g = n ∧ s9 = .int .i64 k ∧ FW w wr g1 (.slice aV n cV) (.slice aF n cF) P n zs (rw_ r n))
    case atStart => exact ⟨0, by omega, rfl, FF.out⟩
    case round =>
      clear FF
      obtain ⟨k, hkg, rfl, hf⟩ := hrel
      have FF := Lib.hid hf
      clear hf
      obtain ⟨p0, p1⟩ := stNet.blk_ FF.out.b1
      by_cases hlt : k < n
      · obtain ⟨gk, rfl⟩ : ∃ g', gk = g' + 1 := ⟨gk - 1, by omega⟩
        obtain ⟨b1, o1, rfl, hc⟩ := FF.out.r1.at_ (by omega)
        obtain ⟨b2, o2, rfl, hc2⟩ := FF.out.rf.at_ (by omega)
        obtain ⟨_, _, g3⟩ := pipe_at hc HLZ.out hlt
        have g4 : wr.cell? ⟨b2, o2 + k, none⟩ = some (.int .i64 (r k)) := by
          have h := hc2 k _ (getI (by rw [rw_len]; exact hlt))
          rwa [rw_at _ hlt] at h
        obtain ⟨f0, f1⟩ := HFO.out k hlt
        obtain ⟨uu, huu⟩ : ∃ uu, decide (0 < r k) = uu := ⟨_, rfl⟩
        have HU : Hid (uu = true ↔ Us n n (rw_ r n) (k : Int)) := Lib.hid (by
          rw [us_iff _ hlt, ← huu, decide_eq_true_iff]
          unfold gd
          rw [rw_at _ hlt])
        have huu2 : decide (r k > 0) = uu := huu
        generalize r k = f at g4 f0 f1 huu huu2
        generalize pW zs k = W at g3 f1
        have t5 : decide (f < 0) = false := decide_eq_false (by omega)
        have t6 : decide (f > W) = false := decide_eq_false (by omega)
        have t7 : decide (W < f) = false := decide_eq_false (by omega)
        have FD := Lib.hid (FF.out.keep (below_dr (Below.refl _ wr)))
        have j0 : (0 : Int) ≤ (k : Int) := by omega
        have j1 : (k : Int) < (n : Int) := by omega
        clear hc hc2
        go_wp2
        go_region_held3 (fun V => V.cell? ⟨b2, o2 + k, none⟩ = some (.int .i64 f) ∧ V.cell? ⟨g1, 0, none⟩ = some (.int .i64 P) ∧ V.cell? ⟨g1, 1, none⟩ = some (.slice (some ⟨b1, o1, none⟩) n cV) ∧ V.cell? ⟨b1, o1 + k * 3 + 2, none⟩ = some (.int .i64 W))
          (first | assumption | exact ⟨g4, p0, p1, g3⟩ | exact K9 | fail)
          (first
            | (go_at_call 26; refine (impl_used _ _ _ _ n n zs _ k (by omega) (by omega) FD.out.r1 FD.out.rf uu HU.out).mono ?_; rintro e w9 ⟨rfl, hb⟩
               have F9 := Lib.hid (FD.out.keep hb)
               have K9 := keep4 ⟨g4, p0, p1, g3⟩ (below_step (below_dr (Below.refl _ wr)) hb)
               clear hb)
            | fail)
        all_goals
          go_wp2
          go_roundg gk
          case measure => omega
          case rel => exact ⟨k + 1, by omega, by go_num, F9.out⟩
      · obtain rfl : n = k := by omega
        go_wp2_with fail
        refine (spec_turn_yes _ _ _ n zs FF.out.r1 OK.out).mono ?_; rintro e w8 ⟨u, lo, hi, rfl, ⟨ou, hlo⟩, hb⟩
        obtain ⟨aU, cU, rfl⟩ := own_shape ou.own
        obtain ⟨wA, hwA⟩ : ∃ wA, w8.alloc (.cells #[.int .i64 P, .slice aU n cU] TN) = wA := ⟨_, rfl⟩
        have BA2 : Below w8.heap.size w8 wA := hwA ▸ below_al (Below.refl _ _) _
        have X2 := Lib.hid (hwA ▸ Blk.new w8 TN #[.int .i64 P, .slice aU n cU] : Blk wA w8.heap.size TN #[.int .i64 P, .slice aU n cU])
        have R2 := Lib.hid (ou.row.keep BA2)
        replace FF := Lib.hid ((FF.out.keep hb).keep BA2)
        clear ou hlo hb BA2 p0 p1
        obtain ⟨p0, p1⟩ := stNet.blk_ FF.out.b1
        obtain ⟨i0, hi0, hz0, hz1, hz2⟩ := info_parts infoI
        go_wp2_with (at_make; refine wpList_make_full _ rfl _ _ 30 rfl wA.heap.size TI i0 (.int .i64 0) 1 Try.underlying30 hi0 hz0 hz1 _ _ _ _ n rfl rfl rfl rfl (by rw [hz2]; omega) (by unfold maxLen; omega) (Nat.le_refl _) ?_; intro w9 hown hg
                     have hb2 := below_grown hg (Nat.le_refl _) (by simp)
                     have F9 := Lib.hid (FF.out.keep hb2)
                     have X9 := Lib.hid (X2.out.step hb2)
                     have R9 := Lib.hid (R2.out.keep hb2)
                     have O9 := Lib.hid hown
                     obtain ⟨x0, x1⟩ := stNet.blk_ X9.out
                     clear hown hg hb2)
        have Z9 : Hid (Row 1 w9 (.slice (some ⟨wA.heap.size, 0, none⟩) n n) n (IV (List.replicate n 0))) := by
          have h := O9.out
          rw [show (madeCells (Value.int .i64 0).cells (n * 1)).toList = IV (List.replicate n 0) by
            show (madeCells #[Value.int .i64 0] (n * 1)).toList = _
            rw [toList_madeCells_one]; simp [IV]] at h
          exact Lib.hid (Row.of_own h)
        clear p0 p1 FF X2 R2 O9 hwA hz0 hz1 hz2 hi0
        go_wp2_with fail
        refine (impl_great _ _ _ n _ B A x R9.out (two_turned TW.out) (mf_turned TW.out HM.out)).mono ?_; rintro e w10 ⟨rfl, hb⟩
        have FF := Lib.hid (F9.out.keep hb)
        replace Z9 := Lib.hid (Z9.out.keep hb)
        clear hb x0 x1 F9 X9 R9
        obtain ⟨p0, p1⟩ := stNet.blk_ FF.out.b1
        go_wp2_with fail
        refine (impl_fsz _ _ _ _ n n zs _ A B (by omega) (by omega) FF.out.r1 Z9.out 0 (fsz_zero TW.out)).mono ?_; rintro e w11 ⟨rfl, hb⟩
        replace FF := Lib.hid (FF.out.keep hb)
        clear hb p0 p1
        obtain ⟨p0, p1⟩ := stNet.blk_ FF.out.b1
        go_wp2_with fail
        refine (spec_wide_yes _ _ _ n zs FF.out.r1 A B TW.out y HY.out).mono ?_; rintro e w12 ⟨rfl, hb⟩
        replace FF := Lib.hid (FF.out.keep hb)
        clear hb p0 p1
        go_wp2_with fail
        refine (impl_great _ _ _ 2 exN 0 2 3 (row_ex (Blk.new _ _ _)) ex_two ex_mf).mono ?_; rintro e w13 ⟨rfl, hb⟩
        have BE := below_step (below_al FF.out.bl (.cells #[.int .i64 0, .int .i64 1, .int .i64 5, .int .i64 1, .int .i64 2, .int .i64 3] TP)) hb
        clear hb
        go_wp2
        go_ret
        exact ⟨rfl, BE⟩
end Go.Proofs.Ytenhdpemfdecfaa.wFnFlows
