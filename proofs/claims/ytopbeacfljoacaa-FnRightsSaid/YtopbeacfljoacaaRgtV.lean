/- Rights: the program's moveShare. -/
import Derived.Test.YtopbeacfljoacaaRgtU
namespace Go.Proofs.Ytopbeacfljoacaa.rgt
open Go.RowKit Go.Maps Go.Proofs.Ytopbeacfljoacaa.kit Go.Proofs.Ytopbeacfljoacaa.lawi Go.Proofs.Ytopbeacfljoacaa.own Go.Proofs.Ytopbeacfljoacaa.rain Go.Proofs.Ytopbeacfljoacaa.yrl Go.Proofs.Ytopbeacfljoacaa.frc Go.Proofs.Ytopbeacfljoacaa.stRight Go.Proofs.Ytopbeacfljoacaa.later Go.Proofs.Ytopbeacfljoacaa.apart Go.Proofs.Ytopbeacfljoacaa.mapv
set_option maxRecDepth 100000 in
set_option maxHeartbeats 2000000 in
theorem impl_mv_none (w : World) (b n : Nat) (g : Int → Option (Int × Int)) (fr tw pt pb : Int) (hM : MapV Try.prog TI w b n (Fm g)) (wff : (Lit.int .i64 fr).wf = true) (h : g fr = none) :
    Calls Try.prog 64 #[.map (some b), .int .i64 fr, .int .i64 tw, stFraction.R pt pb] w (Gives w (.bool false)) := by
  obtain ⟨w0, hw0⟩ : ∃ w0, w.alloc (.cells #[.int .i64 pt, .int .i64 pb] TF) = w0 := ⟨_, rfl⟩
  have B0 : Below w.heap.size w w0 := hw0 ▸ below_al (Below.refl _ _) _
  have M0 := Lib.hid (hM.keep B0)
  have HL : Hid (Fm g fr = none) := Lib.hid (by unfold Fm; rw [h]; rfl)
  have HB := Lib.hid (below_al B0 (.cells #[.int .i64 0, .int .i64 0] TF))
  clear B0 hM h
  go_enter Try.func64, Try.ntmps64
  go_wp2_with (first
    | (refine wp_lookV_ok _ rfl _ _ TM rfl TI TF Try.underlying3 Try.underlying83 (stFraction.R 0 0) zero_fr b n _ rfl M0.out fr rfl wff ?_; rw [HL.out]; simp only [Option.getD_none, Option.isSome_none])
    | fail)
  go_ret
  exact ⟨rfl, HB.out⟩
/-- What moveShare gives where the one who sells has a share. -/
def Moved (w : World) (b n : Nat) (g : Int → Option (Int × Int)) (ok : Bool) (e : Ending) (w' : World) : Prop := e = .returned (.bool ok) ∧ MapV Try.prog TI w' b n (Fm g) ∧ Chg b (b + 1) w w'
set_option maxRecDepth 100000 in
set_option maxHeartbeats 4000000 in
theorem impl_mv (w : World) (b n : Nat) (g : Int → Option (Int × Int)) (fr tw pt pb ft fb bt bb mt mb rt rb xt xb : Int) (s1 s2 s3 : Bool) (hM : MapV Try.prog TI w b n (Fm g)) (hn : n ≤ 900) (wff : (Lit.int .i64 fr).wf = true) (wft : (Lit.int .i64 tw).wf = true)
    (h1 : g fr = some (ft, fb)) (h2 : Had g tw bt bb) (k1 : Ti ft fb pt pb mt mb s1) (k2 : Ti ft fb (pb - pt) pb rt rb s2) (k3 : Ad bt bb mt mb xt xb s3) (hwr : IntKind.i64.wrap (pb - pt) = pb - pt) :
    Calls Try.prog 64 #[.map (some b), .int .i64 fr, .int .i64 tw, stFraction.R pt pb] w (Moved w b (n + 2) (if (s1 && s2 && s3) = true then setS (setS g fr rt rb) tw xt xb else g) (s1 && s2 && s3)) := by
  have hbl := hM.lt
  obtain ⟨w0, hw0⟩ : ∃ w0, w.alloc (.cells #[.int .i64 pt, .int .i64 pb] TF) = w0 := ⟨_, rfl⟩
  have B0 : Below w.heap.size w w0 := hw0 ▸ below_al (Below.refl _ _) _
  have X7 : Blk w0 w.heap.size TF #[.int .i64 pt, .int .i64 pb] := hw0 ▸ Blk.new w TF _
  have z0 : w0.heap.size = w.heap.size + 1 := by rw [← hw0]; simp
  have M0 := Lib.hid (hM.keep B0)
  obtain ⟨w1, hw1⟩ : ∃ w1, w0.alloc (.cells #[.int .i64 ft, .int .i64 fb] TF) = w1 := ⟨_, rfl⟩
  have B1 : Below w0.heap.size w0 w1 := hw1 ▸ below_al (Below.refl _ _) _
  have X9 : Blk w1 w0.heap.size TF #[.int .i64 ft, .int .i64 fb] := hw1 ▸ Blk.new w0 TF _
  have z1 : w1.heap.size = w.heap.size + 2 := by rw [← hw1]; simp [z0]
  have M1 := Lib.hid (M0.out.keep B1)
  replace X7 := X7.step B1
  rw [z0] at X9
  have BW := Lib.hid (below_step B0 B1)
  have HL : Hid (Fm g fr = some (stFraction.R ft fb)) := Lib.hid (by unfold Fm; rw [h1]; rfl)
  have K1 := Lib.hid k1
  have K2 := Lib.hid k2
  have K3 := Lib.hid k3
  obtain ⟨q, u, v, h0, hq, hgd, his, hc⟩ : ∃ q u v h0, Fm g tw = q ∧ q.getD (stFraction.R 0 0) = stFraction.R u v ∧ q.isSome = h0 ∧ ((h0 = true ∧ u = bt ∧ v = bb) ∨ (h0 = false ∧ bt = 0 ∧ bb = 1)) := by
    unfold Fm
    rcases h2 with h | ⟨h, e⟩
    · rw [h]; exact ⟨_, bt, bb, true, rfl, rfl, rfl, .inl ⟨rfl, rfl, rfl⟩⟩
    · rw [h]; exact ⟨_, 0, 0, false, rfl, rfl, rfl, .inr ⟨rfl, e⟩⟩
  have HQ := Lib.hid hq
  have HGD := Lib.hid hgd
  have HIS := Lib.hid his
  obtain ⟨w2, hw2⟩ : ∃ w2, w1.alloc (.cells #[.int .i64 u, .int .i64 v] TF) = w2 := ⟨_, rfl⟩
  have X11 : Hid (Blk w2 w1.heap.size TF #[.int .i64 u, .int .i64 v]) := Lib.hid (hw2 ▸ Blk.new w1 TF _)
  have B2 : Hid (Below w1.heap.size w1 w2) := Lib.hid (hw2 ▸ below_al (Below.refl _ _) _)
  have X7H := Lib.hid X7
  have X9H := Lib.hid X9
  have z1H := Lib.hid z1
  clear hq hgd his X7 X9 k1 k2 k3 h1 h2 hM B0 B1 z1
  go_enter Try.func64, Try.ntmps64
  go_upto_region 5 with (first
    | (refine wp_lookV_ok _ rfl _ _ TM rfl TI TF Try.underlying3 Try.underlying83 (stFraction.R 0 0) zero_fr b n _ rfl M0.out fr rfl wff ?_; rw [HL.out]; simp only [Option.getD_some, Option.isSome_some])
    | (refine wp_lookV_ok _ rfl _ _ TM rfl TI TF Try.underlying3 Try.underlying83 (stFraction.R 0 0) zero_fr b n _ rfl M1.out tw rfl wft ?_; rw [HQ.out, HGD.out, HIS.out])
    | fail)
  clear hw0 hw1 hw2 z0 HL HQ HGD HIS
  go_upto_if 33 with fail
  go_cut [] (fun wx => Blk wx w1.heap.size TF #[.int .i64 bt, .int .i64 bb] ∧ Below w1.heap.size w1 wx)
  case first =>
    rcases hc with ⟨rfl, rfl, rfl⟩ | ⟨rfl, rfl, rfl⟩
    · go_wp2_with fail
      go_meet
      exact ⟨X11.out, B2.out⟩
    · go_wp2_with fail
      refine (impl_ns _).mono ?_; rintro e w3 ⟨rfl, hb3⟩
      have X := X11.out.step hb3
      have B3 := below_step B2.out hb3
      obtain ⟨x0, x1, x2, x3⟩ := fcell X
      go_wp2_with fail
      go_meet
      refine ⟨?_, (B3.setCell (Nat.le_refl _) _).setCell (Nat.le_refl _) _⟩
      simpa using (X.set_ 0 (.int .i64 0)).set_ 1 (.int .i64 1)
  case rest =>
    obtain ⟨hX, hB⟩ := hcut
    clear X11 B2 hc
    have X7 := Lib.hid (X7H.out.step hB)
    have X9 := Lib.hid (X9H.out.step hB)
    have X11 := Lib.hid hX
    have M2 := Lib.hid (M1.out.keep hB)
    have BW2 := Lib.hid (BW.out.trans (hB.mono BW.out.size))
    clear X7H X9H hX hB M0 M1 BW
    obtain ⟨a0, a1, _⟩ := fcell X7.out
    obtain ⟨b0, b1, _⟩ := fcell X9.out
    go_wp2_with fail
    refine (impl_ti _ _ _ _ _ _ _ _ K1.out).mono ?_; rintro e w3 ⟨rfl, hb3⟩
    obtain ⟨w4, hw4⟩ : ∃ w4, w3.alloc (.cells #[.int .i64 mt, .int .i64 mb] TF) = w4 := ⟨_, rfl⟩
    have hb4 : Below wc.heap.size wc w4 := hw4 ▸ below_al hb3 _
    have X12 : Hid (Blk w4 w3.heap.size TF #[.int .i64 mt, .int .i64 mb]) := Lib.hid (hw4 ▸ Blk.new w3 TF _)
    replace X7 := Lib.hid (X7.out.step hb4)
    replace X9 := Lib.hid (X9.out.step hb4)
    replace X11 := Lib.hid (X11.out.step hb4)
    replace M2 := Lib.hid (M2.out.keep hb4)
    replace BW2 := Lib.hid (below_step BW2.out hb4)
    clear a0 a1 b0 b1 hb3 hb4
    go_upto_region 8 with fail
    clear hw4
    obtain ⟨g12, hg12⟩ : ∃ g12, w3.heap.size = g12 := ⟨_, rfl⟩
    rw [hg12] at X12 ⊢
    clear hg12
    obtain ⟨a0, a1, _⟩ := fcell X7.out
    obtain ⟨b0, b1, _⟩ := fcell X9.out
    go_cut [14, 15] (fun s14 s15 wx => Made w4 rt rb s14 wx ∧ s15 = .bool s2)
    case first =>
      go_region_held3 (fun W => W.cell? ⟨w.heap.size + 1, 0, none⟩ = some (.int .i64 ft) ∧ W.cell? ⟨w.heap.size + 1, 1, none⟩ = some (.int .i64 fb) ∧ W.cell? ⟨w.heap.size, 0, none⟩ = some (.int .i64 pt) ∧ W.cell? ⟨w.heap.size, 1, none⟩ = some (.int .i64 pb))
        (first | exact keep4 ⟨b0, b1, a0, a1⟩ (by repeat (first | (with_reducible exact Below.refl _ _) | (with_reducible refine below_dr ?_) | (with_reducible refine below_al ?_ _) | (with_reducible refine below_step ?_ (by assumption)) | (with_reducible refine Below.setCell ?_ ?_ _) | (simp only []; omega) | omega | fail)) | fail)
        (first
          | (go_at_call 71; refine (impl_op _ _ _ hwr).mono ?_; rintro e wA ⟨rfl, hb⟩; obtain ⟨hc, hf⟩ := bcell hb; have hz := hb.size; (try simp only [World.size_drew] at hz); (try simp only [World.size_alloc] at hz); (try simp only [World.size_drew] at hz); (try have l1 : w4.heap.size < wA.heap.size := by omega))
          | (go_at_call 70; refine (impl_ti _ _ _ _ _ _ _ _ K2.out).mono ?_; rintro e wB ⟨rfl, hb'⟩; obtain ⟨hc', hf'⟩ := bcell hb'; have hz' := hb'.size; (try simp only [World.size_drew] at hz'); (try simp only [World.size_alloc] at hz'); (try simp only [World.size_drew] at hz'); (try have l2 : w4.heap.size < wB.heap.size := by omega); (try have l3 : wA.heap.size < wB.heap.size := by omega))
          | fail)
      all_goals
        go_wp2_with fail
        go_meet
        refine ⟨⟨_, rfl, (by repeat (first | (with_reducible exact Below.refl _ _) | (with_reducible refine below_dr ?_) | (with_reducible refine below_al ?_ _) | (with_reducible refine below_step ?_ (by assumption)) | (with_reducible refine Below.setCell ?_ ?_ _) | (simp only []; omega) | omega | fail)), ?_, ?_⟩, rfl⟩
        all_goals (try go_simp)
        all_goals (try (refine World.cell?_setCell_same _ _ _ (u := .int .i64 0) ?_; go_simp))
    case rest =>
      obtain ⟨⟨g14, rfl, B14, c0, c1⟩, rfl⟩ := hcut
      replace X11 := Lib.hid (X11.out.step B14)
      replace X12 := Lib.hid (X12.out.step B14)
      replace M2 := Lib.hid (M2.out.keep B14)
      replace BW2 := Lib.hid (below_step BW2.out B14)
      clear a0 a1 b0 b1 B14 X7 X9
      obtain ⟨d0, d1, _⟩ := fcell X11.out
      obtain ⟨e0, e1, _⟩ := fcell X12.out
      go_wp2_with fail
      refine (impl_add _ _ _ _ _ _ _ _ K3.out).mono ?_; rintro e w5 ⟨rfl, hb5⟩
      obtain ⟨w6, hw6⟩ : ∃ w6, w5.alloc (.cells #[.int .i64 xt, .int .i64 xb] TF) = w6 := ⟨_, rfl⟩
      have hb6 : Below wc.heap.size wc w6 := hw6 ▸ below_al hb5 _
      have X16 : Hid (Blk w6 w5.heap.size TF #[.int .i64 xt, .int .i64 xb]) := Lib.hid (hw6 ▸ Blk.new w5 TF _)
      have hlow : Hid (b + 1 ≤ w5.heap.size) := Lib.hid (by have := BW2.out.size; have := hb5.size; omega)
      replace M2 := Lib.hid (M2.out.keep hb6)
      replace BW2 := Lib.hid (below_step BW2.out hb6)
      replace c0 := keep1 c0 hb6
      replace c1 := keep1 c1 hb6
      clear d0 d1 e0 e1 hb5 hb6 X11 X12
      cases s1 with
      | false =>
        clear c0 c1
        go_wp2
        go_ret
        exact ⟨rfl, M2.out.more (by omega), .of_below BW2.out⟩
      | true =>
        cases s2 with
        | false =>
          clear c0 c1
          go_wp2
          go_ret
          exact ⟨rfl, M2.out.more (by omega), .of_below BW2.out⟩
        | true =>
          cases s3 with
          | false =>
            clear c0 c1
            go_wp2
            go_ret
            exact ⟨rfl, M2.out.more (by omega), .of_below BW2.out⟩
          | true =>
            go_wp2_with fail
            refine (impl_ss _ b n g fr rt rb M2.out (by omega) wff).mono ?_; rintro e w7 ⟨rfl, hM7, hC7⟩
            have X17 := X16.out.chg hC7 (.inr hlow.out)
            have M7 := Lib.hid hM7
            have C7 := Lib.hid ((Chg.of_below BW2.out).trans hC7)
            clear hM7 hC7 c0 c1 hw6
            obtain ⟨f0, f1, _⟩ := fcell X17
            go_wp2_with fail
            refine (impl_ss _ b (n + 1) _ tw xt xb M7.out (by omega) wft).mono ?_; rintro e w8 ⟨rfl, hM8, hC8⟩
            have M8 := Lib.hid hM8
            have C8 := Lib.hid (C7.out.trans hC8)
            clear hM8 hC8 f0 f1 X17
            go_wp2
            go_ret
            exact ⟨rfl, M8.out, C8.out⟩
end Go.Proofs.Ytopbeacfljoacaa.rgt
