/- The exact law on Balance returns true. -/
import Derived.Test.YthfmbmodlnddeaaCis2
import Derived.Test.YthfmbmodlnddeaaStCistern
import Derived.Deep.DeepCutAuto
import Derived.Deep.DrawnRows
set_option linter.unusedVariables false
namespace Go.Proofs.Ythfmbmodlnddeaa.wFnExactBalance
open Go.RowKit Go.Proofs.Ythfmbmodlnddeaa.kit Go.Proofs.Ythfmbmodlnddeaa.lawi Go.Proofs.Ythfmbmodlnddeaa.own Go.Proofs.Ythfmbmodlnddeaa.rainl Go.Proofs.Ythfmbmodlnddeaa.rain Go.Proofs.Ythfmbmodlnddeaa.cis
attribute [local go_sem ↓] Go.wp_at_zero Go.wp_at_succ
/-- What a statement with two answers in memory leaves. -/
def Two (w : World) (y0 y1 z0 z1 r : Int) (s1 s2 s3 : Value) (wx : World) : Prop :=
  ∃ g h : Nat, s1 = .pointer (some ⟨g, 0, none⟩) ∧ s2 = .pointer (some ⟨h, 0, none⟩) ∧ s3 = .int .i64 r ∧ Below w.heap.size w wx ∧
    wx.cell? ⟨g, 0, none⟩ = some (.int .i64 y0) ∧ wx.cell? ⟨g, 1, none⟩ = some (.int .i64 y1) ∧ wx.cell? ⟨h, 0, none⟩ = some (.int .i64 z0) ∧ wx.cell? ⟨h, 1, none⟩ = some (.int .i64 z1)
set_option maxRecDepth 100000 in
set_option maxHeartbeats 4000000 in
theorem core (w : World) (x0_0 x0_1 : Int) (x1_0 x1_1 : Int) (a2 : Int) (y0_0 y0_1 : Int) (y1_0 y1_1 : Int) (r2 : Int)
    (hs : ∀ W, Calls Try.prog 26 #[stCistern.R x0_0 x0_1, stCistern.R x1_0 x1_1, .int .i64 a2] W (Gives W (.tuple #[stCistern.R y0_0 y0_1, stCistern.R y1_0 y1_1, .int .i64 r2])))
    (hi : ∀ W, Calls Try.prog 15 #[stCistern.R x0_0 x0_1, stCistern.R x1_0 x1_1, .int .i64 a2] W (Gives W (.tuple #[stCistern.R y0_0 y0_1, stCistern.R y1_0 y1_1, .int .i64 r2]))) :
    Calls Try.prog 9 #[stCistern.R x0_0 x0_1, stCistern.R x1_0 x1_1, .int .i64 a2] w (Gives w (.bool true)) := by
  have HS := Lib.hid hs
  have HI := Lib.hid hi
  clear hs hi
  have X0 := Lib.hid ((Blk.new w 34 #[.int .i64 x0_0, .int .i64 x0_1]).alloc (.cells #[.int .i64 x1_0, .int .i64 x1_1] 34))
  have X1 := Lib.hid (Blk.new1 w 34 #[.int .i64 x1_0, .int .i64 x1_1] (.cells #[.int .i64 x0_0, .int .i64 x0_1] 34))
  have CB : Below w.heap.size w ((w.alloc (.cells #[.int .i64 x0_0, .int .i64 x0_1] 34)).alloc (.cells #[.int .i64 x1_0, .int .i64 x1_1] 34)) := below_al (below_al (Below.refl _ _) _) _
  go_enter Try.func9, Try.ntmps9
  go_upto_region 1 with fail
  obtain ⟨wb, hwb⟩ : ∃ wb, (w.alloc (.cells #[.int .i64 x0_0, .int .i64 x0_1] 34)).alloc (.cells #[.int .i64 x1_0, .int .i64 x1_1] 34) = wb := ⟨_, rfl⟩
  rw [hwb] at X0 X1 CB
  rw [hwb]
  clear hwb
  have q0 : wb.cell? ⟨w.heap.size, 0, none⟩ = some (.int .i64 x0_0) := X0.out.cell 0
  have q1 : wb.cell? ⟨w.heap.size, 1, none⟩ = some (.int .i64 x0_1) := X0.out.cell 1
  have q2 : wb.cell? ⟨w.heap.size + 1, 0, none⟩ = some (.int .i64 x1_0) := X1.out.cell 0
  have q3 : wb.cell? ⟨w.heap.size + 1, 1, none⟩ = some (.int .i64 x1_1) := X1.out.cell 1
  clear X0 X1
  go_cut [7, 8, 9] (fun s1 s2 s3 wx => Two wb y0_0 y0_1 y1_0 y1_1 r2 s1 s2 s3 wx)
  case first =>
    go_region_held3 (fun W => W.cell? ⟨w.heap.size, 0, none⟩ = some (.int .i64 x0_0) ∧ W.cell? ⟨w.heap.size, 1, none⟩ = some (.int .i64 x0_1) ∧ W.cell? ⟨w.heap.size + 1, 0, none⟩ = some (.int .i64 x1_0) ∧ W.cell? ⟨w.heap.size + 1, 1, none⟩ = some (.int .i64 x1_1))
      (first | exact keep4 ⟨q0, q1, q2, q3⟩ (by repeat (first | (with_reducible exact Below.refl _ _) | (with_reducible refine below_dr ?_) | (with_reducible refine below_al ?_ _) | (with_reducible refine below_step ?_ (by assumption)) | (with_reducible refine Below.setCell ?_ ?_ _) | (simp only []; omega) | omega | fail)) | fail)
      (first
        | (go_at_call 20; (fail_if_success (have _h := wA)); refine (stCistern.to_any _ _ _).mono ?_; rintro e wA ⟨rfl, hb⟩; obtain ⟨hc, hf⟩ := bcell hb; have hz := hb.size; (try simp only [World.size_drew] at hz); (try simp only [World.size_alloc] at hz); (try simp only [World.size_drew] at hz); (try have l_wA_wb0 : wb.heap.size < wA.heap.size := by omega); (try have l_wA_wb1 : wb.heap.size + 1 < wA.heap.size := by omega))
        | (go_at_call 20; refine (stCistern.to_any _ _ _).mono ?_; rintro e wB ⟨rfl, hb⟩; obtain ⟨hc, hf⟩ := bcell hb; have hz := hb.size; (try simp only [World.size_drew] at hz); (try simp only [World.size_alloc] at hz); (try simp only [World.size_drew] at hz); (try have l_wB_wb0 : wb.heap.size < wB.heap.size := by omega); (try have l_wB_wb1 : wb.heap.size + 1 < wB.heap.size := by omega); (try have l_wB_wA0 : wA.heap.size < wB.heap.size := by omega); (try have l_wB_wA1 : wA.heap.size + 1 < wB.heap.size := by omega))
        | (go_at_call 26; refine (HS.out _).mono ?_; rintro e wC ⟨rfl, hb⟩; obtain ⟨hc, hf⟩ := bcell hb; have hz := hb.size; (try simp only [World.size_drew] at hz); (try simp only [World.size_alloc] at hz); (try simp only [World.size_drew] at hz); (try have l_wC_wb0 : wb.heap.size < wC.heap.size := by omega); (try have l_wC_wb1 : wb.heap.size + 1 < wC.heap.size := by omega); (try have l_wC_wA0 : wA.heap.size < wC.heap.size := by omega); (try have l_wC_wA1 : wA.heap.size + 1 < wC.heap.size := by omega); (try have l_wC_wB0 : wB.heap.size < wC.heap.size := by omega); (try have l_wC_wB1 : wB.heap.size + 1 < wC.heap.size := by omega))
        | fail)
    all_goals
      go_wp2_with fail
      go_meet
      refine ⟨_, _, rfl, rfl, rfl, (by repeat (first | (with_reducible exact Below.refl _ _) | (with_reducible refine below_dr ?_) | (with_reducible refine below_al ?_ _) | (with_reducible refine below_step ?_ (by assumption)) | (with_reducible refine Below.setCell ?_ ?_ _) | (simp only []; omega) | omega | fail)), ?_, ?_, ?_, ?_⟩
      all_goals (try go_simp)
      all_goals (refine World.cell?_setCell_same _ _ _ (u := .int .i64 0) ?_; go_simp)
  case rest =>
    obtain ⟨g, h, rfl, rfl, rfl, B1, c0, c1, c2, c3⟩ := hcut
    obtain ⟨p0, p1, p2, p3⟩ := keep4 ⟨q0, q1, q2, q3⟩ B1
    have CB1 := below_step CB B1
    clear CB B1 q0 q1 q2 q3
    have c0' := Lib.hid c0
    have c1' := Lib.hid c1
    have c2' := Lib.hid c2
    have c3' := Lib.hid c3
    clear c0 c1 c2 c3
    go_upto_region 2 with fail
    go_cut [10, 11, 12] (fun s1 s2 s3 wx => Two wc y0_0 y0_1 y1_0 y1_1 r2 s1 s2 s3 wx)
    case first =>
      go_region_held3 (fun W => W.cell? ⟨w.heap.size, 0, none⟩ = some (.int .i64 x0_0) ∧ W.cell? ⟨w.heap.size, 1, none⟩ = some (.int .i64 x0_1) ∧ W.cell? ⟨w.heap.size + 1, 0, none⟩ = some (.int .i64 x1_0) ∧ W.cell? ⟨w.heap.size + 1, 1, none⟩ = some (.int .i64 x1_1))
        (first | exact keep4 ⟨p0, p1, p2, p3⟩ (by repeat (first | (with_reducible exact Below.refl _ _) | (with_reducible refine below_dr ?_) | (with_reducible refine below_al ?_ _) | (with_reducible refine below_step ?_ (by assumption)) | (with_reducible refine Below.setCell ?_ ?_ _) | (simp only []; omega) | omega | fail)) | fail)
        (first
          | (go_at_call 20; (fail_if_success (have _h := wD)); refine (stCistern.to_any _ _ _).mono ?_; rintro e wD ⟨rfl, hb⟩; obtain ⟨hc, hf⟩ := bcell hb; have hz := hb.size; (try simp only [World.size_drew] at hz); (try simp only [World.size_alloc] at hz); (try simp only [World.size_drew] at hz); (try have l_wD_wc0 : wc.heap.size < wD.heap.size := by omega); (try have l_wD_wc1 : wc.heap.size + 1 < wD.heap.size := by omega))
          | (go_at_call 20; refine (stCistern.to_any _ _ _).mono ?_; rintro e wE ⟨rfl, hb⟩; obtain ⟨hc, hf⟩ := bcell hb; have hz := hb.size; (try simp only [World.size_drew] at hz); (try simp only [World.size_alloc] at hz); (try simp only [World.size_drew] at hz); (try have l_wE_wc0 : wc.heap.size < wE.heap.size := by omega); (try have l_wE_wc1 : wc.heap.size + 1 < wE.heap.size := by omega); (try have l_wE_wD0 : wD.heap.size < wE.heap.size := by omega); (try have l_wE_wD1 : wD.heap.size + 1 < wE.heap.size := by omega))
          | (go_at_call 15; refine (HI.out _).mono ?_; rintro e wF ⟨rfl, hb⟩; obtain ⟨hc, hf⟩ := bcell hb; have hz := hb.size; (try simp only [World.size_drew] at hz); (try simp only [World.size_alloc] at hz); (try simp only [World.size_drew] at hz); (try have l_wF_wc0 : wc.heap.size < wF.heap.size := by omega); (try have l_wF_wc1 : wc.heap.size + 1 < wF.heap.size := by omega); (try have l_wF_wD0 : wD.heap.size < wF.heap.size := by omega); (try have l_wF_wD1 : wD.heap.size + 1 < wF.heap.size := by omega); (try have l_wF_wE0 : wE.heap.size < wF.heap.size := by omega); (try have l_wF_wE1 : wE.heap.size + 1 < wF.heap.size := by omega))
          | fail)
      all_goals
        go_wp2_with fail
        go_meet
        refine ⟨_, _, rfl, rfl, rfl, (by repeat (first | (with_reducible exact Below.refl _ _) | (with_reducible refine below_dr ?_) | (with_reducible refine below_al ?_ _) | (with_reducible refine below_step ?_ (by assumption)) | (with_reducible refine Below.setCell ?_ ?_ _) | (simp only []; omega) | omega | fail)), ?_, ?_, ?_, ?_⟩
        all_goals (try go_simp)
        all_goals (refine World.cell?_setCell_same _ _ _ (u := .int .i64 0) ?_; go_simp)
    case rest =>
      obtain ⟨g2, h2, rfl, rfl, rfl, B2, d0, d1, d2, d3⟩ := hcut
      obtain ⟨c0, c1, c2, c3⟩ := keep4 ⟨c0'.out, c1'.out, c2'.out, c3'.out⟩ B2
      have CB := below_step CB1 B2
      clear p0 p1 p2 p3 CB1 B2
      go_wp2_with fail
      refine (stCistern.eq_yes _ _ _).mono ?_; rintro e w5 ⟨rfl, hb⟩
      obtain ⟨c0, c1, c2, c3⟩ := keep4 ⟨c0, c1, c2, c3⟩ hb
      obtain ⟨d0, d1, d2, d3⟩ := keep4 ⟨d0, d1, d2, d3⟩ hb
      replace CB := below_step CB hb
      clear hb
      go_wp2_with fail
      refine (stCistern.eq_yes _ _ _).mono ?_; rintro e w6 ⟨rfl, hb⟩
      replace CB := below_step CB hb
      clear hb c0 c1 c2 c3 d0 d1 d2 d3
      go_wp2
      go_ret
      exact ⟨rfl, CB⟩
theorem walk (w : World) (x0 y0 : Int) (_ : (Lit.int .i64 x0).wf = true) (_ : (Lit.int .i64 y0).wf = true) (x1 y1 : Int) (_ : (Lit.int .i64 x1).wf = true) (_ : (Lit.int .i64 y1).wf = true) (a2 : Int) (_ : (Lit.int .i64 a2).wf = true) :
    Calls Try.prog 9 #[C x0 y0, C x1 y1, .int .i64 a2] w fun e w' => e = .returned (.bool true) ∧ Below w.heap.size w w' := by
  by_cases h : COk x0 y0 ∧ COk x1 y1 ∧ Wok a2
  · obtain ⟨n, hn⟩ := Mn3.ex a2 y0 (x1 - y1)
    exact core w _ _ _ _ _ _ _ _ _ _ (fun W => spec_balance_yes W _ _ _ _ _ _ h.1 h.2.1 h.2.2 hn) (fun W => impl_balance_yes W _ _ _ _ _ _ h.1 h.2.1 h.2.2 hn)
  · exact core w _ _ _ _ _ _ _ _ _ _ (fun W => spec_balance_no W _ _ _ _ _ h) (fun W => impl_balance_no W _ _ _ _ _ h)
end Go.Proofs.Ythfmbmodlnddeaa.wFnExactBalance
