/- Rights: the specification's SumOfShares, RightsOk, LargestOwner. -/
import Derived.Test.YtopbeacfljoacaaRgtL2
import Derived.Test.YtopbeacfljoacaaStRight
import Derived.Test.YtopbeacfljoacaaFrcS2
import Derived.Test.YtopbeacfljoacaaLater
import Derived.Test.YtopbeacfljoacaaLex
namespace Go.Proofs.Ytopbeacfljoacaa.rgt
open Go.RowKit Go.Proofs.Ytopbeacfljoacaa.kit Go.Proofs.Ytopbeacfljoacaa.lawi Go.Proofs.Ytopbeacfljoacaa.own Go.Proofs.Ytopbeacfljoacaa.rain Go.Proofs.Ytopbeacfljoacaa.yrl Go.Proofs.Ytopbeacfljoacaa.frc Go.Proofs.Ytopbeacfljoacaa.stRight Go.Proofs.Ytopbeacfljoacaa.later
/-- The cells of a right in a row. -/
theorem right_at {w : World} {b o n : Nat} {zs : List Int} (h : ∀ j u, (IV zs)[j]? = some u → w.cell? ⟨b, o + j, none⟩ = some u) (hl : zs.length = n * 3) {k : Nat} (hk : k < n) :
    w.cell? ⟨b, o + k * 3, none⟩ = some (.int .i64 (wO zs k)) ∧ w.cell? ⟨b, o + k * 3 + 1, none⟩ = some (.int .i64 (wT zs k)) ∧ w.cell? ⟨b, o + k * 3 + 2, none⟩ = some (.int .i64 (wB zs k)) := by
  refine ⟨h (k * 3) _ (getI (by omega)), ?_, ?_⟩
  · have := h (k * 3 + 1) _ (getI (by omega))
    rwa [← Nat.add_assoc] at this
  · have := h (k * 3 + 2) _ (getI (by omega))
    rwa [← Nat.add_assoc] at this
attribute [local go_sem ↓] Go.wp_at_zero Go.wp_at_succ
set_option maxHeartbeats 4000000 in
theorem spec_sum (w : World) (v : Value) (n : Nat) (zs : List Int) (hn : n ≤ 1048576) (hr : Row 3 w v n (IV zs)) (x y : Int) (r : Bool) (h : Su n zs x y r) :
    Calls Try.prog 22 #[v] w (Gives w (.tuple #[stFraction.R x y, .bool r])) := by
  obtain ⟨av, ca, rfl⟩ := hr.shape
  have hl : zs.length = n * 3 := by simpa using hr.1
  obtain ⟨w0, hw0⟩ : ∃ w0, (w.alloc (.cells #[.int .i64 0, .int .i64 0] TF)).alloc (.cells #[.int .i64 0, .int .i64 1] TF) = w0 := ⟨_, rfl⟩
  have XR : Hid (Blk w0 w.heap.size TF #[.int .i64 0, .int .i64 0]) := Lib.hid (hw0 ▸ (Blk.new w TF #[.int .i64 0, .int .i64 0]).alloc _)
  have XS : Hid (Blk w0 (w.heap.size + 1) TF #[.int .i64 0, .int .i64 1]) := Lib.hid (hw0 ▸ Blk.new1 w TF #[.int .i64 0, .int .i64 1] _)
  have HB : Hid (Below w.heap.size w w0) := Lib.hid (hw0 ▸ below_al (below_al (Below.refl _ _) _) _)
  have HR := Lib.hid hr
  have HS := Lib.hid h
  obtain ⟨p0, p1, p2, p3⟩ := fcell XR.out
  clear hr h
  by_cases h12 : n ≤ 12
  · go_enter Try.func22, Try.ntmps22
    go_wp2
    clear hw0 p0 p1 p2 p3
    go_loopg [5] n (fun g s5 wr => ∃ (k : Nat) (p q : Int), k + g = n ∧ s5 = .int .i64 k ∧ Sm (wT zs) (wB zs) k p q ∧ Blk wr w.heap.size TF #[.int .i64 0, .int .i64 0] ∧ Blk wr (w.heap.size + 1) TF #[.int .i64 p, .int .i64 q] ∧ Below w.heap.size w wr)
    case atStart => exact ⟨0, 0, 1, by omega, rfl, .zero, XR.out, XS.out, HB.out⟩
    case round =>
      clear XR XS HB
      obtain ⟨k, p, q, hkg, rfl, hsm, hxr, hxs, hbel⟩ := hrel
      have SM := Lib.hid hsm
      have XR := Lib.hid hxr
      have XS := Lib.hid hxs
      have BL := Lib.hid hbel
      clear hsm hxr hxs hbel
      by_cases hlt : k < n
      · obtain ⟨gk, rfl⟩ : ∃ g', gk = g' + 1 := ⟨gk - 1, by omega⟩
        obtain ⟨b1, o1, rfl, h1⟩ := (HR.out.keep BL.out).at_ (by omega)
        obtain ⟨g1, g2, g3⟩ := right_at h1 hl hlt
        obtain ⟨q0, q1, _⟩ := fcell XS.out
        obtain ⟨x', y', r', ha⟩ := Ad.ex p q (wT zs k) (wB zs k)
        have HA := Lib.hid ha
        obtain ⟨T, hT⟩ : ∃ T, wT zs k = T := ⟨_, rfl⟩
        obtain ⟨B, hB⟩ : ∃ B, wB zs k = B := ⟨_, rfl⟩
        have HAD := Lib.hid ha
        rw [hT] at g2 HAD
        rw [hB] at g3 HAD
        clear h1 g1 ha hT hB
        go_upto_region 7 with fail
        go_cut [6, 7] (fun s6 s7 wx => Made wr x' y' s6 wx ∧ s7 = .bool r')
        case first =>
          go_region_held3 (fun W => W.cell? ⟨w.heap.size + 1, 0, none⟩ = some (.int .i64 p) ∧ W.cell? ⟨w.heap.size + 1, 1, none⟩ = some (.int .i64 q) ∧ W.cell? ⟨b1, o1 + k * 3 + 1, none⟩ = some (.int .i64 T) ∧ W.cell? ⟨b1, o1 + k * 3 + 2, none⟩ = some (.int .i64 B))
            (first | exact keep4 ⟨q0, q1, g2, g3⟩ (by repeat (first | (with_reducible exact Below.refl _ _) | (with_reducible refine below_dr ?_) | (with_reducible refine below_al ?_ _) | (with_reducible refine below_step ?_ (by assumption)) | (with_reducible refine Below.setCell ?_ ?_ _) | (simp only []; omega) | omega | fail)) | fail)
            (first
              | (go_at_call 50; refine (spec_add _ _ _ _ _ _ _ _ HAD.out).mono ?_; rintro e wA ⟨rfl, hb⟩; obtain ⟨hc, hf⟩ := bcell hb; have hz := hb.size; (try simp only [World.size_drew] at hz); (try simp only [World.size_alloc] at hz); (try simp only [World.size_drew] at hz); (try have l1 : wr.heap.size < wA.heap.size := by omega))
              | fail)
          all_goals
            go_wp2_with fail
            go_meet
            refine ⟨⟨_, rfl, (by repeat (first | (with_reducible exact Below.refl _ _) | (with_reducible refine below_dr ?_) | (with_reducible refine below_al ?_ _) | (with_reducible refine below_step ?_ (by assumption)) | (with_reducible refine Below.setCell ?_ ?_ _) | (simp only []; omega) | omega | fail)), ?_, ?_⟩, rfl⟩
            all_goals (try go_simp)
            all_goals (try (refine World.cell?_setCell_same _ _ _ (u := .int .i64 0) ?_; go_simp))
        case rest =>
          obtain ⟨⟨g6, rfl, B6, c0, c1⟩, rfl⟩ := hcut
          replace XR := Lib.hid (XR.out.step B6)
          replace XS := Lib.hid (XS.out.step B6)
          replace BL := Lib.hid (BL.out.trans (B6.mono BL.out.size))
          clear B6 q0 q1 g2 g3
          cases r' with
          | false =>
            obtain ⟨e1, e2, e3⟩ : x = 0 ∧ y = 0 ∧ r = false := by
              rcases HS.out with ⟨_, h2, _⟩ | ⟨_, h2⟩
              · exact absurd h2 (SM.out.stop HA.out hlt _ _)
              · exact h2
            subst e1 e2 e3
            obtain ⟨p0, p1, p2, p3⟩ := fcell XR.out
            clear c0 c1
            go_wp2
            refine bodyPost_ret (v := .tuple #[stFraction.R 0 0, .bool false]) (by simp [*, results, Try.results22, go_sem]) rfl ⟨rfl, ?_⟩
            have B1 := BL.out
            go_grown
          | true =>
            have HN := Lib.hid (Sm.step k p q x' y' SM.out HA.out)
            obtain ⟨s0, s1, s2, s3⟩ := fcell XS.out
            have hgs : w.heap.size + 1 ≠ w.heap.size := by omega
            have X1 : Hid (Blk ((wc.setCell ⟨w.heap.size + 1, 0, none⟩ (.int .i64 x')).setCell ⟨w.heap.size + 1, 1, none⟩ (.int .i64 y')) (w.heap.size + 1) TF #[.int .i64 x', .int .i64 y']) := Lib.hid (by simpa using (XS.out.set_ 0 (.int .i64 x')).set_ 1 (.int .i64 y'))
            have X2 : Hid (Blk ((wc.setCell ⟨w.heap.size + 1, 0, none⟩ (.int .i64 x')).setCell ⟨w.heap.size + 1, 1, none⟩ (.int .i64 y')) w.heap.size TF #[.int .i64 0, .int .i64 0]) := Lib.hid ((XR.out.far (p := ⟨w.heap.size + 1, 0, none⟩) (by show w.heap.size ≠ w.heap.size + 1; omega) _).far (p := ⟨w.heap.size + 1, 1, none⟩) (by show w.heap.size ≠ w.heap.size + 1; omega) _)
            have X3 : Hid (Below w.heap.size w ((wc.setCell ⟨w.heap.size + 1, 0, none⟩ (.int .i64 x')).setCell ⟨w.heap.size + 1, 1, none⟩ (.int .i64 y'))) := Lib.hid ((BL.out.setCell (by show w.heap.size ≤ w.heap.size + 1; omega) _).setCell (by show w.heap.size ≤ w.heap.size + 1; omega) _)
            go_wp2
            go_roundg gk
            case measure => omega
            case rel => exact ⟨k + 1, x', y', by omega, by go_num, HN.out, X2.out, X1.out, X3.out⟩
      · obtain rfl : k = n := by omega
        obtain ⟨e1, e2, e3⟩ : x = p ∧ y = q ∧ r = true := by
          rcases HS.out with ⟨_, h2, h3⟩ | ⟨h2, _⟩
          · exact ⟨(h2.uniq SM.out).1, (h2.uniq SM.out).2, h3⟩
          · exact absurd SM.out (h2 h12 _ _)
        subst e1 e2 e3
        obtain ⟨p0, p1, p2, p3⟩ := fcell XR.out
        obtain ⟨s0, s1, _⟩ := fcell XS.out
        go_wp2
        refine bodyPost_ret (v := .tuple #[stFraction.R x y, .bool true]) (by simp [*, results, Try.results22, go_sem]) rfl ⟨rfl, ?_⟩
        have B1 := BL.out
        go_grown
  · obtain ⟨e1, e2, e3⟩ : x = 0 ∧ y = 0 ∧ r = false := by
      rcases HS.out with ⟨h2, _⟩ | ⟨_, h2⟩
      · exact absurd h2 h12
      · exact h2
    subst e1 e2 e3
    go_enter Try.func22, Try.ntmps22
    go_wp2
    refine bodyPost_ret (v := .tuple #[stFraction.R 0 0, .bool false]) (by simp [*, results, Try.results22, go_sem]) rfl ⟨rfl, ?_⟩
    have B1 := HB.out
    go_grown
end Go.Proofs.Ytopbeacfljoacaa.rgt
