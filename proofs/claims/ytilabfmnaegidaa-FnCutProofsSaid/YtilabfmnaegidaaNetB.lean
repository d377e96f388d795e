/- Nets of pipes: the program's NetOk, isPlace, hasPlace; the specification's l08Two. -/
import Derived.Test.YtilabfmnaegidaaNetA
namespace Go.Proofs.Ytilabfmnaegidaa.nt
open Go.RowKit Go.Proofs.Ytilabfmnaegidaa.kit Go.Proofs.Ytilabfmnaegidaa.lawi Go.Proofs.Ytilabfmnaegidaa.own Go.Proofs.Ytilabfmnaegidaa.rain Go.Proofs.Ytilabfmnaegidaa.yrl Go.Proofs.Ytilabfmnaegidaa.net
theorem isp_yes (w : World) (P Q x : Int) (v : Value) (hQ : IntKind.i64.wrap (P - 1) = Q) (h1 : 0 ≤ x) (h2 : x ≤ Q) : Calls Try.prog 50 #[Nv P v, .int .i64 x] w (Gives w (.bool true)) := by
  have p0 := (Blk.new w TN #[.int .i64 P, v]).cell 0
  go_enter Try.func50, Try.ntmps50
  go_wp2_with fail
  refine (inR_yes _ _ _ _ h1 h2).mono ?_; rintro e w1 ⟨rfl, rfl⟩
  clear h1 h2
  go_wp2
  go_ret
  exact ⟨rfl, below_al (Below.refl _ _) _⟩
theorem isp_no (w : World) (P Q x : Int) (v : Value) (hQ : IntKind.i64.wrap (P - 1) = Q) (h : ¬ (0 ≤ x ∧ x ≤ Q)) : Calls Try.prog 50 #[Nv P v, .int .i64 x] w (Gives w (.bool false)) := by
  have p0 := (Blk.new w TN #[.int .i64 P, v]).cell 0
  go_enter Try.func50, Try.ntmps50
  go_wp2_with fail
  refine (inR_no _ _ _ _ h).mono ?_; rintro e w1 ⟨rfl, rfl⟩
  clear h
  go_wp2
  go_ret
  exact ⟨rfl, below_al (Below.refl _ _) _⟩
set_option maxHeartbeats 2000000 in
theorem impl_nok (w : World) (P : Int) (v : Value) (n : Nat) (zs : List Int) (hn : n ≤ 1048576) (hr : Row 3 w v n (IV zs)) (b : Bool) (hb : b = true ↔ NO P n zs) :
    Calls Try.prog 47 #[Nv P v] w (Gives w (.bool b)) := by
  obtain ⟨a, ca, rfl⟩ := hr.shape
  have hl : zs.length = n * 3 := by simpa using hr.1
  obtain ⟨Q, hQ⟩ : ∃ Q, IntKind.i64.wrap (P - 1) = Q := ⟨_, rfl⟩
  have A := Lib.hid (Ans.of hQ hb)
  obtain ⟨w0, hw0⟩ : ∃ w0, w.alloc (.cells #[.int .i64 P, .slice a n ca] TN) = w0 := ⟨_, rfl⟩
  have B0 : Below w.heap.size w w0 := hw0 ▸ below_al (Below.refl _ _) _
  have HR := Lib.hid (hr.keep B0)
  have HB := Lib.hid B0
  have HX : Hid (Blk w0 w.heap.size TN #[.int .i64 P, .slice a n ca]) := Lib.hid (hw0 ▸ Blk.new w TN #[.int .i64 P, .slice a n ca])
  clear hr B0 hb
  by_cases h1 : 2 ≤ P ∧ P ≤ 8
  · by_cases h2 : n ≤ 20
    · have HP := Lib.hid h1
      have HQ := Lib.hid hQ
      clear hQ
      obtain ⟨p0, p1⟩ := stNet.blk_ HX.out
      go_enter Try.func47, Try.ntmps47
      go_wp2_with fail
      refine (inR_yes _ _ _ _ h1.1 h1.2).mono ?_; rintro e w1 ⟨rfl, rfl⟩
      clear h1
      go_wp2
      clear hw0 p0 p1
      go_loopg [18] n (fun g s3 wr => ∃ k : Nat, k + g = n ∧ s3 = .int .i64 k ∧ Below w0.heap.size w0 wr ∧ ∀ j, j < k → pOk Q zs j)
      case atStart => exact ⟨0, by omega, rfl, Below.refl _ _, fun j hj => by omega⟩
      case round =>
        obtain ⟨k, hkg, rfl, hbel, hg⟩ := hrel
        by_cases hlt : k < n
        · obtain ⟨gk, rfl⟩ : ∃ g', gk = g' + 1 := ⟨gk - 1, by omega⟩
          obtain ⟨b1, o1, rfl, h1⟩ := (HR.out.keep hbel).at_ (by omega)
          obtain ⟨g1, g2, g3⟩ := pipe_at h1 hl hlt
          have hpk : pOk Q zs k ↔ (0 ≤ pF zs k ∧ pF zs k ≤ Q) ∧ (0 ≤ pT zs k ∧ pT zs k ≤ Q) ∧ pF zs k ≠ pT zs k ∧ 1 ≤ pW zs k ∧ pW zs k ≤ 1000 := Iff.rfl
          generalize pF zs k = F at g1 hpk
          generalize pT zs k = T at g2 hpk
          generalize pW zs k = W at g3 hpk
          have HG := Lib.hid hg
          have HK := Lib.hid hpk
          have HL := Lib.hid (Below.trans HB.out (hbel.mono HB.out.size))
          have HC := Lib.hid hbel
          have XN := Lib.hid ((HX.out.step hbel).alloc (.cells #[.int .i64 F, .int .i64 T, .int .i64 W] TP))
          have XP := Lib.hid (Blk.new wr TP #[.int .i64 F, .int .i64 T, .int .i64 W])
          obtain ⟨q0, q1⟩ := stNet.blk_ XN.out
          clear h1 hg hpk hbel
          by_cases h3 : F = T
          · have hb := A.out.bad k hlt (fun h => (HK.out.1 h).2.2.1 h3)
            subst h3
            go_wp2
            go_ret
            exact ⟨by rw [hb]; rfl, below_al HL.out _⟩
          · by_cases h1 : 0 ≤ F ∧ F ≤ Q
            · by_cases h2 : 0 ≤ T ∧ T ≤ Q
              · by_cases h4 : 1 ≤ W ∧ W ≤ 1000
                · go_wp2_with fail
                  refine (isp_yes _ _ _ _ _ HQ.out h1.1 h1.2).mono ?_; rintro e w1 ⟨rfl, hb1⟩
                  obtain ⟨e0, e1⟩ := stNet.blk_ (XN.out.step hb1)
                  obtain ⟨e2, e3, e4⟩ := stPipe3 (XP.out.step hb1)
                  clear q0 q1
                  go_wp2_with fail
                  refine (isp_yes _ _ _ _ _ HQ.out h2.1 h2.2).mono ?_; rintro e w2 ⟨rfl, hb2⟩
                  obtain ⟨e5, e6, e7⟩ := stPipe3 ((XP.out.step hb1).step hb2)
                  clear e0 e1 e2 e3 e4
                  go_wp2_with fail
                  refine (inR_yes _ _ _ _ h4.1 h4.2).mono ?_; rintro e w1 ⟨rfl, rfl⟩
                  have hnew := Lib.hid (pOk_succ HG.out (HK.out.2 ⟨h1, h2, h3, h4⟩))
                  have B2 := Lib.hid (below_step (below_step (below_al HC.out _) hb1) hb2)
                  clear h1 h2 h4 hb1 hb2
                  go_wp2
                  go_roundg gk
                  case measure => omega
                  case rel => exact ⟨k + 1, by omega, by go_num, B2.out, hnew.out⟩
                · go_wp2_with fail
                  refine (isp_yes _ _ _ _ _ HQ.out h1.1 h1.2).mono ?_; rintro e w1 ⟨rfl, hb1⟩
                  obtain ⟨e0, e1⟩ := stNet.blk_ (XN.out.step hb1)
                  obtain ⟨e2, e3, e4⟩ := stPipe3 (XP.out.step hb1)
                  clear q0 q1
                  go_wp2_with fail
                  refine (isp_yes _ _ _ _ _ HQ.out h2.1 h2.2).mono ?_; rintro e w2 ⟨rfl, hb2⟩
                  obtain ⟨e5, e6, e7⟩ := stPipe3 ((XP.out.step hb1).step hb2)
                  clear e0 e1 e2 e3 e4
                  go_wp2_with fail
                  refine (inR_no _ _ _ _ h4).mono ?_; rintro e w1 ⟨rfl, rfl⟩
                  have hb := A.out.bad k hlt (fun h => h4 (HK.out.1 h).2.2.2)
                  have B2 := Lib.hid (below_step (below_step (below_al HL.out _) hb1) hb2)
                  clear h1 h2 h4 hb1 hb2
                  go_wp2
                  go_ret
                  exact ⟨by rw [hb]; rfl, B2.out⟩
              · go_wp2_with fail
                refine (isp_yes _ _ _ _ _ HQ.out h1.1 h1.2).mono ?_; rintro e w1 ⟨rfl, hb1⟩
                obtain ⟨e0, e1⟩ := stNet.blk_ (XN.out.step hb1)
                obtain ⟨e2, e3, e4⟩ := stPipe3 (XP.out.step hb1)
                clear q0 q1
                go_wp2_with fail
                refine (isp_no _ _ _ _ _ HQ.out h2).mono ?_; rintro e w2 ⟨rfl, hb2⟩
                have hb := A.out.bad k hlt (fun h => h2 (HK.out.1 h).2.1)
                have B2 := Lib.hid (below_step (below_step (below_al HL.out _) hb1) hb2)
                clear h1 h2 hb1 hb2
                go_wp2
                go_ret
                exact ⟨by rw [hb]; rfl, B2.out⟩
            · go_wp2_with fail
              refine (isp_no _ _ _ _ _ HQ.out h1).mono ?_; rintro e w1 ⟨rfl, hb1⟩
              have hb := A.out.bad k hlt (fun h => h1 (HK.out.1 h).1)
              have B2 := Lib.hid (below_step (below_al HL.out _) hb1)
              clear h1 hb1
              go_wp2
              go_ret
              exact ⟨by rw [hb]; rfl, B2.out⟩
        · obtain rfl : k = n := by omega
          have hb := A.out.good HP.out.1 HP.out.2 h2 hg
          clear hg
          go_wp2
          go_ret
          exact ⟨by rw [hb]; rfl, HB.out.trans (hbel.mono HB.out.size)⟩
    · have hb := A.out.long (by omega)
      obtain ⟨p0, p1⟩ := stNet.blk_ HX.out
      go_enter Try.func47, Try.ntmps47
      go_wp2_with fail
      refine (inR_yes _ _ _ _ h1.1 h1.2).mono ?_; rintro e w1 ⟨rfl, rfl⟩
      clear h1
      go_wp2
      go_ret
      exact ⟨by rw [hb]; rfl, HB.out⟩
  · have hb := A.out.out h1
    obtain ⟨p0, p1⟩ := stNet.blk_ HX.out
    go_enter Try.func47, Try.ntmps47
    go_wp2_with fail
    refine (inR_no _ _ _ _ h1).mono ?_; rintro e w1 ⟨rfl, rfl⟩
    clear h1
    go_wp2
    go_ret
    exact ⟨by rw [hb]; rfl, HB.out⟩
end Go.Proofs.Ytilabfmnaegidaa.nt
