/- Nets of pipes: the specification's ReachedBy and WidestWay. -/
import Derived.Test.YtenhdpemfdecfaaNetI
import Derived.Test.YtenhdpemfdecfaaNetJ
namespace Go.Proofs.Ytenhdpemfdecfaa.nt
open Go.RowKit Go.Proofs.Ytenhdpemfdecfaa.kit Go.Proofs.Ytenhdpemfdecfaa.lawi Go.Proofs.Ytenhdpemfdecfaa.own Go.Proofs.Ytenhdpemfdecfaa.rain Go.Proofs.Ytenhdpemfdecfaa.yrl Go.Proofs.Ytenhdpemfdecfaa.net Go.Proofs.Ytenhdpemfdecfaa.bits_
theorem rch_low {F T W : Nat → Int} {m : Nat} {x a v : Int} (hW : ∀ k, k < m → x ≤ W k) (h : Rch F T W m 0 a v) : Rch F T W m x a v := by
  induction h with
  | base => exact .base
  | step k hk _ _ ih => exact .step k hk (hW k hk) ih
set_option maxHeartbeats 4000000 in
theorem spec_wide_yes (w : World) (P : Int) (v : Value) (n : Nat) (zs : List Int) (hr : Row 3 w v n (IV zs)) (a b : Int) (two : Two P n zs a b) (x : Int) (hx : Wide (pF zs) (pT zs) (pW zs) n a b x) :
    Calls Try.prog 25 #[Nv P v, .int .i64 a, .int .i64 b] w (Gives w (.int .i64 x)) := by
  obtain ⟨av, ca, rfl⟩ := hr.shape
  have hl : zs.length = n * 3 := by simpa using hr.1
  have HT := Lib.hid two
  obtain ⟨ok, ⟨ha0, ha1⟩, ⟨hb0, hb1⟩, hab⟩ := two
  have hn := ok.2.2.1
  have hP := ok.2.1
  obtain ⟨B, hB⟩ : ∃ B : Nat, b = (B : Int) := ⟨b.toNat, by omega⟩
  subst hB
  have hB8 : B < 8 := by omega
  obtain ⟨w0, hw0⟩ : ∃ w0, w.alloc (.cells #[.int .i64 P, .slice av n ca] TN) = w0 := ⟨_, rfl⟩
  have B0 : Below w.heap.size w w0 := hw0 ▸ below_al (Below.refl _ _) _
  have HX : Hid (Blk w0 w.heap.size TN #[.int .i64 P, .slice av n ca]) := Lib.hid (hw0 ▸ Blk.new w TN #[.int .i64 P, .slice av n ca])
  have HR := Lib.hid (hr.keep B0)
  have OK := Lib.hid ok
  have HB := Lib.hid B0
  have HW := Lib.hid hx
  obtain ⟨p0, p1⟩ := stNet.blk_ HX.out
  clear hr ok B0 hx
  go_enter Try.func25, Try.ntmps25
  go_wp2_with fail
  refine (spec_two _ _ _ n zs (by omega) HR.out a B true ⟨fun _ => HT.out, fun _ => rfl⟩).mono ?_; rintro e w1 ⟨rfl, hq1⟩
  clear p0 p1 hw0
  have HL := Lib.hid hq1
  clear hq1
  go_wp2
  go_loopg [7, 8] n (fun g s7 s8 wr => ∃ k : Nat, ∃ y : Int, k + g = n ∧ s8 = .int .i64 k ∧ s7 = .int .i64 y ∧ 0 ≤ y ∧ (y = 0 ∨ Rch (pF zs) (pT zs) (pW zs) n y a B) ∧ (∀ j, j < k → Rch (pF zs) (pT zs) (pW zs) n (pW zs j) a B → pW zs j ≤ y) ∧ Below w0.heap.size w0 wr)
  case atStart => exact ⟨0, 0, by omega, rfl, rfl, Int.le_refl _, .inl rfl, fun j hj => by omega, HL.out⟩
  case round =>
    clear HL
    obtain ⟨k, y, hkg, rfl, rfl, hy0, hy1, hy2, hbel⟩ := hrel
    obtain ⟨p0, p1⟩ := stNet.blk_ (HX.out.step hbel)
    have HY1 := Lib.hid hy1
    have HY2 := Lib.hid hy2
    clear hy1 hy2
    by_cases hlt : k < n
    · obtain ⟨gk, rfl⟩ : ∃ g', gk = g' + 1 := ⟨gk - 1, by omega⟩
      obtain ⟨b1, o1, rfl, h1⟩ := (HR.out.keep hbel).at_ (by omega)
      obtain ⟨g1, g2, g3⟩ := pipe_at h1 hl hlt
      have hp := (OK.out.2.2.2 k hlt).2.2.2
      obtain ⟨W, hW⟩ : ∃ W, pW zs k = W := ⟨_, rfl⟩
      rw [hW] at g3 hp
      have HWk := Lib.hid hW
      have HBL := Lib.hid hbel
      clear h1 g1 g2 hW hbel
      by_cases hyw : y < W
      · go_wp2_with fail
        refine (spec_reach _ _ _ n zs (HR.out.keep HBL.out) OK.out a W ha0 ha1).mono ?_; rintro e w5 ⟨s, rfl, hs, hbits, hb5⟩
        clear p0 p1 g3
        have L5 := Lib.hid (below_step HBL.out hb5)
        have hfb := hbits B hB8
        have e1 := shr64 s B
        have e6 : s >>> B ≤ s := by rw [Nat.shiftRight_eq_div_pow]; exact Nat.div_le_self _ _
        have e3 := and_nat (a := s >>> B) (b := 1) (by omega) (by decide)
        rw [bit_val] at e3
        generalize s >>> B = sF at e1 e3 e6
        clear hbits hb5 e6
        cases hfv : s.testBit B with
        | true =>
          rw [if_pos hfv] at e3
          replace e3 : bits .and .i64 (sF : Int) 1 = 1 := e3
          have hR := hfb.1 hfv
          have hnew : ∀ j, j < k + 1 → Rch (pF zs) (pT zs) (pW zs) n (pW zs j) a B → pW zs j ≤ W := fun j hj h => by
            rcases (show j < k ∨ j = k from by omega) with h' | rfl
            · have := HY2.out j h' h; omega
            · rw [HWk.out]; exact Int.le_refl _
          have HN := Lib.hid hnew
          have HRR := Lib.hid hR
          clear hfb hR hnew hfv
          go_wp2
          go_roundg gk
          case measure => omega
          case rel => exact ⟨k + 1, W, by omega, by go_num, rfl, by omega, .inr HRR.out, HN.out, L5.out⟩
        | false =>
          rw [if_neg (by rw [hfv]; simp)] at e3
          replace e3 : bits .and .i64 (sF : Int) 1 = 0 := e3
          have hnew : ∀ j, j < k + 1 → Rch (pF zs) (pT zs) (pW zs) n (pW zs j) a B → pW zs j ≤ y := fun j hj h => by
            rcases (show j < k ∨ j = k from by omega) with h' | rfl
            · exact HY2.out j h' h
            · rw [HWk.out] at h
              have := hfb.2 h
              rw [hfv] at this
              cases this
          have HN := Lib.hid hnew
          clear hfb hnew hfv
          go_wp2
          go_roundg gk
          case measure => omega
          case rel => exact ⟨k + 1, y, by omega, by go_num, rfl, hy0, HY1.out, HN.out, L5.out⟩
      · have hnew : ∀ j, j < k + 1 → Rch (pF zs) (pT zs) (pW zs) n (pW zs j) a B → pW zs j ≤ y := fun j hj h => by
          rcases (show j < k ∨ j = k from by omega) with h' | rfl
          · exact HY2.out j h' h
          · rw [HWk.out]; omega
        have HN := Lib.hid hnew
        clear hnew
        go_wp2
        go_roundg gk
        case measure => omega
        case rel => exact ⟨k + 1, y, by omega, by go_num, rfl, hy0, HY1.out, HN.out, HBL.out⟩
    · obtain rfl : k = n := by omega
      have e : y = x := (Wide.of_pipes (Ne.symm hab) hy0 HY1.out HY2.out).uniq HW.out
      subst e
      go_wp2
      go_ret
      exact ⟨rfl, HB.out.trans (hbel.mono HB.out.size)⟩
theorem spec_wide_no (w : World) (P : Int) (v : Value) (n : Nat) (zs : List Int) (hn : n ≤ 1048576) (hr : Row 3 w v n (IV zs)) (a b : Int) (no : ¬ Two P n zs a b) :
    Calls Try.prog 25 #[Nv P v, .int .i64 a, .int .i64 b] w (Gives w (.int .i64 (-1))) := by
  obtain ⟨av, ca, rfl⟩ := hr.shape
  have B0 : Below w.heap.size w (w.alloc (.cells #[.int .i64 P, .slice av n ca] TN)) := below_al (Below.refl _ _) _
  have HR := Lib.hid (hr.keep B0)
  have HB := Lib.hid B0
  have HX := Lib.hid (Blk.new w TN #[.int .i64 P, .slice av n ca])
  obtain ⟨p0, p1⟩ := stNet.blk_ HX.out
  have NN := Lib.hid no
  clear no hr B0
  go_enter Try.func25, Try.ntmps25
  go_wp2_with fail
  refine (spec_two _ _ _ n zs hn HR.out a b false ⟨fun h => (by cases h), fun h => absurd h NN.out⟩).mono ?_; rintro e w1 ⟨rfl, hq1⟩
  replace HB := Lib.hid (below_step HB.out hq1)
  clear hq1 p0 p1
  go_wp2
  go_ret
  exact ⟨rfl, HB.out⟩
end Go.Proofs.Ytenhdpemfdecfaa.nt
