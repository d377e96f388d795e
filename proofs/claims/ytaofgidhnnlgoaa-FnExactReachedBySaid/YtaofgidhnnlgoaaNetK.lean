/- Nets of pipes: the specification's ReachedBy and WidestWay. -/
import Derived.Test.YtaofgidhnnlgoaaNetI
import Derived.Test.YtaofgidhnnlgoaaNetJ
namespace Go.Proofs.Ytaofgidhnnlgoaa.nt
open Go.RowKit Go.Proofs.Ytaofgidhnnlgoaa.kit Go.Proofs.Ytaofgidhnnlgoaa.lawi Go.Proofs.Ytaofgidhnnlgoaa.own Go.Proofs.Ytaofgidhnnlgoaa.rain Go.Proofs.Ytaofgidhnnlgoaa.yrl Go.Proofs.Ytaofgidhnnlgoaa.net Go.Proofs.Ytaofgidhnnlgoaa.bits_
set_option maxHeartbeats 1000000 in
theorem spec_bits (w : World) (s : Nat) (hs : s < 256) (q : Nat → Bool) (hq : ∀ u, u < 8 → q u = s.testBit u) : Calls Try.prog 46 #[.int .i64 s] w (GotR TI 1 w (dy q 8).length (IV (dy q 8))) := by
  have ho : (w.alloc (.cells #[] 3)).ownsRow w.heap.size TI 1 (.slice (some ⟨w.heap.size, 0, none⟩) 0 0) 0 [] :=
    ⟨by simp, .inr ⟨w.heap.size, 0, #[], rfl, Nat.le_refl _, Blk.new _ _ _, Nat.zero_le _, by unfold maxLen; omega, by simp, by simp⟩⟩
  have B0 : Below w.heap.size w (w.alloc (.cells #[] 3)) := below_al (Below.refl _ _) _
  have HO := Lib.hid ho
  have HB := Lib.hid B0
  clear ho B0
  go_enter Try.func46, Try.ntmps46
  go_wp2
  go_loopg [3, 4] 8 (fun g s3 s4 wr => ∃ k : Nat, k + g = 8 ∧ s4 = .int .i64 k ∧ wr.ownsRow w.heap.size TI 1 s3 (dy q k).length (IV (dy q k)) ∧ Below w.heap.size w wr ∧ w.heap.size ≤ wr.heap.size)
  case atStart => exact ⟨0, by omega, rfl, HO.out, HB.out, HB.out.size⟩
  case round =>
    clear HO HB
    obtain ⟨k, hkg, rfl, hown, hbel, hsz⟩ := hrel
    have HL2 := Lib.hid hbel
    clear hbel
    by_cases hlt : k < 8
    · obtain ⟨gk, rfl⟩ : ∃ g', gk = g' + 1 := ⟨gk - 1, by omega⟩
      have hds := dy_succ q k
      have hln := dy_len q k
      have e1 := shr64 s k
      have e6 : s >>> k ≤ s := by rw [Nat.shiftRight_eq_div_pow]; exact Nat.div_le_self _ _
      have e3 := and_nat (a := s >>> k) (b := 1) (by omega) (by decide)
      rw [bit_val, ← hq k hlt] at e3
      generalize s >>> k = sF at e1 e3 e6
      cases hqk : q k with
      | true =>
        rw [if_pos hqk] at hds e3
        replace e3 : bits .and .i64 (sF : Int) 1 = 1 := e3
        obtain ⟨l, hl⟩ : ∃ l, dy q k = l := ⟨_, rfl⟩
        rw [hl] at hown hds hln
        have HD := Lib.hid hds
        clear hds hl e6 hqk
        go_wp2_with (first
          | (at_builtin
             refine app1 _ rfl _ _ rfl w.heap.size k hown rfl rfl (by omega) hsz ?_; intro v' w4 hown4 hg4
             have L4 := Lib.hid (HL2.out.grown hg4 HL2.out.size (fun j hj => (hown.lt j hj).1))
             have O4 := Lib.hid hown4
             have z4 := hg4.size
             clear hown4 hg4)
          | fail)
        go_roundg gk
        case measure => omega
        case rel => exact ⟨k + 1, by omega, by go_num, by rw [HD.out]; simpa using O4.out, L4.out, by omega⟩
      | false =>
        rw [if_neg (by rw [hqk]; simp)] at hds e3
        replace e3 : bits .and .i64 (sF : Int) 1 = 0 := e3
        have HD := Lib.hid hds
        have HO := Lib.hid hown
        clear hds hown e6 hqk
        go_wp2
        go_roundg gk
        case measure => omega
        case rel => exact ⟨k + 1, by omega, by go_num, by rw [HD.out]; exact HO.out, HL2.out, hsz⟩
    · obtain rfl : k = 8 := by omega
      go_wp2
      go_ret
      exact ⟨_, rfl, hown, HL2.out⟩
theorem rch_low {F T W : Nat → Int} {m : Nat} {x a v : Int} (hW : ∀ k, k < m → x ≤ W k) (h : Rch F T W m 0 a v) : Rch F T W m x a v := by
  induction h with
  | base => exact .base
  | step k hk _ _ ih => exact .step k hk (hW k hk) ih
set_option maxHeartbeats 1000000 in
theorem spec_by_yes (w : World) (P : Int) (v : Value) (n : Nat) (zs : List Int) (hr : Row 3 w v n (IV zs)) (ok : NO P n zs) (a : Int) (ha0 : 0 ≤ a) (ha1 : a < P) (q : Nat → Bool) (hq : ∀ k : Nat, q k = true ↔ Rch (pF zs) (pT zs) (pW zs) n 1 a k) :
    Calls Try.prog 23 #[Nv P v, .int .i64 a] w (GotR TI 1 w (dy q 8).length (IV (dy q 8))) := by
  obtain ⟨av, ca, rfl⟩ := hr.shape
  have hn := ok.2.2.1
  have hP := ok.2.1
  have hQ := wrap_sub ok.1 ok.2.1
  have B0 : Below w.heap.size w (w.alloc (.cells #[.int .i64 P, .slice av n ca] TN)) := below_al (Below.refl _ _) _
  have HR := Lib.hid (hr.keep B0)
  have HB := Lib.hid B0
  have HX := Lib.hid (Blk.new w TN #[.int .i64 P, .slice av n ca])
  obtain ⟨p0, p1⟩ := stNet.blk_ HX.out
  have OK := Lib.hid ok
  have HQ := Lib.hid hq
  clear hr B0 ok hq
  go_enter Try.func23, Try.ntmps23
  go_wp2_with fail
  refine (spec_nok _ _ _ n zs (by omega) HR.out true ⟨fun _ => OK.out, fun _ => rfl⟩).mono ?_; rintro e w1 ⟨rfl, hb1⟩
  clear p0 p1
  obtain ⟨p0, p1⟩ := stNet.blk_ (HX.out.step hb1)
  go_wp2_with fail
  refine (in_yes _ _ _ _ ha0 (by omega : a ≤ P - 1)).mono ?_; rintro e w2 ⟨rfl, rfl⟩
  go_wp2_with fail
  refine (spec_reach _ _ _ n zs (HR.out.keep hb1) OK.out a 0 ha0 ha1).mono ?_; rintro e w3 ⟨s, rfl, hs, hbits, hb3⟩
  have HQ2 : Hid (∀ u, u < 8 → q u = s.testBit u) := by
    refine Lib.hid fun u hu => ?_
    have h1 := hbits u hu
    have h2 := HQ.out u
    rw [Bool.eq_iff_iff, h1, h2]
    exact ⟨fun h => h.mono (by omega), fun h => rch_low (fun k hk => (OK.out.2.2.2 k hk).2.2.2.1) h⟩
  replace HB := Lib.hid (below_step (below_step HB.out hb1) hb3)
  clear p0 p1 hb1 hb3 hbits ha0 ha1
  go_wp2_with fail
  refine (spec_bits _ s hs q HQ2.out).mono ?_; rintro e w4 ⟨u, rfl, hu, hb4⟩
  have HU := Lib.hid (own_mono hu HB.out.size)
  have HB4 := Lib.hid (below_step HB.out hb4)
  clear hu hb4
  go_wp2
  go_ret
  exact ⟨u, rfl, HU.out, HB4.out⟩
theorem spec_by_no (w : World) (P : Int) (v : Value) (n : Nat) (zs : List Int) (hn : n ≤ 1048576) (hr : Row 3 w v n (IV zs)) (a : Int) (no : ¬ (NO P n zs ∧ 0 ≤ a ∧ a < P)) :
    Calls Try.prog 23 #[Nv P v, .int .i64 a] w (GotR TI 1 w 0 []) := by
  obtain ⟨av, ca, rfl⟩ := hr.shape
  have B0 : Below w.heap.size w (w.alloc (.cells #[.int .i64 P, .slice av n ca] TN)) := below_al (Below.refl _ _) _
  have HR := Lib.hid (hr.keep B0)
  have HB := Lib.hid B0
  have HX := Lib.hid (Blk.new w TN #[.int .i64 P, .slice av n ca])
  obtain ⟨p0, p1⟩ := stNet.blk_ HX.out
  clear hr B0
  have fin : ∀ W : World, Below w.heap.size w W → w.heap.size ≤ W.heap.size → GotR TI 1 w 0 [] (.returned (.slice (some ⟨W.heap.size, 0, none⟩) 0 0)) (W.alloc (.cells #[] 3)) := fun W hW hs =>
    ⟨_, rfl, ⟨by simp, .inr ⟨W.heap.size, 0, #[], rfl, hs, Blk.new _ _ _, Nat.zero_le _, by unfold maxLen; omega, by simp, by simp⟩⟩, below_al hW _⟩
  by_cases ok : NO P n zs
  · have hQ := wrap_sub ok.1 ok.2.1
    have OK := Lib.hid ok
    have hx : ¬ (0 ≤ a ∧ a ≤ P - 1) := fun h => no ⟨ok, by omega⟩
    clear ok no
    go_enter Try.func23, Try.ntmps23
    go_wp2_with fail
    refine (spec_nok _ _ _ n zs hn HR.out true ⟨fun _ => OK.out, fun _ => rfl⟩).mono ?_; rintro e w1 ⟨rfl, hb1⟩
    obtain ⟨e0, e1⟩ := stNet.blk_ (HX.out.step hb1)
    replace HB := Lib.hid (below_step HB.out hb1)
    clear p0 p1 hb1
    go_wp2_with fail
    refine (in_no _ _ _ _ hx).mono ?_; rintro e w2 ⟨rfl, rfl⟩
    clear hx
    go_wp2
    go_ret
    exact fin _ HB.out HB.out.size
  · have OK := Lib.hid ok
    clear ok no
    go_enter Try.func23, Try.ntmps23
    go_wp2_with fail
    refine (spec_nok _ _ _ n zs hn HR.out false ⟨fun h => (by cases h), fun h => absurd h OK.out⟩).mono ?_; rintro e w1 ⟨rfl, hb1⟩
    replace HB := Lib.hid (below_step HB.out hb1)
    clear hb1
    go_wp2
    go_ret
    exact fin _ HB.out HB.out.size
set_option maxHeartbeats 4000000 in
theorem spec_wide_yes (w : World) (P : Int) (v : Value) (n : Nat) (zs : List Int) (hr : Row 3 w v n (IV zs)) (a b : Int) (two : Two P n zs a b) (x : Int) (hx : Wide (pF zs) (pT zs) (pW zs) n a b x) :
    Calls Try.prog 28 #[Nv P v, .int .i64 a, .int .i64 b] w (Gives w (.int .i64 x)) := by
  obtain ⟨av, ca, rfl⟩ := hr.shape
  have hl : zs.length = n * 3 := by simpa using hr.1
  have HT := Lib.hid two
  obtain ⟨ok, ⟨ha0, ha1⟩, ⟨hb0, hb1⟩, hab⟩ := two
  have hn := ok.2.2.1
  have hP := ok.2.1
  obtain ⟨B, hB⟩ : ∃ B : Nat, b = (B : Int) := ⟨b.toNat, by omega⟩
  subst hB
  have hB8 : B < 8 := by omega
  obtain ⟨w0, hw0⟩ : ∃ w0, w.alloc (.cells #[.int .i64 P, .slice av n ca] TN) = w0 := ⟨_, rfl⟩
  have B0 : Below w.heap.size w w0 := hw0 ▸ below_al (Below.refl _ _) _
  have HX : Hid (Blk w0 w.heap.size TN #[.int .i64 P, .slice av n ca]) := Lib.hid (hw0 ▸ Blk.new w TN #[.int .i64 P, .slice av n ca])
  have HR := Lib.hid (hr.keep B0)
  have OK := Lib.hid ok
  have HB := Lib.hid B0
  have HW := Lib.hid hx
  obtain ⟨p0, p1⟩ := stNet.blk_ HX.out
  clear hr ok B0 hx
  go_enter Try.func28, Try.ntmps28
  go_wp2_with fail
  refine (spec_two _ _ _ n zs (by omega) HR.out a B true ⟨fun _ => HT.out, fun _ => rfl⟩).mono ?_; rintro e w1 ⟨rfl, hq1⟩
  clear p0 p1 hw0
  have HL := Lib.hid hq1
  clear hq1
  go_wp2
  go_loopg [7, 8] n (fun g s7 s8 wr => ∃ k : Nat, ∃ y : Int, k + g = n ∧ s8 = .int .i64 k ∧ s7 = .int .i64 y ∧ 0 ≤ y ∧ (y = 0 ∨ Rch (pF zs) (pT zs) (pW zs) n y a B) ∧ (∀ j, j < k → Rch (pF zs) (pT zs) (pW zs) n (pW zs j) a B → pW zs j ≤ y) ∧ Below w0.heap.size w0 wr)
  case atStart => exact ⟨0, 0, by omega, rfl, rfl, Int.le_refl _, .inl rfl, fun j hj => by omega, HL.out⟩
  case round =>
    clear HL
    obtain ⟨k, y, hkg, rfl, rfl, hy0, hy1, hy2, hbel⟩ := hrel
    obtain ⟨p0, p1⟩ := stNet.blk_ (HX.out.step hbel)
    have HY1 := Lib.hid hy1
    have HY2 := Lib.hid hy2
    clear hy1 hy2
    by_cases hlt : k < n
    · obtain ⟨gk, rfl⟩ : ∃ g', gk = g' + 1 := ⟨gk - 1, by omega⟩
      obtain ⟨b1, o1, rfl, h1⟩ := (HR.out.keep hbel).at_ (by omega)
      obtain ⟨g1, g2, g3⟩ := pipe_at h1 hl hlt
      have hp := (OK.out.2.2.2 k hlt).2.2.2
      obtain ⟨W, hW⟩ : ∃ W, pW zs k = W := ⟨_, rfl⟩
      rw [hW] at g3 hp
      have HWk := Lib.hid hW
      have HBL := Lib.hid hbel
      clear h1 g1 g2 hW hbel
      by_cases hyw : y < W
      · go_wp2_with fail
        refine (spec_reach _ _ _ n zs (HR.out.keep HBL.out) OK.out a W ha0 ha1).mono ?_; rintro e w5 ⟨s, rfl, hs, hbits, hb5⟩
        clear p0 p1 g3
        have L5 := Lib.hid (below_step HBL.out hb5)
        have hfb := hbits B hB8
        have e1 := shr64 s B
        have e6 : s >>> B ≤ s := by rw [Nat.shiftRight_eq_div_pow]; exact Nat.div_le_self _ _
        have e3 := and_nat (a := s >>> B) (b := 1) (by omega) (by decide)
        rw [bit_val] at e3
        generalize s >>> B = sF at e1 e3 e6
        clear hbits hb5 e6
        cases hfv : s.testBit B with
        | true =>
          rw [if_pos hfv] at e3
          replace e3 : bits .and .i64 (sF : Int) 1 = 1 := e3
          have hR := hfb.1 hfv
          have hnew : ∀ j, j < k + 1 → Rch (pF zs) (pT zs) (pW zs) n (pW zs j) a B → pW zs j ≤ W := fun j hj h => by
            rcases (show j < k ∨ j = k from by omega) with h' | rfl
            · have := HY2.out j h' h; omega
            · rw [HWk.out]; exact Int.le_refl _
          have HN := Lib.hid hnew
          have HRR := Lib.hid hR
          clear hfb hR hnew hfv
          go_wp2
          go_roundg gk
          case measure => omega
          case rel => exact ⟨k + 1, W, by omega, by go_num, rfl, by omega, .inr HRR.out, HN.out, L5.out⟩
        | false =>
          rw [if_neg (by rw [hfv]; simp)] at e3
          replace e3 : bits .and .i64 (sF : Int) 1 = 0 := e3
          have hnew : ∀ j, j < k + 1 → Rch (pF zs) (pT zs) (pW zs) n (pW zs j) a B → pW zs j ≤ y := fun j hj h => by
            rcases (show j < k ∨ j = k from by omega) with h' | rfl
            · exact HY2.out j h' h
            · rw [HWk.out] at h
              have := hfb.2 h
              rw [hfv] at this
              cases this
          have HN := Lib.hid hnew
          clear hfb hnew hfv
          go_wp2
          go_roundg gk
          case measure => omega
          case rel => exact ⟨k + 1, y, by omega, by go_num, rfl, hy0, HY1.out, HN.out, L5.out⟩
      · have hnew : ∀ j, j < k + 1 → Rch (pF zs) (pT zs) (pW zs) n (pW zs j) a B → pW zs j ≤ y := fun j hj h => by
          rcases (show j < k ∨ j = k from by omega) with h' | rfl
          · exact HY2.out j h' h
          · rw [HWk.out]; omega
        have HN := Lib.hid hnew
        clear hnew
        go_wp2
        go_roundg gk
        case measure => omega
        case rel => exact ⟨k + 1, y, by omega, by go_num, rfl, hy0, HY1.out, HN.out, HBL.out⟩
    · obtain rfl : k = n := by omega
      have e : y = x := (Wide.of_pipes (Ne.symm hab) hy0 HY1.out HY2.out).uniq HW.out
      subst e
      go_wp2
      go_ret
      exact ⟨rfl, HB.out.trans (hbel.mono HB.out.size)⟩
theorem spec_wide_no (w : World) (P : Int) (v : Value) (n : Nat) (zs : List Int) (hn : n ≤ 1048576) (hr : Row 3 w v n (IV zs)) (a b : Int) (no : ¬ Two P n zs a b) :
    Calls Try.prog 28 #[Nv P v, .int .i64 a, .int .i64 b] w (Gives w (.int .i64 (-1))) := by
  obtain ⟨av, ca, rfl⟩ := hr.shape
  have B0 : Below w.heap.size w (w.alloc (.cells #[.int .i64 P, .slice av n ca] TN)) := below_al (Below.refl _ _) _
  have HR := Lib.hid (hr.keep B0)
  have HB := Lib.hid B0
  have HX := Lib.hid (Blk.new w TN #[.int .i64 P, .slice av n ca])
  obtain ⟨p0, p1⟩ := stNet.blk_ HX.out
  have NN := Lib.hid no
  clear no hr B0
  go_enter Try.func28, Try.ntmps28
  go_wp2_with fail
  refine (spec_two _ _ _ n zs hn HR.out a b false ⟨fun h => (by cases h), fun h => absurd h NN.out⟩).mono ?_; rintro e w1 ⟨rfl, hq1⟩
  replace HB := Lib.hid (below_step HB.out hq1)
  clear hq1 p0 p1
  go_wp2
  go_ret
  exact ⟨rfl, HB.out⟩
end Go.Proofs.Ytaofgidhnnlgoaa.nt
