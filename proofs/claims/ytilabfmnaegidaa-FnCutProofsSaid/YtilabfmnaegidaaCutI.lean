/- Cuts: the program's CutWidth, IsCut, NarrowestCut, CutOf, ProvesGreatest, NeededPipes. -/
import Derived.Test.YtilabfmnaegidaaCutS3
import Derived.Test.YtilabfmnaegidaaFlwI
namespace Go.Proofs.Ytilabfmnaegidaa.cut
open Go.RowKit Go.Proofs.Ytilabfmnaegidaa.kit Go.Proofs.Ytilabfmnaegidaa.lawi Go.Proofs.Ytilabfmnaegidaa.own Go.Proofs.Ytilabfmnaegidaa.rain Go.Proofs.Ytilabfmnaegidaa.yrl Go.Proofs.Ytilabfmnaegidaa.net Go.Proofs.Ytilabfmnaegidaa.nt Go.Proofs.Ytilabfmnaegidaa.flw Go.Proofs.Ytilabfmnaegidaa.fl_ Go.Proofs.Ytilabfmnaegidaa.bits_ Go.Proofs.Ytilabfmnaegidaa.later Go.Proofs.Ytilabfmnaegidaa.mapv Go.Proofs.Ytilabfmnaegidaa.take
theorem impl_setof (w : World) (u : Nat) (hu : u < 63) : Calls Try.prog 44 #[.int .i64 u] w fun e w' => e = .returned (.int .i64 ((1 <<< u : Nat) : Int)) ∧ w = w' := by
  have hsh := shl64 (v := u) hu
  generalize (1 <<< u : Nat) = Q at hsh ⊢
  go_enter Try.func44, Try.ntmps44
  go_wp2
  go_ret
  exact ⟨by rw [← hsh]; rfl, rfl⟩
theorem and_bit (s u : Nat) : (s &&& 1 <<< u) = 0 ↔ bs s (u : Int) = false := by
  unfold bs
  rw [Int.toNat_natCast]
  constructor
  · intro h
    have e : (s &&& 1 <<< u).testBit u = false := by rw [h]; exact Nat.zero_testBit u
    rw [Nat.testBit_and, bit_one] at e
    simpa using e
  · intro h
    refine Nat.eq_of_testBit_eq fun j => ?_
    rw [Nat.testBit_and, bit_one, Nat.zero_testBit]
    by_cases e : j = u
    · subst e; simp [h]
    · simp [e]
theorem shl_small {u : Nat} (h : u < 8) : (1 <<< u : Nat) < 256 := by
  rw [Nat.one_shiftLeft]
  exact Nat.lt_of_lt_of_le (Nat.pow_lt_pow_right (by decide) h) (by decide : 2 ^ 8 ≤ 256)
theorem impl_isin (w : World) (s u : Nat) (hs : s < 256) (hu : u < 8) (r : Bool) (hr : bs s (u : Int) = r) : Calls Try.prog 49 #[.int .i64 s, .int .i64 u] w fun e w' => e = .returned (.bool r) ∧ w = w' := by
  have h1 := and_bit s u
  have h2 := shl_small hu
  have e4 := and_nat (a := s) (b := 1 <<< u) (by omega) (by omega)
  rw [hr] at h1
  go_enter Try.func49, Try.ntmps49
  go_wp2_with fail
  refine (impl_setof _ u (by omega)).mono ?_; rintro e w1 ⟨rfl, rfl⟩
  generalize s &&& 1 <<< u = X at h1 e4
  generalize 1 <<< u = Q at e4 h2
  cases r with
  | false =>
    obtain rfl := h1.2 rfl
    clear h1 hr
    go_wp2
    go_ret
    exact ⟨rfl, rfl⟩
  | true =>
    have hX : ((X : Int) != 0) = true := bne_iff_ne.2 (fun e => by have := h1.1 (by omega); cases this)
    clear h1 hr
    go_wp2
    go_ret
    exact ⟨rfl, rfl⟩
set_option maxHeartbeats 4000000 in
theorem impl_cw_in (w : World) (R : Nat) (v : Value) (n : Nat) (zs : List Int) (s : Nat) (hr : Row 3 w v n (IV zs)) (ok : NO (R : Int) n zs) (hs : InS (R : Int) (s : Int)) :
    Calls Try.prog 16 #[Nv R v, .int .i64 s] w (Gives w (.int .i64 (cwo n zs s))) := by
  obtain ⟨av, ca, rfl⟩ := hr.shape
  have hl : zs.length = n * 3 := by simpa using hr.1
  have hn := ok.2.2.1
  have hR8 : R ≤ 8 := by have := ok.2.1; omega
  have hs256 : s < 256 := by have := hs.small (by omega); omega
  obtain ⟨q0, q1⟩ := inS_shl.1 hs
  have hq := pow_lt hR8
  have hsh := shl64 (v := R) (by omega)
  generalize (1 <<< R : Nat) = Q at hsh q1 hq
  have e0 : IntKind.i64.wrap ((Q : Int) - 1) = (Q : Int) - 1 := IntWalk.i64_in _ (by omega)
  obtain ⟨w0, hw0⟩ : ∃ w0, w.alloc (.cells #[.int .i64 (R : Int), .slice av n ca] TN) = w0 := ⟨_, rfl⟩
  have B0 : Below w.heap.size w w0 := hw0 ▸ below_al (Below.refl _ _) _
  have HX : Hid (Blk w0 w.heap.size TN #[.int .i64 (R : Int), .slice av n ca]) := Lib.hid (hw0 ▸ Blk.new w TN #[.int .i64 (R : Int), .slice av n ca])
  have HR := Lib.hid (hr.keep B0)
  have OK := Lib.hid ok
  have HB := Lib.hid B0
  obtain ⟨p0, p1⟩ := stNet.blk_ HX.out
  clear hr ok B0 hs hq
  go_enter Try.func16, Try.ntmps16
  go_wp2_with fail
  refine (impl_nok _ _ _ n zs (by omega) HR.out true ⟨fun _ => OK.out, fun _ => rfl⟩).mono ?_; rintro e w1 ⟨rfl, hb1⟩
  have hX1 := HX.out.step hb1
  have HL := Lib.hid hb1
  clear p0 p1 hw0 hb1
  obtain ⟨p0, p1⟩ := stNet.blk_ hX1
  clear hX1
  go_wp2_with fail
  refine (inR_yes _ _ _ _ q0 q1).mono ?_; rintro e w2 ⟨rfl, rfl⟩
  clear q0 q1 hsh e0
  go_wp2
  clear p0 p1
  go_loopg [5, 23] n (fun g s5 s6 wr => ∃ k : Nat, k + g = n ∧ s6 = .int .i64 k ∧ s5 = .int .i64 (cw (pF zs) (pT zs) (pW zs) (bs s) k) ∧ Below w0.heap.size w0 wr)
  case atStart => exact ⟨0, by omega, rfl, rfl, HL.out⟩
  case round =>
    clear HL
    obtain ⟨k, hkg, rfl, rfl, hbel⟩ := hrel
    by_cases hlt : k < n
    · obtain ⟨gk, rfl⟩ : ∃ g', gk = g' + 1 := ⟨gk - 1, by omega⟩
      obtain ⟨b1, o1, rfl, h1⟩ := (HR.out.keep hbel).at_ (by omega)
      obtain ⟨g1, g2, g3⟩ := pipe_at h1 hl hlt
      obtain ⟨⟨F0, F1⟩, ⟨T0, T1⟩, FT, W0, W1⟩ := OK.out.2.2.2 k hlt
      have y0 := cw_bd (F := pF zs) (T := pT zs) (W := pW zs) (S := bs s) k (fun j hj => by have := (OK.out.2.2.2 j (by omega)).2.2.2; omega)
      obtain ⟨N, hN⟩ : ∃ N, cw (pF zs) (pT zs) (pW zs) (bs s) (k + 1) = N := ⟨_, rfl⟩
      have hN' := hN
      rw [cw] at hN'
      have HNN := Lib.hid hN
      obtain ⟨F, hF⟩ : ∃ F : Nat, pF zs k = (F : Int) := ⟨(pF zs k).toNat, by omega⟩
      obtain ⟨T, hT⟩ : ∃ T : Nat, pT zs k = (T : Int) := ⟨(pT zs k).toNat, by omega⟩
      rw [hF] at g1 hN' F0 F1
      rw [hT] at g2 hN' T0 T1
      clear hN h1 hF hT
      generalize cw (pF zs) (pT zs) (pW zs) (bs s) k = x at y0 hN' ⊢
      generalize pW zs k = W at g3 W0 W1 hN'
      have hF8 : F < 8 := by omega
      have hT8 : T < 8 := by omega
      obtain ⟨w4, hw4⟩ : ∃ w4, wr.alloc (.cells #[.int .i64 F, .int .i64 T, .int .i64 W] TP) = w4 := ⟨_, rfl⟩
      have xp : Blk w4 wr.heap.size TP #[.int .i64 F, .int .i64 T, .int .i64 W] := hw4 ▸ Blk.new wr TP #[.int .i64 F, .int .i64 T, .int .i64 W]
      obtain ⟨d0, d1, d2⟩ := stPipe3 xp
      have b4 : Below wr.heap.size wr w4 := hw4 ▸ below_al (Below.refl _ _) _
      have HL := Lib.hid (below_step hbel b4)
      clear xp b4 hbel F0 F1 T0 T1 FT
      cases hF : bs s (F : Int) with
      | false =>
        rw [hF, if_neg (by simp)] at hN'
        have HN2 := Lib.hid hN'
        clear hN' y0
        go_wp2_with fail
        refine (impl_isin _ s F hs256 hF8 false hF).mono ?_; rintro e w2 ⟨rfl, rfl⟩
        clear hF
        go_wp2
        go_roundg gk
        case measure => omega
        case rel => exact ⟨k + 1, by omega, by go_num, by rw [HNN.out, ← HN2.out]; congr 1; omega, HL.out⟩
      | true =>
        rw [hF] at hN'
        cases hT : bs s (T : Int) with
        | true =>
          rw [hT, if_neg (by simp)] at hN'
          have HN2 := Lib.hid hN'
          clear hN' y0
          go_wp2_with fail
          refine (impl_isin _ s F hs256 hF8 true hF).mono ?_; rintro e w2 ⟨rfl, rfl⟩
          go_wp2_with fail
          refine (impl_isin _ s T hs256 hT8 true hT).mono ?_; rintro e w2 ⟨rfl, rfl⟩
          clear hF hT
          go_wp2
          go_roundg gk
          case measure => omega
          case rel => exact ⟨k + 1, by omega, by go_num, by rw [HNN.out, ← HN2.out]; congr 1; omega, HL.out⟩
        | false =>
          rw [hT, if_pos ⟨rfl, rfl⟩] at hN'
          have HN2 := Lib.hid hN'
          have e1 : IntKind.i64.wrap (x + W) = x + W := IntWalk.i64_in _ (by omega)
          clear hN' y0
          go_wp2_with fail
          refine (impl_isin _ s F hs256 hF8 true hF).mono ?_; rintro e w2 ⟨rfl, rfl⟩
          go_wp2_with fail
          refine (impl_isin _ s T hs256 hT8 false hT).mono ?_; rintro e w2 ⟨rfl, rfl⟩
          clear hF hT
          go_wp2
          go_roundg gk
          case measure => omega
          case rel => exact ⟨k + 1, by omega, by go_num, by rw [HNN.out, ← HN2.out], HL.out⟩
    · obtain rfl : k = n := by omega
      go_wp2
      go_ret
      exact ⟨rfl, HB.out.trans (hbel.mono HB.out.size)⟩
theorem impl_cw (w : World) (P : Int) (v : Value) (n : Nat) (zs : List Int) (set : Int) (hn : n ≤ 1048576) (hr : Row 3 w v n (IV zs)) (x : Int) (hx : Cw P n zs set x) :
    Calls Try.prog 16 #[Nv P v, .int .i64 set] w (Gives w (.int .i64 x)) := by
  by_cases ok : NO P n zs
  · obtain ⟨R, rfl⟩ : ∃ R : Nat, P = (R : Int) := ⟨P.toNat, by have := ok.1; omega⟩
    by_cases hs : InS (R : Int) set
    · obtain ⟨s, rfl⟩ : ∃ s : Nat, set = (s : Int) := ⟨set.toNat, by have := hs.1; omega⟩
      have e := hx.1 ⟨ok, hs⟩
      rw [Int.toNat_natCast] at e
      rw [e]
      exact impl_cw_in w R v n zs s hr ok hs
    · obtain rfl := hx.2 (fun h => hs h.2)
      obtain ⟨av, ca, rfl⟩ := hr.shape
      have hR8 : R ≤ 8 := by have := ok.2.1; omega
      have hno : ¬ (0 ≤ set ∧ set ≤ ((1 <<< R : Nat) : Int) - 1) := fun h => hs (inS_shl.2 h)
      have hq := pow_lt hR8
      have hsh := shl64 (v := R) (by omega)
      generalize (1 <<< R : Nat) = Q at hsh hno hq
      have e0 : IntKind.i64.wrap ((Q : Int) - 1) = (Q : Int) - 1 := IntWalk.i64_in _ (by omega)
      obtain ⟨w0, hw0⟩ : ∃ w0, w.alloc (.cells #[.int .i64 (R : Int), .slice av n ca] TN) = w0 := ⟨_, rfl⟩
      have B0 : Below w.heap.size w w0 := hw0 ▸ below_al (Below.refl _ _) _
      have HX : Hid (Blk w0 w.heap.size TN #[.int .i64 (R : Int), .slice av n ca]) := Lib.hid (hw0 ▸ Blk.new w TN #[.int .i64 (R : Int), .slice av n ca])
      have HR := Lib.hid (hr.keep B0)
      have OK := Lib.hid ok
      have HB := Lib.hid B0
      have NOO := Lib.hid hno
      obtain ⟨p0, p1⟩ := stNet.blk_ HX.out
      clear hr ok B0 hs hq hno hx
      go_enter Try.func16, Try.ntmps16
      go_wp2_with fail
      refine (impl_nok _ _ _ n zs hn HR.out true ⟨fun _ => OK.out, fun _ => rfl⟩).mono ?_; rintro e w1 ⟨rfl, hb1⟩
      have hX1 := HX.out.step hb1
      have HL := Lib.hid hb1
      clear p0 p1 hw0 hb1
      obtain ⟨p0, p1⟩ := stNet.blk_ hX1
      clear hX1
      go_wp2_with fail
      refine (inR_no _ _ _ _ NOO.out).mono ?_; rintro e w2 ⟨rfl, rfl⟩
      go_wp2
      go_ret
      exact ⟨rfl, HB.out.trans (HL.out.mono HB.out.size)⟩
  · obtain rfl := hx.2 (fun h => ok h.1)
    obtain ⟨av, ca, rfl⟩ := hr.shape
    obtain ⟨w0, hw0⟩ : ∃ w0, w.alloc (.cells #[.int .i64 P, .slice av n ca] TN) = w0 := ⟨_, rfl⟩
    have B0 : Below w.heap.size w w0 := hw0 ▸ below_al (Below.refl _ _) _
    have HX : Hid (Blk w0 w.heap.size TN #[.int .i64 P, .slice av n ca]) := Lib.hid (hw0 ▸ Blk.new w TN #[.int .i64 P, .slice av n ca])
    have HR := Lib.hid (hr.keep B0)
    have OK := Lib.hid ok
    have HB := Lib.hid B0
    obtain ⟨p0, p1⟩ := stNet.blk_ HX.out
    clear hr ok B0 hx
    go_enter Try.func16, Try.ntmps16
    go_wp2_with fail
    refine (impl_nok _ _ _ n zs hn HR.out false ⟨fun h => (by cases h), fun h => absurd h OK.out⟩).mono ?_; rintro e w1 ⟨rfl, hb1⟩
    clear p0 p1
    go_wp2
    go_ret
    exact ⟨rfl, HB.out.trans (hb1.mono HB.out.size)⟩
set_option maxHeartbeats 2000000 in
theorem impl_isc (w : World) (P : Int) (v : Value) (n : Nat) (zs : List Int) (set a b : Int) (hn : n ≤ 1048576) (hr : Row 3 w v n (IV zs)) (r : Bool) (hb : r = true ↔ IsC P n zs set a b) :
    Calls Try.prog 17 #[Nv P v, .int .i64 set, .int .i64 a, .int .i64 b] w (Gives w (.bool r)) := by
  obtain ⟨av, ca, rfl⟩ := hr.shape
  obtain ⟨w0, hw0⟩ : ∃ w0, w.alloc (.cells #[.int .i64 P, .slice av n ca] TN) = w0 := ⟨_, rfl⟩
  have B0 : Below w.heap.size w w0 := hw0 ▸ below_al (Below.refl _ _) _
  have HX : Hid (Blk w0 w.heap.size TN #[.int .i64 P, .slice av n ca]) := Lib.hid (hw0 ▸ Blk.new w TN #[.int .i64 P, .slice av n ca])
  have HR := Lib.hid (hr.keep B0)
  have HB := Lib.hid B0
  have HBB := Lib.hid hb
  obtain ⟨p0, p1⟩ := stNet.blk_ HX.out
  clear hr B0 hb
  by_cases hx0 : NO P n zs ∧ InS P set
  · obtain ⟨ok, hs⟩ := hx0
    have hP8 := ok.2.1
    have hP2 := ok.1
    have hs256 := hs.small hP8
    have INS := Lib.hid hs
    have HQ := Lib.hid (wrap_sub ok.1 ok.2.1)
    have OK := Lib.hid ok
    obtain ⟨s, rfl⟩ : ∃ s : Nat, set = (s : Int) := ⟨set.toNat, by have := hs.1; omega⟩
    obtain ⟨x, hx⟩ : ∃ x, cwo n zs (s : Int).toNat = x := ⟨_, rfl⟩
    have hxb := (cwo_bd ok (s : Int).toNat).1
    have HC := Lib.hid (Cw.of ok hs)
    rw [hx] at hxb HC
    have ex : (x != (-1 : Int)) = true := bne_iff_ne.2 (by omega)
    clear ok hs hx hxb
    go_enter Try.func17, Try.ntmps17
    go_wp2_with fail
    refine (impl_cw _ _ _ n zs s hn HR.out x HC.out).mono ?_; rintro e w1 ⟨rfl, hb1⟩
    have HL := Lib.hid hb1
    have hX1 := HX.out.step hb1
    clear p0 p1 hw0 hb1
    obtain ⟨p0, p1⟩ := stNet.blk_ hX1
    clear hX1
    by_cases ha : 0 ≤ a ∧ a ≤ P - 1
    · obtain ⟨A, rfl⟩ : ∃ A : Nat, a = (A : Int) := ⟨a.toNat, by omega⟩
      go_wp2_with fail
      refine (isp_yes _ _ _ _ _ HQ.out ha.1 ha.2).mono ?_; rintro e w2 ⟨rfl, hb2⟩
      have hX2 := HX.out.step (below_step HL.out hb2)
      have L2 := Lib.hid (below_step HL.out hb2)
      clear p0 p1 hb2
      obtain ⟨p0, p1⟩ := stNet.blk_ hX2
      clear hX2
      by_cases hbb : 0 ≤ b ∧ b ≤ P - 1
      · obtain ⟨B, rfl⟩ : ∃ B : Nat, b = (B : Int) := ⟨b.toNat, by omega⟩
        go_wp2_with fail
        refine (isp_yes _ _ _ _ _ HQ.out hbb.1 hbb.2).mono ?_; rintro e w3 ⟨rfl, hb3⟩
        have L3 := Lib.hid (below_step L2.out hb3)
        have hA8 : A < 8 := by omega
        have hB8 : B < 8 := by omega
        have hs8 : s < 256 := by omega
        clear p0 p1 hb3
        cases hA : bs s (A : Int) with
        | false =>
          have e : r = false := by
            cases r
            · rfl
            · have := (HBB.out.1 rfl).2.2.1
              rw [Int.toNat_natCast, hA] at this
              cases this
          go_wp2_with fail
          refine (impl_isin _ s A hs8 hA8 false hA).mono ?_; rintro e w4 ⟨rfl, rfl⟩
          clear hA
          go_wp2
          go_ret
          exact ⟨by rw [e]; rfl, HB.out.trans (L3.out.mono HB.out.size)⟩
        | true =>
          cases hB : bs s (B : Int) with
          | true =>
            have e : r = false := by
              cases r
              · rfl
              · have := (HBB.out.1 rfl).2.2.2
                rw [Int.toNat_natCast, hB] at this
                cases this
            go_wp2_with fail
            refine (impl_isin _ s A hs8 hA8 true hA).mono ?_; rintro e w4 ⟨rfl, rfl⟩
            go_wp2_with fail
            refine (impl_isin _ s B hs8 hB8 true hB).mono ?_; rintro e w5 ⟨rfl, rfl⟩
            clear hA hB
            go_wp2
            go_ret
            exact ⟨by rw [e]; rfl, HB.out.trans (L3.out.mono HB.out.size)⟩
          | false =>
            have e : r = true := HBB.out.2 ⟨INS.out, ⟨OK.out, by omega, by omega, fun e => by rw [e, hB] at hA; cases hA⟩, by rw [Int.toNat_natCast]; exact hA, by rw [Int.toNat_natCast]; exact hB⟩
            go_wp2_with fail
            refine (impl_isin _ s A hs8 hA8 true hA).mono ?_; rintro e w4 ⟨rfl, rfl⟩
            go_wp2_with fail
            refine (impl_isin _ s B hs8 hB8 false hB).mono ?_; rintro e w5 ⟨rfl, rfl⟩
            clear hA hB
            go_wp2
            go_ret
            exact ⟨by rw [e]; rfl, HB.out.trans (L3.out.mono HB.out.size)⟩
      · have e : r = false := by
          cases r
          · rfl
          · exact absurd (HBB.out.1 rfl).2.1.2.2.1 (by omega)
        go_wp2_with fail
        refine (isp_no _ _ _ _ _ HQ.out hbb).mono ?_; rintro e w3 ⟨rfl, hb3⟩
        have L3 := Lib.hid (below_step L2.out hb3)
        clear p0 p1 hb3
        go_wp2
        go_ret
        exact ⟨by rw [e]; rfl, HB.out.trans (L3.out.mono HB.out.size)⟩
    · have e : r = false := by
        cases r
        · rfl
        · exact absurd (HBB.out.1 rfl).2.1.2.1 (by omega)
      go_wp2_with fail
      refine (isp_no _ _ _ _ _ HQ.out ha).mono ?_; rintro e w2 ⟨rfl, hb2⟩
      have L2 := Lib.hid (below_step HL.out hb2)
      clear p0 p1 hb2
      go_wp2
      go_ret
      exact ⟨by rw [e]; rfl, HB.out.trans (L2.out.mono HB.out.size)⟩
  · have e : r = false := by
      cases r
      · rfl
      · have h := HBB.out.1 rfl
        exact absurd ⟨h.2.1.1, h.1⟩ hx0
    have HC : Hid (Cw P n zs set (-1)) := Lib.hid ⟨fun h => absurd h hx0, fun _ => rfl⟩
    clear hx0
    go_enter Try.func17, Try.ntmps17
    go_wp2_with fail
    refine (impl_cw _ _ _ n zs set hn HR.out (-1) HC.out).mono ?_; rintro e w1 ⟨rfl, hb1⟩
    have HL := Lib.hid hb1
    clear p0 p1 hw0 hb1
    go_wp2
    go_ret
    exact ⟨by rw [e]; rfl, HB.out.trans (HL.out.mono HB.out.size)⟩
/-- The best cut of the first k sets, begun with the set of a alone. -/
def Bq (P : Int) (n : Nat) (zs : List Int) (a b : Int) (k : Nat) (y : Int) : Prop := IsC P n zs y a b ∧ (∀ s, IsC P n zs s a b → s < k → cwo n zs y.toNat ≤ cwo n zs s.toNat ∧ (cwo n zs s.toNat = cwo n zs y.toNat → y ≤ s)) ∧ (y < k ∨ ∀ s, IsC P n zs s a b → y ≤ s)
section
variable {P a b y : Int} {n k : Nat} {zs : List Int}
theorem Bq.zero (two : Two P n zs a b) : Bq P n zs a b 0 ((1 <<< a.toNat : Nat) : Int) := by
  refine ⟨one_cut two, fun s hs h => by have := hs.1.1; omega, .inr fun s hs => ?_⟩
  have h0 := hs.1.1
  have h1 := hs.2.2.1
  unfold bs at h1
  rw [Nat.one_shiftLeft]
  refine Classical.byContradiction fun hc => ?_
  rw [Nat.testBit_lt_two_pow (by omega)] at h1
  cases h1
theorem Bq.bad (h : Bq P n zs a b k y) (hk : ¬ IsC P n zs (k : Int) a b) : Bq P n zs a b (k + 1) y := by
  obtain ⟨h1, h2, h3⟩ := h
  refine ⟨h1, fun s hs hlt => h2 s hs ?_, h3.imp (fun h => by omega) id⟩
  have : s ≠ (k : Int) := fun e => hk (e ▸ hs)
  omega
theorem Bq.good (h : Bq P n zs a b k y) (hk : IsC P n zs (k : Int) a b) (hy : cwo n zs k < cwo n zs y.toNat) : Bq P n zs a b (k + 1) (k : Int) := by
  obtain ⟨h1, h2, h3⟩ := h
  refine ⟨hk, fun s hs hlt => ?_, .inl (by omega)⟩
  rw [Int.toNat_natCast]
  by_cases e : s = (k : Int)
  · subst e
    rw [Int.toNat_natCast]
    exact ⟨Int.le_refl _, fun _ => Int.le_refl _⟩
  · have h4 := (h2 s hs (by omega)).1
    exact ⟨by omega, fun e => by omega⟩
theorem Bq.worse (h : Bq P n zs a b k y) (hk : IsC P n zs (k : Int) a b) (hy : ¬ cwo n zs k < cwo n zs y.toNat) : Bq P n zs a b (k + 1) y := by
  obtain ⟨h1, h2, h3⟩ := h
  refine ⟨h1, fun s hs hlt => ?_, h3.imp (fun h => by omega) id⟩
  by_cases e : s = (k : Int)
  · subst e
    rw [Int.toNat_natCast]
    refine ⟨by omega, fun _ => ?_⟩
    rcases h3 with h | h
    · omega
    · exact h _ hk
  · exact h2 s hs (by omega)
theorem Bq.all (h : Bq P n zs a b (2 ^ P.toNat) y) : Nc P n zs a b y := by
  have e : ((2 ^ P.toNat : Nat) : Int) = (2 : Int) ^ P.toNat := by push_cast; rfl
  refine ⟨h.1, fun s hs => h.2.1 s hs ?_⟩
  rw [e]
  exact hs.1.2
end
set_option maxHeartbeats 8000000 in
theorem impl_ncut (w : World) (P : Int) (v : Value) (n : Nat) (zs : List Int) (a b : Int) (hr : Row 3 w v n (IV zs)) (two : Two P n zs a b) (x : Int) (hx : Nc P n zs a b x) :
    Calls Try.prog 14 #[Nv P v, .int .i64 a, .int .i64 b] w (Gives w (.int .i64 x)) := by
  classical
  obtain ⟨R, rfl⟩ : ∃ R : Nat, P = (R : Int) := ⟨P.toNat, by have := two.1.1; omega⟩
  obtain ⟨av, ca, rfl⟩ := hr.shape
  have hn := two.1.2.2.1
  have hR8 : R ≤ 8 := by have := two.1.2.1; omega
  have hq := pow_lt hR8
  have hsh := shl64 (v := R) (by omega)
  have hQ : Hid ((1 <<< R : Nat) = 2 ^ R) := Lib.hid (Nat.one_shiftLeft R)
  obtain ⟨Q, hQQ⟩ : ∃ Q, (1 <<< R : Nat) = Q := ⟨_, rfl⟩
  rw [hQQ] at hsh hq hQ
  clear hQQ
  obtain ⟨w0, hw0⟩ : ∃ w0, w.alloc (.cells #[.int .i64 (R : Int), .slice av n ca] TN) = w0 := ⟨_, rfl⟩
  have B0 : Below w.heap.size w w0 := hw0 ▸ below_al (Below.refl _ _) _
  have HX : Hid (Blk w0 w.heap.size TN #[.int .i64 (R : Int), .slice av n ca]) := Lib.hid (hw0 ▸ Blk.new w TN #[.int .i64 (R : Int), .slice av n ca])
  have HR := Lib.hid (hr.keep B0)
  have TW := Lib.hid two
  have HB := Lib.hid B0
  have HNC := Lib.hid hx
  obtain ⟨p0, p1⟩ := stNet.blk_ HX.out
  clear hr two B0 hx
  go_enter Try.func14, Try.ntmps14
  go_wp2_with fail
  refine (impl_two _ _ _ n zs (by omega) HR.out a b true ⟨fun _ => TW.out, fun _ => rfl⟩).mono ?_; rintro e w1 ⟨rfl, hb1⟩
  have HL := Lib.hid hb1
  have hX1 := HX.out.step hb1
  have hA : a.toNat < 63 := by have := TW.out.2.1; omega
  have ha : a = (a.toNat : Int) := by have := TW.out.2.1.1; omega
  have B1 := Lib.hid (Bq.zero TW.out)
  obtain ⟨A, hAA⟩ : ∃ A, a.toNat = A := ⟨_, rfl⟩
  rw [hAA] at hA ha B1
  subst ha
  clear p0 p1 hw0 hb1 hAA
  obtain ⟨p0, p1⟩ := stNet.blk_ hX1
  clear hX1
  go_wp2_with fail
  refine (impl_setof _ A hA).mono ?_; rintro e w2 ⟨rfl, rfl⟩
  generalize (1 <<< A : Nat) = y0 at B1 ⊢
  go_wp2
  (try rw [hsh])
  clear p0 p1
  go_loopg [7, 19] Q (fun g s7 s19 wr => ∃ (k : Nat) (y : Int), k + g = Q ∧ s19 = .int .i64 k ∧ s7 = .int .i64 y ∧ Bq R n zs A b k y ∧ Below w0.heap.size w0 wr)
  case atStart => exact ⟨0, y0, by omega, rfl, rfl, B1.out, HL.out⟩
  case round =>
    clear HL B1
    obtain ⟨k, y, hkg, rfl, rfl, hbs, hbel⟩ := hrel
    obtain ⟨p0, p1⟩ := stNet.blk_ (HX.out.step hbel)
    by_cases hlt : k < Q
    · obtain ⟨gk, rfl⟩ : ∃ g', gk = g' + 1 := ⟨gk - 1, by omega⟩
      have HBS := Lib.hid hbs
      have j0 : (k : Int) < (Q : Int) := by omega
      have Lp0 := later.cell p0
      have Lp1 := later.cell p1
      have RW := Lib.hid (HR.out.keep hbel)
      have HL := Lib.hid hbel
      clear hbs hbel
      by_cases hk : IsC R n zs (k : Int) A b
      · have HK := Lib.hid hk
        have c1 := Lib.hid (Cw.of (P := R) (set := (k : Int)) TW.out.1 hk.1)
        have c2 := Lib.hid (Cw.of (P := R) (set := y) TW.out.1 HBS.out.1.1)
        clear hk
        obtain ⟨X1, hX1⟩ : ∃ X, cwo n zs (k : Int).toNat = X := ⟨_, rfl⟩
        obtain ⟨X2, hX2⟩ : ∃ X, cwo n zs y.toNat = X := ⟨_, rfl⟩
        rw [hX1] at c1
        rw [hX2] at c2
        rw [Int.toNat_natCast] at hX1
        by_cases hlt3 : X1 < X2
        · have HN := Lib.hid (HBS.out.good HK.out (by rw [hX1, hX2]; exact hlt3))
          have hyc : decide (X1 < X2) = true := decide_eq_true hlt3
          clear hX1 hX2
          go_wp2_with fail
          (try simp only [List.append])
          refine later.region (by kernel_rfl) (lex.lexB_of (by kernel_rfl) (lex.all_whole (by kernel_rfl))) ?_
          repeat (go_big_quiet_step ((first
            | (go_at_call 17; exact later.calls _ (impl_isc _ _ _ n zs k A b (by omega) (RW.out.keep (Later.h _)) true ⟨fun _ => HK.out, fun _ => rfl⟩))
            | (go_at_call 16; exact later.calls _ (impl_cw _ _ _ n zs _ (by omega) (RW.out.keep (Later.h _)) _ (by first | with_reducible exact c1.out | with_reducible exact c2.out)))
            | fail)))
          refine wpQuiet_nil ?_
          intro _ hw'
          obtain ⟨g, rfl⟩ := hw'
          go_wp2
          go_roundg gk
          case measure => omega
          case rel => exact ⟨k + 1, k, by omega, by go_num, rfl, HN.out, below_step HL.out g.h⟩
        · have HN := Lib.hid (HBS.out.worse HK.out (by rw [hX1, hX2]; exact hlt3))
          have hyc : decide (X1 < X2) = false := decide_eq_false hlt3
          clear hX1 hX2
          go_wp2_with fail
          (try simp only [List.append])
          refine later.region (by kernel_rfl) (lex.lexB_of (by kernel_rfl) (lex.all_whole (by kernel_rfl))) ?_
          repeat (go_big_quiet_step ((first
            | (go_at_call 17; exact later.calls _ (impl_isc _ _ _ n zs k A b (by omega) (RW.out.keep (Later.h _)) true ⟨fun _ => HK.out, fun _ => rfl⟩))
            | (go_at_call 16; exact later.calls _ (impl_cw _ _ _ n zs _ (by omega) (RW.out.keep (Later.h _)) _ (by first | with_reducible exact c1.out | with_reducible exact c2.out)))
            | fail)))
          refine wpQuiet_nil ?_
          intro _ hw'
          obtain ⟨g, rfl⟩ := hw'
          go_wp2
          go_roundg gk
          case measure => omega
          case rel => exact ⟨k + 1, y, by omega, by go_num, rfl, HN.out, below_step HL.out g.h⟩
      · have HK := Lib.hid hk
        have HN := Lib.hid (HBS.out.bad hk)
        clear hk
        go_wp2_with fail
        (try simp only [List.append])
        refine later.region (by kernel_rfl) (lex.lexB_of (by kernel_rfl) (lex.all_whole (by kernel_rfl))) ?_
        repeat (go_big_quiet_step ((first
          | (go_at_call 17; exact later.calls _ (impl_isc _ _ _ n zs k A b (by omega) (RW.out.keep (Later.h _)) false ⟨fun h => (by cases h), fun h => absurd h HK.out⟩))
          | fail)))
        refine wpQuiet_nil ?_
        intro _ hw'
        obtain ⟨g, rfl⟩ := hw'
        go_wp2
        go_roundg gk
        case measure => omega
        case rel => exact ⟨k + 1, y, by omega, by go_num, rfl, HN.out, below_step HL.out g.h⟩
    · obtain rfl : k = Q := by omega
      have e : y = x := by
        have h := hbs
        rw [hQ.out] at h
        exact (Bq.all (P := (R : Int)) (by rw [Int.toNat_natCast]; exact h)).uniq HNC.out
      subst e
      go_wp2
      go_ret
      exact ⟨rfl, HB.out.trans (hbel.mono HB.out.size)⟩
theorem impl_ncut_no (w : World) (P : Int) (v : Value) (n : Nat) (zs : List Int) (a b : Int) (hn : n ≤ 1048576) (hr : Row 3 w v n (IV zs)) (two : ¬ Two P n zs a b) :
    Calls Try.prog 14 #[Nv P v, .int .i64 a, .int .i64 b] w (Gives w (.int .i64 (-1))) := by
  obtain ⟨av, ca, rfl⟩ := hr.shape
  obtain ⟨w0, hw0⟩ : ∃ w0, w.alloc (.cells #[.int .i64 P, .slice av n ca] TN) = w0 := ⟨_, rfl⟩
  have B0 : Below w.heap.size w w0 := hw0 ▸ below_al (Below.refl _ _) _
  have HX : Hid (Blk w0 w.heap.size TN #[.int .i64 P, .slice av n ca]) := Lib.hid (hw0 ▸ Blk.new w TN #[.int .i64 P, .slice av n ca])
  have HR := Lib.hid (hr.keep B0)
  have TW := Lib.hid two
  have HB := Lib.hid B0
  obtain ⟨p0, p1⟩ := stNet.blk_ HX.out
  clear hr two B0
  go_enter Try.func14, Try.ntmps14
  go_wp2_with fail
  refine (impl_two _ _ _ n zs hn HR.out a b false ⟨fun h => (by cases h), fun h => absurd h TW.out⟩).mono ?_; rintro e w1 ⟨rfl, hb1⟩
  clear p0 p1
  go_wp2
  go_ret
  exact ⟨rfl, HB.out.trans (hb1.mono HB.out.size)⟩
theorem set_plus {s k : Nat} (h : s < 2 ^ k) : s + 1 <<< k = s ||| 1 <<< k := by
  have e := Nat.two_pow_add_eq_or_of_lt h 1
  rw [Nat.mul_one] at e
  rw [Nat.one_shiftLeft, Nat.add_comm, e, Nat.or_comm]
set_option maxHeartbeats 4000000 in
theorem impl_cutof_in (w : World) (R : Nat) (v u : Value) (n : Nat) (zs fs : List Int) (A B : Nat) (hr : Row 3 w v n (IV zs)) (hf : Row 1 w u n (IV fs)) (fk : FK (R : Int) n zs n fs (A : Int) (B : Int)) (x : Int) (hx : Co (R : Int) n zs fs (A : Int) x) :
    Calls Try.prog 15 #[Nv R v, u, .int .i64 A, .int .i64 B] w (Gives w (.int .i64 x)) := by
  obtain ⟨av, ca, rfl⟩ := hr.shape
  obtain ⟨au, cu, rfl⟩ := hf.shape
  have two := fk.1
  have hn := two.1.2.2.1
  have hR8 : R ≤ 8 := by have := two.1.2.1; omega
  have hA : A < R := by have := two.2.1.2; omega
  obtain ⟨w0, hw0⟩ : ∃ w0, w.alloc (.cells #[.int .i64 (R : Int), .slice av n ca] TN) = w0 := ⟨_, rfl⟩
  have B0 : Below w.heap.size w w0 := hw0 ▸ below_al (Below.refl _ _) _
  have HX : Hid (Blk w0 w.heap.size TN #[.int .i64 (R : Int), .slice av n ca]) := Lib.hid (hw0 ▸ Blk.new w TN #[.int .i64 (R : Int), .slice av n ca])
  have HR := Lib.hid (hr.keep B0)
  have HF := Lib.hid (hf.keep B0)
  have FKH := Lib.hid fk
  have HB := Lib.hid B0
  have hcap : Hid (∀ k, k < n → 0 ≤ gd fs k ∧ gd fs k ≤ 1000) := Lib.hid fun k hk => by
    have h1 := fk.2.2.bd k hk
    obtain ⟨_, _, _, W0, W1⟩ := fk.1.1.2.2.2 k hk
    omega
  have HCO := Lib.hid hx
  obtain ⟨p0, p1⟩ := stNet.blk_ HX.out
  clear hr hf two B0 hx fk
  go_enter Try.func15, Try.ntmps15
  go_wp2_with fail
  refine (impl_fok _ _ _ _ n n zs fs A B (by omega) HR.out HF.out true ⟨fun _ => FKH.out, fun _ => rfl⟩).mono ?_; rintro e w1 ⟨rfl, hb1⟩
  have hX1 := HX.out.step hb1
  have HL := Lib.hid hb1
  clear p0 p1 hw0 hb1
  obtain ⟨p0, p1⟩ := stNet.blk_ hX1
  clear hX1
  go_wp2_with fail
  refine (impl_ways _ R _ _ n zs fs A (HR.out.keep HL.out) (HF.out.keep HL.out) FKH.out.1.1 hA hcap.out).mono ?_; rintro e w5 ⟨mb, f, rfl, hM, hy, hno, hb5⟩
  have L5 := Lib.hid (below_step HL.out hb5)
  have hX5 := HX.out.step L5.out
  have HM := Lib.hid hM
  have HY := Lib.hid (fun u h => (hy u h).imp fun r h => h.imp fun rv h => h.1)
  have HNO := Lib.hid hno
  clear p0 p1 hb5 HL hM hy hno
  obtain ⟨p0, p1⟩ := stNet.blk_ hX5
  clear hX5
  go_wp2
  clear p0 p1
  go_loopg [10, 26] R (fun g s10 s26 wr => ∃ k s : Nat, k + g = R ∧ s26 = .int .i64 k ∧ s10 = .int .i64 s ∧ s < 2 ^ k ∧ (∀ u : Nat, s.testBit u = true ↔ u < k ∧ RR (pF zs) (pT zs) (pW zs) (gd fs) n A (u : Int)) ∧ Below w5.heap.size w5 wr)
  case atStart => exact ⟨0, 0, by omega, rfl, rfl, by decide, fun u => by simp, Below.refl _ _⟩
  case round =>
    obtain ⟨k, s, hkg, rfl, rfl, hs, hbits, hbel⟩ := hrel
    have hs256 : s < 256 := Nat.lt_of_lt_of_le hs (two_pow_le (by omega))
    by_cases hlt : k < R
    · obtain ⟨gk, rfl⟩ : ∃ g', gk = g' + 1 := ⟨gk - 1, by omega⟩
      have HBI := Lib.hid hbits
      have HLB := Lib.hid hbel
      have HMK := Lib.hid (HM.out.keep hbel)
      have wfk := wf_small (by omega : (0 : Int) ≤ k) (by omega)
      have hs1 : s < 2 ^ (k + 1) := Nat.lt_of_lt_of_le hs (Nat.pow_le_pow_right (by decide) (by omega))
      have HS1 := Lib.hid hs1
      have hp := set_plus hs
      have hadd := Lib.hid (bit_add s k)
      have hlt2 : Hid (s ||| 1 <<< k < 2 ^ (k + 1)) := Lib.hid (set_lt hs1 (by omega))
      have hk8 := shl_small (u := k) (by omega)
      clear hbits hbel hs hs1
      by_cases hreach : RR (pF zs) (pT zs) (pW zs) (gd fs) n A (k : Int)
      · obtain ⟨r, rv, hfk⟩ := HY.out k hreach
        have HFK := Lib.hid hfk
        have HN : Hid (∀ u : Nat, (s ||| 1 <<< k).testBit u = true ↔ u < k + 1 ∧ RR (pF zs) (pT zs) (pW zs) (gd fs) n A (u : Int)) := Lib.hid fun u => by
          rw [hadd.out]
          simp only [Bool.or_eq_true, decide_eq_true_iff]
          rw [HBI.out]
          constructor
          · rintro (rfl | ⟨h1, h2⟩)
            · exact ⟨by omega, hreach⟩
            · exact ⟨by omega, h2⟩
          · rintro ⟨h1, h2⟩
            by_cases e : u = k
            · exact .inl e
            · exact .inr ⟨by omega, h2⟩
        clear hfk HBI hadd hreach
        rw [← hp] at HN hlt2
        go_wp2_with (first
          | (refine wp_lookV_ok _ rfl _ _ TW rfl TI TL Try.underlying3 Try.underlying66 (.slice none 0 0) zero_way mb 8 f rfl HMK.out k rfl wfk ?_; rw [HFK.out])
          | fail)
        refine (impl_setof _ k (by omega)).mono ?_; rintro e w6 ⟨rfl, rfl⟩
        generalize hq : (1 <<< k : Nat) = q at hp hk8 HN hlt2 ⊢
        have e1 : IntKind.i64.wrap ((s : Int) + (q : Int)) = ((s + q : Nat) : Int) := by rw [IntWalk.i64_in _ (by omega)]; push_cast; rfl
        clear hp hq
        go_wp2
        go_roundg gk
        case measure => omega
        case rel => exact ⟨k + 1, s + q, by omega, by go_num, rfl, hlt2.out, HN.out, HLB.out⟩
      · have HFK := Lib.hid (HNO.out k hreach)
        have HN : Hid (∀ u : Nat, s.testBit u = true ↔ u < k + 1 ∧ RR (pF zs) (pT zs) (pW zs) (gd fs) n A (u : Int)) := Lib.hid fun u => by
          rw [HBI.out]
          constructor
          · rintro ⟨h1, h2⟩
            exact ⟨by omega, h2⟩
          · rintro ⟨h1, h2⟩
            refine ⟨?_, h2⟩
            have : u ≠ k := fun e => hreach (e ▸ h2)
            omega
        clear HBI hadd hreach hp hk8 hlt2
        go_wp2_with (first
          | (refine wp_lookV_ok _ rfl _ _ TW rfl TI TL Try.underlying3 Try.underlying66 (.slice none 0 0) zero_way mb 8 f rfl HMK.out k rfl wfk ?_; rw [HFK.out])
          | fail)
        go_roundg gk
        case measure => omega
        case rel => exact ⟨k + 1, s, by omega, by go_num, rfl, HS1.out, HN.out, HLB.out⟩
    · obtain rfl : k = R := by omega
      have hco : Co (k : Int) n zs fs (A : Int) (s : Int) := by
        refine ⟨InS.nat.2 (by rw [Int.toNat_natCast]; exact hs), fun u hu => ?_⟩
        rw [Int.toNat_natCast] at hu ⊢
        rw [hbits]
        exact ⟨fun h => h.2, fun h => ⟨hu, h⟩⟩
      have e : (s : Int) = x := hco.uniq HCO.out
      clear hco hbits
      go_wp2
      go_ret
      exact ⟨by rw [← e]; rfl, HB.out.trans ((below_step L5.out hbel).mono HB.out.size)⟩
theorem impl_cutof (w : World) (P : Int) (v u : Value) (n m : Nat) (zs fs : List Int) (a b : Int) (hn : n ≤ 1048576) (hr : Row 3 w v n (IV zs)) (hf : Row 1 w u m (IV fs)) (x : Int) (hx : CoA P n zs m fs a b x) :
    Calls Try.prog 15 #[Nv P v, u, .int .i64 a, .int .i64 b] w (Gives w (.int .i64 x)) := by
  by_cases fk : FK P n zs m fs a b
  · obtain rfl : m = n := fk.2.1
    obtain ⟨R, rfl⟩ : ∃ R : Nat, P = (R : Int) := ⟨P.toNat, by have := fk.1.1.1; omega⟩
    obtain ⟨A, rfl⟩ : ∃ A : Nat, a = (A : Int) := ⟨a.toNat, by have := fk.1.2.1.1; omega⟩
    obtain ⟨B, rfl⟩ : ∃ B : Nat, b = (B : Int) := ⟨b.toNat, by have := fk.1.2.2.1.1; omega⟩
    exact impl_cutof_in w R v u m zs fs A B hr hf fk x (hx.1 fk)
  · obtain rfl := hx.2 fk
    obtain ⟨av, ca, rfl⟩ := hr.shape
    obtain ⟨w0, hw0⟩ : ∃ w0, w.alloc (.cells #[.int .i64 P, .slice av n ca] TN) = w0 := ⟨_, rfl⟩
    have B0 : Below w.heap.size w w0 := hw0 ▸ below_al (Below.refl _ _) _
    have HX : Hid (Blk w0 w.heap.size TN #[.int .i64 P, .slice av n ca]) := Lib.hid (hw0 ▸ Blk.new w TN #[.int .i64 P, .slice av n ca])
    have HR := Lib.hid (hr.keep B0)
    have HF := Lib.hid (hf.keep B0)
    have HB := Lib.hid B0
    have FKH := Lib.hid fk
    obtain ⟨p0, p1⟩ := stNet.blk_ HX.out
    clear hr hf B0 fk hx
    go_enter Try.func15, Try.ntmps15
    go_wp2_with fail
    refine (impl_fok _ _ _ _ n m zs fs a b hn HR.out HF.out false ⟨fun h => (by cases h), fun h => absurd h FKH.out⟩).mono ?_; rintro e w1 ⟨rfl, hb1⟩
    clear p0 p1
    go_wp2
    go_ret
    exact ⟨rfl, HB.out.trans (hb1.mono HB.out.size)⟩
theorem pg_sizes2 {P : Int} {n m : Nat} {zs fs : List Int} {set a b s x : Int} {r : Bool} (hb : r = true ↔ Pg P n zs m fs set a b) (hc : IsC P n zs set a b) (hs : FSz P n zs m fs a b s) (hx : Cw P n zs set x) : (s == x) = r := by
  by_cases fk : FK P n zs m fs a b
  · exact pg_sizes hb fk hc hs hx
  · have e := hs.2 fk
    have h0 := hx.sign.2 ⟨hc.2.1.1, hc.1⟩
    have h1 : r = false := by
      cases r
      · rfl
      · exact absurd (hb.1 rfl).1 fk
    rw [h1]
    exact beq_eq_false_iff_ne.2 (by omega)
set_option maxHeartbeats 4000000 in
theorem impl_pg (w : World) (P : Int) (v u : Value) (n m : Nat) (zs fs : List Int) (set a b : Int) (hn : n ≤ 1048576) (hm : m ≤ 1048576) (hr : Row 3 w v n (IV zs)) (hf : Row 1 w u m (IV fs)) (r : Bool) (hb : r = true ↔ Pg P n zs m fs set a b) :
    Calls Try.prog 18 #[Nv P v, u, .int .i64 set, .int .i64 a, .int .i64 b] w (Gives w (.bool r)) := by
  obtain ⟨s, hs⟩ := FSz.ex P n zs m fs a b
  obtain ⟨x, hx⟩ := Cw.ex P n zs set
  obtain ⟨av, ca, rfl⟩ := hr.shape
  obtain ⟨au, cu, rfl⟩ := hf.shape
  obtain ⟨w0, hw0⟩ : ∃ w0, w.alloc (.cells #[.int .i64 P, .slice av n ca] TN) = w0 := ⟨_, rfl⟩
  have B0 : Below w.heap.size w w0 := hw0 ▸ below_al (Below.refl _ _) _
  have HX : Hid (Blk w0 w.heap.size TN #[.int .i64 P, .slice av n ca]) := Lib.hid (hw0 ▸ Blk.new w TN #[.int .i64 P, .slice av n ca])
  have HR := Lib.hid (hr.keep B0)
  have HF := Lib.hid (hf.keep B0)
  have HB := Lib.hid B0
  have HS := Lib.hid hs
  have HW := Lib.hid hx
  obtain ⟨p0, p1⟩ := stNet.blk_ HX.out
  have Lp0 := later.cell p0
  have Lp1 := later.cell p1
  clear hr hf B0 hs hx
  by_cases hc : IsC P n zs set a b
  · have HC := Lib.hid hc
    have hsx := pg_sizes2 hb hc HS.out HW.out
    clear hb hc
    go_enter Try.func18, Try.ntmps18
    go_wp2_with fail
    (try simp only [List.append])
    refine later.region (by kernel_rfl) (lex.lexB_of (by kernel_rfl) (lex.all_whole (by kernel_rfl))) ?_
    repeat (go_big_quiet_step ((first
      | (go_at_call 17; exact later.calls _ (impl_isc _ _ _ n zs set a b hn (HR.out.keep (Later.h _)) true ⟨fun _ => HC.out, fun _ => rfl⟩))
      | (go_at_call 51; exact later.calls _ (impl_fsz _ _ _ _ n m zs fs a b hn hm (HR.out.keep (Later.h _)) (HF.out.keep (Later.h _)) s HS.out))
      | (go_at_call 16; exact later.calls _ (impl_cw _ _ _ n zs set hn (HR.out.keep (Later.h _)) x HW.out))
      | fail)))
    refine wpQuiet_nil ?_
    intro _ hw'
    obtain ⟨g, rfl⟩ := hw'
    go_wp2
    go_ret
    exact ⟨by first | rfl | exact congrArg (fun z => Ending.returned (Value.bool z)) hsx, HB.out.trans (g.h.mono HB.out.size)⟩
  · have HC := Lib.hid hc
    have e : r = false := by
      cases r
      · rfl
      · exact absurd (hb.1 rfl).2.1 hc
    clear hb hc
    go_enter Try.func18, Try.ntmps18
    go_wp2_with fail
    (try simp only [List.append])
    refine later.region (by kernel_rfl) (lex.lexB_of (by kernel_rfl) (lex.all_whole (by kernel_rfl))) ?_
    repeat (go_big_quiet_step ((first
      | (go_at_call 17; exact later.calls _ (impl_isc _ _ _ n zs set a b hn (HR.out.keep (Later.h _)) false ⟨fun h => (by cases h), fun h => absurd h HC.out⟩))
      | fail)))
    refine wpQuiet_nil ?_
    intro _ hw'
    obtain ⟨g, rfl⟩ := hw'
    go_wp2
    go_ret
    exact ⟨by first | rfl | (rw [e]; rfl), HB.out.trans (g.h.mono HB.out.size)⟩
set_option maxHeartbeats 4000000 in
theorem impl_np (w : World) (P : Int) (v : Value) (n : Nat) (zs : List Int) (a b g : Int) (q : Nat → Bool) (hr : Row 3 w v n (IV zs)) (two : Two P n zs a b) (hg : MF (pF zs) (pT zs) (pW zs) n P a b g) (hq : Np P n zs a b g q) :
    Calls Try.prog 20 #[Nv P v, .int .i64 a, .int .i64 b] w (GotR TI 1 w (dy q n).length (IV (dy q n))) := by
  obtain ⟨i0, hi, hz0, hz1, hz2⟩ := info_parts infoI
  obtain ⟨av, ca, rfl⟩ := hr.shape
  have hl : zs.length = n * 3 := by simpa using hr.1
  have hn := two.1.2.2.1
  have hg0 := hg.nonneg (fun k hk => (Two.wd two k hk).1)
  have e0 : (g == (-1 : Int)) = false := beq_eq_false_iff_ne.2 (by omega)
  obtain ⟨w0, hw0⟩ : ∃ w0, w.alloc (.cells #[.int .i64 P, .slice av n ca] TN) = w0 := ⟨_, rfl⟩
  have B0 : Below w.heap.size w w0 := hw0 ▸ below_al (Below.refl _ _) _
  have HX : Hid (Blk w0 w.heap.size TN #[.int .i64 P, .slice av n ca]) := Lib.hid (hw0 ▸ Blk.new w TN #[.int .i64 P, .slice av n ca])
  have HR := Lib.hid (hr.keep B0)
  have TW := Lib.hid two
  have HB := Lib.hid B0
  have HG := Lib.hid hg
  have HQ := Lib.hid hq
  obtain ⟨p0, p1⟩ := stNet.blk_ HX.out
  clear hr two B0 hg hq
  go_enter Try.func20, Try.ntmps20
  go_wp2_with fail
  refine (impl_great _ _ _ n zs a b g HR.out TW.out HG.out).mono ?_; rintro e w2 ⟨rfl, hb2⟩
  have L2 := Lib.hid hb2
  have hX2 := HX.out.step hb2
  clear p0 p1 hb2 hw0
  obtain ⟨p0, p1⟩ := stNet.blk_ hX2
  clear hX2
  go_wp2_with (first
    | (at_make
       refine wpList_make_own _ rfl _ _ 30 rfl w2.heap.size TI i0 (.int .i64 0) 1 Try.underlying30 hi hz0 hz1 _ _ _ n rfl rfl rfl (by rw [hz2]; omega) (by unfold maxLen; omega) (Nat.le_refl _) ?_; intro w3 hown hg3
       have hb3 := below_grown hg3 (Nat.le_refl _) (by simp)
       have L3 := Lib.hid (below_step L2.out hb3)
       have O3 := Lib.hid hown
       have H23 := Lib.hid hg3.size
       replace p0 := keep1 p0 hb3
       replace p1 := keep1 p1 hb3
       clear hg3 hb3 hown)
    | fail)
  have hsz0 : Hid (w0.heap.size ≤ w2.heap.size) := Lib.hid L2.out.size
  have hsz3 : w2.heap.size ≤ w3.heap.size := H23.out
  generalize w2.heap.size = g0 at hsz0 hsz3 O3 ⊢
  clear p0 p1 H23 L2
  go_loopg [8, 25] n (fun gk s8 s25 wr => ∃ k : Nat, k + gk = n ∧ s25 = .int .i64 k ∧ wr.ownsRow g0 TI 1 s8 (dy q k).length (IV (dy q k)) ∧ Below w0.heap.size w0 wr ∧ g0 ≤ wr.heap.size)
  case atStart => exact ⟨0, by omega, rfl, O3.out, L3.out, hsz3⟩
  case round =>
    clear O3 L3 hsz3
    obtain ⟨k, hkg, rfl, hown, hbel, hszr⟩ := hrel
    obtain ⟨p0, p1⟩ := stNet.blk_ (HX.out.step hbel)
    by_cases hlt : k < n
    · obtain ⟨gk, rfl⟩ : ∃ g', gk = g' + 1 := ⟨gk - 1, by omega⟩
      obtain ⟨y, hy, hqy⟩ := HQ.out k hlt
      have TWL := Lib.hid (two_less TW.out hl hlt)
      obtain ⟨m, hm⟩ : ∃ m, n - 1 = m := ⟨_, rfl⟩
      rw [hm] at hy TWL
      have HM := Lib.hid hm
      have HY := Lib.hid hy
      have HQY := Lib.hid hqy
      obtain ⟨l, hl0⟩ : ∃ l, dy q k = l := ⟨_, rfl⟩
      have hds := dy_succ q k
      have hln := dy_len q k
      rw [hl0] at hown hds hln
      have HD := Lib.hid hds
      have HO := Lib.hid hown
      have HL := Lib.hid hbel
      have HZ := Lib.hid hszr
      clear hy hqy hm hl0 hds hown hbel hszr
      go_wp2_with fail
      refine (impl_without_yes _ _ _ n k zs (HR.out.keep HL.out) TW.out.1 hlt).mono ?_; rintro e w3 ⟨u3, lo3, hi3, rfl, ⟨o3, hlo3⟩, hb⟩
      rw [HM.out] at o3
      obtain ⟨a3, d3, rfl⟩ := own_shape o3.own
      obtain ⟨wB, hwB⟩ : ∃ wB, w3.alloc (.cells #[.int .i64 P, .slice a3 m d3] TN) = wB := ⟨_, rfl⟩
      have BB : Below w3.heap.size w3 wB := hwB ▸ below_al (Below.refl _ _) _
      have X3 := Lib.hid (hwB ▸ Blk.new w3 TN #[.int .i64 P, .slice a3 m d3] : Blk wB w3.heap.size TN #[.int .i64 P, .slice a3 m d3])
      have R3 := Lib.hid (o3.row.keep BB)
      replace HO := Lib.hid (own_below (own_below HO.out hb) BB)
      replace HL := Lib.hid (below_step (below_step HL.out hb) BB)
      replace HZ := Lib.hid (Nat.le_trans HZ.out (Nat.le_trans hb.size BB.size))
      clear o3 hlo3 hb BB p0 p1
      obtain ⟨x0, x1⟩ := stNet.blk_ X3.out
      go_wp2_with fail
      refine (impl_great _ _ _ m _ a b y R3.out TWL.out HY.out).mono ?_; rintro e w4 ⟨rfl, hb⟩
      replace HO := Lib.hid (own_below HO.out hb)
      replace HL := Lib.hid (below_step HL.out hb)
      have hbase : g0 ≤ w4.heap.size := Nat.le_trans HZ.out hb.size
      clear hb x0 x1 hwB HZ
      by_cases hyg : y < g
      · have e : dy q (k + 1) = l ++ [(k : Int)] := by rw [HD.out, if_pos (HQY.out.2 hyg)]
        have E := Lib.hid e
        have HO2 := HO.out
        clear e HO
        go_wp2_with (first
          | (at_builtin
             refine app1 _ rfl _ _ rfl g0 k HO2 rfl rfl (by omega) hbase ?_; intro v' w5 hown5 hg5
             have O5 := Lib.hid hown5
             have L5 := Lib.hid (HL.out.grown hg5 HL.out.size (fun j hj => by have := (HO2.lt j hj).1; have := hsz0.out; omega))
             have Z5 := Lib.hid hg5.size
             clear hown5 hg5)
          | fail)
        go_roundg gk
        case measure => omega
        case rel => exact ⟨k + 1, by omega, by go_num, by rw [E.out]; simpa using O5.out, L5.out, Nat.le_trans hbase Z5.out⟩
      · have e : dy q (k + 1) = l := by rw [HD.out, if_neg (fun h => hyg (HQY.out.1 h))]
        have E := Lib.hid e
        clear e
        go_wp2
        go_roundg gk
        case measure => omega
        case rel => exact ⟨k + 1, by omega, by go_num, by rw [E.out]; exact HO.out, HL.out, hbase⟩
    · obtain rfl : k = n := by omega
      have HO := Lib.hid hown
      have HL := Lib.hid hbel
      clear hown hbel hszr
      go_wp2
      go_ret
      exact ⟨_, rfl, own_mono HO.out (Nat.le_trans HB.out.size hsz0.out), HB.out.trans (HL.out.mono HB.out.size)⟩
theorem impl_np_no (w : World) (P : Int) (v : Value) (n : Nat) (zs : List Int) (a b : Int) (hn : n ≤ 1048576) (hr : Row 3 w v n (IV zs)) (two : ¬ Two P n zs a b) :
    Calls Try.prog 20 #[Nv P v, .int .i64 a, .int .i64 b] w (GotR TI 1 w 0 []) := by
  obtain ⟨av, ca, rfl⟩ := hr.shape
  obtain ⟨w0, hw0⟩ : ∃ w0, w.alloc (.cells #[.int .i64 P, .slice av n ca] TN) = w0 := ⟨_, rfl⟩
  have B0 : Below w.heap.size w w0 := hw0 ▸ below_al (Below.refl _ _) _
  have HX : Hid (Blk w0 w.heap.size TN #[.int .i64 P, .slice av n ca]) := Lib.hid (hw0 ▸ Blk.new w TN #[.int .i64 P, .slice av n ca])
  have HR := Lib.hid (hr.keep B0)
  have TW := Lib.hid two
  have HB := Lib.hid B0
  obtain ⟨p0, p1⟩ := stNet.blk_ HX.out
  clear hr two B0
  go_enter Try.func20, Try.ntmps20
  go_wp2_with fail
  refine (impl_great_no _ _ _ n zs a b hn HR.out TW.out).mono ?_; rintro e w1 ⟨rfl, hb1⟩
  have HL := Lib.hid hb1
  clear p0 p1 hb1
  go_wp2
  go_ret
  exact ⟨_, rfl, World.ownsRow_nil _ _ _ _, HB.out.trans (HL.out.mono HB.out.size)⟩
end Go.Proofs.Ytilabfmnaegidaa.cut
