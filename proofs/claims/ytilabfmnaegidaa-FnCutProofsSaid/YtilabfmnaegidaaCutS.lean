/- Cuts: the specification's CutWidth, IsCut. -/
import Derived.Test.YtilabfmnaegidaaCutL
namespace Go.Proofs.Ytilabfmnaegidaa.cut
open Go.RowKit Go.Proofs.Ytilabfmnaegidaa.kit Go.Proofs.Ytilabfmnaegidaa.lawi Go.Proofs.Ytilabfmnaegidaa.own Go.Proofs.Ytilabfmnaegidaa.rain Go.Proofs.Ytilabfmnaegidaa.yrl Go.Proofs.Ytilabfmnaegidaa.net Go.Proofs.Ytilabfmnaegidaa.nt Go.Proofs.Ytilabfmnaegidaa.flw Go.Proofs.Ytilabfmnaegidaa.fl_ Go.Proofs.Ytilabfmnaegidaa.bits_
theorem pow_lt {R : Nat} (h : R ≤ 8) : (1 <<< R : Nat) ≤ 256 ∧ 1 ≤ (1 <<< R : Nat) := by
  rw [Nat.one_shiftLeft]
  exact ⟨two_pow_le h, Nat.one_le_two_pow⟩
theorem inS_shl {R : Nat} {x : Int} : InS (R : Int) x ↔ 0 ≤ x ∧ x ≤ ((1 <<< R : Nat) : Int) - 1 := by
  have e : (2 : Int) ^ R = ((1 <<< R : Nat) : Int) := by rw [Nat.one_shiftLeft]; push_cast; rfl
  unfold InS
  rw [Int.toNat_natCast, e]
  omega
/-- What the test of a place says. -/
theorem bs_test {s u : Nat} (hs : s < 256) : bits .and .i64 ((s >>> u : Nat) : Int) 1 = if bs s (u : Int) = true then 1 else 0 := by
  have h1 : s >>> u ≤ s := by rw [Nat.shiftRight_eq_div_pow]; exact Nat.div_le_self _ _
  have h2 := and_nat (a := s >>> u) (b := 1) (by omega) (by decide)
  rw [bit_val] at h2
  rw [show ((1 : Nat) : Int) = 1 from rfl] at h2
  rw [h2]
  unfold bs
  rw [Int.toNat_natCast]
  split <;> rfl
set_option maxHeartbeats 4000000 in
theorem spec_cw_in (w : World) (R : Nat) (v : Value) (n : Nat) (zs : List Int) (s : Nat) (hr : Row 3 w v n (IV zs)) (ok : NO (R : Int) n zs) (hs : InS (R : Int) (s : Int)) :
    Calls Try.prog 24 #[Nv R v, .int .i64 s] w (Gives w (.int .i64 (cwo n zs s))) := by
  obtain ⟨av, ca, rfl⟩ := hr.shape
  have hl : zs.length = n * 3 := by simpa using hr.1
  have hn := ok.2.2.1
  have hR8 : R ≤ 8 := by have := ok.2.1; omega
  have hs256 : s < 256 := by have := hs.small (by omega); omega
  obtain ⟨q0, q1⟩ := inS_shl.1 hs
  have hq := pow_lt hR8
  have hsh := shl64 (v := R) (by omega)
  generalize (1 <<< R : Nat) = Q at hsh q1 hq
  have e0 : IntKind.i64.wrap ((Q : Int) - 1) = (Q : Int) - 1 := IntWalk.i64_in _ (by omega)
  obtain ⟨w0, hw0⟩ : ∃ w0, w.alloc (.cells #[.int .i64 (R : Int), .slice av n ca] TN) = w0 := ⟨_, rfl⟩
  have B0 : Below w.heap.size w w0 := hw0 ▸ below_al (Below.refl _ _) _
  have HX : Hid (Blk w0 w.heap.size TN #[.int .i64 (R : Int), .slice av n ca]) := Lib.hid (hw0 ▸ Blk.new w TN #[.int .i64 (R : Int), .slice av n ca])
  have HR := Lib.hid (hr.keep B0)
  have OK := Lib.hid ok
  have HB := Lib.hid B0
  obtain ⟨p0, p1⟩ := stNet.blk_ HX.out
  clear hr ok B0 hs hq
  go_enter Try.func24, Try.ntmps24
  go_wp2_with fail
  refine (spec_nok _ _ _ n zs (by omega) HR.out true ⟨fun _ => OK.out, fun _ => rfl⟩).mono ?_; rintro e w1 ⟨rfl, hb1⟩
  have hX1 := HX.out.step hb1
  have HL := Lib.hid hb1
  clear p0 p1 hw0 hb1
  obtain ⟨p0, p1⟩ := stNet.blk_ hX1
  clear hX1
  go_wp2_with fail
  refine (in_yes _ _ _ _ q0 q1).mono ?_; rintro e w2 ⟨rfl, rfl⟩
  clear q0 q1 hsh e0
  go_wp2
  clear p0 p1
  go_loopg [5, 6] n (fun g s5 s6 wr => ∃ k : Nat, k + g = n ∧ s6 = .int .i64 k ∧ s5 = .int .i64 (cw (pF zs) (pT zs) (pW zs) (bs s) k) ∧ Below w0.heap.size w0 wr)
  case atStart => exact ⟨0, by omega, rfl, rfl, HL.out⟩
  case round =>
    clear HL
    obtain ⟨k, hkg, rfl, rfl, hbel⟩ := hrel
    obtain ⟨p0, p1⟩ := stNet.blk_ (HX.out.step hbel)
    by_cases hlt : k < n
    · obtain ⟨gk, rfl⟩ : ∃ g', gk = g' + 1 := ⟨gk - 1, by omega⟩
      obtain ⟨b1, o1, rfl, h1⟩ := (HR.out.keep hbel).at_ (by omega)
      obtain ⟨g1, g2, g3⟩ := pipe_at h1 hl hlt
      obtain ⟨⟨F0, F1⟩, ⟨T0, T1⟩, FT, W0, W1⟩ := OK.out.2.2.2 k hlt
      have y0 := cw_bd (F := pF zs) (T := pT zs) (W := pW zs) (S := bs s) k (fun j hj => by have := (OK.out.2.2.2 j (by omega)).2.2.2; omega)
      obtain ⟨N, hN⟩ : ∃ N, cw (pF zs) (pT zs) (pW zs) (bs s) (k + 1) = N := ⟨_, rfl⟩
      have hN' := hN
      rw [cw] at hN'
      have HNN := Lib.hid hN
      obtain ⟨F, hF⟩ : ∃ F : Nat, pF zs k = (F : Int) := ⟨(pF zs k).toNat, by omega⟩
      obtain ⟨T, hT⟩ : ∃ T : Nat, pT zs k = (T : Int) := ⟨(pT zs k).toNat, by omega⟩
      rw [hF] at g1 hN' F0 F1
      rw [hT] at g2 hN' T0 T1
      clear hN h1 hF hT
      generalize cw (pF zs) (pT zs) (pW zs) (bs s) k = x at y0 hN' ⊢
      generalize pW zs k = W at g3 W0 W1 hN'
      have a1 := shr64 s F
      have a2 := shr64 s T
      have a3 := bs_test (s := s) (u := F) hs256
      have a4 := bs_test (s := s) (u := T) hs256
      have hF8 : F < 8 := by omega
      have hT8 : T < 8 := by omega
      generalize s >>> F = sF at a1 a3
      generalize s >>> T = sT at a2 a4
      have HL := Lib.hid hbel
      clear hbel F0 F1 T0 T1 FT
      cases hF : bs s (F : Int) with
      | false =>
        rw [hF] at a3 hN'
        rw [if_neg (by simp)] at a3
        rw [if_neg (by simp)] at hN'
        have HN2 := Lib.hid hN'
        clear hN' hF a2 a4 y0
        go_wp2
        go_roundg gk
        case measure => omega
        case rel => exact ⟨k + 1, by omega, by go_num, by rw [HNN.out, ← HN2.out]; congr 1; omega, HL.out⟩
      | true =>
        rw [hF] at a3 hN'
        rw [if_pos rfl] at a3
        cases hT : bs s (T : Int) with
        | true =>
          rw [hT] at a4 hN'
          rw [if_pos rfl] at a4
          rw [if_neg (by simp)] at hN'
          have HN2 := Lib.hid hN'
          clear hN' hF hT y0
          go_wp2
          go_roundg gk
          case measure => omega
          case rel => exact ⟨k + 1, by omega, by go_num, by rw [HNN.out, ← HN2.out]; congr 1; omega, HL.out⟩
        | false =>
          rw [hT] at a4 hN'
          rw [if_neg (by simp)] at a4
          rw [if_pos ⟨rfl, rfl⟩] at hN'
          have HN2 := Lib.hid hN'
          have e1 : IntKind.i64.wrap (x + W) = x + W := IntWalk.i64_in _ (by omega)
          clear hN' hF hT y0
          go_wp2
          go_roundg gk
          case measure => omega
          case rel => exact ⟨k + 1, by omega, by go_num, by rw [HNN.out, ← HN2.out], HL.out⟩
    · obtain rfl : k = n := by omega
      go_wp2
      go_ret
      exact ⟨rfl, HB.out.trans (hbel.mono HB.out.size)⟩
theorem spec_cw (w : World) (P : Int) (v : Value) (n : Nat) (zs : List Int) (set : Int) (hn : n ≤ 1048576) (hr : Row 3 w v n (IV zs)) (x : Int) (hx : Cw P n zs set x) :
    Calls Try.prog 24 #[Nv P v, .int .i64 set] w (Gives w (.int .i64 x)) := by
  by_cases ok : NO P n zs
  · obtain ⟨R, rfl⟩ : ∃ R : Nat, P = (R : Int) := ⟨P.toNat, by have := ok.1; omega⟩
    by_cases hs : InS (R : Int) set
    · obtain ⟨s, rfl⟩ : ∃ s : Nat, set = (s : Int) := ⟨set.toNat, by have := hs.1; omega⟩
      have e := hx.1 ⟨ok, hs⟩
      rw [Int.toNat_natCast] at e
      rw [e]
      exact spec_cw_in w R v n zs s hr ok hs
    · obtain rfl := hx.2 (fun h => hs h.2)
      obtain ⟨av, ca, rfl⟩ := hr.shape
      have hR8 : R ≤ 8 := by have := ok.2.1; omega
      have hno : ¬ (0 ≤ set ∧ set ≤ ((1 <<< R : Nat) : Int) - 1) := fun h => hs (inS_shl.2 h)
      have hq := pow_lt hR8
      have hsh := shl64 (v := R) (by omega)
      generalize (1 <<< R : Nat) = Q at hsh hno hq
      have e0 : IntKind.i64.wrap ((Q : Int) - 1) = (Q : Int) - 1 := IntWalk.i64_in _ (by omega)
      obtain ⟨w0, hw0⟩ : ∃ w0, w.alloc (.cells #[.int .i64 (R : Int), .slice av n ca] TN) = w0 := ⟨_, rfl⟩
      have B0 : Below w.heap.size w w0 := hw0 ▸ below_al (Below.refl _ _) _
      have HX : Hid (Blk w0 w.heap.size TN #[.int .i64 (R : Int), .slice av n ca]) := Lib.hid (hw0 ▸ Blk.new w TN #[.int .i64 (R : Int), .slice av n ca])
      have HR := Lib.hid (hr.keep B0)
      have OK := Lib.hid ok
      have HB := Lib.hid B0
      have NOO := Lib.hid hno
      obtain ⟨p0, p1⟩ := stNet.blk_ HX.out
      clear hr ok B0 hs hq hno hx
      go_enter Try.func24, Try.ntmps24
      go_wp2_with fail
      refine (spec_nok _ _ _ n zs hn HR.out true ⟨fun _ => OK.out, fun _ => rfl⟩).mono ?_; rintro e w1 ⟨rfl, hb1⟩
      have hX1 := HX.out.step hb1
      have HL := Lib.hid hb1
      clear p0 p1 hw0 hb1
      obtain ⟨p0, p1⟩ := stNet.blk_ hX1
      clear hX1
      go_wp2_with fail
      refine (in_no _ _ _ _ NOO.out).mono ?_; rintro e w2 ⟨rfl, rfl⟩
      go_wp2
      go_ret
      exact ⟨rfl, HB.out.trans (HL.out.mono HB.out.size)⟩
  · obtain rfl := hx.2 (fun h => ok h.1)
    obtain ⟨av, ca, rfl⟩ := hr.shape
    obtain ⟨w0, hw0⟩ : ∃ w0, w.alloc (.cells #[.int .i64 P, .slice av n ca] TN) = w0 := ⟨_, rfl⟩
    have B0 : Below w.heap.size w w0 := hw0 ▸ below_al (Below.refl _ _) _
    have HX : Hid (Blk w0 w.heap.size TN #[.int .i64 P, .slice av n ca]) := Lib.hid (hw0 ▸ Blk.new w TN #[.int .i64 P, .slice av n ca])
    have HR := Lib.hid (hr.keep B0)
    have OK := Lib.hid ok
    have HB := Lib.hid B0
    obtain ⟨p0, p1⟩ := stNet.blk_ HX.out
    clear hr ok B0 hx
    go_enter Try.func24, Try.ntmps24
    go_wp2_with fail
    refine (spec_nok _ _ _ n zs hn HR.out false ⟨fun h => (by cases h), fun h => absurd h OK.out⟩).mono ?_; rintro e w1 ⟨rfl, hb1⟩
    clear p0 p1
    go_wp2
    go_ret
    exact ⟨rfl, HB.out.trans (hb1.mono HB.out.size)⟩
set_option maxHeartbeats 2000000 in
theorem spec_isc (w : World) (P : Int) (v : Value) (n : Nat) (zs : List Int) (set a b : Int) (hn : n ≤ 1048576) (hr : Row 3 w v n (IV zs)) (r : Bool) (hb : r = true ↔ IsC P n zs set a b) :
    Calls Try.prog 27 #[Nv P v, .int .i64 set, .int .i64 a, .int .i64 b] w (Gives w (.bool r)) := by
  obtain ⟨x, hx⟩ := Cw.ex P n zs set
  have hsg := hx.sign
  obtain ⟨av, ca, rfl⟩ := hr.shape
  obtain ⟨w0, hw0⟩ : ∃ w0, w.alloc (.cells #[.int .i64 P, .slice av n ca] TN) = w0 := ⟨_, rfl⟩
  have B0 : Below w.heap.size w w0 := hw0 ▸ below_al (Below.refl _ _) _
  have HX : Hid (Blk w0 w.heap.size TN #[.int .i64 P, .slice av n ca]) := Lib.hid (hw0 ▸ Blk.new w TN #[.int .i64 P, .slice av n ca])
  have HR := Lib.hid (hr.keep B0)
  have HB := Lib.hid B0
  have HC := Lib.hid hx
  have HBB := Lib.hid hb
  obtain ⟨p0, p1⟩ := stNet.blk_ HX.out
  clear hr B0 hx hb
  by_cases hx0 : 0 ≤ x
  · obtain ⟨ok, hs⟩ := hsg.1 hx0
    have hP8 := ok.2.1
    have hs256 := hs.small hP8
    have INS := Lib.hid hs
    obtain ⟨s, rfl⟩ : ∃ s : Nat, set = (s : Int) := ⟨set.toNat, by have := hs.1; omega⟩
    clear hsg ok hs
    go_enter Try.func27, Try.ntmps27
    go_wp2_with fail
    refine (spec_cw _ _ _ n zs s hn HR.out x HC.out).mono ?_; rintro e w1 ⟨rfl, hb1⟩
    have hX1 := HX.out.step hb1
    have HL := Lib.hid hb1
    clear p0 p1 hw0 hb1
    obtain ⟨p0, p1⟩ := stNet.blk_ hX1
    clear hX1
    by_cases two : Two P n zs a b
    · have TW := Lib.hid two
      obtain ⟨_, ha, hbb, hab⟩ := two
      obtain ⟨A, rfl⟩ : ∃ A : Nat, a = (A : Int) := ⟨a.toNat, by omega⟩
      obtain ⟨B, rfl⟩ : ∃ B : Nat, b = (B : Int) := ⟨b.toNat, by omega⟩
      have hA8 : A < 8 := by omega
      have hB8 : B < 8 := by omega
      have a1 := shr64 s A
      have a2 := shr64 s B
      have a3 := bs_test (s := s) (u := A) (by omega)
      have a4 := bs_test (s := s) (u := B) (by omega)
      generalize s >>> A = sA at a1 a3
      generalize s >>> B = sB at a2 a4
      go_wp2_with fail
      refine (spec_two _ _ _ n zs hn (HR.out.keep HL.out) A B true ⟨fun _ => TW.out, fun _ => rfl⟩).mono ?_; rintro e w2 ⟨rfl, hb2⟩
      have L2 := Lib.hid (below_step HL.out hb2)
      clear hb2 p0 p1 ha hbb hab
      cases hA : bs s (A : Int) with
      | false =>
        rw [hA, if_neg (by simp)] at a3
        have e : r = false := by
          cases r
          · rfl
          · have := (HBB.out.1 rfl).2.2.1
            rw [Int.toNat_natCast, hA] at this
            cases this
        clear hA a4 a2
        go_wp2
        go_ret
        exact ⟨by rw [e]; rfl, HB.out.trans (L2.out.mono HB.out.size)⟩
      | true =>
        rw [hA, if_pos rfl] at a3
        cases hB : bs s (B : Int) with
        | true =>
          rw [hB, if_pos rfl] at a4
          have e : r = false := by
            cases r
            · rfl
            · have := (HBB.out.1 rfl).2.2.2
              rw [Int.toNat_natCast, hB] at this
              cases this
          clear hA hB
          go_wp2
          go_ret
          exact ⟨by rw [e]; rfl, HB.out.trans (L2.out.mono HB.out.size)⟩
        | false =>
          rw [hB, if_neg (by simp)] at a4
          have e : r = true := HBB.out.2 ⟨INS.out, TW.out, by rw [Int.toNat_natCast]; exact hA, by rw [Int.toNat_natCast]; exact hB⟩
          clear hA hB
          go_wp2
          go_ret
          exact ⟨by rw [e]; rfl, HB.out.trans (L2.out.mono HB.out.size)⟩
    · have e : r = false := by
        cases r
        · rfl
        · exact absurd (HBB.out.1 rfl).2.1 two
      have TW := Lib.hid two
      clear two
      go_wp2_with fail
      refine (spec_two _ _ _ n zs hn (HR.out.keep HL.out) a b false ⟨fun h => (by cases h), fun h => absurd h TW.out⟩).mono ?_; rintro e w2 ⟨rfl, hb2⟩
      have L2 := Lib.hid (below_step HL.out hb2)
      clear hb2 p0 p1
      go_wp2
      go_ret
      exact ⟨by rw [e]; rfl, HB.out.trans (L2.out.mono HB.out.size)⟩
  · have e : r = false := by
      cases r
      · rfl
      · have h := HBB.out.1 rfl
        exact absurd (hsg.2 ⟨h.2.1.1, h.1⟩) hx0
    clear hsg
    go_enter Try.func27, Try.ntmps27
    go_wp2_with fail
    refine (spec_cw _ _ _ n zs set hn HR.out x HC.out).mono ?_; rintro e w1 ⟨rfl, hb1⟩
    have HL := Lib.hid hb1
    clear p0 p1 hw0 hb1
    go_wp2
    go_ret
    exact ⟨rfl, HB.out.trans (HL.out.mono HB.out.size)⟩
end Go.Proofs.Ytilabfmnaegidaa.cut
