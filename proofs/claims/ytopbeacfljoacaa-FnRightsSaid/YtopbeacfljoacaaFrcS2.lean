/- Fractions: the specification's TimesFraction, CompareFractions, PartOf. -/
import Derived.Test.YtopbeacfljoacaaFrcS
namespace Go.Proofs.Ytopbeacfljoacaa.frc
open Go.RowKit Go.Proofs.Ytopbeacfljoacaa.kit Go.Proofs.Ytopbeacfljoacaa.lawi Go.Proofs.Ytopbeacfljoacaa.own Go.Proofs.Ytopbeacfljoacaa.rain Go.Proofs.Ytopbeacfljoacaa.stFraction
set_option maxHeartbeats 4000000 in
theorem spec_ti (w : World) (t b t' b' x y : Int) (r : Bool) (h : Ti t b t' b' x y r) : Calls Try.prog 51 #[R t b, R t' b'] w (Gives w (.tuple #[R x y, .bool r])) := by
  obtain ⟨w0, hw0, XA, XB, XR, HB⟩ := boxes w (.int .i64 t) (.int .i64 b) (.int .i64 t') (.int .i64 b')
  obtain ⟨a0, a1, _⟩ := fcell XA.out
  by_cases ha : Fk t b
  · by_cases hb : Fk t' b'
    · have hred := h.1 ⟨ha, hb⟩
      have HA := Lib.hid ha
      have HC := Lib.hid hb
      obtain ⟨⟨A1, A2⟩, ⟨A3, A4⟩, _⟩ := ha
      obtain ⟨⟨C1, C2⟩, ⟨C3, C4⟩, _⟩ := hb
      obtain ⟨m1, m2⟩ := mul_bd A3 A4 C3 C4
      obtain ⟨m5, m6⟩ := mul_bd (Int.le_trans (by decide) A1) A2 (Int.le_trans (by decide) C1) C2
      have m7 : 0 < b * b' := Int.mul_pos (by omega) (by omega)
      have HMK : Hid (Mk (t * t') (b * b') x y r) := Lib.hid ⟨fun _ => hred, fun hn => absurd ⟨⟨m1, m2⟩, by omega, m6⟩ hn⟩
      obtain ⟨T, hT⟩ : ∃ T, t * t' = T := ⟨_, rfl⟩
      obtain ⟨B, hB⟩ : ∃ B, b * b' = B := ⟨_, rfl⟩
      rw [hT] at m1 m2 HMK
      rw [hB] at m5 m6 HMK
      have v1 : IntKind.i64.wrap T = T := IntWalk.i64_in _ (by omega)
      have v4 : IntKind.i64.wrap B = B := IntWalk.i64_in _ (by omega)
      clear h hred m7
      go_enter Try.func51, Try.ntmps51
      go_wp2_with fail
      refine (spec_fok _ _ _ true ⟨fun _ => HA.out, fun _ => rfl⟩).mono ?_; rintro e w1 ⟨rfl, hb1⟩
      obtain ⟨b0, b1, _⟩ := fcell (XB.out.step hb1)
      have L1 := Lib.hid hb1
      clear hb1 a0 a1 hw0
      go_wp2_with fail
      refine (spec_fok _ _ _ true ⟨fun _ => HC.out, fun _ => rfl⟩).mono ?_; rintro e w2 ⟨rfl, hb2⟩
      have L2 := Lib.hid (below_step L1.out hb2)
      obtain ⟨a0, a1, _⟩ := fcell (XA.out.step L2.out)
      obtain ⟨b0, b1, _⟩ := fcell (XB.out.step L2.out)
      clear hb2 L1
      go_wp2_with fail
      refine (spec_mk _ _ _ _ _ _ HMK.out).mono ?_; rintro e w3 ⟨rfl, hb3⟩
      have L3 := Lib.hid (below_step L2.out hb3)
      obtain ⟨p0, p1, p2, p3⟩ := fcell (XR.out.step L3.out)
      have z3 := (XR.out.step L3.out).lt
      clear hb3 L2 a0 a1 b0 b1
      go_wp2
      refine bodyPost_ret (v := .tuple #[R x y, .bool r]) (by simp [*, results, Try.results51, go_sem]) rfl ⟨rfl, ?_⟩
      have B1 := HB.out.trans (L3.out.mono HB.out.size)
      go_grown
    · obtain ⟨rfl, rfl, rfl⟩ := h.2 (fun g => hb g.2)
      have HA := Lib.hid ha
      have HC := Lib.hid hb
      clear ha hb h
      go_enter Try.func51, Try.ntmps51
      go_wp2_with fail
      refine (spec_fok _ _ _ true ⟨fun _ => HA.out, fun _ => rfl⟩).mono ?_; rintro e w1 ⟨rfl, hb1⟩
      obtain ⟨b0, b1, _⟩ := fcell (XB.out.step hb1)
      have L1 := Lib.hid hb1
      clear hb1 a0 a1 hw0
      go_wp2_with fail
      refine (spec_fok _ _ _ false ⟨fun h => (by cases h), fun h => absurd h HC.out⟩).mono ?_; rintro e w2 ⟨rfl, hb2⟩
      have L2 := Lib.hid (below_step L1.out hb2)
      obtain ⟨p0, p1, p2, p3⟩ := fcell (XR.out.step L2.out)
      clear hb2 L1 b0 b1
      go_wp2
      refine bodyPost_ret (v := .tuple #[R 0 0, .bool false]) (by simp [*, results, Try.results51, go_sem]) rfl ⟨rfl, ?_⟩
      have B1 := HB.out.trans (L2.out.mono HB.out.size)
      go_grown
  · obtain ⟨rfl, rfl, rfl⟩ := h.2 (fun g => ha g.1)
    have HA := Lib.hid ha
    clear ha h
    go_enter Try.func51, Try.ntmps51
    go_wp2_with fail
    refine (spec_fok _ _ _ false ⟨fun h => (by cases h), fun h => absurd h HA.out⟩).mono ?_; rintro e w1 ⟨rfl, hb1⟩
    have L1 := Lib.hid hb1
    obtain ⟨p0, p1, p2, p3⟩ := fcell (XR.out.step L1.out)
    clear hb1 a0 a1 hw0
    go_wp2
    refine bodyPost_ret (v := .tuple #[R 0 0, .bool false]) (by simp [*, results, Try.results51, go_sem]) rfl ⟨rfl, ?_⟩
    have B1 := HB.out.trans (L1.out.mono HB.out.size)
    go_grown
/-- Two fractions put into memory. -/
theorem boxes2 (w : World) (a b c d : Value) : ∃ w0, (w.alloc (.cells #[a, b] TF)).alloc (.cells #[c, d] TF) = w0 ∧ Hid (Blk w0 w.heap.size TF #[a, b]) ∧ Hid (Blk w0 (w.heap.size + 1) TF #[c, d]) ∧ Hid (Below w.heap.size w w0) :=
  ⟨_, rfl, Lib.hid ((Blk.new w TF #[a, b]).alloc _), Lib.hid (Blk.new1 w TF #[c, d] _), Lib.hid (below_al (below_al (Below.refl _ _) _) _)⟩
set_option maxHeartbeats 4000000 in
theorem spec_cp (w : World) (t b t' b' c : Int) (h : Cp t b t' b' c) : Calls Try.prog 52 #[R t b, R t' b'] w (Gives w (.int .i64 c)) := by
  obtain ⟨w0, hw0, XA, XB, HB⟩ := boxes2 w (.int .i64 t) (.int .i64 b) (.int .i64 t') (.int .i64 b')
  obtain ⟨a0, a1, _⟩ := fcell XA.out
  by_cases ha : Fk t b
  · by_cases hb : Fk t' b'
    · have hc := h.1 ⟨ha, hb⟩
      have HA := Lib.hid ha
      have HC := Lib.hid hb
      obtain ⟨⟨A1, A2⟩, ⟨A3, A4⟩, _⟩ := ha
      obtain ⟨⟨C1, C2⟩, ⟨C3, C4⟩, _⟩ := hb
      obtain ⟨m1, m2⟩ := mul_bd A3 A4 (Int.le_trans (by decide) C1) C2
      obtain ⟨m3, m4⟩ := mul_bd C3 C4 (Int.le_trans (by decide) A1) A2
      obtain ⟨X, hX⟩ : ∃ X, t * b' = X := ⟨_, rfl⟩
      obtain ⟨Y, hY⟩ : ∃ Y, t' * b = Y := ⟨_, rfl⟩
      rw [hX] at m1 m2 hc
      rw [hY] at m3 m4 hc
      have v1 : IntKind.i64.wrap X = X := IntWalk.i64_in _ (by omega)
      have v2 : IntKind.i64.wrap Y = Y := IntWalk.i64_in _ (by omega)
      clear h
      go_enter Try.func52, Try.ntmps52
      go_wp2_with fail
      refine (spec_fok _ _ _ true ⟨fun _ => HA.out, fun _ => rfl⟩).mono ?_; rintro e w1 ⟨rfl, hb1⟩
      obtain ⟨b0, b1, _⟩ := fcell (XB.out.step hb1)
      have L1 := Lib.hid hb1
      clear hb1 a0 a1 hw0
      go_wp2_with fail
      refine (spec_fok _ _ _ true ⟨fun _ => HC.out, fun _ => rfl⟩).mono ?_; rintro e w2 ⟨rfl, hb2⟩
      have L2 := Lib.hid (below_step L1.out hb2)
      obtain ⟨a0, a1, _⟩ := fcell (XA.out.step L2.out)
      obtain ⟨b0, b1, _⟩ := fcell (XB.out.step L2.out)
      clear hb2 L1
      have B1 := Lib.hid (HB.out.trans (L2.out.mono HB.out.size))
      clear L2 A1 A2 A3 A4 C1 C2 C3 C4 m1 m2 m3 m4
      by_cases h1 : X < Y
      · obtain rfl : c = -1 := by rw [hc]; unfold sg; rw [if_pos h1]
        clear hc
        go_wp2
        go_ret
        exact ⟨rfl, B1.out⟩
      · by_cases h2 : Y < X
        · obtain rfl : c = 1 := by rw [hc]; unfold sg; rw [if_neg h1, if_pos h2]
          clear hc
          go_wp2
          go_ret
          exact ⟨rfl, B1.out⟩
        · obtain rfl : c = 0 := by rw [hc]; unfold sg; rw [if_neg h1, if_neg h2]
          clear hc
          go_wp2
          go_ret
          exact ⟨rfl, B1.out⟩
    · obtain rfl := h.2 (fun g => hb g.2)
      have HA := Lib.hid ha
      have HC := Lib.hid hb
      clear ha hb h
      go_enter Try.func52, Try.ntmps52
      go_wp2_with fail
      refine (spec_fok _ _ _ true ⟨fun _ => HA.out, fun _ => rfl⟩).mono ?_; rintro e w1 ⟨rfl, hb1⟩
      obtain ⟨b0, b1, _⟩ := fcell (XB.out.step hb1)
      have L1 := Lib.hid hb1
      clear hb1 a0 a1 hw0
      go_wp2_with fail
      refine (spec_fok _ _ _ false ⟨fun h => (by cases h), fun h => absurd h HC.out⟩).mono ?_; rintro e w2 ⟨rfl, hb2⟩
      have L2 := Lib.hid (below_step L1.out hb2)
      clear hb2 L1 b0 b1
      go_wp2
      go_ret
      exact ⟨rfl, HB.out.trans (L2.out.mono HB.out.size)⟩
  · obtain rfl := h.2 (fun g => ha g.1)
    have HA := Lib.hid ha
    clear ha h
    go_enter Try.func52, Try.ntmps52
    go_wp2_with fail
    refine (spec_fok _ _ _ false ⟨fun h => (by cases h), fun h => absurd h HA.out⟩).mono ?_; rintro e w1 ⟨rfl, hb1⟩
    have L1 := Lib.hid hb1
    clear hb1 a0 a1 hw0
    go_wp2
    go_ret
    exact ⟨rfl, HB.out.trans (L1.out.mono HB.out.size)⟩
theorem po_div {t b n : Int} (ht : 0 ≤ t) (ht2 : t ≤ 10000) (hn : 0 ≤ n) (hn2 : n ≤ 1000000) (hb : 1 ≤ b) : (0 ≤ n * t ∧ n * t ≤ 10000000000) ∧ (n * t).tdiv b = n * t / b ∧ 0 ≤ n * t / b ∧ n * t / b ≤ 10000000000 := by
  have h0 : 0 ≤ n * t := Int.mul_nonneg hn ht
  have h1 : n * t ≤ 1000000 * 10000 := Int.mul_le_mul hn2 ht2 ht (by decide)
  refine ⟨⟨h0, h1⟩, Int.tdiv_eq_ediv_of_nonneg h0, Int.ediv_nonneg h0 (by omega), ?_⟩
  exact Int.le_trans (Int.ediv_le_self _ h0) h1
set_option maxHeartbeats 1000000 in
theorem spec_po (w : World) (t b n m : Int) (h : Po t b n m) : Calls Try.prog 14 #[R t b, .int .i64 n] w (Gives w (.int .i64 m)) := by
  obtain ⟨w0, hw0⟩ : ∃ w0, w.alloc (.cells #[.int .i64 t, .int .i64 b] TF) = w0 := ⟨_, rfl⟩
  have HB : Hid (Below w.heap.size w w0) := Lib.hid (hw0 ▸ below_al (Below.refl _ _) _)
  have XA : Hid (Blk w0 w.heap.size TF #[.int .i64 t, .int .i64 b]) := Lib.hid (hw0 ▸ Blk.new w TF #[.int .i64 t, .int .i64 b])
  obtain ⟨a0, a1, _⟩ := fcell XA.out
  by_cases ha : Fk t b
  · have HA := Lib.hid ha
    by_cases hn : 0 ≤ n ∧ n ≤ 1000000
    · have hm := h.1 ⟨ha, hn⟩
      obtain ⟨⟨A1, A2⟩, ⟨A3, A4⟩, _⟩ := ha
      obtain ⟨⟨q1, q2⟩, q3, q4, q5⟩ := po_div A3 A4 hn.1 hn.2 A1
      rw [← hm] at q3 q4 q5
      have b0 : b ≠ 0 := by omega
      obtain ⟨X, hX⟩ : ∃ X, n * t = X := ⟨_, rfl⟩
      rw [hX] at q1 q2 q3
      have v1 : IntKind.i64.wrap X = X := IntWalk.i64_in _ (by omega)
      have v2 : IntKind.i64.wrap m = m := IntWalk.i64_in _ (by omega)
      clear h hm
      go_enter Try.func14, Try.ntmps14
      go_wp2_with fail
      refine (spec_fok _ _ _ true ⟨fun _ => HA.out, fun _ => rfl⟩).mono ?_; rintro e w1 ⟨rfl, hb1⟩
      have L1 := Lib.hid hb1
      obtain ⟨a0, a1, _⟩ := fcell (XA.out.step hb1)
      clear hb1 hw0
      go_wp2_with fail
      refine (in_yes _ _ _ _ hn.1 hn.2).mono ?_; rintro e w2 ⟨rfl, rfl⟩
      clear hn A1 A2 A3 A4 q1 q2 q4 q5
      go_wp2
      go_ret
      exact ⟨by first | rfl | (rw [v2]; rfl), HB.out.trans (L1.out.mono HB.out.size)⟩
    · obtain rfl := h.2 (fun g => hn g.2)
      clear h ha
      go_enter Try.func14, Try.ntmps14
      go_wp2_with fail
      refine (spec_fok _ _ _ true ⟨fun _ => HA.out, fun _ => rfl⟩).mono ?_; rintro e w1 ⟨rfl, hb1⟩
      have L1 := Lib.hid hb1
      clear hb1 hw0 a0 a1
      go_wp2_with fail
      refine (in_no _ _ _ _ hn).mono ?_; rintro e w2 ⟨rfl, rfl⟩
      clear hn
      go_wp2
      go_ret
      exact ⟨rfl, HB.out.trans (L1.out.mono HB.out.size)⟩
  · have HA := Lib.hid ha
    obtain rfl := h.2 (fun g => ha g.1)
    clear h ha
    go_enter Try.func14, Try.ntmps14
    go_wp2_with fail
    refine (spec_fok _ _ _ false ⟨fun h => (by cases h), fun h => absurd h HA.out⟩).mono ?_; rintro e w1 ⟨rfl, hb1⟩
    have L1 := Lib.hid hb1
    clear hb1 hw0 a0 a1
    go_wp2
    go_ret
    exact ⟨rfl, HB.out.trans (L1.out.mono HB.out.size)⟩
end Go.Proofs.Ytopbeacfljoacaa.frc
