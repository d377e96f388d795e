/- Fractions: the program's functions. -/
import Derived.Test.YtopbeacfljoacaaFrcJ2
namespace Go.Proofs.Ytopbeacfljoacaa.frc
open Go.RowKit Go.Proofs.Ytopbeacfljoacaa.kit Go.Proofs.Ytopbeacfljoacaa.lawi Go.Proofs.Ytopbeacfljoacaa.own Go.Proofs.Ytopbeacfljoacaa.rain Go.Proofs.Ytopbeacfljoacaa.stFraction
set_option maxHeartbeats 2000000 in
theorem impl_red (w : World) (t b : Int) (T B : Nat) (x y : Int) (r : Bool) (ht : t = T) (hb : b = B) (hB0 : 0 < B) (hT : T ≤ 1000000000000) (hB : B ≤ 1000000000000) (h : Red T B x y r) : Calls Try.prog 56 #[.int .i64 t, .int .i64 b] w (Gives w (.tuple #[R x y, .bool r])) := by
  obtain rfl := ht
  obtain rfl := hb
  obtain ⟨w0, hw0⟩ : ∃ w0, w.alloc (.cells #[.int .i64 0, .int .i64 0] TF) = w0 := ⟨_, rfl⟩
  have HB : Hid (Below w.heap.size w w0) := Lib.hid (hw0 ▸ below_al (Below.refl _ _) _)
  have HX : Hid (Blk w0 w.heap.size TF #[.int .i64 0, .int .i64 0]) := Lib.hid (hw0 ▸ Blk.new w TF #[.int .i64 0, .int .i64 0])
  obtain ⟨g1, g2⟩ := gcd_lo (t := T) hB0
  have e0 : ((Nat.gcd T B : Nat) : Int) ≠ 0 := by omega
  have e1 : (T : Int).tdiv ((Nat.gcd T B : Nat) : Int) = ((rT T B : Nat) : Int) := by rw [Int.tdiv_eq_ediv_of_nonneg (by omega)]; rfl
  have e2 : (B : Int).tdiv ((Nat.gcd T B : Nat) : Int) = ((rB T B : Nat) : Int) := by rw [Int.tdiv_eq_ediv_of_nonneg (by omega)]; rfl
  have hone := red_one (t := T) hB0
  have k1 := rB_pos (t := T) hB0
  have hav : Hid (Av (rT T B : Nat) (rB T B : Nat) x y r) := Lib.hid (by
    have hfk : Fk (rT T B : Nat) (rB T B : Nat) ↔ rT T B ≤ 10000 ∧ rB T B ≤ 10000 := by
      unfold Fk
      rw [Int.toNat_natCast, Int.toNat_natCast]
      omega
    exact ⟨fun g => h.1 (hfk.1 g), fun g => h.2 (fun g' => g (hfk.2 g'))⟩)
  have k2 := rT_le T B
  have k3 := rB_le T B
  clear hone h
  go_enter Try.func56, Try.ntmps56
  go_wp2_with fail
  refine (impl_gcd _ T B hT hB).mono ?_; rintro e w1 ⟨rfl, hb⟩
  have L1 := Lib.hid hb
  generalize rT T B = tr at *
  generalize rB T B = br at *
  generalize ((Nat.gcd T B : Nat) : Int) = G at *
  have wt : IntKind.i64.wrap (tr : Int) = tr := IntWalk.i64_in _ (by omega)
  have wb : IntKind.i64.wrap (br : Int) = br := IntWalk.i64_in _ (by omega)
  clear hb hw0 g1 g2
  go_upto_region 2 with fail
  go_cut [7, 8] (fun s1 s2 wx => Made w1 x y s1 wx ∧ s2 = .bool r)
  case first =>
    go_region_held3 (fun _ => True) (trivial)
      (first
        | (go_at_call 55; refine (impl_av _ _ _ _ _ _ hav.out).mono ?_; rintro e wA ⟨rfl, hb⟩; obtain ⟨hc, hf⟩ := bcell hb; have hz := hb.size; (try simp only [World.size_drew] at hz); (try simp only [World.size_alloc] at hz); (try simp only [World.size_drew] at hz))
        | fail)
    all_goals
      go_wp2_with fail
      go_meet
      refine ⟨⟨_, rfl, ?_, ?_, ?_⟩, rfl⟩
      · (repeat (first | (with_reducible exact Below.refl _ _) | (with_reducible refine below_dr ?_) | (with_reducible refine below_al ?_ _) | (with_reducible refine below_step ?_ (by assumption)) | (with_reducible refine Below.setCell ?_ ?_ _) | (simp only []; omega) | omega | fail))
      · (try go_simp)
        (try (refine World.cell?_setCell_same _ _ _ (u := .int .i64 0) ?_; go_simp))
      · (try go_simp)
        (try (refine World.cell?_setCell_same _ _ _ (u := .int .i64 0) ?_; go_simp))
  case rest =>
    obtain ⟨⟨g, rfl, B2, c0, c1⟩, rfl⟩ := hcut
    have L2 := Lib.hid (below_step L1.out B2)
    obtain ⟨p0, p1, p2, p3⟩ := fcell (HX.out.step L2.out)
    clear B2 e1 e2
    go_wp2
    refine bodyPost_ret (v := .tuple #[R x y, .bool r]) (by simp [*, results, Try.results56, go_sem]) rfl ⟨rfl, ?_⟩
    have B1 := HB.out.trans (L2.out.mono HB.out.size)
    go_grown
/-- A world behind a region: two new valid fractions lie in it, and the answer whether both are valid. -/
def Two (w : World) (x y x' y' : Int) (r : Bool) (s s' s'' : Value) (wx : World) : Prop :=
  ∃ g g' : Nat, s = .pointer (some ⟨g, 0, none⟩) ∧ s' = .pointer (some ⟨g', 0, none⟩) ∧ s'' = .bool r ∧ Below w.heap.size w wx ∧ wx.cell? ⟨g, 0, none⟩ = some (.int .i64 x) ∧ wx.cell? ⟨g, 1, none⟩ = some (.int .i64 y) ∧ wx.cell? ⟨g', 0, none⟩ = some (.int .i64 x') ∧ wx.cell? ⟨g', 1, none⟩ = some (.int .i64 y')
/-- Two fractions put into memory. -/
theorem box2 (w : World) (a b c d : Value) : ∃ w0, (w.alloc (.cells #[a, b] TF)).alloc (.cells #[c, d] TF) = w0 ∧ Hid (Blk w0 w.heap.size TF #[a, b]) ∧ Hid (Blk w0 (w.heap.size + 1) TF #[c, d]) ∧ Hid (Below w.heap.size w w0) :=
  ⟨_, rfl, Lib.hid ((Blk.new w TF #[a, b]).alloc _), Lib.hid (Blk.new1 w TF #[c, d] _), Lib.hid (below_al (below_al (Below.refl _ _) _) _)⟩
set_option maxHeartbeats 4000000 in
theorem impl_ti (w : World) (t b t' b' x y : Int) (r : Bool) (h : Ti t b t' b' x y r) : Calls Try.prog 70 #[R t b, R t' b'] w (Gives w (.tuple #[R x y, .bool r])) := by
  obtain ⟨w0, hw0, XA, XB, XR, HB⟩ := boxes w (.int .i64 t) (.int .i64 b) (.int .i64 t') (.int .i64 b')
  obtain ⟨a0, a1, _⟩ := fcell XA.out
  obtain ⟨b0, b1, _⟩ := fcell XB.out
  obtain ⟨x1, y1, r1, V1⟩ := Av.ex t b
  obtain ⟨x2, y2, r2, V2⟩ := Av.ex t' b'
  replace V1 := Lib.hid V1
  replace V2 := Lib.hid V2
  by_cases hab : Fk t b ∧ Fk t' b'
  · have ha := hab.1
    have hb := hab.2
    obtain ⟨rfl, rfl, rfl⟩ := V1.out.1 ha
    obtain ⟨rfl, rfl, rfl⟩ := V2.out.1 hb
    have hred := h.1 hab
    obtain ⟨⟨A1, A2⟩, ⟨A3, A4⟩, _⟩ := ha
    obtain ⟨⟨C1, C2⟩, ⟨C3, C4⟩, _⟩ := hb
    clear h hab
    obtain ⟨m1, m2⟩ := mul_bd A3 A4 C3 C4
    obtain ⟨m5, m6⟩ := mul_bd (Int.le_trans (by decide) A1) A2 (Int.le_trans (by decide) C1) C2
    have m7 : 0 < y1 * y2 := Int.mul_pos (by omega) (by omega)
    replace hred := Lib.hid hred
    obtain ⟨T, hT⟩ : ∃ T, x1 * x2 = T := ⟨_, rfl⟩
    obtain ⟨B, hB⟩ : ∃ B, y1 * y2 = B := ⟨_, rfl⟩
    rw [hT] at m1 m2 hred
    rw [hB] at m5 m6 m7 hred
    have v1 : IntKind.i64.wrap T = T := IntWalk.i64_in _ (by omega)
    have v4 : IntKind.i64.wrap B = B := IntWalk.i64_in _ (by omega)
    clear A1 A2 A3 A4 C1 C2 C3 C4
    go_enter Try.func70, Try.ntmps70
    go_upto_region 1 with fail
    go_cut [6, 7, 8] (fun s1 s2 s3 wx => Two w0 x1 y1 x2 y2 true s1 s2 s3 wx)
    case first =>
      go_wp2_with fail
      refine (impl_bv _ _ _ _ _ _ _ _ _ _ _ V1.out V2.out).mono ?_; rintro e w1 ⟨rfl, hb1⟩
      go_wp2_with fail
      go_meet
      refine ⟨_, _, rfl, rfl, rfl, ?_, ?_, ?_, ?_, ?_⟩
      · go_simp
        exact below_step hb1 (below_al (below_al (Below.refl _ _) _) _)
      all_goals go_simp
    case rest =>
      obtain ⟨g, g', rfl, rfl, rfl, B1, c0, c1, d0, d1⟩ := hcut
      have L1 := Lib.hid B1
      obtain ⟨w1, rfl⟩ : ∃ w1, w1 = wc := ⟨_, rfl⟩
      clear B1 a0 a1 b0 b1 hw0
      go_wp2_with fail
      refine (impl_red _ _ _ _ _ _ _ _ (Int.toNat_of_nonneg m1).symm (Int.toNat_of_nonneg m5).symm (by omega) (by omega) (by omega) hred.out).mono ?_; rintro e w2 ⟨rfl, hb2⟩
      have L2 := Lib.hid (below_step L1.out hb2)
      obtain ⟨p0, p1, p2, p3⟩ := fcell (XR.out.step L2.out)
      clear hb2 L1 c0 c1 d0 d1
      go_wp2
      refine bodyPost_ret (v := .tuple #[R x y, .bool r]) (by simp [*, results, Try.results70, go_sem]) rfl ⟨rfl, ?_⟩
      have B1 := HB.out.trans (L2.out.mono HB.out.size)
      go_grown
  · have hr := V1.out.both V2.out hab
    obtain ⟨rfl, rfl, rfl⟩ := h.2 hab
    clear h hab
    go_enter Try.func70, Try.ntmps70
    go_upto_region 1 with fail
    go_cut [6, 7, 8] (fun s1 s2 s3 wx => Two w0 x1 y1 x2 y2 false s1 s2 s3 wx)
    case first =>
      go_wp2_with fail
      refine (impl_bv _ _ _ _ _ _ _ _ _ _ _ V1.out V2.out).mono ?_; rintro e w1 ⟨rfl, hb1⟩
      go_wp2_with fail
      go_meet
      refine ⟨_, _, rfl, rfl, rfl, ?_, ?_, ?_, ?_, ?_⟩
      · go_simp
        exact below_step hb1 (below_al (below_al (Below.refl _ _) _) _)
      all_goals go_simp
    case rest =>
      obtain ⟨g, g', rfl, rfl, rfl, B1, c0, c1, d0, d1⟩ := hcut
      have L1 := Lib.hid B1
      obtain ⟨w1, rfl⟩ : ∃ w1, w1 = wc := ⟨_, rfl⟩
      clear B1 a0 a1 b0 b1 hw0
      obtain ⟨p0, p1, p2, p3⟩ := fcell (XR.out.step L1.out)
      clear c0 c1 d0 d1
      go_wp2
      refine bodyPost_ret (v := .tuple #[R 0 0, .bool false]) (by simp [*, results, Try.results70, go_sem]) rfl ⟨rfl, ?_⟩
      have B1 := HB.out.trans (L1.out.mono HB.out.size)
      go_grown
set_option maxHeartbeats 4000000 in
theorem impl_add (w : World) (t b t' b' x y : Int) (r : Bool) (h : Ad t b t' b' x y r) : Calls Try.prog 39 #[R t b, R t' b'] w (Gives w (.tuple #[R x y, .bool r])) := by
  obtain ⟨w0, hw0, XA, XB, XR, HB⟩ := boxes w (.int .i64 t) (.int .i64 b) (.int .i64 t') (.int .i64 b')
  obtain ⟨a0, a1, _⟩ := fcell XA.out
  obtain ⟨b0, b1, _⟩ := fcell XB.out
  obtain ⟨x1, y1, r1, V1⟩ := Av.ex t b
  obtain ⟨x2, y2, r2, V2⟩ := Av.ex t' b'
  replace V1 := Lib.hid V1
  replace V2 := Lib.hid V2
  by_cases hab : Fk t b ∧ Fk t' b'
  · have ha := hab.1
    have hb := hab.2
    obtain ⟨rfl, rfl, rfl⟩ := V1.out.1 ha
    obtain ⟨rfl, rfl, rfl⟩ := V2.out.1 hb
    have hred := h.1 hab
    obtain ⟨⟨A1, A2⟩, ⟨A3, A4⟩, _⟩ := ha
    obtain ⟨⟨C1, C2⟩, ⟨C3, C4⟩, _⟩ := hb
    clear h hab
    obtain ⟨m1, m2⟩ := mul_bd A3 A4 (Int.le_trans (by decide) C1) C2
    obtain ⟨m3, m4⟩ := mul_bd C3 C4 (Int.le_trans (by decide) A1) A2
    obtain ⟨m5, m6⟩ := mul_bd (Int.le_trans (by decide) A1) A2 (Int.le_trans (by decide) C1) C2
    have m7 : 0 < y1 * y2 := Int.mul_pos (by omega) (by omega)
    replace hred := Lib.hid hred
    obtain ⟨X, hX⟩ : ∃ X, x1 * y2 = X := ⟨_, rfl⟩
    obtain ⟨Y, hY⟩ : ∃ Y, x2 * y1 = Y := ⟨_, rfl⟩
    obtain ⟨B, hB⟩ : ∃ B, y1 * y2 = B := ⟨_, rfl⟩
    rw [hX, hY] at hred
    rw [hX] at m1 m2
    rw [hY] at m3 m4
    rw [hB] at m5 m6 m7 hred
    have v1 : IntKind.i64.wrap X = X := IntWalk.i64_in _ (by omega)
    have v2 : IntKind.i64.wrap Y = Y := IntWalk.i64_in _ (by omega)
    have v3 : IntKind.i64.wrap (X + Y) = X + Y := IntWalk.i64_in _ (by omega)
    have v4 : IntKind.i64.wrap B = B := IntWalk.i64_in _ (by omega)
    clear A1 A2 A3 A4 C1 C2 C3 C4
    go_enter Try.func39, Try.ntmps39
    go_upto_region 1 with fail
    go_cut [6, 7, 8] (fun s1 s2 s3 wx => Two w0 x1 y1 x2 y2 true s1 s2 s3 wx)
    case first =>
      go_wp2_with fail
      refine (impl_bv _ _ _ _ _ _ _ _ _ _ _ V1.out V2.out).mono ?_; rintro e w1 ⟨rfl, hb1⟩
      go_wp2_with fail
      go_meet
      refine ⟨_, _, rfl, rfl, rfl, ?_, ?_, ?_, ?_, ?_⟩
      · go_simp
        exact below_step hb1 (below_al (below_al (Below.refl _ _) _) _)
      all_goals go_simp
    case rest =>
      obtain ⟨g, g', rfl, rfl, rfl, B1, c0, c1, d0, d1⟩ := hcut
      have L1 := Lib.hid B1
      obtain ⟨w1, rfl⟩ : ∃ w1, w1 = wc := ⟨_, rfl⟩
      clear B1 a0 a1 b0 b1 hw0
      go_wp2_with fail
      refine (impl_ct _ _ _ _ _ X Y hX hY v1 v2).mono ?_; rintro e w2 ⟨rfl, hb2⟩
      replace c1 := keep1 c1 hb2
      replace d1 := keep1 d1 hb2
      replace L1 := Lib.hid (below_step L1.out hb2)
      clear hb2 c0 d0
      go_wp2_with fail
      refine (impl_red _ _ _ _ _ _ _ _ (Int.toNat_of_nonneg (by omega)).symm (Int.toNat_of_nonneg m5).symm (by omega) (by omega) (by omega) hred.out).mono ?_; rintro e w3 ⟨rfl, hb2⟩
      have L2 := Lib.hid (below_step L1.out hb2)
      obtain ⟨p0, p1, p2, p3⟩ := fcell (XR.out.step L2.out)
      clear hb2 L1 c1 d1
      go_wp2
      refine bodyPost_ret (v := .tuple #[R x y, .bool r]) (by simp [*, results, Try.results39, go_sem]) rfl ⟨rfl, ?_⟩
      have B1 := HB.out.trans (L2.out.mono HB.out.size)
      go_grown
  · have hr := V1.out.both V2.out hab
    obtain ⟨rfl, rfl, rfl⟩ := h.2 hab
    clear h hab
    go_enter Try.func39, Try.ntmps39
    go_upto_region 1 with fail
    go_cut [6, 7, 8] (fun s1 s2 s3 wx => Two w0 x1 y1 x2 y2 false s1 s2 s3 wx)
    case first =>
      go_wp2_with fail
      refine (impl_bv _ _ _ _ _ _ _ _ _ _ _ V1.out V2.out).mono ?_; rintro e w1 ⟨rfl, hb1⟩
      go_wp2_with fail
      go_meet
      refine ⟨_, _, rfl, rfl, rfl, ?_, ?_, ?_, ?_, ?_⟩
      · go_simp
        exact below_step hb1 (below_al (below_al (Below.refl _ _) _) _)
      all_goals go_simp
    case rest =>
      obtain ⟨g, g', rfl, rfl, rfl, B1, c0, c1, d0, d1⟩ := hcut
      have L1 := Lib.hid B1
      obtain ⟨w1, rfl⟩ : ∃ w1, w1 = wc := ⟨_, rfl⟩
      clear B1 a0 a1 b0 b1 hw0
      obtain ⟨p0, p1, p2, p3⟩ := fcell (XR.out.step L1.out)
      clear c0 c1 d0 d1
      go_wp2
      refine bodyPost_ret (v := .tuple #[R 0 0, .bool false]) (by simp [*, results, Try.results39, go_sem]) rfl ⟨rfl, ?_⟩
      have B1 := HB.out.trans (L1.out.mono HB.out.size)
      go_grown
set_option maxHeartbeats 4000000 in
theorem impl_cp (w : World) (t b t' b' c : Int) (h : Cp t b t' b' c) : Calls Try.prog 44 #[R t b, R t' b'] w (Gives w (.int .i64 c)) := by
  obtain ⟨w0, hw0, XA, XB, HB⟩ := box2 w (.int .i64 t) (.int .i64 b) (.int .i64 t') (.int .i64 b')
  obtain ⟨a0, a1, _⟩ := fcell XA.out
  obtain ⟨b0, b1, _⟩ := fcell XB.out
  obtain ⟨x1, y1, r1, V1⟩ := Av.ex t b
  obtain ⟨x2, y2, r2, V2⟩ := Av.ex t' b'
  replace V1 := Lib.hid V1
  replace V2 := Lib.hid V2
  by_cases hab : Fk t b ∧ Fk t' b'
  · have ha := hab.1
    have hb := hab.2
    obtain ⟨rfl, rfl, rfl⟩ := V1.out.1 ha
    obtain ⟨rfl, rfl, rfl⟩ := V2.out.1 hb
    have hred := h.1 hab
    obtain ⟨⟨A1, A2⟩, ⟨A3, A4⟩, _⟩ := ha
    obtain ⟨⟨C1, C2⟩, ⟨C3, C4⟩, _⟩ := hb
    clear h hab
    obtain ⟨m1, m2⟩ := mul_bd A3 A4 (Int.le_trans (by decide) C1) C2
    obtain ⟨m3, m4⟩ := mul_bd C3 C4 (Int.le_trans (by decide) A1) A2
    obtain ⟨X, hX⟩ : ∃ X, x1 * y2 = X := ⟨_, rfl⟩
    obtain ⟨Y, hY⟩ : ∃ Y, x2 * y1 = Y := ⟨_, rfl⟩
    rw [hX, hY] at hred
    rw [hX] at m1 m2
    rw [hY] at m3 m4
    have v1 : IntKind.i64.wrap X = X := IntWalk.i64_in _ (by omega)
    have v2 : IntKind.i64.wrap Y = Y := IntWalk.i64_in _ (by omega)
    replace hred := Lib.hid hred
    clear A1 A2 A3 A4 C1 C2 C3 C4 m1 m2 m3 m4
    go_enter Try.func44, Try.ntmps44
    go_upto_region 1 with fail
    go_cut [5, 6, 7] (fun s1 s2 s3 wx => Two w0 x1 y1 x2 y2 true s1 s2 s3 wx)
    case first =>
      go_wp2_with fail
      refine (impl_bv _ _ _ _ _ _ _ _ _ _ _ V1.out V2.out).mono ?_; rintro e w1 ⟨rfl, hb1⟩
      go_wp2_with fail
      go_meet
      refine ⟨_, _, rfl, rfl, rfl, ?_, ?_, ?_, ?_, ?_⟩
      · go_simp
        exact below_step hb1 (below_al (below_al (Below.refl _ _) _) _)
      all_goals go_simp
    case rest =>
      obtain ⟨g, g', rfl, rfl, rfl, B1, c0, c1, d0, d1⟩ := hcut
      have L1 := Lib.hid B1
      obtain ⟨w1, rfl⟩ : ∃ w1, w1 = wc := ⟨_, rfl⟩
      clear B1 a0 a1 b0 b1 hw0
      go_wp2_with fail
      refine (impl_ct _ _ _ _ _ X Y hX hY v1 v2).mono ?_; rintro e w2 ⟨rfl, hb2⟩
      replace L1 := Lib.hid (below_step L1.out hb2)
      clear hb2 c0 d0 c1 d1
      go_wp2_with fail
      refine (impl_sg _ X Y c hred.out).mono ?_; rintro e w3 ⟨rfl, rfl⟩
      go_wp2
      go_ret
      exact ⟨rfl, HB.out.trans (L1.out.mono HB.out.size)⟩
  · have hr := V1.out.both V2.out hab
    obtain rfl := h.2 hab
    clear h hab
    go_enter Try.func44, Try.ntmps44
    go_upto_region 1 with fail
    go_cut [5, 6, 7] (fun s1 s2 s3 wx => Two w0 x1 y1 x2 y2 false s1 s2 s3 wx)
    case first =>
      go_wp2_with fail
      refine (impl_bv _ _ _ _ _ _ _ _ _ _ _ V1.out V2.out).mono ?_; rintro e w1 ⟨rfl, hb1⟩
      go_wp2_with fail
      go_meet
      refine ⟨_, _, rfl, rfl, rfl, ?_, ?_, ?_, ?_, ?_⟩
      · go_simp
        exact below_step hb1 (below_al (below_al (Below.refl _ _) _) _)
      all_goals go_simp
    case rest =>
      obtain ⟨g, g', rfl, rfl, rfl, B1, c0, c1, d0, d1⟩ := hcut
      have L1 := Lib.hid B1
      obtain ⟨w1, rfl⟩ : ∃ w1, w1 = wc := ⟨_, rfl⟩
      clear B1 a0 a1 b0 b1 hw0
      clear c0 c1 d0 d1
      go_wp2
      go_ret
      exact ⟨rfl, HB.out.trans (L1.out.mono HB.out.size)⟩
set_option maxHeartbeats 1000000 in
theorem part_div {t b n : Int} (ht : 0 ≤ t) (ht2 : t ≤ 10000) (hn : 0 ≤ n) (hn2 : n ≤ 1000000) (hb : 1 ≤ b) : (0 ≤ n * t ∧ n * t ≤ 10000000000) ∧ (n * t).tdiv b = n * t / b ∧ 0 ≤ n * t / b ∧ n * t / b ≤ 10000000000 := by
  have h0 : 0 ≤ n * t := Int.mul_nonneg hn ht
  have h1 : n * t ≤ 1000000 * 10000 := Int.mul_le_mul hn2 ht2 ht (by decide)
  refine ⟨⟨h0, h1⟩, Int.tdiv_eq_ediv_of_nonneg h0, Int.ediv_nonneg h0 (by omega), ?_⟩
  exact Int.le_trans (Int.ediv_le_self _ h0) h1
set_option maxHeartbeats 1000000 in
theorem impl_po (w : World) (t b n m : Int) (h : Po t b n m) : Calls Try.prog 36 #[R t b, .int .i64 n] w (Gives w (.int .i64 m)) := by
  obtain ⟨w0, hw0⟩ : ∃ w0, w.alloc (.cells #[.int .i64 t, .int .i64 b] TF) = w0 := ⟨_, rfl⟩
  have HB : Hid (Below w.heap.size w w0) := Lib.hid (hw0 ▸ below_al (Below.refl _ _) _)
  obtain ⟨a0, a1, _⟩ := fcell (hw0 ▸ Blk.new w TF #[.int .i64 t, .int .i64 b] : Blk w0 w.heap.size TF #[.int .i64 t, .int .i64 b])
  obtain ⟨x, y, r, V⟩ := Av.ex t b
  have HV := Lib.hid V
  clear V
  go_enter Try.func36, Try.ntmps36
  go_upto_region 1 with fail
  go_cut [5, 6] (fun s1 s2 wx => Made w0 x y s1 wx ∧ s2 = .bool r)
  case first =>
    go_wp2_with fail
    refine (impl_av _ _ _ _ _ _ HV.out).mono ?_; rintro e w1 ⟨rfl, hb1⟩
    go_wp2_with fail
    go_meet
    refine ⟨⟨_, rfl, ?_, ?_, ?_⟩, rfl⟩
    · go_simp
      exact below_step hb1 (below_al (Below.refl _ _) _)
    · go_simp
    · go_simp
  case rest =>
    obtain ⟨⟨g, rfl, B1, c0, c1⟩, rfl⟩ := hcut
    have L1 := Lib.hid (HB.out.trans (B1.mono HB.out.size))
    clear B1 a0 a1 hw0
    by_cases ha : Fk t b
    · obtain ⟨rfl, rfl, rfl⟩ := HV.out.1 ha
      by_cases hn : 0 ≤ n ∧ n ≤ 1000000
      · have hm := h.1 ⟨ha, hn⟩
        obtain ⟨⟨A1, A2⟩, ⟨A3, A4⟩, _⟩ := ha
        obtain ⟨⟨q1, q2⟩, q3, q4, q5⟩ := part_div A3 A4 hn.1 hn.2 A1
        rw [← hm] at q3 q4 q5
        have b0 : y ≠ 0 := by omega
        obtain ⟨X, hX⟩ : ∃ X, n * x = X := ⟨_, rfl⟩
        rw [hX] at q1 q2 q3
        have v1 : IntKind.i64.wrap X = X := IntWalk.i64_in _ (by omega)
        have v2 : IntKind.i64.wrap m = m := IntWalk.i64_in _ (by omega)
        clear h hm
        go_wp2_with fail
        refine (inR_yes _ _ _ _ hn.1 hn.2).mono ?_; rintro e w2 ⟨rfl, rfl⟩
        clear hn A1 A2 A3 A4 q1 q2 q4 q5
        go_wp2
        go_ret
        exact ⟨by first | rfl | (rw [v2]; rfl), L1.out⟩
      · obtain rfl := h.2 (fun g => hn g.2)
        clear h ha c0 c1
        go_wp2_with fail
        refine (inR_no _ _ _ _ hn).mono ?_; rintro e w2 ⟨rfl, rfl⟩
        clear hn
        go_wp2
        go_ret
        exact ⟨rfl, L1.out⟩
    · obtain ⟨rfl, rfl, rfl⟩ := HV.out.2 ha
      obtain rfl := h.2 (fun g => ha g.1)
      clear h ha c0 c1
      go_wp2
      go_ret
      exact ⟨rfl, L1.out⟩
end Go.Proofs.Ytopbeacfljoacaa.frc
