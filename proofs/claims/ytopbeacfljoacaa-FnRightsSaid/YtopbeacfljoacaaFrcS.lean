/- Fractions: the specification's functions. -/
import Derived.Test.YtopbeacfljoacaaFrcL
import Derived.Test.YtopbeacfljoacaaStFraction
import Derived.Test.YtopbeacfljoacaaBase
import Derived.Deep.DeepCutAuto
import Derived.Deep.DrawnRows
import Derived.Deep.RegionHeld3
import Derived.Handy
import Derived.Outline
import Derived.Deep.LoopGhost
import Derived.Carry
import Derived.WalkArith
namespace Go.Proofs.Ytopbeacfljoacaa.frc
open Go.RowKit Go.Proofs.Ytopbeacfljoacaa.kit Go.Proofs.Ytopbeacfljoacaa.lawi Go.Proofs.Ytopbeacfljoacaa.own Go.Proofs.Ytopbeacfljoacaa.rain Go.Proofs.Ytopbeacfljoacaa.stFraction
abbrev TF : TypeId := 30
theorem fcell {w : World} {g : Nat} {t : TypeId} {a b : Value} (h : Blk w g t #[a, b]) : w.cell? ⟨g, 0, none⟩ = some a ∧ w.cell? ⟨g, 1, none⟩ = some b ∧ w.frozen? ⟨g, 0, none⟩ = false ∧ w.frozen? ⟨g, 1, none⟩ = false := ⟨h.cell 0, h.cell 1, h.frozen 0, h.frozen 1⟩
theorem mul_bd {x y : Int} (h1 : 0 ≤ x) (h2 : x ≤ 10000) (h3 : 0 ≤ y) (h4 : y ≤ 10000) : 0 ≤ x * y ∧ x * y ≤ 100000000 :=
  ⟨Int.mul_nonneg h1 h3, Int.le_trans (Int.mul_le_mul h2 h4 h3 (by decide)) (by decide)⟩
set_option maxHeartbeats 1000000 in
theorem spec_gcd (w : World) (a b : Nat) (ha : a ≤ 1000000000000) (hb : b ≤ 1000000000000) :
    Calls Try.prog 61 #[.int .i64 a, .int .i64 b] w (Gives w (.int .i64 ((Nat.gcd a b : Nat) : Int))) := by
  go_enter Try.func61, Try.ntmps61
  go_wp2
  go_loopg [0, 1] (b + 1) (fun g s0 s1 wr => ∃ p q : Nat, s0 = .int .i64 p ∧ s1 = .int .i64 q ∧ q < g ∧ p ≤ 1000000000000 ∧ q ≤ 1000000000000 ∧ Nat.gcd p q = Nat.gcd a b ∧ Below w.heap.size w wr)
  case atStart => exact ⟨a, b, rfl, rfl, by omega, ha, hb, rfl, Below.refl _ _⟩
  case round =>
    obtain ⟨p, q, rfl, rfl, hlt, hp, hq, hg, hbel⟩ := hrel
    have HG := Lib.hid hg
    have HB := Lib.hid hbel
    clear hg hbel
    by_cases h0 : q = 0
    · subst h0
      have e : (p : Int) = ((Nat.gcd a b : Nat) : Int) := by rw [← HG.out, Nat.gcd_zero_right]
      go_wp2
      go_ret
      exact ⟨by rw [e]; rfl, HB.out⟩
    · obtain ⟨gk, rfl⟩ : ∃ g', gk = g' + 1 := ⟨gk - 1, by omega⟩
      have e0 : ((q : Int) == 0) = false := beq_eq_false_iff_ne.2 (by omega)
      have e1 : (p : Int).tmod (q : Int) = ((p % q : Nat) : Int) := by rw [Int.tmod_eq_emod_of_nonneg (by omega)]; rfl
      have hr := Nat.mod_lt p (show 0 < q by omega)
      have HN : Hid (Nat.gcd q (p % q) = Nat.gcd a b) := Lib.hid (by rw [← HG.out, Nat.gcd_comm p q, Nat.gcd_rec q p, Nat.gcd_comm])
      generalize p % q = m at e1 hr HN
      go_wp2
      go_quiet (fail)
      all_goals
        go_wp2
        go_roundg gk
        case measure => omega
        case rel => exact ⟨q, m, by go_num, by go_num, by omega, by omega, by omega, HN.out, by first | exact below_drewN HB.out _ | exact below_dr HB.out | exact HB.out⟩
theorem spec_fok (w : World) (t b : Int) (r : Bool) (hr : r = true ↔ Fk t b) : Calls Try.prog 40 #[R t b] w (Gives w (.bool r)) := by
  obtain ⟨w0, hw0⟩ : ∃ w0, w.alloc (.cells #[.int .i64 t, .int .i64 b] TF) = w0 := ⟨_, rfl⟩
  have HB : Hid (Below w.heap.size w w0) := Lib.hid (hw0 ▸ below_al (Below.refl _ _) _)
  obtain ⟨p0, p1, _⟩ := fcell (hw0 ▸ Blk.new w TF #[.int .i64 t, .int .i64 b] : Blk w0 w.heap.size TF #[.int .i64 t, .int .i64 b])
  have HR := Lib.hid hr
  clear hr
  by_cases h1 : 1 ≤ b ∧ b ≤ 10000
  · by_cases h2 : 0 ≤ t ∧ t ≤ 10000
    · obtain ⟨T, rfl⟩ : ∃ T : Nat, t = T := ⟨t.toNat, by omega⟩
      obtain ⟨B, rfl⟩ : ∃ B : Nat, b = B := ⟨b.toNat, by omega⟩
      have e : Hid ((((Nat.gcd T B : Nat) : Int) == 1) = r) := Lib.hid (by
        rw [Bool.eq_iff_iff, beq_iff_eq, HR.out]
        unfold Fk
        rw [Int.toNat_natCast, Int.toNat_natCast]
        omega)
      go_enter Try.func40, Try.ntmps40
      go_wp2_with fail
      refine (in_yes _ _ _ _ h1.1 h1.2).mono ?_; rintro e w1 ⟨rfl, rfl⟩
      go_wp2_with fail
      refine (in_yes _ _ _ _ h2.1 h2.2).mono ?_; rintro e w1 ⟨rfl, rfl⟩
      go_wp2_with fail
      refine (spec_gcd _ T B (by omega) (by omega)).mono ?_; rintro e w1 ⟨rfl, hb⟩
      clear h1 h2
      generalize ((Nat.gcd T B : Nat) : Int) = G at e ⊢
      have L1 := Lib.hid hb
      clear hb hw0 p0 p1
      go_wp2
      go_ret
      exact ⟨congrArg (fun z => Ending.returned (Value.bool z)) e.out, HB.out.trans (L1.out.mono HB.out.size)⟩
    · have e : r = false := by
        cases r
        · rfl
        · exact absurd (HR.out.1 rfl).2.1 h2
      subst e
      go_enter Try.func40, Try.ntmps40
      go_wp2_with fail
      refine (in_yes _ _ _ _ h1.1 h1.2).mono ?_; rintro e w1 ⟨rfl, rfl⟩
      go_wp2_with fail
      refine (in_no _ _ _ _ h2).mono ?_; rintro e w1 ⟨rfl, rfl⟩
      clear h1 h2
      go_wp2
      go_ret
      exact ⟨rfl, HB.out⟩
  · have e : r = false := by
      cases r
      · rfl
      · exact absurd (HR.out.1 rfl).1 h1
    subst e
    go_enter Try.func40, Try.ntmps40
    go_wp2_with fail
    refine (in_no _ _ _ _ h1).mono ?_; rintro e w1 ⟨rfl, rfl⟩
    clear h1
    go_wp2
    go_ret
    exact ⟨rfl, HB.out⟩
/-- A world behind a region: a new fraction lies in it. -/
def Made (w : World) (x y : Int) (s : Value) (wx : World) : Prop :=
  ∃ g : Nat, s = .pointer (some ⟨g, 0, none⟩) ∧ Below w.heap.size w wx ∧ wx.cell? ⟨g, 0, none⟩ = some (.int .i64 x) ∧ wx.cell? ⟨g, 1, none⟩ = some (.int .i64 y)
set_option maxHeartbeats 2000000 in
theorem spec_mk (w : World) (t b x y : Int) (r : Bool) (h : Mk t b x y r) : Calls Try.prog 54 #[.int .i64 t, .int .i64 b] w (Gives w (.tuple #[R x y, .bool r])) := by
  obtain ⟨w0, hw0⟩ : ∃ w0, w.alloc (.cells #[.int .i64 0, .int .i64 0] TF) = w0 := ⟨_, rfl⟩
  have HB : Hid (Below w.heap.size w w0) := Lib.hid (hw0 ▸ below_al (Below.refl _ _) _)
  have HX : Hid (Blk w0 w.heap.size TF #[.int .i64 0, .int .i64 0]) := Lib.hid (hw0 ▸ Blk.new w TF #[.int .i64 0, .int .i64 0])
  obtain ⟨p0, p1, p2, p3⟩ := fcell HX.out
  by_cases h1 : 0 ≤ t ∧ t ≤ 100000000
  · by_cases h2 : 1 ≤ b ∧ b ≤ 100000000
    · have hred := h.1 ⟨h1, h2⟩
      obtain ⟨T, rfl⟩ : ∃ T : Nat, t = T := ⟨t.toNat, by omega⟩
      obtain ⟨B, rfl⟩ : ∃ B : Nat, b = B := ⟨b.toNat, by omega⟩
      rw [Int.toNat_natCast, Int.toNat_natCast] at hred
      have hB0 : 0 < B := by omega
      obtain ⟨g1, g2⟩ := gcd_lo (t := T) hB0
      have e0 : ((Nat.gcd T B : Nat) : Int) ≠ 0 := by omega
      have e1 : (T : Int).tdiv ((Nat.gcd T B : Nat) : Int) = ((rT T B : Nat) : Int) := by rw [Int.tdiv_eq_ediv_of_nonneg (by omega)]; rfl
      have e2 : (B : Int).tdiv ((Nat.gcd T B : Nat) : Int) = ((rB T B : Nat) : Int) := by rw [Int.tdiv_eq_ediv_of_nonneg (by omega)]; rfl
      have hone := red_one (t := T) hB0
      have k1 := rB_pos (t := T) hB0
      have hfk : Hid (Fk (rT T B : Nat) (rB T B : Nat) ↔ rT T B ≤ 10000 ∧ rB T B ≤ 10000) := Lib.hid (by
        unfold Fk
        rw [Int.toNat_natCast, Int.toNat_natCast]
        omega)
      have HRED := Lib.hid hred
      have k2 := rT_le T B
      have k3 := rB_le T B
      clear hone hred h
      go_enter Try.func54, Try.ntmps54
      go_wp2_with fail
      refine (in_yes _ _ _ _ h1.1 h1.2).mono ?_; rintro e w1 ⟨rfl, rfl⟩
      go_wp2_with fail
      refine (in_yes _ _ _ _ h2.1 h2.2).mono ?_; rintro e w1 ⟨rfl, rfl⟩
      go_wp2_with fail
      refine (spec_gcd _ T B (by omega) (by omega)).mono ?_; rintro e w1 ⟨rfl, hb⟩
      have L1 := Lib.hid hb
      unfold Red at HRED
      generalize rT T B = tr at *
      generalize rB T B = br at *
      generalize ((Nat.gcd T B : Nat) : Int) = G at *
      have wt : IntKind.i64.wrap (tr : Int) = tr := IntWalk.i64_in _ (by omega)
      have wb : IntKind.i64.wrap (br : Int) = br := IntWalk.i64_in _ (by omega)
      clear hb hw0 p0 p1 p2 p3 h1 h2 g1 g2
      go_upto_region 4 with fail
      go_cut [7] (fun s wx => Made w1 tr br s wx)
      case first =>
        go_region
        all_goals
          go_wp2_with fail
          go_meet
          refine ⟨_, rfl, ?_, ?_, ?_⟩
          · go_simp
            exact below_dr (below_al (Below.refl _ _) _)
          · go_simp
            (try exact wt)
          · go_simp
            (try exact wb)
      case rest =>
        obtain ⟨g, rfl, B2, c0, c1⟩ := hcut
        have L2 := Lib.hid (below_step L1.out B2)
        clear B2 L1 e0 e1 e2
        by_cases hok : tr ≤ 10000 ∧ br ≤ 10000
        · obtain ⟨rfl, rfl, rfl⟩ := HRED.out.1 hok
          go_wp2_with fail
          refine (spec_fok _ _ _ true ⟨fun _ => hfk.out.2 hok, fun _ => rfl⟩).mono ?_; rintro e w3 ⟨rfl, hb3⟩
          replace c0 := keep1 c0 hb3
          replace c1 := keep1 c1 hb3
          replace L2 := Lib.hid (below_step L2.out hb3)
          obtain ⟨p0, p1, p2, p3⟩ := fcell (HX.out.step L2.out)
          clear hb3 hok
          go_wp2
          refine bodyPost_ret (v := .tuple #[R tr br, .bool true]) (by simp [*, results, Try.results54, go_sem]) rfl ⟨rfl, ?_⟩
          have B1 := HB.out.trans (L2.out.mono HB.out.size)
          go_grown
        · obtain ⟨rfl, rfl, rfl⟩ := HRED.out.2 hok
          go_wp2_with fail
          refine (spec_fok _ _ _ false ⟨fun h => (by cases h), fun h => absurd (hfk.out.1 h) hok⟩).mono ?_; rintro e w3 ⟨rfl, hb3⟩
          replace L2 := Lib.hid (below_step L2.out hb3)
          obtain ⟨p0, p1, p2, p3⟩ := fcell (HX.out.step L2.out)
          clear hb3 hok c0 c1
          go_wp2
          refine bodyPost_ret (v := .tuple #[R 0 0, .bool false]) (by simp [*, results, Try.results54, go_sem]) rfl ⟨rfl, ?_⟩
          have B1 := HB.out.trans (L2.out.mono HB.out.size)
          go_grown
    · obtain ⟨rfl, rfl, rfl⟩ := h.2 (fun g => h2 g.2)
      go_enter Try.func54, Try.ntmps54
      go_wp2_with fail
      refine (in_yes _ _ _ _ h1.1 h1.2).mono ?_; rintro e w1 ⟨rfl, rfl⟩
      go_wp2_with fail
      refine (in_no _ _ _ _ h2).mono ?_; rintro e w1 ⟨rfl, rfl⟩
      clear h1 h2 h
      go_wp2
      refine bodyPost_ret (v := .tuple #[R 0 0, .bool false]) (by simp [*, results, Try.results54, go_sem]) rfl ⟨rfl, ?_⟩
      have B1 := HB.out
      go_grown
  · obtain ⟨rfl, rfl, rfl⟩ := h.2 (fun g => h1 g.1)
    go_enter Try.func54, Try.ntmps54
    go_wp2_with fail
    refine (in_no _ _ _ _ h1).mono ?_; rintro e w1 ⟨rfl, rfl⟩
    clear h1 h
    go_wp2
    refine bodyPost_ret (v := .tuple #[R 0 0, .bool false]) (by simp [*, results, Try.results54, go_sem]) rfl ⟨rfl, ?_⟩
    have B1 := HB.out
    go_grown
/-- Two fractions put into memory, and room for an answer. -/
theorem boxes (w : World) (a b c d : Value) : ∃ w0, ((w.alloc (.cells #[a, b] TF)).alloc (.cells #[c, d] TF)).alloc (.cells #[.int .i64 0, .int .i64 0] TF) = w0 ∧ Hid (Blk w0 w.heap.size TF #[a, b]) ∧ Hid (Blk w0 (w.heap.size + 1) TF #[c, d]) ∧ Hid (Blk w0 (w.heap.size + 1 + 1) TF #[.int .i64 0, .int .i64 0]) ∧ Hid (Below w.heap.size w w0) := by
  refine ⟨_, rfl, Lib.hid (((Blk.new w TF #[a, b]).alloc _).alloc _), Lib.hid ((Blk.new1 w TF #[c, d] _).alloc _), Lib.hid ?_, Lib.hid (below_al (below_al (below_al (Below.refl _ _) _) _) _)⟩
  have h := Blk.new ((w.alloc (.cells #[a, b] TF)).alloc (.cells #[c, d] TF)) TF #[.int .i64 0, .int .i64 0]
  simpa using h
set_option maxHeartbeats 4000000 in
theorem spec_add (w : World) (t b t' b' x y : Int) (r : Bool) (h : Ad t b t' b' x y r) : Calls Try.prog 50 #[R t b, R t' b'] w (Gives w (.tuple #[R x y, .bool r])) := by
  obtain ⟨w0, hw0, XA, XB, XR, HB⟩ := boxes w (.int .i64 t) (.int .i64 b) (.int .i64 t') (.int .i64 b')
  obtain ⟨a0, a1, _⟩ := fcell XA.out
  by_cases ha : Fk t b
  · by_cases hb : Fk t' b'
    · have hred := h.1 ⟨ha, hb⟩
      have HA := Lib.hid ha
      have HC := Lib.hid hb
      obtain ⟨⟨A1, A2⟩, ⟨A3, A4⟩, _⟩ := ha
      obtain ⟨⟨C1, C2⟩, ⟨C3, C4⟩, _⟩ := hb
      obtain ⟨m1, m2⟩ := mul_bd A3 A4 (Int.le_trans (by decide) C1) C2
      obtain ⟨m3, m4⟩ := mul_bd C3 C4 (Int.le_trans (by decide) A1) A2
      obtain ⟨m5, m6⟩ := mul_bd (Int.le_trans (by decide) A1) A2 (Int.le_trans (by decide) C1) C2
      have m7 : 0 < b * b' := Int.mul_pos (by omega) (by omega)
      have v1 : IntKind.i64.wrap (t * b') = t * b' := IntWalk.i64_in _ (by omega)
      have v2 : IntKind.i64.wrap (t' * b) = t' * b := IntWalk.i64_in _ (by omega)
      have v3 : IntKind.i64.wrap (t * b' + t' * b) = t * b' + t' * b := IntWalk.i64_in _ (by omega)
      have v4 : IntKind.i64.wrap (b * b') = b * b' := IntWalk.i64_in _ (by omega)
      clear h
      go_enter Try.func50, Try.ntmps50
      go_wp2_with fail
      refine (spec_fok _ _ _ true ⟨fun _ => HA.out, fun _ => rfl⟩).mono ?_; rintro e w1 ⟨rfl, hb1⟩
      obtain ⟨b0, b1, _⟩ := fcell (XB.out.step hb1)
      have L1 := Lib.hid hb1
      clear hb1 a0 a1 hw0
      go_wp2_with fail
      refine (spec_fok _ _ _ true ⟨fun _ => HC.out, fun _ => rfl⟩).mono ?_; rintro e w2 ⟨rfl, hb2⟩
      have L2 := Lib.hid (below_step L1.out hb2)
      obtain ⟨a0, a1, _⟩ := fcell (XA.out.step L2.out)
      obtain ⟨b0, b1, _⟩ := fcell (XB.out.step L2.out)
      clear hb2 L1
      obtain ⟨T, hT⟩ : ∃ T : Nat, t * b' + t' * b = T := ⟨(t * b' + t' * b).toNat, by omega⟩
      obtain ⟨B, hB⟩ : ∃ B : Nat, b * b' = B := ⟨(b * b').toNat, by omega⟩
      rw [hT, hB, Int.toNat_natCast, Int.toNat_natCast] at hred
      have hB0 : 0 < B := by omega
      have HMK := Lib.hid (Red.mk hB0 hred)
      obtain ⟨g1, g2⟩ := gcd_lo (t := T) hB0
      have e0 : ((Nat.gcd T B : Nat) : Int) ≠ 0 := by omega
      have e1 : (T : Int).tdiv ((Nat.gcd T B : Nat) : Int) = ((rT T B : Nat) : Int) := by rw [Int.tdiv_eq_ediv_of_nonneg (by omega)]; rfl
      have e2 : (B : Int).tdiv ((Nat.gcd T B : Nat) : Int) = ((rB T B : Nat) : Int) := by rw [Int.tdiv_eq_ediv_of_nonneg (by omega)]; rfl
      have k2 := rT_le T B
      have k3 := rB_le T B
      have GC := fun W : World => spec_gcd W T B (by omega) (by omega)
      generalize rT T B = tr at *
      generalize rB T B = br at *
      generalize ((Nat.gcd T B : Nat) : Int) = G at *
      have wt : IntKind.i64.wrap (tr : Int) = tr := IntWalk.i64_in _ (by omega)
      have wb : IntKind.i64.wrap (br : Int) = br := IntWalk.i64_in _ (by omega)
      rw [hT] at v3
      rw [hB] at v4
      have GCH := Lib.hid GC
      clear GC
      go_wp2_with fail
      refine (GCH.out _).mono ?_; rintro e w3 ⟨rfl, hb3⟩
      have L3 := Lib.hid (below_step L2.out hb3)
      clear hb3 L2 a0 a1 b0 b1
      go_upto_region 6 with fail
      go_cut [9, 10] (fun s1 s2 wx => Made w3 x y s1 wx ∧ s2 = .bool r)
      case first =>
        go_region_held3 (fun _ => True) (trivial)
          (first
            | (go_at_call 54; refine (spec_mk _ _ _ _ _ _ HMK.out).mono ?_; rintro e wA ⟨rfl, hb⟩; obtain ⟨hc, hf⟩ := bcell hb; have hz := hb.size; (try simp only [World.size_drew] at hz); (try simp only [World.size_alloc] at hz); (try simp only [World.size_drew] at hz); (try have l1 : w3.heap.size < wA.heap.size := by omega))
            | fail)
        all_goals
          go_wp2_with fail
          go_meet
          refine ⟨⟨_, rfl, ?_, ?_, ?_⟩, rfl⟩
          · (repeat (first | (with_reducible exact Below.refl _ _) | (with_reducible refine below_dr ?_) | (with_reducible refine below_al ?_ _) | (with_reducible refine below_step ?_ (by assumption)) | (with_reducible refine Below.setCell ?_ ?_ _) | (simp only []; omega) | omega | fail))
          · (try go_simp)
            (try (refine World.cell?_setCell_same _ _ _ (u := .int .i64 0) ?_; go_simp))
          · (try go_simp)
            (try (refine World.cell?_setCell_same _ _ _ (u := .int .i64 0) ?_; go_simp))
      case rest =>
        obtain ⟨⟨g, rfl, B2, c0, c1⟩, rfl⟩ := hcut
        have L4 := Lib.hid (below_step L3.out B2)
        obtain ⟨p0, p1, p2, p3⟩ := fcell (XR.out.step L4.out)
        clear B2 e1 e2
        go_wp2
        refine bodyPost_ret (v := .tuple #[R x y, .bool r]) (by simp [*, results, Try.results50, go_sem]) rfl ⟨rfl, ?_⟩
        have B1 := HB.out.trans (L4.out.mono HB.out.size)
        go_grown
    · obtain ⟨rfl, rfl, rfl⟩ := h.2 (fun g => hb g.2)
      have HA := Lib.hid ha
      have HC := Lib.hid hb
      clear ha hb h
      go_enter Try.func50, Try.ntmps50
      go_wp2_with fail
      refine (spec_fok _ _ _ true ⟨fun _ => HA.out, fun _ => rfl⟩).mono ?_; rintro e w1 ⟨rfl, hb1⟩
      obtain ⟨b0, b1, _⟩ := fcell (XB.out.step hb1)
      have L1 := Lib.hid hb1
      clear hb1 a0 a1 hw0
      go_wp2_with fail
      refine (spec_fok _ _ _ false ⟨fun h => (by cases h), fun h => absurd h HC.out⟩).mono ?_; rintro e w2 ⟨rfl, hb2⟩
      have L2 := Lib.hid (below_step L1.out hb2)
      obtain ⟨p0, p1, p2, p3⟩ := fcell (XR.out.step L2.out)
      clear hb2 L1 b0 b1
      go_wp2
      refine bodyPost_ret (v := .tuple #[R 0 0, .bool false]) (by simp [*, results, Try.results50, go_sem]) rfl ⟨rfl, ?_⟩
      have B1 := HB.out.trans (L2.out.mono HB.out.size)
      go_grown
  · obtain ⟨rfl, rfl, rfl⟩ := h.2 (fun g => ha g.1)
    have HA := Lib.hid ha
    clear ha h
    go_enter Try.func50, Try.ntmps50
    go_wp2_with fail
    refine (spec_fok _ _ _ false ⟨fun h => (by cases h), fun h => absurd h HA.out⟩).mono ?_; rintro e w1 ⟨rfl, hb1⟩
    have L1 := Lib.hid hb1
    obtain ⟨p0, p1, p2, p3⟩ := fcell (XR.out.step L1.out)
    clear hb1 a0 a1 hw0
    go_wp2
    refine bodyPost_ret (v := .tuple #[R 0 0, .bool false]) (by simp [*, results, Try.results50, go_sem]) rfl ⟨rfl, ?_⟩
    have B1 := HB.out.trans (L1.out.mono HB.out.size)
    go_grown
end Go.Proofs.Ytopbeacfljoacaa.frc
