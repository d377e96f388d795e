/- Fractions: the specification's functions. -/
import Derived.Test.YtiglbofbacecpaaDoorFrcL
import Derived.Test.YtiglbofbacecpaaDoorStFraction
import Derived.Test.YtiglbofbacecpaaDoorBase
import Derived.Deep.DeepCutAuto
import Derived.Deep.DrawnRows
import Derived.Deep.RegionHeld3
import Derived.Handy
import Derived.Outline
import Derived.Deep.LoopGhost
import Derived.Carry
import Derived.WalkArith
namespace Go.Proofs.YtiglbofbacecpaaDoor.frc
open Go.RowKit Go.Proofs.YtiglbofbacecpaaDoor.kit Go.Proofs.YtiglbofbacecpaaDoor.lawi Go.Proofs.YtiglbofbacecpaaDoor.own Go.Proofs.YtiglbofbacecpaaDoor.rain Go.Proofs.YtiglbofbacecpaaDoor.stFraction
abbrev TF : TypeId := 25
theorem fcell {w : World} {g : Nat} {t : TypeId} {a b : Value} (h : Blk w g t #[a, b]) : w.cell? ⟨g, 0, none⟩ = some a ∧ w.cell? ⟨g, 1, none⟩ = some b ∧ w.frozen? ⟨g, 0, none⟩ = false ∧ w.frozen? ⟨g, 1, none⟩ = false := ⟨h.cell 0, h.cell 1, h.frozen 0, h.frozen 1⟩
theorem mul_bd {x y : Int} (h1 : 0 ≤ x) (h2 : x ≤ 10000) (h3 : 0 ≤ y) (h4 : y ≤ 10000) : 0 ≤ x * y ∧ x * y ≤ 100000000 :=
  ⟨Int.mul_nonneg h1 h3, Int.le_trans (Int.mul_le_mul h2 h4 h3 (by decide)) (by decide)⟩
set_option maxHeartbeats 1000000 in
theorem spec_gcd (w : World) (a b : Nat) (ha : a ≤ 1000000000000) (hb : b ≤ 1000000000000) :
    Calls Tryd.prog 35 #[.int .i64 a, .int .i64 b] w (Gives w (.int .i64 ((Nat.gcd a b : Nat) : Int))) := by
  go_enter Tryd.func35, Tryd.ntmps35
  go_wp2
  go_loopg [0, 1] (b + 1) (fun g s0 s1 wr => ∃ p q : Nat, s0 = .int .i64 p ∧ s1 = .int .i64 q ∧ q < g ∧ p ≤ 1000000000000 ∧ q ≤ 1000000000000 ∧ Nat.gcd p q = Nat.gcd a b ∧ Below w.heap.size w wr)
  case atStart => exact ⟨a, b, rfl, rfl, by omega, ha, hb, rfl, Below.refl _ _⟩
  case round =>
    obtain ⟨p, q, rfl, rfl, hlt, hp, hq, hg, hbel⟩ := hrel
    have HG := Lib.hid hg
    have HB := Lib.hid hbel
    clear hg hbel
    by_cases h0 : q = 0
    · subst h0
      have e : (p : Int) = ((Nat.gcd a b : Nat) : Int) := by rw [← HG.out, Nat.gcd_zero_right]
      go_wp2
      go_ret
      exact ⟨by rw [e]; rfl, HB.out⟩
    · obtain ⟨gk, rfl⟩ : ∃ g', gk = g' + 1 := ⟨gk - 1, by omega⟩
      have e0 : ((q : Int) == 0) = false := beq_eq_false_iff_ne.2 (by omega)
      have e1 : (p : Int).tmod (q : Int) = ((p % q : Nat) : Int) := by rw [Int.tmod_eq_emod_of_nonneg (by omega)]; rfl
      have hr := Nat.mod_lt p (show 0 < q by omega)
      have HN : Hid (Nat.gcd q (p % q) = Nat.gcd a b) := Lib.hid (by rw [← HG.out, Nat.gcd_comm p q, Nat.gcd_rec q p, Nat.gcd_comm])
      generalize p % q = m at e1 hr HN
      go_wp2
      go_quiet (fail)
      all_goals
        go_wp2
        go_roundg gk
        case measure => omega
        case rel => exact ⟨q, m, by go_num, by go_num, by omega, by omega, by omega, HN.out, by first | exact below_drewN HB.out _ | exact below_dr HB.out | exact HB.out⟩
theorem spec_fok (w : World) (t b : Int) (r : Bool) (hr : r = true ↔ Fk t b) : Calls Tryd.prog 28 #[R t b] w (Gives w (.bool r)) := by
  obtain ⟨w0, hw0⟩ : ∃ w0, w.alloc (.cells #[.int .i64 t, .int .i64 b] TF) = w0 := ⟨_, rfl⟩
  have HB : Hid (Below w.heap.size w w0) := Lib.hid (hw0 ▸ below_al (Below.refl _ _) _)
  obtain ⟨p0, p1, _⟩ := fcell (hw0 ▸ Blk.new w TF #[.int .i64 t, .int .i64 b] : Blk w0 w.heap.size TF #[.int .i64 t, .int .i64 b])
  have HR := Lib.hid hr
  clear hr
  by_cases h1 : 1 ≤ b ∧ b ≤ 10000
  · by_cases h2 : 0 ≤ t ∧ t ≤ 10000
    · obtain ⟨T, rfl⟩ : ∃ T : Nat, t = T := ⟨t.toNat, by omega⟩
      obtain ⟨B, rfl⟩ : ∃ B : Nat, b = B := ⟨b.toNat, by omega⟩
      have e : Hid ((((Nat.gcd T B : Nat) : Int) == 1) = r) := Lib.hid (by
        rw [Bool.eq_iff_iff, beq_iff_eq, HR.out]
        unfold Fk
        rw [Int.toNat_natCast, Int.toNat_natCast]
        omega)
      go_enter Tryd.func28, Tryd.ntmps28
      go_wp2_with fail
      refine (in_yes _ _ _ _ h1.1 h1.2).mono ?_; rintro e w1 ⟨rfl, rfl⟩
      go_wp2_with fail
      refine (in_yes _ _ _ _ h2.1 h2.2).mono ?_; rintro e w1 ⟨rfl, rfl⟩
      go_wp2_with fail
      refine (spec_gcd _ T B (by omega) (by omega)).mono ?_; rintro e w1 ⟨rfl, hb⟩
      clear h1 h2
      generalize ((Nat.gcd T B : Nat) : Int) = G at e ⊢
      have L1 := Lib.hid hb
      clear hb hw0 p0 p1
      go_wp2
      go_ret
      exact ⟨congrArg (fun z => Ending.returned (Value.bool z)) e.out, HB.out.trans (L1.out.mono HB.out.size)⟩
    · have e : r = false := by
        cases r
        · rfl
        · exact absurd (HR.out.1 rfl).2.1 h2
      subst e
      go_enter Tryd.func28, Tryd.ntmps28
      go_wp2_with fail
      refine (in_yes _ _ _ _ h1.1 h1.2).mono ?_; rintro e w1 ⟨rfl, rfl⟩
      go_wp2_with fail
      refine (in_no _ _ _ _ h2).mono ?_; rintro e w1 ⟨rfl, rfl⟩
      clear h1 h2
      go_wp2
      go_ret
      exact ⟨rfl, HB.out⟩
  · have e : r = false := by
      cases r
      · rfl
      · exact absurd (HR.out.1 rfl).1 h1
    subst e
    go_enter Tryd.func28, Tryd.ntmps28
    go_wp2_with fail
    refine (in_no _ _ _ _ h1).mono ?_; rintro e w1 ⟨rfl, rfl⟩
    clear h1
    go_wp2
    go_ret
    exact ⟨rfl, HB.out⟩
/-- A world behind a region: a new fraction lies in it. -/
def Made (w : World) (x y : Int) (s : Value) (wx : World) : Prop :=
  ∃ g : Nat, s = .pointer (some ⟨g, 0, none⟩) ∧ Below w.heap.size w wx ∧ wx.cell? ⟨g, 0, none⟩ = some (.int .i64 x) ∧ wx.cell? ⟨g, 1, none⟩ = some (.int .i64 y)
set_option maxHeartbeats 2000000 in
theorem spec_mk (w : World) (t b x y : Int) (r : Bool) (h : Mk t b x y r) : Calls Tryd.prog 30 #[.int .i64 t, .int .i64 b] w (Gives w (.tuple #[R x y, .bool r])) := by
  obtain ⟨w0, hw0⟩ : ∃ w0, w.alloc (.cells #[.int .i64 0, .int .i64 0] TF) = w0 := ⟨_, rfl⟩
  have HB : Hid (Below w.heap.size w w0) := Lib.hid (hw0 ▸ below_al (Below.refl _ _) _)
  have HX : Hid (Blk w0 w.heap.size TF #[.int .i64 0, .int .i64 0]) := Lib.hid (hw0 ▸ Blk.new w TF #[.int .i64 0, .int .i64 0])
  obtain ⟨p0, p1, p2, p3⟩ := fcell HX.out
  by_cases h1 : 0 ≤ t ∧ t ≤ 100000000
  · by_cases h2 : 1 ≤ b ∧ b ≤ 100000000
    · have hred := h.1 ⟨h1, h2⟩
      obtain ⟨T, rfl⟩ : ∃ T : Nat, t = T := ⟨t.toNat, by omega⟩
      obtain ⟨B, rfl⟩ : ∃ B : Nat, b = B := ⟨b.toNat, by omega⟩
      rw [Int.toNat_natCast, Int.toNat_natCast] at hred
      have hB0 : 0 < B := by omega
      obtain ⟨g1, g2⟩ := gcd_lo (t := T) hB0
      have e0 : ((Nat.gcd T B : Nat) : Int) ≠ 0 := by omega
      have e1 : (T : Int).tdiv ((Nat.gcd T B : Nat) : Int) = ((rT T B : Nat) : Int) := by rw [Int.tdiv_eq_ediv_of_nonneg (by omega)]; rfl
      have e2 : (B : Int).tdiv ((Nat.gcd T B : Nat) : Int) = ((rB T B : Nat) : Int) := by rw [Int.tdiv_eq_ediv_of_nonneg (by omega)]; rfl
      have hone := red_one (t := T) hB0
      have k1 := rB_pos (t := T) hB0
      have hfk : Hid (Fk (rT T B : Nat) (rB T B : Nat) ↔ rT T B ≤ 10000 ∧ rB T B ≤ 10000) := Lib.hid (by
        unfold Fk
        rw [Int.toNat_natCast, Int.toNat_natCast]
        omega)
      have HRED := Lib.hid hred
      have k2 := rT_le T B
      have k3 := rB_le T B
      clear hone hred h
      go_enter Tryd.func30, Tryd.ntmps30
      go_wp2_with fail
      refine (in_yes _ _ _ _ h1.1 h1.2).mono ?_; rintro e w1 ⟨rfl, rfl⟩
      go_wp2_with fail
      refine (in_yes _ _ _ _ h2.1 h2.2).mono ?_; rintro e w1 ⟨rfl, rfl⟩
      go_wp2_with fail
      refine (spec_gcd _ T B (by omega) (by omega)).mono ?_; rintro e w1 ⟨rfl, hb⟩
      have L1 := Lib.hid hb
      unfold Red at HRED
      generalize rT T B = tr at *
      generalize rB T B = br at *
      generalize ((Nat.gcd T B : Nat) : Int) = G at *
      have wt : IntKind.i64.wrap (tr : Int) = tr := IntWalk.i64_in _ (by omega)
      have wb : IntKind.i64.wrap (br : Int) = br := IntWalk.i64_in _ (by omega)
      clear hb hw0 p0 p1 p2 p3 h1 h2 g1 g2
      go_upto_region 4 with fail
      go_cut [7] (fun s wx => Made w1 tr br s wx)
      case first =>
        go_region
        all_goals
          go_wp2_with fail
          go_meet
          refine ⟨_, rfl, ?_, ?_, ?_⟩
          · go_simp
            exact below_dr (below_al (Below.refl _ _) _)
          · go_simp
            (try exact wt)
          · go_simp
            (try exact wb)
      case rest =>
        obtain ⟨g, rfl, B2, c0, c1⟩ := hcut
        have L2 := Lib.hid (below_step L1.out B2)
        clear B2 L1 e0 e1 e2
        by_cases hok : tr ≤ 10000 ∧ br ≤ 10000
        · obtain ⟨rfl, rfl, rfl⟩ := HRED.out.1 hok
          go_wp2_with fail
          refine (spec_fok _ _ _ true ⟨fun _ => hfk.out.2 hok, fun _ => rfl⟩).mono ?_; rintro e w3 ⟨rfl, hb3⟩
          replace c0 := keep1 c0 hb3
          replace c1 := keep1 c1 hb3
          replace L2 := Lib.hid (below_step L2.out hb3)
          obtain ⟨p0, p1, p2, p3⟩ := fcell (HX.out.step L2.out)
          clear hb3 hok
          go_wp2
          refine bodyPost_ret (v := .tuple #[R tr br, .bool true]) (by simp [*, results, Tryd.results30, go_sem]) rfl ⟨rfl, ?_⟩
          have B1 := HB.out.trans (L2.out.mono HB.out.size)
          go_grown
        · obtain ⟨rfl, rfl, rfl⟩ := HRED.out.2 hok
          go_wp2_with fail
          refine (spec_fok _ _ _ false ⟨fun h => (by cases h), fun h => absurd (hfk.out.1 h) hok⟩).mono ?_; rintro e w3 ⟨rfl, hb3⟩
          replace L2 := Lib.hid (below_step L2.out hb3)
          obtain ⟨p0, p1, p2, p3⟩ := fcell (HX.out.step L2.out)
          clear hb3 hok c0 c1
          go_wp2
          refine bodyPost_ret (v := .tuple #[R 0 0, .bool false]) (by simp [*, results, Tryd.results30, go_sem]) rfl ⟨rfl, ?_⟩
          have B1 := HB.out.trans (L2.out.mono HB.out.size)
          go_grown
    · obtain ⟨rfl, rfl, rfl⟩ := h.2 (fun g => h2 g.2)
      go_enter Tryd.func30, Tryd.ntmps30
      go_wp2_with fail
      refine (in_yes _ _ _ _ h1.1 h1.2).mono ?_; rintro e w1 ⟨rfl, rfl⟩
      go_wp2_with fail
      refine (in_no _ _ _ _ h2).mono ?_; rintro e w1 ⟨rfl, rfl⟩
      clear h1 h2 h
      go_wp2
      refine bodyPost_ret (v := .tuple #[R 0 0, .bool false]) (by simp [*, results, Tryd.results30, go_sem]) rfl ⟨rfl, ?_⟩
      have B1 := HB.out
      go_grown
  · obtain ⟨rfl, rfl, rfl⟩ := h.2 (fun g => h1 g.1)
    go_enter Tryd.func30, Tryd.ntmps30
    go_wp2_with fail
    refine (in_no _ _ _ _ h1).mono ?_; rintro e w1 ⟨rfl, rfl⟩
    clear h1 h
    go_wp2
    refine bodyPost_ret (v := .tuple #[R 0 0, .bool false]) (by simp [*, results, Tryd.results30, go_sem]) rfl ⟨rfl, ?_⟩
    have B1 := HB.out
    go_grown
/-- Two fractions put into memory, and room for an answer. -/
theorem boxes (w : World) (a b c d : Value) : ∃ w0, ((w.alloc (.cells #[a, b] TF)).alloc (.cells #[c, d] TF)).alloc (.cells #[.int .i64 0, .int .i64 0] TF) = w0 ∧ Hid (Blk w0 w.heap.size TF #[a, b]) ∧ Hid (Blk w0 (w.heap.size + 1) TF #[c, d]) ∧ Hid (Blk w0 (w.heap.size + 1 + 1) TF #[.int .i64 0, .int .i64 0]) ∧ Hid (Below w.heap.size w w0) := by
  refine ⟨_, rfl, Lib.hid (((Blk.new w TF #[a, b]).alloc _).alloc _), Lib.hid ((Blk.new1 w TF #[c, d] _).alloc _), Lib.hid ?_, Lib.hid (below_al (below_al (below_al (Below.refl _ _) _) _) _)⟩
  have h := Blk.new ((w.alloc (.cells #[a, b] TF)).alloc (.cells #[c, d] TF)) TF #[.int .i64 0, .int .i64 0]
  simpa using h
end Go.Proofs.YtiglbofbacecpaaDoor.frc
