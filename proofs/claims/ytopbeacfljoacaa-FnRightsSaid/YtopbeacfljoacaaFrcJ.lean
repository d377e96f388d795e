/- Fractions: the program's helpers: the greatest divisor, valid fractions, what is reduced. -/
import Derived.Test.YtopbeacfljoacaaFrcS2
namespace Go.Proofs.Ytopbeacfljoacaa.frc
open Go.RowKit Go.Proofs.Ytopbeacfljoacaa.kit Go.Proofs.Ytopbeacfljoacaa.lawi Go.Proofs.Ytopbeacfljoacaa.own Go.Proofs.Ytopbeacfljoacaa.rain Go.Proofs.Ytopbeacfljoacaa.stFraction
abbrev TV : TypeId := 73
set_option maxHeartbeats 1000000 in
theorem impl_gcd (w : World) (a b : Nat) (ha : a ≤ 1000000000000) (hb : b ≤ 1000000000000) :
    Calls Try.prog 66 #[.int .i64 a, .int .i64 b] w (Gives w (.int .i64 ((Nat.gcd a b : Nat) : Int))) := by
  go_enter Try.func66, Try.ntmps66
  go_wp2
  go_loopg [0, 1] (b + 1) (fun g s0 s1 wr => ∃ p q : Nat, s0 = .int .i64 p ∧ s1 = .int .i64 q ∧ q < g ∧ p ≤ 1000000000000 ∧ q ≤ 1000000000000 ∧ Nat.gcd p q = Nat.gcd a b ∧ Below w.heap.size w wr)
  case atStart => exact ⟨a, b, rfl, rfl, by omega, ha, hb, rfl, Below.refl _ _⟩
  case round =>
    obtain ⟨p, q, rfl, rfl, hlt, hp, hq, hg, hbel⟩ := hrel
    have HG := Lib.hid hg
    have HB := Lib.hid hbel
    clear hg hbel
    by_cases h0 : q = 0
    · subst h0
      have e : (p : Int) = ((Nat.gcd a b : Nat) : Int) := by rw [← HG.out, Nat.gcd_zero_right]
      go_wp2
      go_ret
      exact ⟨by rw [e]; rfl, HB.out⟩
    · obtain ⟨gk, rfl⟩ : ∃ g', gk = g' + 1 := ⟨gk - 1, by omega⟩
      have e0 : ((q : Int) == 0) = false := beq_eq_false_iff_ne.2 (by omega)
      have e1 : (p : Int).tmod (q : Int) = ((p % q : Nat) : Int) := by rw [Int.tmod_eq_emod_of_nonneg (by omega)]; rfl
      have hr := Nat.mod_lt p (show 0 < q by omega)
      have HN : Hid (Nat.gcd q (p % q) = Nat.gcd a b) := Lib.hid (by rw [← HG.out, Nat.gcd_comm p q, Nat.gcd_rec q p, Nat.gcd_comm])
      generalize p % q = m at e1 hr HN
      go_wp2
      go_quiet (fail)
      all_goals
        go_wp2
        go_roundg gk
        case measure => omega
        case rel => exact ⟨q, m, by go_num, by go_num, by omega, by omega, by omega, HN.out, by first | exact below_drewN HB.out _ | exact below_dr HB.out | exact HB.out⟩
theorem impl_fok (w : World) (t b : Int) (r : Bool) (hr : r = true ↔ Fk t b) : Calls Try.prog 47 #[R t b] w (Gives w (.bool r)) := by
  obtain ⟨w0, hw0⟩ : ∃ w0, w.alloc (.cells #[.int .i64 t, .int .i64 b] TF) = w0 := ⟨_, rfl⟩
  have HB : Hid (Below w.heap.size w w0) := Lib.hid (hw0 ▸ below_al (Below.refl _ _) _)
  obtain ⟨p0, p1, _⟩ := fcell (hw0 ▸ Blk.new w TF #[.int .i64 t, .int .i64 b] : Blk w0 w.heap.size TF #[.int .i64 t, .int .i64 b])
  have HR := Lib.hid hr
  clear hr
  by_cases h1 : 1 ≤ b ∧ b ≤ 10000
  · by_cases h2 : 0 ≤ t ∧ t ≤ 10000
    · obtain ⟨T, rfl⟩ : ∃ T : Nat, t = T := ⟨t.toNat, by omega⟩
      obtain ⟨B, rfl⟩ : ∃ B : Nat, b = B := ⟨b.toNat, by omega⟩
      have e : Hid ((((Nat.gcd T B : Nat) : Int) == 1) = r) := Lib.hid (by
        rw [Bool.eq_iff_iff, beq_iff_eq, HR.out]
        unfold Fk
        rw [Int.toNat_natCast, Int.toNat_natCast]
        omega)
      go_enter Try.func47, Try.ntmps47
      go_wp2_with fail
      refine (inR_yes _ _ _ _ h1.1 h1.2).mono ?_; rintro e w1 ⟨rfl, rfl⟩
      go_wp2_with fail
      refine (inR_yes _ _ _ _ h2.1 h2.2).mono ?_; rintro e w1 ⟨rfl, rfl⟩
      go_wp2_with fail
      refine (impl_gcd _ T B (by omega) (by omega)).mono ?_; rintro e w1 ⟨rfl, hb⟩
      clear h1 h2
      generalize ((Nat.gcd T B : Nat) : Int) = G at e ⊢
      have L1 := Lib.hid hb
      clear hb hw0 p0 p1
      go_wp2
      go_ret
      exact ⟨congrArg (fun z => Ending.returned (Value.bool z)) e.out, HB.out.trans (L1.out.mono HB.out.size)⟩
    · have e : r = false := by
        cases r
        · rfl
        · exact absurd (HR.out.1 rfl).2.1 h2
      subst e
      go_enter Try.func47, Try.ntmps47
      go_wp2_with fail
      refine (inR_yes _ _ _ _ h1.1 h1.2).mono ?_; rintro e w1 ⟨rfl, rfl⟩
      go_wp2_with fail
      refine (inR_no _ _ _ _ h2).mono ?_; rintro e w1 ⟨rfl, rfl⟩
      clear h1 h2
      go_wp2
      go_ret
      exact ⟨rfl, HB.out⟩
  · have e : r = false := by
      cases r
      · rfl
      · exact absurd (HR.out.1 rfl).1 h1
    subst e
    go_enter Try.func47, Try.ntmps47
    go_wp2_with fail
    refine (inR_no _ _ _ _ h1).mono ?_; rintro e w1 ⟨rfl, rfl⟩
    clear h1
    go_wp2
    go_ret
    exact ⟨rfl, HB.out⟩
/-- A fraction taken as valid, where it is. -/
def Av (t b x y : Int) (r : Bool) : Prop := (Fk t b → x = t ∧ y = b ∧ r = true) ∧ (¬ Fk t b → x = 0 ∧ y = 0 ∧ r = false)
theorem Av.ex (t b : Int) : ∃ x y r, Av t b x y r := by
  by_cases h : Fk t b
  · exact ⟨_, _, _, fun _ => ⟨rfl, rfl, rfl⟩, fun g => absurd h g⟩
  · exact ⟨_, _, _, fun g => absurd g h, fun _ => ⟨rfl, rfl, rfl⟩⟩
theorem Av.both {t b t' b' x y x' y' : Int} {r r' : Bool} (h : Av t b x y r) (h' : Av t' b' x' y' r') (hn : ¬ (Fk t b ∧ Fk t' b')) : (r && r') = false := by
  by_cases g : Fk t b
  · obtain ⟨_, _, rfl⟩ := h'.2 (fun g' => hn ⟨g, g'⟩)
    exact Bool.and_false r
  · obtain ⟨_, _, rfl⟩ := h.2 g
    rfl
/-- A fraction put into memory, and room for a valid one. -/
theorem box1 (w : World) (a b : Value) : ∃ w0, (w.alloc (.cells #[a, b] TF)).alloc (.cells #[.int .i64 0, .int .i64 0] TV) = w0 ∧ Hid (Blk w0 w.heap.size TF #[a, b]) ∧ Hid (Blk w0 (w.heap.size + 1) TV #[.int .i64 0, .int .i64 0]) ∧ Hid (Below w.heap.size w w0) :=
  ⟨_, rfl, Lib.hid ((Blk.new w TF #[a, b]).alloc _), Lib.hid (Blk.new1 w TV #[.int .i64 0, .int .i64 0] _), Lib.hid (below_al (below_al (Below.refl _ _) _) _)⟩
set_option maxHeartbeats 2000000 in
theorem impl_av (w : World) (t b x y : Int) (r : Bool) (h : Av t b x y r) : Calls Try.prog 55 #[R t b] w (Gives w (.tuple #[R x y, .bool r])) := by
  obtain ⟨w0, hw0, XA, XR, HB⟩ := box1 w (.int .i64 t) (.int .i64 b)
  obtain ⟨a0, a1, _⟩ := fcell XA.out
  by_cases ha : Fk t b
  · obtain ⟨rfl, rfl, rfl⟩ := h.1 ha
    have HA := Lib.hid ha
    clear h ha
    go_enter Try.func55, Try.ntmps55
    go_wp2_with fail
    refine (impl_fok _ _ _ true ⟨fun _ => HA.out, fun _ => rfl⟩).mono ?_; rintro e w1 ⟨rfl, hb1⟩
    have L1 := Lib.hid hb1
    obtain ⟨a0, a1, _⟩ := fcell (XA.out.step L1.out)
    obtain ⟨p0, p1, p2, p3⟩ := fcell (XR.out.step L1.out)
    clear hb1 hw0
    go_wp2
    refine bodyPost_ret (v := .tuple #[R x y, .bool true]) (by simp [*, results, Try.results55, go_sem]) rfl ⟨rfl, ?_⟩
    have B1 := HB.out.trans (L1.out.mono HB.out.size)
    go_grown
  · obtain ⟨rfl, rfl, rfl⟩ := h.2 ha
    have HA := Lib.hid ha
    clear h ha
    go_enter Try.func55, Try.ntmps55
    go_wp2_with fail
    refine (impl_fok _ _ _ false ⟨fun h => (by cases h), fun h => absurd h HA.out⟩).mono ?_; rintro e w1 ⟨rfl, hb1⟩
    have L1 := Lib.hid hb1
    obtain ⟨p0, p1, p2, p3⟩ := fcell (XR.out.step L1.out)
    clear hb1 a0 a1 hw0
    go_wp2
    refine bodyPost_ret (v := .tuple #[R 0 0, .bool false]) (by simp [*, results, Try.results55, go_sem]) rfl ⟨rfl, ?_⟩
    have B1 := HB.out.trans (L1.out.mono HB.out.size)
    go_grown
set_option maxHeartbeats 1000000 in
theorem impl_ct (w : World) (t b t' b' X Y : Int) (hX : t * b' = X) (hY : t' * b = Y) (wX : IntKind.i64.wrap X = X) (wY : IntKind.i64.wrap Y = Y) : Calls Try.prog 60 #[R t b, R t' b'] w (Gives w (.tuple #[.int .i64 X, .int .i64 Y])) := by
  obtain ⟨w0, hw0⟩ : ∃ w0, (w.alloc (.cells #[.int .i64 t, .int .i64 b] TV)).alloc (.cells #[.int .i64 t', .int .i64 b'] TV) = w0 := ⟨_, rfl⟩
  have HB : Hid (Below w.heap.size w w0) := Lib.hid (hw0 ▸ below_al (below_al (Below.refl _ _) _) _)
  obtain ⟨a0, a1, _⟩ := fcell (hw0 ▸ (Blk.new w TV #[.int .i64 t, .int .i64 b]).alloc _ : Blk w0 w.heap.size TV #[.int .i64 t, .int .i64 b])
  obtain ⟨b0, b1, _⟩ := fcell (hw0 ▸ Blk.new1 w TV #[.int .i64 t', .int .i64 b'] _ : Blk w0 (w.heap.size + 1) TV #[.int .i64 t', .int .i64 b'])
  go_enter Try.func60, Try.ntmps60
  go_wp2
  go_quiet (fail)
  all_goals
    go_wp2
    refine bodyPost_ret (v := .tuple #[.int .i64 X, .int .i64 Y]) (by simp [*, results, Try.results60, go_sem]) rfl ⟨rfl, ?_⟩
    first
      | exact HB.out
      | exact below_dr HB.out
      | exact below_drewN HB.out _
theorem impl_nan (w : World) (x : Int) : Calls Try.prog 69 #[.int .i64 x] w fun e w' => e = .returned (.bool false) ∧ w = w' := by
  go_enter Try.func69, Try.ntmps69
  go_wp2
  go_ret
  exact ⟨rfl, rfl⟩
theorem impl_sg (w : World) (x y c : Int) (hc : c = sg x y) : Calls Try.prog 62 #[.int .i64 x, .int .i64 y] w fun e w' => e = .returned (.int .i64 c) ∧ w = w' := by
  by_cases h1 : x < y
  · obtain rfl : c = -1 := by rw [hc]; unfold sg; rw [if_pos h1]
    clear hc
    go_enter Try.func62, Try.ntmps62
    go_wp2_with fail
    refine (impl_nan _ _).mono ?_; rintro e w1 ⟨rfl, rfl⟩
    go_wp2_with fail
    refine (impl_nan _ _).mono ?_; rintro e w1 ⟨rfl, rfl⟩
    go_wp2
    go_ret
    exact ⟨rfl, rfl⟩
  · by_cases h2 : y < x
    · obtain rfl : c = 1 := by rw [hc]; unfold sg; rw [if_neg h1, if_pos h2]
      clear hc
      go_enter Try.func62, Try.ntmps62
      go_wp2_with fail
      refine (impl_nan _ _).mono ?_; rintro e w1 ⟨rfl, rfl⟩
      go_wp2_with fail
      refine (impl_nan _ _).mono ?_; rintro e w1 ⟨rfl, rfl⟩
      go_wp2
      go_ret
      exact ⟨rfl, rfl⟩
    · obtain rfl : c = 0 := by rw [hc]; unfold sg; rw [if_neg h1, if_neg h2]
      clear hc
      go_enter Try.func62, Try.ntmps62
      go_wp2_with fail
      refine (impl_nan _ _).mono ?_; rintro e w1 ⟨rfl, rfl⟩
      go_wp2_with fail
      refine (impl_nan _ _).mono ?_; rintro e w1 ⟨rfl, rfl⟩
      go_wp2
      go_ret
      exact ⟨rfl, rfl⟩
end Go.Proofs.Ytopbeacfljoacaa.frc
