/- Cuts: the specification's NarrowestCut, CutOf. -/
import Derived.Test.YtilabfmnaegidaaCutS
import Derived.Test.YtilabfmnaegidaaLater
import Derived.Test.YtilabfmnaegidaaLex
namespace Go.Proofs.Ytilabfmnaegidaa.cut
open Go.RowKit Go.Proofs.Ytilabfmnaegidaa.kit Go.Proofs.Ytilabfmnaegidaa.lawi Go.Proofs.Ytilabfmnaegidaa.own Go.Proofs.Ytilabfmnaegidaa.rain Go.Proofs.Ytilabfmnaegidaa.yrl Go.Proofs.Ytilabfmnaegidaa.net Go.Proofs.Ytilabfmnaegidaa.nt Go.Proofs.Ytilabfmnaegidaa.flw Go.Proofs.Ytilabfmnaegidaa.fl_ Go.Proofs.Ytilabfmnaegidaa.bits_ Go.Proofs.Ytilabfmnaegidaa.later
/-- A place is reached if it is the first one, or a step leads to it. -/
theorem fin_by {F T W f : Nat → Int} {m : Nat} {P a : Int} (ha0 : 0 ≤ a) (ha1 : a < P) (hp : Pl F T m P) (u : Int) : RR F T W f m a u ↔ u = a ∨ 0 ≤ (fin_ F T W f m P a).2 u := by
  have hb : BI F T W f m P a (fin_ F T W f m P a) := BI.bfs ha0 ha1 hp _
  rw [← fin_iff ha0 ha1 hp u]
  constructor
  · intro hu
    obtain ⟨i, hi, e⟩ := mem_get.1 hu
    by_cases h0 : i = 0
    · subst h0
      left
      rw [← e, hb.hd.2]
    · right
      obtain ⟨j, k, _, _, hd⟩ := hb.st i (by omega) hi
      rw [e] at hd
      rcases hd with ⟨h, _⟩ | ⟨h, _⟩ <;> omega
  · rintro (rfl | h)
    · exact mem_get.2 ⟨0, hb.hd.1, hb.hd.2⟩
    · exact Classical.byContradiction fun hn => by
        have := hb.no u (.inl hn)
        omega
set_option maxHeartbeats 8000000 in
theorem spec_ncut (w : World) (P : Int) (v : Value) (n : Nat) (zs : List Int) (a b : Int) (hr : Row 3 w v n (IV zs)) (two : Two P n zs a b) (x : Int) (hx : Nc P n zs a b x) :
    Calls Try.prog 28 #[Nv P v, .int .i64 a, .int .i64 b] w (Gives w (.int .i64 x)) := by
  classical
  obtain ⟨R, rfl⟩ : ∃ R : Nat, P = (R : Int) := ⟨P.toNat, by have := two.1.1; omega⟩
  obtain ⟨av, ca, rfl⟩ := hr.shape
  have hn := two.1.2.2.1
  have hR8 : R ≤ 8 := by have := two.1.2.1; omega
  have hq := pow_lt hR8
  have hsh := shl64 (v := R) (by omega)
  have hQ : Hid ((1 <<< R : Nat) = 2 ^ R) := Lib.hid (Nat.one_shiftLeft R)
  obtain ⟨Q, hQQ⟩ : ∃ Q, (1 <<< R : Nat) = Q := ⟨_, rfl⟩
  rw [hQQ] at hsh hq hQ
  clear hQQ
  obtain ⟨w0, hw0⟩ : ∃ w0, w.alloc (.cells #[.int .i64 (R : Int), .slice av n ca] TN) = w0 := ⟨_, rfl⟩
  have B0 : Below w.heap.size w w0 := hw0 ▸ below_al (Below.refl _ _) _
  have HX : Hid (Blk w0 w.heap.size TN #[.int .i64 (R : Int), .slice av n ca]) := Lib.hid (hw0 ▸ Blk.new w TN #[.int .i64 (R : Int), .slice av n ca])
  have HR := Lib.hid (hr.keep B0)
  have TW := Lib.hid two
  have HB := Lib.hid B0
  have HNC := Lib.hid hx
  obtain ⟨p0, p1⟩ := stNet.blk_ HX.out
  clear hr two B0 hx
  go_enter Try.func28, Try.ntmps28
  go_wp2_with fail
  refine (spec_two _ _ _ n zs (by omega) HR.out a b true ⟨fun _ => TW.out, fun _ => rfl⟩).mono ?_; rintro e w1 ⟨rfl, hb1⟩
  have HL := Lib.hid hb1
  clear p0 p1 hw0 hb1
  go_wp2
  go_loopg [7, 8] Q (fun g s7 s8 wr => ∃ (k : Nat) (y : Int), k + g = Q ∧ s8 = .int .i64 k ∧ s7 = .int .i64 y ∧ Bst R n zs a b k y ∧ Below w0.heap.size w0 wr)
  case atStart => exact ⟨0, -1, by omega, rfl, rfl, Bst.zero, HL.out⟩
  case round =>
    clear HL
    obtain ⟨k, y, hkg, rfl, rfl, hbs, hbel⟩ := hrel
    obtain ⟨p0, p1⟩ := stNet.blk_ (HX.out.step hbel)
    by_cases hlt : k < Q
    · obtain ⟨gk, rfl⟩ : ∃ g', gk = g' + 1 := ⟨gk - 1, by omega⟩
      have HBS := Lib.hid hbs
      have hy := hbs.rg
      have j0 : (k : Int) < (Q : Int) := by omega
      have Lp0 := later.cell p0
      have Lp1 := later.cell p1
      have RW := Lib.hid (HR.out.keep hbel)
      have HL := Lib.hid hbel
      clear hbs hbel
      by_cases hk : IsC R n zs (k : Int) a b
      · have HK := Lib.hid hk
        have c1 := Lib.hid (Cw.of (P := R) (set := (k : Int)) TW.out.1 hk.1)
        clear hk
        by_cases hy0 : y < 0
        · have HN := Lib.hid (HBS.out.good HK.out (.inl hy0))
          have hyb : decide (y < 0) = true := decide_eq_true hy0
          clear hy
          go_wp2_with fail
          (try simp only [List.append])
          refine later.region (by kernel_rfl) (lex.lexB_of (by kernel_rfl) (lex.all_whole (by kernel_rfl))) ?_
          repeat (go_big_quiet_step ((first
            | (go_at_call 27; exact later.calls _ (spec_isc _ _ _ n zs k a b (by omega) (RW.out.keep (Later.h _)) true ⟨fun _ => HK.out, fun _ => rfl⟩))
            | fail)))
          refine wpQuiet_nil ?_
          intro _ hw'
          obtain ⟨g, rfl⟩ := hw'
          go_wp2
          go_roundg gk
          case measure => omega
          case rel => exact ⟨k + 1, k, by omega, by go_num, rfl, HN.out, below_step HL.out g.h⟩
        · have hyb : decide (y < 0) = false := decide_eq_false hy0
          have c2 := Lib.hid (Cw.of (P := R) (set := y) TW.out.1 (hy.2.2 (by omega)).1)
          obtain ⟨X1, hX1⟩ : ∃ X, cwo n zs (k : Int).toNat = X := ⟨_, rfl⟩
          obtain ⟨X2, hX2⟩ : ∃ X, cwo n zs y.toNat = X := ⟨_, rfl⟩
          rw [hX1] at c1
          rw [hX2] at c2
          rw [Int.toNat_natCast] at hX1
          by_cases hlt3 : X1 < X2
          · have HN := Lib.hid (HBS.out.good HK.out (.inr (by rw [hX1, hX2]; exact hlt3)))
            have hyc : decide (X1 < X2) = true := decide_eq_true hlt3
            clear hy hX1 hX2
            go_wp2_with fail
            (try simp only [List.append])
            refine later.region (by kernel_rfl) (lex.lexB_of (by kernel_rfl) (lex.all_whole (by kernel_rfl))) ?_
            repeat (go_big_quiet_step ((first
              | (go_at_call 27; exact later.calls _ (spec_isc _ _ _ n zs k a b (by omega) (RW.out.keep (Later.h _)) true ⟨fun _ => HK.out, fun _ => rfl⟩))
              | (go_at_call 24; exact later.calls _ (spec_cw _ _ _ n zs _ (by omega) (RW.out.keep (Later.h _)) _ (by first | with_reducible exact c1.out | with_reducible exact c2.out)))
              | fail)))
            refine wpQuiet_nil ?_
            intro _ hw'
            obtain ⟨g, rfl⟩ := hw'
            go_wp2
            go_roundg gk
            case measure => omega
            case rel => exact ⟨k + 1, k, by omega, by go_num, rfl, HN.out, below_step HL.out g.h⟩
          · have HN := Lib.hid (HBS.out.worse (by omega) (by rw [hX1, hX2]; exact hlt3))
            have hyc : decide (X1 < X2) = false := decide_eq_false hlt3
            clear hy hX1 hX2
            go_wp2_with fail
            (try simp only [List.append])
            refine later.region (by kernel_rfl) (lex.lexB_of (by kernel_rfl) (lex.all_whole (by kernel_rfl))) ?_
            repeat (go_big_quiet_step ((first
              | (go_at_call 27; exact later.calls _ (spec_isc _ _ _ n zs k a b (by omega) (RW.out.keep (Later.h _)) true ⟨fun _ => HK.out, fun _ => rfl⟩))
              | (go_at_call 24; exact later.calls _ (spec_cw _ _ _ n zs _ (by omega) (RW.out.keep (Later.h _)) _ (by first | with_reducible exact c1.out | with_reducible exact c2.out)))
              | fail)))
            refine wpQuiet_nil ?_
            intro _ hw'
            obtain ⟨g, rfl⟩ := hw'
            go_wp2
            go_roundg gk
            case measure => omega
            case rel => exact ⟨k + 1, y, by omega, by go_num, rfl, HN.out, below_step HL.out g.h⟩
      · have HK := Lib.hid hk
        have HN := Lib.hid (HBS.out.bad hk)
        clear hk hy
        go_wp2_with fail
        (try simp only [List.append])
        refine later.region (by kernel_rfl) (lex.lexB_of (by kernel_rfl) (lex.all_whole (by kernel_rfl))) ?_
        repeat (go_big_quiet_step ((first
          | (go_at_call 27; exact later.calls _ (spec_isc _ _ _ n zs k a b (by omega) (RW.out.keep (Later.h _)) false ⟨fun h => (by cases h), fun h => absurd h HK.out⟩))
          | fail)))
        refine wpQuiet_nil ?_
        intro _ hw'
        obtain ⟨g, rfl⟩ := hw'
        go_wp2
        go_roundg gk
        case measure => omega
        case rel => exact ⟨k + 1, y, by omega, by go_num, rfl, HN.out, below_step HL.out g.h⟩
    · obtain rfl : k = Q := by omega
      have e : y = x := by
        have h := hbs
        rw [hQ.out] at h
        exact (Bst.all (P := (R : Int)) (by rw [Int.toNat_natCast]; exact h) TW.out).uniq HNC.out
      subst e
      go_wp2
      go_ret
      exact ⟨rfl, HB.out.trans (hbel.mono HB.out.size)⟩
theorem spec_ncut_no (w : World) (P : Int) (v : Value) (n : Nat) (zs : List Int) (a b : Int) (hn : n ≤ 1048576) (hr : Row 3 w v n (IV zs)) (two : ¬ Two P n zs a b) :
    Calls Try.prog 28 #[Nv P v, .int .i64 a, .int .i64 b] w (Gives w (.int .i64 (-1))) := by
  obtain ⟨av, ca, rfl⟩ := hr.shape
  obtain ⟨w0, hw0⟩ : ∃ w0, w.alloc (.cells #[.int .i64 P, .slice av n ca] TN) = w0 := ⟨_, rfl⟩
  have B0 : Below w.heap.size w w0 := hw0 ▸ below_al (Below.refl _ _) _
  have HX : Hid (Blk w0 w.heap.size TN #[.int .i64 P, .slice av n ca]) := Lib.hid (hw0 ▸ Blk.new w TN #[.int .i64 P, .slice av n ca])
  have HR := Lib.hid (hr.keep B0)
  have TW := Lib.hid two
  have HB := Lib.hid B0
  obtain ⟨p0, p1⟩ := stNet.blk_ HX.out
  clear hr two B0
  go_enter Try.func28, Try.ntmps28
  go_wp2_with fail
  refine (spec_two _ _ _ n zs hn HR.out a b false ⟨fun h => (by cases h), fun h => absurd h TW.out⟩).mono ?_; rintro e w1 ⟨rfl, hb1⟩
  clear p0 p1
  go_wp2
  go_ret
  exact ⟨rfl, HB.out.trans (hb1.mono HB.out.size)⟩
/-- The answer of CutOf. -/
def CoA (P : Int) (n : Nat) (zs : List Int) (m : Nat) (fs : List Int) (a b x : Int) : Prop := (FK P n zs m fs a b → Co P n zs fs a x) ∧ (¬ FK P n zs m fs a b → x = -1)
theorem CoA.ex (P : Int) (n : Nat) (zs : List Int) (m : Nat) (fs : List Int) (a b : Int) : ∃ x, CoA P n zs m fs a b x := by
  by_cases h : FK P n zs m fs a b
  · obtain ⟨x, hx⟩ := Co.ex P n zs fs a
    exact ⟨x, fun _ => hx, fun g => absurd h g⟩
  · exact ⟨-1, fun g => absurd g h, fun _ => rfl⟩
set_option maxHeartbeats 4000000 in
theorem spec_cutof_in (w : World) (R : Nat) (v u : Value) (n : Nat) (zs fs : List Int) (A B : Nat) (hr : Row 3 w v n (IV zs)) (hf : Row 1 w u n (IV fs)) (fk : FK (R : Int) n zs n fs (A : Int) (B : Int)) (x : Int) (hx : Co (R : Int) n zs fs (A : Int) x) :
    Calls Try.prog 29 #[Nv R v, u, .int .i64 A, .int .i64 B] w (Gives w (.int .i64 x)) := by
  obtain ⟨av, ca, rfl⟩ := hr.shape
  obtain ⟨au, cu, rfl⟩ := hf.shape
  have two := fk.1
  have hn := two.1.2.2.1
  have hR8 : R ≤ 8 := by have := two.1.2.1; omega
  have hA : A < R := by have := two.2.1.2; omega
  have hfin := fun u => fin_by (F := pF zs) (T := pT zs) (W := pW zs) (f := gd fs) (m := n) (P := (R : Int)) (a := (A : Int)) (by omega) (by omega) (Two.pl two) u
  obtain ⟨w0, hw0⟩ : ∃ w0, w.alloc (.cells #[.int .i64 (R : Int), .slice av n ca] TN) = w0 := ⟨_, rfl⟩
  have B0 : Below w.heap.size w w0 := hw0 ▸ below_al (Below.refl _ _) _
  have HX : Hid (Blk w0 w.heap.size TN #[.int .i64 (R : Int), .slice av n ca]) := Lib.hid (hw0 ▸ Blk.new w TN #[.int .i64 (R : Int), .slice av n ca])
  have HR := Lib.hid (hr.keep B0)
  have HF := Lib.hid (hf.keep B0)
  have FKH := Lib.hid fk
  have HB := Lib.hid B0
  have HCO := Lib.hid hx
  have HFIN := Lib.hid hfin
  obtain ⟨p0, p1⟩ := stNet.blk_ HX.out
  clear hr hf two B0 hx fk hfin
  go_enter Try.func29, Try.ntmps29
  go_wp2_with fail
  refine (spec_fok _ _ _ _ n n zs fs A B (by omega) HR.out HF.out true ⟨fun _ => FKH.out, fun _ => rfl⟩).mono ?_; rintro e w1 ⟨rfl, hb1⟩
  have hX1 := HX.out.step hb1
  have HL := Lib.hid hb1
  clear p0 p1 hw0 hb1
  obtain ⟨p0, p1⟩ := stNet.blk_ hX1
  clear hX1
  go_wp2_with fail
  refine (spec_search _ _ _ _ n zs fs A (HR.out.keep HL.out) (HF.out.keep HL.out) FKH.out.1.1 hA).mono ?_; rintro e w5 ⟨bv, rfl, hby, hb5⟩
  obtain ⟨gb, cb, rfl, _, _⟩ := own_some hby (by omega)
  have L5 := Lib.hid (below_step HL.out hb5)
  obtain ⟨By, hBy⟩ : ∃ y, (fin_ (pF zs) (pT zs) (pW zs) (gd fs) n R A).2 = y := ⟨_, rfl⟩
  rw [hBy] at hby HFIN
  have HBY := Lib.hid hby
  have e1 := shl64 (v := A) (by omega)
  have hone := bit_one A
  have hs0 : (1 <<< A : Nat) < 256 := by
    rw [Nat.one_shiftLeft]
    exact Nat.lt_of_lt_of_le (Nat.pow_lt_pow_right (by decide) (show A < 8 by omega)) (by decide : 2 ^ 8 ≤ 256)
  have hs1 : (1 <<< A : Nat) < 2 ^ R := by
    rw [Nat.one_shiftLeft]
    exact Nat.pow_lt_pow_right (by decide) hA
  generalize (1 <<< A : Nat) = s0 at e1 hone hs0 hs1
  have ONE := Lib.hid hone
  clear p0 p1 hb5 hby hBy HL hone
  go_wp2
  go_loopg [10, 11] R (fun g s10 s11 wr => ∃ k s : Nat, k + g = R ∧ s11 = .int .i64 k ∧ s10 = .int .i64 s ∧ s < 2 ^ R ∧ (∀ u : Nat, s.testBit u = (decide (u = A) || (decide (u < k) && decide (0 ≤ By (u : Int))))) ∧ Below w5.heap.size w5 wr)
  case atStart => exact ⟨0, s0, by omega, rfl, by rw [e1], hs1, fun u => by rw [ONE.out]; simp, Below.refl _ _⟩
  case round =>
    clear e1 hs0 hs1 ONE
    obtain ⟨k, s, hkg, rfl, rfl, hs, hbits, hbel⟩ := hrel
    have hs256 : s < 256 := Nat.lt_of_lt_of_le hs (two_pow_le hR8)
    by_cases hlt : k < R
    · obtain ⟨gk, rfl⟩ : ∃ g', gk = g' + 1 := ⟨gk - 1, by omega⟩
      have c0 := own_cell (own_below HBY.out hbel) (g := gb) rfl k _ (getI (by rw [rw_len]; omega))
      rw [rw_at _ hlt] at c0
      have HBI := Lib.hid hbits
      have HLB := Lib.hid hbel
      have HS := Lib.hid hs
      have e2 := shl64 (v := k) (by omega)
      have e5 : (1 <<< k : Nat) < 256 := by
        rw [Nat.one_shiftLeft]
        exact Nat.lt_of_lt_of_le (Nat.pow_lt_pow_right (by decide) (show k < 8 by omega)) (by decide : 2 ^ 8 ≤ 256)
      have e4 := or_nat (a := s) (b := 1 <<< k) (by omega) (by omega)
      have hadd := Lib.hid (bit_add s k)
      have hlt2 : Hid (s ||| 1 <<< k < 2 ^ R) := Lib.hid (set_lt hs hlt)
      obtain ⟨y, hy⟩ : ∃ y, By (k : Int) = y := ⟨_, rfl⟩
      rw [hy] at c0
      have HY := Lib.hid hy
      generalize 1 <<< k = sT at e2 e4 hadd e5 hlt2
      generalize s ||| sT = s' at e4 hadd hlt2
      clear hbits hbel hs hy
      have j0 : (0 : Int) ≤ (k : Int) := by omega
      have j1 : (k : Int) < (R : Int) := by omega
      by_cases h0 : 0 ≤ y
      · have HN : Hid (∀ u : Nat, s'.testBit u = (decide (u = A) || (decide (u < k + 1) && decide (0 ≤ By (u : Int))))) := Lib.hid fun u => by
          rw [hadd.out, HBI.out]
          by_cases e : u = k
          · subst e
            simp [HY.out, h0]
          · rw [show decide (u = k) = false from decide_eq_false e, show decide (u < k + 1) = decide (u < k) from decide_eq_decide.2 (by omega)]
            simp
        clear HBI hadd
        go_wp2
        go_roundg gk
        case measure => omega
        case rel => exact ⟨k + 1, s', by omega, by go_num, rfl, hlt2.out, HN.out, HLB.out⟩
      · have HN : Hid (∀ u : Nat, s.testBit u = (decide (u = A) || (decide (u < k + 1) && decide (0 ≤ By (u : Int))))) := Lib.hid fun u => by
          rw [HBI.out]
          by_cases e : u = k
          · subst e
            simp [HY.out, h0]
          · rw [show decide (u < k + 1) = decide (u < k) from decide_eq_decide.2 (by omega)]
        clear HBI hadd
        go_wp2
        go_roundg gk
        case measure => omega
        case rel => exact ⟨k + 1, s, by omega, by go_num, rfl, HS.out, HN.out, HLB.out⟩
    · obtain rfl : k = R := by omega
      have hco : Co (k : Int) n zs fs (A : Int) (s : Int) := by
        refine ⟨InS.nat.2 (by rw [Int.toNat_natCast]; exact hs), fun u hu => ?_⟩
        rw [Int.toNat_natCast] at hu ⊢
        rw [hbits, HFIN.out]
        simp only [Bool.or_eq_true, Bool.and_eq_true, decide_eq_true_iff]
        constructor
        · rintro (rfl | ⟨_, h⟩)
          · exact .inl rfl
          · exact .inr h
        · rintro (h | h)
          · exact .inl (by omega)
          · exact .inr ⟨hu, h⟩
      have e : (s : Int) = x := hco.uniq HCO.out
      clear hco hbits
      go_wp2
      go_ret
      exact ⟨by rw [← e]; rfl, HB.out.trans ((below_step L5.out hbel).mono HB.out.size)⟩
theorem spec_cutof (w : World) (P : Int) (v u : Value) (n m : Nat) (zs fs : List Int) (a b : Int) (hn : n ≤ 1048576) (hr : Row 3 w v n (IV zs)) (hf : Row 1 w u m (IV fs)) (x : Int) (hx : CoA P n zs m fs a b x) :
    Calls Try.prog 29 #[Nv P v, u, .int .i64 a, .int .i64 b] w (Gives w (.int .i64 x)) := by
  by_cases fk : FK P n zs m fs a b
  · obtain rfl : m = n := fk.2.1
    obtain ⟨R, rfl⟩ : ∃ R : Nat, P = (R : Int) := ⟨P.toNat, by have := fk.1.1.1; omega⟩
    obtain ⟨A, rfl⟩ : ∃ A : Nat, a = (A : Int) := ⟨a.toNat, by have := fk.1.2.1.1; omega⟩
    obtain ⟨B, rfl⟩ : ∃ B : Nat, b = (B : Int) := ⟨b.toNat, by have := fk.1.2.2.1.1; omega⟩
    exact spec_cutof_in w R v u m zs fs A B hr hf fk x (hx.1 fk)
  · obtain rfl := hx.2 fk
    obtain ⟨av, ca, rfl⟩ := hr.shape
    obtain ⟨w0, hw0⟩ : ∃ w0, w.alloc (.cells #[.int .i64 P, .slice av n ca] TN) = w0 := ⟨_, rfl⟩
    have B0 : Below w.heap.size w w0 := hw0 ▸ below_al (Below.refl _ _) _
    have HX : Hid (Blk w0 w.heap.size TN #[.int .i64 P, .slice av n ca]) := Lib.hid (hw0 ▸ Blk.new w TN #[.int .i64 P, .slice av n ca])
    have HR := Lib.hid (hr.keep B0)
    have HF := Lib.hid (hf.keep B0)
    have HB := Lib.hid B0
    have FKH := Lib.hid fk
    obtain ⟨p0, p1⟩ := stNet.blk_ HX.out
    clear hr hf B0 fk hx
    go_enter Try.func29, Try.ntmps29
    go_wp2_with fail
    refine (spec_fok _ _ _ _ n m zs fs a b hn HR.out HF.out false ⟨fun h => (by cases h), fun h => absurd h FKH.out⟩).mono ?_; rintro e w1 ⟨rfl, hb1⟩
    clear p0 p1
    go_wp2
    go_ret
    exact ⟨rfl, HB.out.trans (hb1.mono HB.out.size)⟩
end Go.Proofs.Ytilabfmnaegidaa.cut
