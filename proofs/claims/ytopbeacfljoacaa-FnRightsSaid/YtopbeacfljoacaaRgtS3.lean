/- Rights: the specification's Divide. -/
import Derived.Test.YtopbeacfljoacaaRgtS2
import Derived.Test.YtopbeacfljoacaaApart
namespace Go.Proofs.Ytopbeacfljoacaa.rgt
open Go.RowKit Go.Proofs.Ytopbeacfljoacaa.kit Go.Proofs.Ytopbeacfljoacaa.lawi Go.Proofs.Ytopbeacfljoacaa.own Go.Proofs.Ytopbeacfljoacaa.rain Go.Proofs.Ytopbeacfljoacaa.yrl Go.Proofs.Ytopbeacfljoacaa.frc Go.Proofs.Ytopbeacfljoacaa.stRight Go.Proofs.Ytopbeacfljoacaa.later Go.Proofs.Ytopbeacfljoacaa.apart
abbrev TI : TypeId := 3
/-- The answer of Divide. -/
def Dva (n : Nat) (zs : List Int) (m : Int) (ys : List Int) : Prop := (Ro n zs ∧ 0 ≤ m ∧ m ≤ 1000000 → ys.length = n ∧ ∃ U, Dv n zs m U ∧ ys = dvr n zs m U) ∧ (¬ (Ro n zs ∧ 0 ≤ m ∧ m ≤ 1000000) → ys = [])
theorem Dva.ex (n : Nat) (zs : List Int) (m : Int) : ∃ ys, Dva n zs m ys := by
  by_cases h : Ro n zs ∧ 0 ≤ m ∧ m ≤ 1000000
  · obtain ⟨U, hU⟩ := Dv.ex h.1 h.2.1
    exact ⟨_, fun _ => ⟨rw_len _ _, U, hU, rfl⟩, fun g => absurd h g⟩
  · exact ⟨_, fun g => absurd g h, fun _ => rfl⟩
/-- One right's part and what remains. -/
theorem part_bd {t b m : Int} (h : Fk t b) (h0 : 0 ≤ m) (h1 : m ≤ 1000000) : (0 ≤ m * t ∧ m * t ≤ 10000000000) ∧ (m * t).tdiv b = m * t / b ∧ (m * t).tmod b = m * t % b ∧ (0 ≤ m * t / b ∧ m * t / b ≤ 10000000000) ∧ (0 ≤ m * t % b ∧ m * t % b ≤ 10000) := by
  obtain ⟨⟨b1, b2⟩, ⟨t1, t2⟩, _⟩ := h
  obtain ⟨q1, q2, q3, q4⟩ := po_div t1 t2 h0 h1 b1
  have r1 := Int.emod_nonneg (m * t) (show b ≠ 0 by omega)
  have r2 := Int.emod_lt_of_pos (m * t) (show 0 < b by omega)
  exact ⟨q1, q2, Int.tmod_eq_emod_of_nonneg q1.1, ⟨q3, q4⟩, r1, by omega⟩
theorem fd_bd {n : Nat} {zs : List Int} {m : Int} (ok : Ro n zs) (h0 : 0 ≤ m) (h1 : m ≤ 1000000) (k : Nat) (hk : k ≤ n) : 0 ≤ sm (fd zs m) k ∧ sm (fd zs m) k ≤ 120000000000 := by
  have h := sm_bd (f := fd zs m) (a := 0) (b := 10000000000) k fun j hj => (part_bd (ok.fk (by omega)) h0 h1).2.2.2.1
  have := ok.1.2
  omega
set_option maxRecDepth 100000 in
set_option maxHeartbeats 8000000 in
theorem spec_dv_yes (w : World) (v : Value) (n : Nat) (zs : List Int) (m : Int) (hr : Row 3 w v n (IV zs)) (ok : Ro n zs) (h0 : 0 ≤ m) (h1 : m ≤ 1000000) (U : Nat → Bool) (hU : Dv n zs m U) :
    Calls Try.prog 24 #[v, .int .i64 m] w (GotR TI 1 w n (IV (dvr n zs m U))) := by
  obtain ⟨av, ca, rfl⟩ := hr.shape
  have hl : zs.length = n * 3 := by simpa using hr.1
  have hn := ok.1
  obtain ⟨w0, hw0⟩ : ∃ w0, w.alloc (.cells #[] TI) = w0 := ⟨_, rfl⟩
  have B0 : Below w.heap.size w w0 := hw0 ▸ below_al (Below.refl _ _) _
  have O0 : w0.ownsRow w.heap.size TI 1 (.slice (some ⟨w.heap.size, 0, none⟩) 0 0) 0 (IV []) := by
    rw [← hw0]
    exact World.ownsRow_made w #[] 0 (Nat.le_refl _) (by unfold maxLen; omega) (by simp)
  have HW := Lib.hid hr
  have HR := Lib.hid (hr.keep B0)
  have OK := Lib.hid ok
  have HU := Lib.hid hU
  have BB0 := Lib.hid B0
  have OO0 := Lib.hid O0
  have s0 : w.heap.size < w0.heap.size := by rw [← hw0]; simp
  clear hr B0 O0 ok hU
  go_enter Try.func24, Try.ntmps24
  go_wp2_with fail
  refine (spec_ro _ _ n zs (by omega) HR.out true ⟨fun _ => OK.out, fun _ => rfl⟩).mono ?_; rintro e w1 ⟨rfl, hb⟩
  go_wp2_with fail
  refine (in_yes _ _ _ _ h0 h1).mono ?_; rintro e w2 ⟨rfl, rfl⟩
  have hz1 := hb.size
  have B1 := Lib.hid (below_step BB0.out hb)
  obtain ⟨w3, hw3⟩ : ∃ w3, w1.alloc (.cells #[] TI) = w3 := ⟨_, rfl⟩
  have B3 : Below w1.heap.size w1 w3 := hw3 ▸ below_al (Below.refl _ _) _
  have O3 : w3.ownsRow w1.heap.size TI 1 (.slice (some ⟨w1.heap.size, 0, none⟩) 0 0) 0 (IV []) := by
    rw [← hw3]
    exact World.ownsRow_made w1 #[] 0 (Nat.le_refl _) (by unfold maxLen; omega) (by simp)
  have D3 : Hid (D2 w w3 (.slice (some ⟨w.heap.size, 0, none⟩) 0 0) 0 [] (.slice (some ⟨w1.heap.size, 0, none⟩) 0 0) 0 []) := Lib.hid ⟨own_below (own_below OO0.out hb) B3, own_mono O3 B1.out.size, fun b e1 e2 => by
    simp [Value.ownBlock] at e1 e2
    omega, below_step B1.out B3⟩
  clear hw0 hb OO0 O3 B3 B1 BB0 HR
  go_wp2
  clear hw3
  go_loopg [5, 6, 7, 8] n (fun g s5 s6 s7 s8 wr => ∃ k : Nat, k + g = n ∧ s8 = .int .i64 k ∧ s6 = .int .i64 (m - sm (fd zs m) k) ∧ D2 w wr s5 k (rw_ (fd zs m) k) s7 k (rw_ (fm zs m) k))
  case atStart => exact ⟨0, by omega, rfl, by simp [sm], D3.out⟩
  case round =>
    clear D3 s0 hz1
    obtain ⟨k, hkg, rfl, rfl, hd⟩ := hrel
    have DW := Lib.hid hd
    have RW := Lib.hid (HW.out.keep hd.bl)
    clear hd
    by_cases hlt : k < n
    · obtain ⟨gk, rfl⟩ : ∃ g', gk = g' + 1 := ⟨gk - 1, by omega⟩
      obtain ⟨b1, o1, rfl, hc⟩ := RW.out.at_ (by omega)
      obtain ⟨_, g2, g3⟩ := right_at hc hl hlt
      have fk := OK.out.fk hlt
      have fB := fk.1.1
      obtain ⟨q1, q2, q3, q4, q5⟩ := part_bd fk h0 h1
      have sb := fd_bd OK.out h0 h1 k (by omega)
      have hfd : Hid (fd zs m k = m * wT zs k / wB zs k) := Lib.hid rfl
      have hfm : Hid (fm zs m k = m * wT zs k % wB zs k) := Lib.hid rfl
      have hs1 : Hid (sm (fd zs m) (k + 1) = sm (fd zs m) k + fd zs m k) := Lib.hid (by rw [sm])
      have e1 : Hid (rw_ (fd zs m) (k + 1) = rw_ (fd zs m) k ++ [fd zs m k]) := Lib.hid (rw_succ _ _)
      have e2 : Hid (rw_ (fm zs m) (k + 1) = rw_ (fm zs m) k ++ [fm zs m k]) := Lib.hid (rw_succ _ _)
      generalize fd zs m k = FD at hfd hs1 e1
      generalize fm zs m k = FM at hfm e2
      rw [← hfd.out] at q2 q4
      rw [← hfm.out] at q3 q5
      generalize wT zs k = T at *
      generalize wB zs k = B at *
      obtain ⟨X, hX⟩ : ∃ X, m * T = X := ⟨_, rfl⟩
      rw [hX] at q1 q2 q3
      have hB0 : B ≠ 0 := by omega
      have k1 : IntKind.i64.wrap X = X := IntWalk.i64_in _ (by omega)
      have k2 : IntKind.i64.wrap FD = FD := IntWalk.i64_in _ (by omega)
      have k3 : IntKind.i64.wrap FM = FM := IntWalk.i64_in _ (by omega)
      obtain ⟨S, hS⟩ : ∃ S, sm (fd zs m) k = S := ⟨_, rfl⟩
      rw [hS] at sb hs1 ⊢
      have k4 : IntKind.i64.wrap (m - S - FD) = m - S - FD := IntWalk.i64_in _ (by omega)
      obtain ⟨w4, hw4⟩ : ∃ w4, wr.alloc (.cells #[.int .i64 T, .int .i64 B] TF) = w4 := ⟨_, rfl⟩
      obtain ⟨gF, hgF⟩ : ∃ g, wr.heap.size = g := ⟨_, rfl⟩
      have b4 : Below wr.heap.size wr w4 := hw4 ▸ below_al (Below.refl _ _) _
      have HF : Hid (Blk w4 gF TF #[.int .i64 T, .int .i64 B]) := Lib.hid (by rw [← hw4, ← hgF]; exact Blk.new wr TF #[.int .i64 T, .int .i64 B])
      have D4 := Lib.hid (DW.out.keep b4)
      have nO : Hid (∀ j, (_ : Value).ownBlock = some j → j < gF) := Lib.hid fun j hj => hgF ▸ (DW.out.o.lt j hj).2
      have nR : Hid (∀ j, (_ : Value).ownBlock = some j → j < gF) := Lib.hid fun j hj => hgF ▸ (DW.out.r.lt j hj).2
      obtain ⟨f0, f1, _⟩ := fcell HF.out
      clear q1 q4 q5 sb hS fk fB hc b4 DW RW
      go_wp2_with (first
        | (at_builtin; (fail_if_success (have _h := D5)); refine app1L _ rfl _ _ rfl w.heap.size FD D4.out.o rfl _ rfl rfl (by omega) D4.out.bl.size ?_; intro v5 w5 ho hg hl
           have HF5 := Lib.hid (HF.out.grown hg (fun e => absurd (nO.out gF e.symm) (Nat.lt_irrefl _)))
           have D5 := Lib.hid (D4.out.growO ho hg hl)
           replace f0 := HF5.out.cell 0
           replace f1 := HF5.out.cell 1
           clear ho hg hl)
        | (at_builtin; (fail_if_success (have _h := D6)); refine app1L _ rfl _ _ rfl w.heap.size FM D5.out.r rfl _ rfl rfl (by omega) D5.out.bl.size ?_; intro v6 w6 ho hg hl
           have HF6 := Lib.hid (HF5.out.grown hg (fun e => absurd (nR.out gF e.symm) (Nat.lt_irrefl _)))
           have D6 := Lib.hid (D5.out.growR ho hg hl)
           replace f0 := HF6.out.cell 0
           replace f1 := HF6.out.cell 1
           clear ho hg hl)
        | fail)
      go_roundg gk
      case measure => omega
      case rel => exact ⟨k + 1, by omega, by go_num, by rw [hs1.out]; congr 1; omega, by rw [e1.out, e2.out]; exact D6.out⟩
    · obtain rfl : k = n := by omega
      obtain ⟨gO, cO, rfl, _, _⟩ := own_some DW.out.o (by omega)
      obtain ⟨gR, cR, rfl, _, _⟩ := own_some DW.out.r (by omega)
      obtain ⟨l0, l1⟩ := OK.out.left h0
      obtain ⟨L0, hL0⟩ : ∃ L0 : Nat, m - sm (fd zs m) k = L0 := ⟨(m - sm (fd zs m) k).toNat, by omega⟩
      have HL0 := Lib.hid hL0
      rw [hL0] at l0 l1 ⊢
      have hF0 : ∀ n, ct (fun _ => false) n = 0 := fun n => by induction n with
        | zero => rfl
        | succ n ih => rw [ct]; simpa using ih
      have E1 : rw_ (fun j => fd zs m j + if (fun _ => false) j = true then 1 else 0) k = rw_ (fd zs m) k := rwcongr fun j _ => by simp
      have E2 : rw_ (fun j => if (fun _ => false) j = true then -1 else fm zs m j) k = rw_ (fm zs m) k := rwcongr fun j _ => by simp
      have hpos : Hid (∀ j, j < k → 0 < wB zs j ∧ wB zs j ≤ 10000 ∧ 0 ≤ fm zs m j ∧ fm zs m j ≤ 10000) := Lib.hid fun j hj => by
        have fk := OK.out.fk hj
        have := (part_bd fk h0 h1).2.2.2.2
        have := fk.1
        exact ⟨by omega, by omega, (part_bd fk h0 h1).2.2.2.2.1, (part_bd fk h0 h1).2.2.2.2.2⟩
      clear hL0
      go_wp2
      go_loopg [6] (k + 1) (fun g s6 wq => ∃ (V : Nat → Bool) (L : Nat), s6 = .int .i64 L ∧ L < g ∧ Fr (fm zs m) (wB zs) k V ∧ ct V k + L = L0 ∧
        D2 w wq (.slice (some ⟨gO, 0, none⟩) k cO) k (rw_ (fun j => fd zs m j + if V j = true then 1 else 0) k) (.slice (some ⟨gR, 0, none⟩) k cR) k (rw_ (fun j => if V j = true then -1 else fm zs m j) k))
      case atStart => exact ⟨fun _ => false, L0, rfl, by omega, .none, by rw [hF0]; omega, by rw [E1, E2]; exact DW.out⟩
      case round =>
        clear DW RW E1 E2 hF0
        obtain ⟨V, L, rfl, hLg, hV, hc, hd⟩ := hrel
        have HV := Lib.hid hV
        have HC := Lib.hid hc
        have DQ := Lib.hid hd
        clear hV hc hd
        by_cases hL : 0 < L
        · obtain ⟨gko, rfl⟩ : ∃ g', gk = g' + 1 := ⟨gk - 1, by omega⟩
          have u0 : decide ((0 : Int) < (L : Int)) = true := decide_eq_true (by omega)
          have u0' : decide (0 < L) = true := decide_eq_true hL
          go_wp2
          go_loopg [10, 11] k (fun g s10 s11 wi => ∃ (j : Nat) (y : Int), j + g = k ∧ s11 = .int .i64 j ∧ s10 = .int .i64 y ∧ Bs (fm zs m) (wB zs) V j y ∧ Below wr.heap.size wr wi)
          case atStart => exact ⟨0, -1, by omega, rfl, rfl, .zero, Below.refl _ _⟩
          case round =>
            obtain ⟨j, y, hjg, rfl, rfl, hbs, hbel⟩ := hrel
            have HBS := Lib.hid hbs
            have BL := Lib.hid hbel
            have DI := Lib.hid (DQ.out.keep hbel)
            clear hbs hbel
            by_cases hlt : j < k
            · obtain ⟨gki, rfl⟩ : ∃ g', gk = g' + 1 := ⟨gk - 1, by omega⟩
              have c0 := own_cell DI.out.r (g := gR) rfl j _ (getI (by rw [rw_len]; omega))
              rw [rw_at _ hlt] at c0
              obtain ⟨p1, p2, p3, p4⟩ := hpos.out j hlt
              cases hv : V j with
              | true =>
                rw [hv, if_pos rfl] at c0
                have HN := Lib.hid (HBS.out.skip hv)
                have Lc := later.cell c0
                clear hv c0
                go_wp2_with fail
                (try simp only [List.append])
                refine later.region (by kernel_rfl) (lex.lexB_of (by kernel_rfl) (lex.all_whole (by kernel_rfl))) ?_
                repeat (go_big_quiet_step (fail))
                refine wpQuiet_nil ?_
                intro _ hw'
                obtain ⟨g, rfl⟩ := hw'
                go_wp2
                go_roundg gki
                case measure => omega
                case rel => exact ⟨j + 1, y, by omega, by go_num, rfl, HN.out, below_step BL.out g.h⟩
              | false =>
                rw [hv, if_neg (by simp)] at c0
                have HVJ := Lib.hid hv
                obtain ⟨FJ, hFJ⟩ : ∃ z, fm zs m j = z := ⟨_, rfl⟩
                rw [hFJ] at c0 p3 p4
                have Lc := later.cell c0
                have u1 : decide (0 ≤ FJ) = true := decide_eq_true p3
                rcases HBS.out.rg with rfl | ⟨b, rfl, hb1, hb2⟩
                · have HN := Lib.hid (HBS.out.first hv)
                  clear hv c0 hFJ p1 p2 p3 p4
                  go_wp2_with fail
                  (try simp only [List.append])
                  refine later.region (by kernel_rfl) (lex.lexB_of (by kernel_rfl) (lex.all_whole (by kernel_rfl))) ?_
                  repeat (go_big_quiet_step (fail))
                  refine wpQuiet_nil ?_
                  intro _ hw'
                  obtain ⟨g, rfl⟩ := hw'
                  go_wp2
                  go_roundg gki
                  case measure => omega
                  case rel => exact ⟨j + 1, j, by omega, by go_num, rfl, HN.out, below_step BL.out g.h⟩
                · have d0 := own_cell DI.out.r (g := gR) rfl b _ (getI (by rw [rw_len]; omega))
                  rw [rw_at _ (by omega), hb2, if_neg (by simp)] at d0
                  obtain ⟨p5, p6, p7, p8⟩ := hpos.out b (by omega)
                  obtain ⟨b1, o1, rfl, hc⟩ := (HW.out.keep DI.out.bl).at_ (by omega)
                  obtain ⟨_, _, g3⟩ := right_at hc hl hlt
                  obtain ⟨_, _, g6⟩ := right_at hc hl (k := b) (by omega)
                  have hnew : Hid (fm zs m b * wB zs j < fm zs m j * wB zs b → Bs (fm zs m) (wB zs) V (j + 1) j) := Lib.hid fun h => HBS.out.new (n := k) (fun i hi => (hpos.out i hi).1) hlt hv h
                  have hold : Hid (¬ fm zs m b * wB zs j < fm zs m j * wB zs b → Bs (fm zs m) (wB zs) V (j + 1) b) := Lib.hid fun h => HBS.out.old h
                  rw [hFJ] at hnew hold
                  obtain ⟨FB, hFB⟩ : ∃ z, fm zs m b = z := ⟨_, rfl⟩
                  rw [hFB] at d0 p7 p8 hnew hold
                  generalize wB zs j = BJ at *
                  generalize wB zs b = BB at *
                  obtain ⟨m1, m2⟩ := frc.mul_bd p3 p4 (Int.le_of_lt p5) p6
                  obtain ⟨m3, m4⟩ := frc.mul_bd p7 p8 (Int.le_of_lt p1) p2
                  obtain ⟨X, hX⟩ : ∃ X, FJ * BB = X := ⟨_, rfl⟩
                  obtain ⟨Y, hY⟩ : ∃ Y, FB * BJ = Y := ⟨_, rfl⟩
                  rw [hX] at m1 m2 hnew hold
                  rw [hY] at m3 m4 hnew hold
                  have k1 : IntKind.i64.wrap X = X := IntWalk.i64_in _ (by omega)
                  have k2 : IntKind.i64.wrap Y = Y := IntWalk.i64_in _ (by omega)
                  have Ld := later.cell d0
                  have L3 := later.cell g3
                  have L6 := later.cell g6
                  have i0 : (0 : Int) ≤ (b : Int) := by omega
                  have i1 : (b : Int) < (k : Int) := by omega
                  have u2 : decide ((b : Int) < 0) = false := decide_eq_false (by omega)
                  clear hv c0 d0 hFJ hFB p1 p2 p3 p4 p5 p6 p7 p8 hc g3 g6 m1 m2 m3 m4 hb2
                  by_cases hlt2 : Y < X
                  · have HN := Lib.hid (hnew.out hlt2)
                    have u3 : decide (Y < X) = true := decide_eq_true hlt2
                    clear hnew hold
                    go_wp2_with fail
                    (try simp only [List.append])
                    refine later.region (by kernel_rfl) (lex.lexB_of (by kernel_rfl) (lex.all_whole (by kernel_rfl))) ?_
                    repeat (go_big_quiet_step (fail))
                    refine wpQuiet_nil ?_
                    intro _ hw'
                    obtain ⟨g, rfl⟩ := hw'
                    go_wp2
                    go_roundg gki
                    case measure => omega
                    case rel => exact ⟨j + 1, j, by omega, by go_num, rfl, HN.out, below_step BL.out g.h⟩
                  · have HN := Lib.hid (hold.out hlt2)
                    have u3 : decide (Y < X) = false := decide_eq_false hlt2
                    clear hnew hold
                    go_wp2_with fail
                    (try simp only [List.append])
                    refine later.region (by kernel_rfl) (lex.lexB_of (by kernel_rfl) (lex.all_whole (by kernel_rfl))) ?_
                    repeat (go_big_quiet_step (fail))
                    refine wpQuiet_nil ?_
                    intro _ hw'
                    obtain ⟨g, rfl⟩ := hw'
                    go_wp2
                    go_roundg gki
                    case measure => omega
                    case rel => exact ⟨j + 1, b, by omega, by go_num, rfl, HN.out, below_step BL.out g.h⟩
            · obtain rfl : j = k := by omega
              obtain ⟨b, rfl, hb1, hb2, hb3⟩ := HBS.out.found (by have := HC.out; omega)
              obtain ⟨F1, F2⟩ := HV.out.put hb1 hb2 hb3
              have HF1 := Lib.hid F1
              have HF2 := Lib.hid F2
              have c0 := own_cell DI.out.o (g := gO) rfl b _ (getI (by rw [rw_len]; omega))
              rw [rw_at _ hb1, hb2, if_neg (by simp), Int.add_zero] at c0
              have f0 := own_free DI.out.o (g := gO) rfl b
              obtain ⟨q0, hq0⟩ : ∃ u, wr.cell? ⟨gR, b, none⟩ = some (.int .i64 u) := ⟨_, own_cell DI.out.r (g := gR) rfl b _ (getI (by rw [rw_len]; omega))⟩
              have f1 := own_free DI.out.r (g := gR) rfl b
              have n1 : gR ≠ gO := fun e => DI.out.ap gO rfl (by rw [← e]; rfl)
              have n2 : gO ≠ gR := fun e => n1 e.symm
              have pb := (part_bd (OK.out.fk hb1) h0 h1).2.2.2.1
              have hfd : Hid (fd zs m b = m * wT zs b / wB zs b) := Lib.hid rfl
              rw [← hfd.out] at pb
              obtain ⟨FD, hFD⟩ : ∃ z, fd zs m b = z := ⟨_, rfl⟩
              rw [hFD] at c0 pb
              have E1 : Hid ((rw_ (fun v => fd zs m v + if V v = true then 1 else 0) j).set b (FD + 1) = rw_ (fun v => fd zs m v + if put1 V b v = true then 1 else 0) j) := Lib.hid (by
                rw [rwset]
                refine rwcongr fun u _ => ?_
                unfold put1
                by_cases e : u = b
                · subst e; simp [hFD]
                · simp [e])
              have E2 : Hid ((rw_ (fun v => if V v = true then -1 else fm zs m v) j).set b (-1) = rw_ (fun v => if put1 V b v = true then -1 else fm zs m v) j) := Lib.hid (by
                rw [rwset]
                refine rwcongr fun u _ => ?_
                unfold put1
                by_cases e : u = b
                · subst e; simp
                · simp [e])
              have DS := Lib.hid ((DI.out.setO (g := gO) rfl b (FD + 1)).setR (g := gR) rfl b (-1))
              rw [E1.out, E2.out] at DS
              obtain ⟨L', hL'⟩ : ∃ L' : Nat, (L : Int) - 1 = L' := ⟨L - 1, by omega⟩
              have HL' := Lib.hid hL'
              have k1 : IntKind.i64.wrap (FD + 1) = FD + 1 := IntWalk.i64_in _ (by omega)
              have k2 : IntKind.i64.wrap (L' : Int) = L' := IntWalk.i64_in _ (by have := HC.out; omega)
              have i0 : (0 : Int) ≤ (b : Int) := by omega
              have i1 : (b : Int) < (j : Int) := by omega
              clear F1 F2 hb2 hb3 pb hFD E1 E2
              go_wp2
              go_roundg gko
              case measure => omega
              case rel => exact ⟨put1 V b, L', by go_num, by have := HL'.out; omega, HF1.out, by have := HF2.out; have := HC.out; have := HL'.out; omega, DS.out⟩
        · obtain rfl : L = 0 := by omega
          have hVU := HV.out.uniq HU.out.1 (by have := HC.out; have := HU.out.2; have := HL0.out; omega)
          have E : rw_ (fun v => fd zs m v + if V v = true then 1 else 0) k = dvr k zs m U := rwcongr fun u hu => by rw [hVU u hu]
          have HO := DQ.out.o
          have HBL := Lib.hid DQ.out.bl
          rw [E] at HO
          have HOO := Lib.hid HO
          clear HO hVU E
          go_wp2
          go_ret
          exact ⟨_, rfl, HOO.out, HBL.out⟩
theorem spec_dv_no (w : World) (v : Value) (n : Nat) (zs : List Int) (m : Int) (hn : n ≤ 1048576) (hr : Row 3 w v n (IV zs)) (no : ¬ (Ro n zs ∧ 0 ≤ m ∧ m ≤ 1000000)) :
    Calls Try.prog 24 #[v, .int .i64 m] w (GotR TI 1 w 0 []) := by
  obtain ⟨av, ca, rfl⟩ := hr.shape
  obtain ⟨w0, hw0⟩ : ∃ w0, w.alloc (.cells #[] TI) = w0 := ⟨_, rfl⟩
  have B0 : Below w.heap.size w w0 := hw0 ▸ below_al (Below.refl _ _) _
  have O0 : w0.ownsRow w.heap.size TI 1 (.slice (some ⟨w.heap.size, 0, none⟩) 0 0) 0 [] := by
    rw [← hw0]
    exact World.ownsRow_made w #[] 0 (Nat.le_refl _) (by unfold maxLen; omega) (by simp)
  have HR := Lib.hid (hr.keep B0)
  have BB0 := Lib.hid B0
  have OO0 := Lib.hid O0
  clear hr B0 O0
  by_cases ok : Ro n zs
  · have OK := Lib.hid ok
    have hm : ¬ (0 ≤ m ∧ m ≤ 1000000) := fun h => no ⟨ok, h⟩
    clear ok no
    go_enter Try.func24, Try.ntmps24
    go_wp2_with fail
    refine (spec_ro _ _ n zs hn HR.out true ⟨fun _ => OK.out, fun _ => rfl⟩).mono ?_; rintro e w1 ⟨rfl, hb⟩
    have B1 := Lib.hid (below_step BB0.out hb)
    have O1 := Lib.hid (own_below OO0.out hb)
    clear hb hw0
    go_wp2_with fail
    refine (in_no _ _ _ _ hm).mono ?_; rintro e w2 ⟨rfl, rfl⟩
    clear hm
    go_wp2
    go_ret
    exact ⟨_, rfl, O1.out, B1.out⟩
  · have OK := Lib.hid ok
    clear ok no
    go_enter Try.func24, Try.ntmps24
    go_wp2_with fail
    refine (spec_ro _ _ n zs hn HR.out false ⟨fun h => (by cases h), fun h => absurd h OK.out⟩).mono ?_; rintro e w1 ⟨rfl, hb⟩
    have B1 := Lib.hid (below_step BB0.out hb)
    have O1 := Lib.hid (own_below OO0.out hb)
    clear hb hw0
    go_wp2
    go_ret
    exact ⟨_, rfl, O1.out, B1.out⟩
theorem spec_dv (w : World) (v : Value) (n : Nat) (zs : List Int) (m : Int) (ys : List Int) (hn : n ≤ 1048576) (hr : Row 3 w v n (IV zs)) (h : Dva n zs m ys) :
    Calls Try.prog 24 #[v, .int .i64 m] w (GotR TI 1 w ys.length (IV ys)) := by
  by_cases hc : Ro n zs ∧ 0 ≤ m ∧ m ≤ 1000000
  · obtain ⟨hl, U, hU, rfl⟩ := h.1 hc
    rw [hl]
    exact spec_dv_yes w v n zs m hr hc.1 hc.2.1 hc.2.2 U hU
  · obtain rfl := h.2 hc
    exact spec_dv_no w v n zs m hn hr hc
end Go.Proofs.Ytopbeacfljoacaa.rgt
