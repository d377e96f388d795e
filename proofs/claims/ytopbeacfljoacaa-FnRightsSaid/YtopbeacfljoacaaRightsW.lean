/- FnRights returns true. -/
import Derived.Test.YtopbeacfljoacaaRgtI
import Derived.Test.YtopbeacfljoacaaRgtD
import Derived.Test.YtopbeacfljoacaaAt
set_option linter.unusedVariables false
namespace Go.Proofs.Ytopbeacfljoacaa.wFnRights
open Go.RowKit Go.Proofs.Ytopbeacfljoacaa.kit Go.Proofs.Ytopbeacfljoacaa.lawi Go.Proofs.Ytopbeacfljoacaa.own Go.Proofs.Ytopbeacfljoacaa.rain Go.Proofs.Ytopbeacfljoacaa.yrl Go.Proofs.Ytopbeacfljoacaa.draw Go.Proofs.Ytopbeacfljoacaa.frc Go.Proofs.Ytopbeacfljoacaa.rgt Go.Proofs.Ytopbeacfljoacaa.stRight Go.Proofs.Ytopbeacfljoacaa.at_
/-- What a right gets: its floor, or a liter more. -/
def dk (zs : List Int) (m : Int) (U : Nat → Bool) (k : Nat) : Int := fd zs m k + if U k = true then 1 else 0
theorem sm_dk (zs : List Int) (m : Int) (U : Nat → Bool) : ∀ n, sm (dk zs m U) n = sm (fd zs m) n + ct U n
  | 0 => rfl
  | n + 1 => by
    rw [sm, sm, ct, sm_dk zs m U n]
    unfold dk
    split <;> push_cast <;> omega
theorem fd_bd {n k : Nat} {zs : List Int} {m : Int} (h : Ro n zs) (hk : k < n) (m0 : 0 ≤ m) (m1 : m ≤ 2000) : 0 ≤ fd zs m k ∧ fd zs m k ≤ 20000000 := by
  obtain ⟨⟨b1, _⟩, ⟨t0, t1⟩, _⟩ := h.fk hk
  have h0 : 0 ≤ m * wT zs k := Int.mul_nonneg m0 t0
  have h1 : m * wT zs k ≤ 2000 * 10000 := Int.mul_le_mul m1 t1 t0 (by decide)
  unfold fd
  exact ⟨Int.ediv_nonneg h0 (by omega), Int.le_trans (Int.ediv_le_self _ h0) h1⟩
theorem sum_bd {n : Nat} {zs : List Int} {m : Int} {U : Nat → Bool} (h : Ro n zs) (m0 : 0 ≤ m) (m1 : m ≤ 2000) : ∀ k, k ≤ n → 0 ≤ sm (dk zs m U) k ∧ sm (dk zs m U) k ≤ 20000001 * k
  | 0, _ => by simp [sm]
  | k + 1, hk => by
    have ih := sum_bd (U := U) h m0 m1 k (by omega)
    have hb := fd_bd h (k := k) (by omega) m0 m1
    rw [sm]
    unfold dk at ih ⊢
    split <;> push_cast <;> omega
set_option maxRecDepth 10000000 in
set_option maxHeartbeats 8000000 in
theorem walk (w : World) (a0 : Option Addr) (len0 cap0 : Nat) (z0 : List Int) (w0 : IsRow .u8 w a0 len0 cap0 z0) :
    Calls Try.prog 3 #[.slice a0 len0 cap0] w fun e w' => e = .returned (.bool true) ∧ Below w.heap.size w w' := by
  by_cases hbig : 1048576 < len0
  · go_enter Try.func3, Try.ntmps3
    go_wp2_with fail
    refine (big_yes _ _ _ _ hbig).mono ?_; rintro e w1 ⟨rfl, rfl⟩
    go_wp2
    go_ret
    exact ⟨rfl, Below.refl _ _⟩
  · have hlen : len0 ≤ 1048576 := by omega
    have hby := w0.bytes
    have hlow : ∀ x, a0 = some x → 0 < len0 → x.block < w.heap.size := w0.lt
    have HL := Lib.hid hlow
    clear hbig w0 hlow
    go_enter Try.func3, Try.ntmps3
    go_wp2_with fail
    refine (big_no _ _ _ _ hlen).mono ?_; rintro e w1 ⟨rfl, rfl⟩
    go_wp2_with fail
    refine (drawRights _ _ _ _ hby hlen HL.out).mono ?_; rintro e w1 ⟨n, zs, l, rfl, hn6, hF, oL, B1⟩
    have hro := hF.2.1
    have hl := hF.1
    have hn1 := hro.1.1
    have HF := Lib.hid hF
    have HRO := Lib.hid hro
    have OL := Lib.hid oL
    have BY := Lib.hid (bytes_step hby B1)
    have BB := Lib.hid B1
    clear HL hF hro oL hby B1
    obtain ⟨gl, cl, rfl, _, _⟩ := own_some OL.out (by omega)
    go_wp2_with fail
    refine (at_any _ _ _ _ 0 (by omega) (by omega) BY.out hlen).mono ?_; rintro e w2 ⟨x0, rfl, q0, q1, rfl⟩
    obtain ⟨m, hm⟩ : ∃ m, x0 * 5 = m := ⟨_, rfl⟩
    have m0 : 0 ≤ m := by omega
    have m1 : m ≤ 2000 := by omega
    have wm : IntKind.i64.wrap m = m := IntWalk.i64_in _ (by omega)
    obtain ⟨U, hU⟩ := Dv.ex HRO.out m0
    have HU := Lib.hid hU
    clear hU q0 q1
    go_wp2_with fail
    refine (impl_dv_yes _ _ n zs m (Row.of_own OL.out) HRO.out m0 (by omega) U HU.out).mono ?_; rintro e w3 ⟨d, rfl, oD, hb⟩
    obtain ⟨gd, cd, rfl, _, _⟩ := own_some oD (by omega)
    replace OL := Lib.hid (own_below OL.out hb)
    replace BY := Lib.hid (bytes_step BY.out hb)
    have OD := Lib.hid (own_mono oD BB.out.size)
    replace BB := Lib.hid (below_step BB.out hb)
    clear hb oD hm wm
    go_upto_region 6 with fail
    go_cut [6, 7] (fun s1 s2 wx => Made w3 1 1 s1 wx ∧ s2 = .bool true)
    case first =>
      go_wp2_with fail
      refine (impl_sum _ _ n zs (by omega) (Row.of_own OL.out) 1 1 true (.inl ⟨by omega, HRO.out.2.2, rfl⟩)).mono ?_; rintro e w4 ⟨rfl, hb1⟩
      go_wp2_with fail
      go_meet
      refine ⟨⟨_, rfl, ?_, ?_, ?_⟩, rfl⟩
      · go_simp
        exact below_step hb1 (below_al (Below.refl _ _) _)
      · go_simp
      · go_simp
    case rest =>
      obtain ⟨⟨g6, rfl, hb, e0, e1⟩, rfl⟩ := hcut
      replace OL := Lib.hid (own_below OL.out hb)
      replace OD := Lib.hid (own_below OD.out hb)
      replace BY := Lib.hid (bytes_step BY.out hb)
      replace BB := Lib.hid (below_step BB.out hb)
      clear hb
      obtain ⟨w4, rfl⟩ : ∃ u, u = wc := ⟨_, rfl⟩
      go_wp2
      clear e0 e1
      -- what is given
      go_loopg [8, 9, 10] n (fun g s8 s9 s10 wr => ∃ k : Nat, k + g = n ∧ s8 = .int .i64 (sm (dk zs m U) k) ∧ s9 = .int .i64 k ∧ Below w4.heap.size w4 wr)
      case atStart => exact ⟨0, by omega, rfl, rfl, Below.refl _ _⟩
      case round =>
        obtain ⟨k, hkg, rfl, rfl, hb⟩ := hrel
        have HB := Lib.hid hb
        clear hb
        by_cases hlt : k < n
        · obtain ⟨gl', rfl⟩ : ∃ g', gk = g' + 1 := ⟨gk - 1, by omega⟩
          have oL := own_below OL.out HB.out
          have oD := own_below OD.out HB.out
          have c1 : wr.cell? ⟨gl, k * 3 + 1, none⟩ = some (.int .i64 (wT zs k)) := own_cell oL (g := gl) rfl (k * 3 + 1) _ (getI (by omega))
          have c2 : wr.cell? ⟨gl, k * 3 + 2, none⟩ = some (.int .i64 (wB zs k)) := own_cell oL (g := gl) rfl (k * 3 + 2) _ (getI (by omega))
          have d0 : wr.cell? ⟨gd, k, none⟩ = some (.int .i64 (dk zs m U k)) := by
            have h := own_cell oD (g := gd) rfl k _ (getI (by unfold dvr; rw [rw_len]; exact hlt))
            rw [h]
            unfold dvr
            rw [rw_at _ hlt]
            rfl
          have hbd := fd_bd HRO.out hlt m0 m1
          have hsd := sum_bd (U := U) HRO.out m0 m1 k (by omega)
          have hsm : sm (dk zs m U) (k + 1) = sm (dk zs m U) k + dk zs m U k := rfl
          have hdk : dk zs m U k = fd zs m k ∨ dk zs m U k = fd zs m k + 1 := by unfold dk; split <;> omega
          have hk12 : (k : Int) ≤ 6 := by omega
          have hpo : Hid (Po (wT zs k) (wB zs k) m (fd zs m k)) := Lib.hid ⟨fun _ => rfl, fun g => absurd ⟨HRO.out.fk hlt, m0, by omega⟩ g⟩
          generalize dk zs m U k = D at *
          generalize fd zs m k = F at *
          generalize sm (dk zs m U) k = S at *
          have v1 : IntKind.i64.wrap (S + D) = S + D := IntWalk.i64_in _ (by omega)
          have v2 : IntKind.i64.wrap (F + 1) = F + 1 := IntWalk.i64_in _ (by omega)
          have u1 : decide (D < F) = false := decide_eq_false (by omega)
          have u2 : decide (F + 1 < D) = false := decide_eq_false (by omega)
          have HSM := Lib.hid hsm
          clear hsm hbd hsd hdk oL oD
          go_wp2_with fail
          refine (spec_po _ _ _ _ _ hpo.out).mono ?_; rintro e w5 ⟨rfl, hb⟩
          replace d0 := keep1 d0 hb
          have HB2 := Lib.hid (below_step HB.out hb)
          clear hb c1 c2 HB hpo
          go_wp2
          go_roundg gl'
          case measure => omega
          case rel => exact ⟨k + 1, by omega, by rw [HSM.out], by go_num, HB2.out⟩
        · obtain rfl : k = n := by omega
          replace OL := Lib.hid (own_below OL.out HB.out)
          replace BY := Lib.hid (bytes_step BY.out HB.out)
          replace BB := Lib.hid (below_step BB.out HB.out)
          have hsum : sm (dk zs m U) k = m := by
            rw [sm_dk]
            have := HU.out.2
            omega
          rw [hsum]
          clear hsum HB OD HU
          obtain ⟨x, hx⟩ := Lo.ex k zs
          obtain ⟨b, hb1, rfl⟩ := hx.1 HRO.out
          have hbk : b < k := hb1.1
          have HX := Lib.hid hx
          clear hx hb1
          go_wp2_with fail
          refine (impl_lo _ _ k zs (by omega) (Row.of_own OL.out) _ HX.out).mono ?_; rintro e w5 ⟨rfl, hb⟩
          replace OL := Lib.hid (own_below OL.out hb)
          replace BY := Lib.hid (bytes_step BY.out hb)
          replace BB := Lib.hid (below_step BB.out hb)
          clear hb HX
          go_wp2
          go_loopg [12, 13] k (fun g s12 s13 wr => ∃ (j : Nat) (fo : Bool), j + g = k ∧ s12 = .bool fo ∧ s13 = .int .i64 j ∧ (b < j → fo = true) ∧ Below w5.heap.size w5 wr)
          case atStart => exact ⟨0, false, by omega, rfl, rfl, fun h => by omega, Below.refl _ _⟩
          case round =>
            obtain ⟨j, fo, hjg, rfl, rfl, hfo, hb⟩ := hrel
            have HB := Lib.hid hb
            have HFO := Lib.hid hfo
            clear hb hfo
            by_cases hlt : j < k
            · obtain ⟨gl', rfl⟩ : ∃ g', gk = g' + 1 := ⟨gk - 1, by omega⟩
              have c0 : wr.cell? ⟨gl, j * 3, none⟩ = some (.int .i64 (wO zs j)) := own_cell (own_below OL.out HB.out) (g := gl) rfl (j * 3) _ (getI (by omega))
              cases fo with
              | true =>
                go_wp2
                go_roundg gl'
                case measure => omega
                case rel => exact ⟨j + 1, true, by omega, rfl, by go_num, fun _ => rfl, HB.out⟩
              | false =>
                obtain ⟨r, hr⟩ : ∃ r, (wO zs j == wO zs b) = r := ⟨_, rfl⟩
                have HR : Hid (b < j + 1 → r = true) := Lib.hid fun h => by
                  by_cases e : b < j
                  · cases HFO.out e
                  · obtain rfl : b = j := by omega
                    rw [← hr]; exact beq_self_eq_true _
                generalize wO zs j = O at *
                go_wp2
                go_roundg gl'
                case measure => omega
                case rel => exact ⟨j + 1, r, by omega, rfl, by go_num, HR.out, HB.out⟩
            · obtain rfl : j = k := by omega
              obtain rfl := HFO.out hbk
              replace OL := Lib.hid (own_below OL.out HB.out)
              replace BY := Lib.hid (bytes_step BY.out HB.out)
              replace BB := Lib.hid (below_step BB.out HB.out)
              clear HB HFO
              go_upto_region 23 with fail
              obtain ⟨w6, rfl⟩ : ∃ u, u = wr := ⟨_, rfl⟩
              go_cut [14] (fun s14 wx => ∃ (f g : Nat), s14 = .pointer (some ⟨g, 0, none⟩) ∧ f < j ∧ wx.cell? ⟨g, 0, none⟩ = some (.int .i64 (wO zs f)) ∧ wx.cell? ⟨g, 1, none⟩ = some (.int .i64 (wT zs f)) ∧ wx.cell? ⟨g, 2, none⟩ = some (.int .i64 (wB zs f)) ∧ Below w6.heap.size w6 wx)
              case first =>
                go_wp2_with fail
                refine (at_any _ _ _ _ 1 (by omega) (by omega) BY.out hlen).mono ?_; rintro e w7 ⟨y, rfl, y0, y1, rfl⟩
                obtain ⟨f, hf⟩ : ∃ f : Nat, y % (j : Int) = f := Int.eq_ofNat_of_zero_le (Int.emod_nonneg _ (by omega))
                have hfj : f < j := by have := Int.emod_lt_of_pos y (show (0 : Int) < j by omega); omega
                have hmod : y.tmod (j : Int) = f := by rw [Int.tmod_eq_emod_of_nonneg y0, hf]
                have hj0 : (j : Int) ≠ 0 := by omega
                have c0 : w6.cell? ⟨gl, f * 3, none⟩ = some (.int .i64 (wO zs f)) := own_cell OL.out (g := gl) rfl (f * 3) _ (getI (by omega))
                have c1 : w6.cell? ⟨gl, f * 3 + 1, none⟩ = some (.int .i64 (wT zs f)) := own_cell OL.out (g := gl) rfl (f * 3 + 1) _ (getI (by omega))
                have c2 : w6.cell? ⟨gl, f * 3 + 2, none⟩ = some (.int .i64 (wB zs f)) := own_cell OL.out (g := gl) rfl (f * 3 + 2) _ (getI (by omega))
                clear y0 y1 hf
                go_wp2_with fail
                go_meet
                refine ⟨f, _, rfl, hfj, ?_, ?_, ?_, ?_⟩
                · go_simp
                · go_simp
                · go_simp
                · go_simp
                  exact below_al (Below.refl _ _) _
              case rest =>
                obtain ⟨f, g4, rfl, hfj, e0, e1, e2, hb⟩ := hcut
                replace OL := Lib.hid (own_below OL.out hb)
                replace BB := Lib.hid (below_step BB.out hb)
                clear hb BY
                obtain ⟨w7, rfl⟩ : ∃ u, u = wc := ⟨_, rfl⟩
                obtain ⟨ms, ys, r, hsla⟩ := Sla.ex j zs (wO zs f) 500 1 2
                have HSL := Lib.hid hsla
                have WFF := Lib.hid (wf_owner (HF.out.2.1.2.1 f hfj).1.1 (HF.out.2.1.2.1 f hfj).1.2)
                clear hsla
                go_wp2_with fail
                refine (impl_sell _ _ j zs _ _ _ _ (by omega) WFF.out (Row.of_own OL.out) ms ys r HSL.out).mono ?_; rintro e w8 ⟨s, rfl, oS, hb⟩
                replace OL := Lib.hid (own_below OL.out hb)
                have OS := Lib.hid (own_mono oS BB.out.size)
                replace BB := Lib.hid (below_step BB.out hb)
                replace e0 := keep1 e0 hb
                replace e1 := keep1 e1 hb
                replace e2 := keep1 e2 hb
                clear hb oS
                cases r with
                | false =>
                  have hbot := HF.out.kept hfj (by omega) HSL.out
                  have u1 : decide (5000 < wB zs f) = true := decide_eq_true hbot
                  go_wp2_with fail
                  refine (impl_ro _ _ j zs (by omega) (Row.of_own OL.out) true ⟨fun _ => HRO.out, fun _ => rfl⟩).mono ?_; rintro e w9 ⟨rfl, hb⟩
                  replace e2 := keep1 e2 hb
                  have B9 := Lib.hid (below_step BB.out hb)
                  clear hb hbot e0 e1
                  go_wp2
                  go_ret
                  exact ⟨rfl, B9.out⟩
                | true =>
                  obtain ⟨rfl, hrs, x, y, hh, hys⟩ := HF.out.sold hfj HSL.out
                  have HBK := Lib.hid (HF.out.back hfj hh hys hrs)
                  have HRS := Lib.hid hrs
                  have HH := Lib.hid hh
                  clear HSL hrs hh hys
                  obtain ⟨gs, cs, rfl, _, _⟩ := own_some OS.out (by omega)
                  obtain ⟨wA, hwA⟩ : ∃ u, (w8.alloc (.cells #[.int .i64 0, .int .i64 0] TF)).alloc (.cells #[.int .i64 0, .int .i64 0] TF) = u := ⟨_, rfl⟩
                  obtain ⟨ga, hga⟩ : ∃ u, w8.heap.size = u := ⟨_, rfl⟩
                  have X1 : Hid (Blk wA ga TF #[.int .i64 0, .int .i64 0]) := Lib.hid (by rw [← hwA, ← hga]; exact (Blk.new w8 TF _).alloc _)
                  have X2 : Hid (Blk wA (ga + 1) TF #[.int .i64 0, .int .i64 0]) := Lib.hid (by rw [← hwA, ← hga]; exact Blk.new1 w8 TF _ _)
                  have BA : Hid (Below w8.heap.size w8 wA) := Lib.hid (hwA ▸ below_al (below_al (Below.refl _ _) _) _)
                  obtain ⟨p0, p1, p2, p3⟩ := fcell X1.out
                  obtain ⟨r0, r1, r2, r3⟩ := fcell X2.out
                  have hgs : gs < w8.heap.size := (OS.out.lt gs (by simp [Value.ownBlock])).2
                  have hg4 : g4 < w8.heap.size := World.block_lt_of_cell? w8 _ e0
                  have hgl : gl < w8.heap.size := (OL.out.lt gl (by simp [Value.ownBlock])).2
                  have h12 := (HF.out.2.2 f hfj).1
                  have hly := HH.out.len
                  have E0 := Lib.hid e0
                  clear e0 e1 e2
                  go_wp2
                  clear p0 p1 p2 p3 r0 r1 r2 r3 hwA
                  have Z1 : Hid (Blk ((wA.setCell ⟨ga + 1, 0, none⟩ (.int .i64 0)).setCell ⟨ga + 1, 1, none⟩ (.int .i64 0)) ga TF #[.int .i64 0, .int .i64 0]) := Lib.hid ((X1.out.far (p := ⟨ga + 1, 0, none⟩) (by show ga ≠ ga + 1; omega) _).far (p := ⟨ga + 1, 1, none⟩) (by show ga ≠ ga + 1; omega) _)
                  have Z2 : Hid (Blk ((wA.setCell ⟨ga + 1, 0, none⟩ (.int .i64 0)).setCell ⟨ga + 1, 1, none⟩ (.int .i64 0)) (ga + 1) TF #[.int .i64 0, .int .i64 0]) := Lib.hid (by simpa using (X2.out.set_ 0 (.int .i64 0)).set_ 1 (.int .i64 0))
                  have ZB : Hid (Below w8.heap.size w8 ((wA.setCell ⟨ga + 1, 0, none⟩ (.int .i64 0)).setCell ⟨ga + 1, 1, none⟩ (.int .i64 0))) := Lib.hid ((BA.out.setCell (by show w8.heap.size ≤ ga + 1; omega) _).setCell (by show w8.heap.size ≤ ga + 1; omega) _)
                  go_loopg [19] (j + 1) (fun g s19 wr => ∃ (k : Nat) (P Q R S : Int), k + g = j + 1 ∧ s19 = .int .i64 k ∧ Blk wr ga TF #[.int .i64 P, .int .i64 Q] ∧ Blk wr (ga + 1) TF #[.int .i64 R, .int .i64 S] ∧ (j < k → P = x ∧ Q = y) ∧ (f < k → R = x ∧ S = y) ∧ Below w8.heap.size w8 wr)
                  case atStart => exact ⟨0, 0, 0, 0, 0, by omega, rfl, Z1.out, Z2.out, fun h => by omega, fun h => by omega, ZB.out⟩
                  case round =>
                    clear X1 X2 BA Z1 Z2 ZB
                    obtain ⟨k, P, Q, R, S, hkg, rfl, x1, x2, hp, hr, hb⟩ := hrel
                    have X1 := Lib.hid x1
                    have X2 := Lib.hid x2
                    have HP := Lib.hid hp
                    have HR := Lib.hid hr
                    have HB := Lib.hid hb
                    clear x1 x2 hp hr hb
                    by_cases hlt : k < j + 1
                    · obtain ⟨gl', rfl⟩ : ∃ g', gk = g' + 1 := ⟨gk - 1, by omega⟩
                      have c0 : wr.cell? ⟨gs, k * 3, none⟩ = some (.int .i64 (wO ys k)) := own_cell (own_below OS.out HB.out) (g := gs) rfl (k * 3) _ (getI (by omega))
                      have c1 : wr.cell? ⟨gs, k * 3 + 1, none⟩ = some (.int .i64 (wT ys k)) := own_cell (own_below OS.out HB.out) (g := gs) rfl (k * 3 + 1) _ (getI (by omega))
                      have c2 : wr.cell? ⟨gs, k * 3 + 2, none⟩ = some (.int .i64 (wB ys k)) := own_cell (own_below OS.out HB.out) (g := gs) rfl (k * 3 + 2) _ (getI (by omega))
                      have e0 := keep1 E0.out HB.out
                      by_cases hk : k = j
                      · subst hk
                        obtain ⟨h1, h2, h3⟩ := HH.out.half
                        rw [h1] at c0
                        rw [h2] at c1
                        rw [h3] at c2
                        have u1 : ((500 : Int) == wO zs f) = false := beq_eq_false_iff_ne.2 (by omega)
                        obtain ⟨p0, p1, p2, p3⟩ := fcell X1.out
                        have BZ : Hid (Below w8.heap.size w8 ((wr.setCell ⟨ga, 0, none⟩ (.int .i64 x)).setCell ⟨ga, 1, none⟩ (.int .i64 y))) := Lib.hid ((HB.out.setCell (by show w8.heap.size ≤ ga; omega) _).setCell (by show w8.heap.size ≤ ga; omega) _)
                        have Y1 : Hid (Blk ((wr.setCell ⟨ga, 0, none⟩ (.int .i64 x)).setCell ⟨ga, 1, none⟩ (.int .i64 y)) ga TF #[.int .i64 x, .int .i64 y]) := Lib.hid (by simpa using (X1.out.set_ 0 (.int .i64 x)).set_ 1 (.int .i64 y))
                        have Y2 : Hid (Blk ((wr.setCell ⟨ga, 0, none⟩ (.int .i64 x)).setCell ⟨ga, 1, none⟩ (.int .i64 y)) (ga + 1) TF #[.int .i64 R, .int .i64 S]) := Lib.hid ((X2.out.far (p := ⟨ga, 0, none⟩) (by show ga + 1 ≠ ga; omega) _).far (p := ⟨ga, 1, none⟩) (by show ga + 1 ≠ ga; omega) _)
                        go_upto_region 33 with fail
                        clear c0 c1 c2 p0 p1 p2 p3 e0
                        generalize ((wr.setCell ⟨ga, 0, none⟩ (.int .i64 x)).setCell ⟨ga, 1, none⟩ (.int .i64 y)) = wz at BZ Y1 Y2 ⊢
                        have c0 : wz.cell? ⟨gs, k * 3, none⟩ = some (.int .i64 500) := by
                          have h := own_cell (own_below OS.out BZ.out) (g := gs) rfl (k * 3) _ (getI (zs := ys) (by omega))
                          rw [h]
                          exact congrArg (fun z => some (Value.int .i64 z)) h1
                        have e0 := keep1 E0.out BZ.out
                        go_wp2
                        go_quiet (fail)
                        all_goals
                          go_wp2
                          go_roundg gl'
                          case measure => omega
                          case rel => exact ⟨k + 1, x, y, R, S, by omega, by go_num, Y1.out, Y2.out, fun _ => ⟨rfl, rfl⟩, fun _ => HR.out hfj, by first | exact below_drewN BZ.out _ | exact below_dr BZ.out | exact BZ.out⟩
                      · have hkj : k < j := by omega
                        obtain ⟨ho1, ho2⟩ := HH.out.own k hkj
                        have u1 : (wO ys k == 500) = false := beq_eq_false_iff_ne.2 (by omega)
                        by_cases hf : k = f
                        · subst hf
                          have u2 : (wO ys k == wO zs k) = true := beq_iff_eq.2 ho1
                          have hrest := HH.out.rest
                          rw [hrest.1] at c1
                          rw [hrest.2] at c2
                          obtain ⟨r0, r1, r2, r3⟩ := fcell X2.out
                          have X1d : ∀ q, Blk (wr.drewN q) ga TF #[.int .i64 P, .int .i64 Q] := fun q => X1.out
                          have X2d : ∀ q, Blk (wr.drewN q) (ga + 1) TF #[.int .i64 R, .int .i64 S] := fun q => X2.out
                          have BZ : Hid (∀ q, Below w8.heap.size w8 (((wr.drewN q).setCell ⟨ga + 1, 0, none⟩ (.int .i64 x)).setCell ⟨ga + 1, 1, none⟩ (.int .i64 y))) := Lib.hid fun q => ((below_drewN HB.out q).setCell (by show w8.heap.size ≤ ga + 1; omega) _).setCell (by show w8.heap.size ≤ ga + 1; omega) _
                          have Y2 : Hid (∀ q, Blk (((wr.drewN q).setCell ⟨ga + 1, 0, none⟩ (.int .i64 x)).setCell ⟨ga + 1, 1, none⟩ (.int .i64 y)) (ga + 1) TF #[.int .i64 x, .int .i64 y]) := Lib.hid fun q => by simpa using ((X2d q).set_ 0 (.int .i64 x)).set_ 1 (.int .i64 y)
                          have Y1 : Hid (∀ q, Blk (((wr.drewN q).setCell ⟨ga + 1, 0, none⟩ (.int .i64 x)).setCell ⟨ga + 1, 1, none⟩ (.int .i64 y)) ga TF #[.int .i64 P, .int .i64 Q]) := Lib.hid fun q => ((X1d q).far (p := ⟨ga + 1, 0, none⟩) (by show ga ≠ ga + 1; omega) _).far (p := ⟨ga + 1, 1, none⟩) (by show ga ≠ ga + 1; omega) _
                          clear X1d X2d
                          go_wp2
                          go_quiet (fail)
                          all_goals
                            go_wp2
                            go_roundg gl'
                            case measure => omega
                            case rel => exact ⟨k + 1, P, Q, x, y, by omega, by go_num, Y1.out _, Y2.out _, fun h => by omega, fun _ => ⟨rfl, rfl⟩, BZ.out _⟩
                        · have u2 : (wO ys k == wO zs f) = false := beq_eq_false_iff_ne.2 (by rw [ho1]; exact fun e => hf (HRO.out.inj hkj hfj e))
                          go_wp2
                          go_quiet (fail)
                          all_goals
                            go_wp2
                            go_roundg gl'
                            case measure => omega
                            case rel => exact ⟨k + 1, P, Q, R, S, by omega, by go_num, X1.out, X2.out, fun h => by omega, fun h => HR.out (by omega), by first | exact below_drewN HB.out _ | exact below_dr HB.out | exact HB.out⟩
                    · obtain rfl : k = j + 1 := by omega
                      obtain ⟨rfl, rfl⟩ := HP.out (by omega)
                      obtain ⟨rfl, rfl⟩ := HR.out (by omega)
                      have e0 := keep1 E0.out HB.out
                      clear HP HR
                      go_wp2_with fail
                      refine (impl_sell _ _ (j + 1) ys _ _ _ _ (by omega) (wf_owner (by decide) (by decide)) ((Row.of_own OS.out).keep HB.out) j zs true HBK.out).mono ?_; rintro e w10 ⟨t, rfl, oT, hb⟩
                      replace X1 := Lib.hid (X1.out.step hb)
                      replace X2 := Lib.hid (X2.out.step hb)
                      have OT := Lib.hid oT
                      have B10 := Lib.hid (below_step HB.out hb)
                      obtain ⟨gt, ct, rfl, _, _⟩ := own_some OT.out (by omega)
                      clear hb oT e0 HB
                      obtain ⟨p0, p1, _⟩ := fcell X1.out
                      obtain ⟨r0, r1, _⟩ := fcell X2.out
                      go_wp2_with fail
                      refine (impl_ro _ _ (j + 1) ys (by omega) ((Row.of_own OS.out).keep B10.out) true ⟨fun _ => HRS.out, fun _ => rfl⟩).mono ?_; rintro e w11 ⟨rfl, hb⟩
                      replace OT := Lib.hid (own_below OT.out hb)
                      have B11 := Lib.hid (below_step B10.out hb)
                      clear hb p0 p1 r0 r1 X1 X2 B10
                      go_wp2
                      go_loopg [22] j (fun g s22 wr => ∃ k : Nat, k + g = j ∧ s22 = .int .i64 k ∧ Below w11.heap.size w11 wr)
                      case atStart => exact ⟨0, by omega, rfl, Below.refl _ _⟩
                      case round =>
                        obtain ⟨k, hkg, rfl, hb⟩ := hrel
                        have HB := Lib.hid hb
                        clear hb
                        by_cases hlt : k < j
                        · obtain ⟨gl', rfl⟩ : ∃ g', gk = g' + 1 := ⟨gk - 1, by omega⟩
                          have c0 : wr.cell? ⟨gl, k * 3, none⟩ = some (.int .i64 (wO zs k)) := own_cell (own_below (own_below OL.out B11.out) HB.out) (g := gl) rfl (k * 3) _ (getI (by omega))
                          have c1 : wr.cell? ⟨gl, k * 3 + 1, none⟩ = some (.int .i64 (wT zs k)) := own_cell (own_below (own_below OL.out B11.out) HB.out) (g := gl) rfl (k * 3 + 1) _ (getI (by omega))
                          have c2 : wr.cell? ⟨gl, k * 3 + 2, none⟩ = some (.int .i64 (wB zs k)) := own_cell (own_below (own_below OL.out B11.out) HB.out) (g := gl) rfl (k * 3 + 2) _ (getI (by omega))
                          have t0 : wr.cell? ⟨gt, k * 3, none⟩ = some (.int .i64 (wO zs k)) := own_cell (own_below OT.out HB.out) (g := gt) rfl (k * 3) _ (getI (by omega))
                          have t1 : wr.cell? ⟨gt, k * 3 + 1, none⟩ = some (.int .i64 (wT zs k)) := own_cell (own_below OT.out HB.out) (g := gt) rfl (k * 3 + 1) _ (getI (by omega))
                          have t2 : wr.cell? ⟨gt, k * 3 + 2, none⟩ = some (.int .i64 (wB zs k)) := own_cell (own_below OT.out HB.out) (g := gt) rfl (k * 3 + 2) _ (getI (by omega))
                          generalize wO zs k = O at *
                          generalize wT zs k = T at *
                          generalize wB zs k = B at *
                          go_wp2
                          go_quiet (fail)
                          all_goals
                            go_wp2
                            go_roundg gl'
                            case measure => omega
                            case rel => exact ⟨k + 1, by omega, by go_num, by first | exact below_drewN HB.out _ | exact below_dr HB.out | exact HB.out⟩
                        · obtain rfl : k = j := by omega
                          go_wp2_with fail
                          refine (impl_ro _ _ k zs (by omega) ((Row.of_own OL.out).keep (B11.out.trans (HB.out.mono B11.out.size))) true ⟨fun _ => HRO.out, fun _ => rfl⟩).mono ?_; rintro e w12 ⟨rfl, hb⟩
                          have BF := Lib.hid (below_step BB.out (below_step (B11.out.trans (HB.out.mono B11.out.size)) hb))
                          clear hb
                          go_wp2
                          go_ret
                          exact ⟨rfl, BF.out⟩
end Go.Proofs.Ytopbeacfljoacaa.wFnRights
