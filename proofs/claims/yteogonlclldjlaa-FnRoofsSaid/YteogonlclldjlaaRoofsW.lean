/- FnRoofs returns true. -/
import Derived.Test.YteogonlclldjlaaRoof3
import Derived.Test.YteogonlclldjlaaRoofD
import Derived.Test.YteogonlclldjlaaRainD
import Derived.Test.YteogonlclldjlaaApp
import Derived.Deep.DeepCutAuto
set_option linter.unusedVariables false
namespace Go.Proofs.Yteogonlclldjlaa.wFnRoofs
open Go.RowKit Go.Proofs.Yteogonlclldjlaa.kit Go.Proofs.Yteogonlclldjlaa.lawi Go.Proofs.Yteogonlclldjlaa.rainl Go.Proofs.Yteogonlclldjlaa.rain Go.Proofs.Yteogonlclldjlaa.plain Go.Proofs.Yteogonlclldjlaa.roof Go.Proofs.Yteogonlclldjlaa.draw Go.Proofs.Yteogonlclldjlaa.app
def tb (b : Bool) : Int := match b with | true => 1 | false => 0
theorem btoi_any (w : World) (b : Bool) : Calls Try.prog 20 #[.bool b] w fun e w' => e = .returned (.int .i64 (tb b)) ∧ w = w' := by
  cases b
  all_goals
    go_enter Try.func20, Try.ntmps20
    go_wp2
    go_ret
    exact ⟨rfl, rfl⟩
theorem fair_all {zs : List Int} {n : Nat} (h : AllF zs) (hl : zs.length = n * 2) {r : Int} (h0 : 0 ≤ r) (h1 : r ≤ 255) : AllR zs r n := fun k hk => ⟨(h k (by omega)).ok, h0, by omega⟩
theorem csum_app {zs : List Int} {r x y : Int} : ∀ {n : Nat}, zs.length = n * 2 → csum (zs ++ [x, y]) r (n + 1) = csum zs r n + cat x y r := by
  intro n hl
  have aux : ∀ k, k ≤ n → csum (zs ++ [x, y]) r k = csum zs r k := by
    intro k
    induction k with
    | zero => intro _; rfl
    | succ k ih =>
      intro hk
      simp only [csum]
      rw [ih (by omega)]
      simp only [List.getD_eq_getElem?_getD]
      rw [List.getElem?_append_left (by omega), List.getElem?_append_left (by omega)]
  rw [csum, aux n (Nat.le_refl _)]
  simp only [List.getD_eq_getElem?_getD]
  rw [List.getElem?_append_right (by omega), List.getElem?_append_right (by omega), show n * 2 - zs.length = 0 by omega, show n * 2 + 1 - zs.length = 1 by omega]
  rfl
/-- What the statement with the appends leaves. -/
def Cut8 (w : World) (b : Nat) (x y v : Int) (s8 : Value) (wx : World) : Prop :=
  s8 = .int .i64 v ∧ wx.cell? ⟨b, 0, none⟩ = some (.int .i64 x) ∧ wx.cell? ⟨b, 1, none⟩ = some (.int .i64 y) ∧ Below w.heap.size w wx
set_option maxRecDepth 10000000 in
set_option maxHeartbeats 4000000 in
theorem walk (w : World) (a0 : Option Addr) (len0 cap0 : Nat) (z0 : List Int) (w0 : IsRow .u8 w a0 len0 cap0 z0) :
    Calls Try.prog 3 #[.slice a0 len0 cap0] w fun e w' => e = .returned (.bool true) ∧ Below w.heap.size w w' := by
  by_cases hbig : 1048576 < len0
  · go_enter Try.func3, Try.ntmps3
    go_wp2_with fail
    refine (big_yes _ _ _ _ hbig).mono ?_; rintro e w1 ⟨rfl, rfl⟩
    go_wp2
    go_ret
    exact ⟨rfl, Below.refl _ _⟩
  · have hlen : len0 ≤ 1048576 := by omega
    have hby := w0.bytes
    have hlow : ∀ x, a0 = some x → 0 < len0 → x.block < w.heap.size := w0.lt
    have HL := Lib.hid hlow
    clear hbig w0 hlow
    obtain ⟨i0, hi, hz0, hz1, hz2⟩ := info_parts stRoof.info
    go_enter Try.func3, Try.ntmps3
    go_wp2_with fail
    refine (big_no _ _ _ _ hlen).mono ?_; rintro e w1 ⟨rfl, rfl⟩
    go_wp2_with fail
    refine (drawRoofs _ _ _ _ hby hlen HL.out).mono ?_; rintro e w1 ⟨vl, n, zs, rfl, hn, hF, hown, hb1⟩
    have by1 := Bytes.step hby hb1
    have lo1 : ∀ x, a0 = some x → 0 < len0 → x.block < w1.heap.size := fun x e h => Nat.lt_of_lt_of_le (HL.out x e h) hb1.size
    have LO1 := Lib.hid lo1
    have HF := Lib.hid hF
    clear lo1 hF
    go_wp2_with fail
    refine (drawRoof _ _ _ _ by1 hlen LO1.out).mono ?_; rintro e w2 ⟨x, y, rfl, hfair, hb2⟩
    have B2 := below_step hb1 hb2
    have hown2 := own_below hown hb2
    have z2 := hb2.size
    have z1 := hb1.size
    have by2 : Bytes (w2.alloc (.cells #[.int .i64 x, .int .i64 y] 27)) a0 len0 := Bytes.step by1 (below_step hb2 (below_al (Below.refl _ _) _))
    have x2 := Blk.new w2 27 #[.int .i64 x, .int .i64 y]
    have hown3 := hown2.alloc (.cells #[.int .i64 x, .int .i64 y] 27)
    have B3 := below_al B2 (.cells #[.int .i64 x, .int .i64 y] 27)
    clear hb1 hb2 hown hown2 by1 B2
    go_wp2_with fail
    refine (at_any _ _ _ _ 0 (by omega) (by omega) by2 hlen).mono ?_; rintro e w3 ⟨A, rfl, A0, A1, rfl⟩
    have hl : zs.length = n * 2 := by simpa using hown3.1
    have hall := fair_all HF.out hl A0 A1
    have HALL := Lib.hid hall
    have HLN := Lib.hid hl
    clear hall hl
    go_wp2_with fail
    refine (impl_all_yes _ vl n zs A (.of_own hown3) (by omega) HALL.out).mono ?_; rintro e w4 ⟨rfl, hb4⟩
    have x4 := x2.step hb4
    have hown4 := own_below hown3 hb4
    have by4 := Bytes.step by2 hb4
    have B4 := below_step B3 hb4
    have z4 := hb4.size
    obtain ⟨s, hs⟩ : ∃ s, csum zs A n = s := ⟨_, rfl⟩
    have bs := csum_bd HALL.out
    have HS := Lib.hid hs
    rw [hs] at bs
    rw [HS.out]
    have q0 := x4.cell 0; have q1 := x4.cell 1
    have hzz : w2.heap.size + 1 ≤ w4.heap.size := by have := x4.lt; omega
    clear hs x2 hown3 by2 B3 hb4
    go_wp2_with fail
    refine (impl_catch_yes _ _ _ _ hfair.ok A0 (by omega)).mono ?_; rintro e w5 ⟨rfl, hb5⟩
    have x5 := x4.step hb5
    have hown5 := own_below hown4 hb5
    have by5 := Bytes.step by4 hb5
    have B5 := below_step B4 hb5
    have z5 := hb5.size
    have bc := cat_ok hfair.ok A0 (show A ≤ 300 by omega)
    obtain ⟨c, hc⟩ : ∃ c, cat x y A = c := ⟨_, rfl⟩
    have HC := Lib.hid hc
    rw [hc] at bc
    rw [HC.out]
    clear hc q0 q1 x4 hown4 by4 B4 hb5
    have q0 : w5.cell? ⟨w2.heap.size, 0, none⟩ = some (.int .i64 x) := x5.cell 0
    have q1 : w5.cell? ⟨w2.heap.size, 1, none⟩ = some (.int .i64 y) := x5.cell 1
    have lz : w2.heap.size < w5.heap.size := by omega
    have hln2 : (zs ++ [x, y]).length = (n + 1) * 2 := by simp [HLN.out]; omega
    have hall2 := fair_all (HF.out.snoc HLN.out hfair) hln2 A0 A1
    have HALL2 := Lib.hid hall2
    clear hln2 hall2
    have zw5 := B5.size
    have EM : Hid (csum (zs ++ [x, y]) A (n + 1) = s + c) := by show _ = _; rw [csum_app HLN.out, HS.out, HC.out]
    go_upto_region 8 with fail
    go_cut [8] (fun s8 wx => Cut8 w w2.heap.size x y (s + c) s8 wx)
    case first =>
      go_region_held3 (fun W => W.cell? ⟨w2.heap.size, 0, none⟩ = some (.int .i64 x) ∧ W.cell? ⟨w2.heap.size, 1, none⟩ = some (.int .i64 y)) (first | assumption | exact ⟨q0, q1⟩ | exact keep2 (by assumption) (by assumption) | exact keep2 (by assumption) (below_al (Below.refl _ _) _) | fail)
        (first
          | (go_at_call 14; refine (impl_all_yes _ _ (n + 1) (zs ++ [x, y]) A (.of_own (by simpa using hown7)) (by omega) HALL2.out).mono ?_; rintro e w8 ⟨rfl, hb8⟩)
          | (refine step_rows _ (by rfl) (.tmp 28) (.tmp 29) 24 (by rfl) w5.heap.size w.heap.size 27 i0 _ 2 16 Try.underlying24 hi hz0 hz1 hz2 (by rfl) (by decide) _ vl 0 n [] (zs.map (Value.int .i64)) (by first | exact own_of_blk (Blk.new w5 _ #[]).drew (Nat.le_refl _) rfl (by decide) | exact own_of_blk ((Blk.new w5 _ #[]).alloc _).drew (Nat.le_refl _) rfl (by decide) | exact own_of_blk (Blk.new1 w5 _ #[] _).drew (Nat.le_succ _) rfl (by decide) | fail) (by first | exact (hown5.alloc _).drew | exact ((hown5.alloc _).alloc _).drew | fail) (by rfl) (by rfl) (oneInts zs) (by omega) (by decide) (by simp; try omega) ?_; intro v6 w6 hown6 hg6; have hS6 := kgrow hg6 (base := w5.heap.size) (fun b hb => by simp [Value.ownBlock] at hb; omega) (by assumption) lz lz)
          | (refine step_rows _ (by rfl) (.tmp 30) (.tmp 32) 24 (by rfl) w5.heap.size 0 27 i0 _ 2 16 Try.underlying24 hi hz0 hz1 hz2 (by rfl) (by decide) v6 _ (0 + n) 1 _ _ (by first | exact hown6.alloc _ | exact hown6 | fail) (by first | exact own_of_blk (Blk.new w6 _ #[.int .i64 x, .int .i64 y]) (Nat.zero_le _) rfl (by decide) | exact own_of_blk ((Blk.new1 w5 _ #[.int .i64 x, .int .i64 y] _).drew.grown hg6 (by simp [Value.ownBlock])) (Nat.zero_le _) rfl (by decide) | exact own_of_blk (((Blk.new w5 _ #[.int .i64 x, .int .i64 y]).alloc _).drew.grown hg6 (by simp [Value.ownBlock])) (Nat.zero_le _) rfl (by decide) | fail) (by rfl) (by rfl) (oneInts [x, y]) (by omega) (by decide) (by have := hg6.size; simp at this ⊢; omega) ?_; intro v7 w7 hown7 hg7; have hS7 := kgrow hg7 (fun b hb => (hown6.lt b hb).1) (by assumption) lz lz)
          | fail)
      all_goals
        have B8 : Below w.heap.size w w8 := by
          first
            | exact below_step (below_gr (below_al (below_gr (below_dr (below_al B5 _)) hg6 (fun b hb => by simp [Value.ownBlock] at hb; omega)) _) hg7 (fun b hb => by have := (hown6.lt b hb).1; omega)) hb8
            | exact below_step (below_gr (below_gr (below_dr (below_al (below_al B5 _) _)) hg6 (fun b hb => by simp [Value.ownBlock] at hb; omega)) hg7 (fun b hb => by have := (hown6.lt b hb).1; omega)) hb8
            | fail
        have p8 : w8.cell? ⟨w2.heap.size, 0, none⟩ = some (.int .i64 x) ∧ w8.cell? ⟨w2.heap.size, 1, none⟩ = some (.int .i64 y) := by assumption
        rw [EM.out]
        go_wp2_with fail
        go_meet
        exact ⟨rfl, p8.1, p8.2, B8⟩
    case rest =>
      obtain ⟨rfl, p0, p1, B8⟩ := hcut
      have HBY := Lib.hid hby
      have by8 := Bytes.step hby B8
      have LO8 := Lib.hid (show ∀ x, a0 = some x → 0 < len0 → x.block < wc.heap.size from fun x e h => Nat.lt_of_lt_of_le (HL.out x e h) B8.size)
      clear hown5 q0 q1 x5 by5 B5 z5 z4
      go_wp2_with fail
      refine (drawRain _ _ _ _ by8 hlen LO8.out).mono ?_; rintro e w9 ⟨vr, m, zr, rfl, hm, okr, hlr, hown9, hb9⟩
      obtain ⟨ar, cr, rfl⟩ := own_shape hown9
      have B9 := below_step B8 hb9
      have p0 := keep1 p0 hb9; have p1 := keep1 p1 hb9
      have OKR := Lib.hid okr; have HLR := Lib.hid hlr
      clear hb9 B8 by8 okr hlr
      go_wp2_with fail
      refine (impl_days_yes _ x y _ m zr hfair.ok (.of_own hown9) OKR.out).mono ?_; rintro e w10 ⟨vd, rfl, hown10, hb10⟩
      obtain ⟨ad, cd, rfl⟩ := own_shape hown10
      have B10 := below_step B9 hb10
      have p0 := keep1 p0 hb10; have p1 := keep1 p1 hb10
      have r9 := (Row.of_own hown9).keep hb10
      have r10 := Row.of_own hown10
      have R9 := Lib.hid r9; have R10 := Lib.hid r10
      have P0 := Lib.hid p0; have P1 := Lib.hid p1
      clear hb10 B9 hown9 hown10 r9 r10 p0 p1
      have i00 : (0 : Int) ≤ (m : Int) := by omega
      go_wp2
      go_loopw [11] (fun i wr => ∃ k : Nat, k ≤ m ∧ i = .int .i64 k ∧ Below w10.heap.size w10 wr) (fun i _ => m - (intOf i).toNat)
      case atStart => exact ⟨0, Nat.zero_le _, rfl, Below.refl _ _⟩
      case round =>
        obtain ⟨k, hk, rfl, hB⟩ := hrel
        have p0 := keep1 P0.out hB; have p1 := keep1 P1.out hB
        by_cases hlt : k < m
        · obtain ⟨b1, o1, rfl, h1⟩ := (R9.out.keep hB).at_ (by omega)
          obtain ⟨b2, o2, rfl, h2⟩ := (R10.out.keep hB).at_ (by omega)
          obtain ⟨z, hz⟩ : ∃ z, zr.getD k 0 = z := ⟨_, rfl⟩
          have g1 := h1 k _ (getI (by have := HLR.out; omega))
          have g2 := h2 k _ (getI (by rw [cds_len]; omega))
          obtain ⟨z0, z1⟩ := okAt OKR.out HLR.out hlt hz
          rw [cds_at _ _ _ _ _ hlt, hz] at g2
          rw [hz] at g1
          have i0 : (0 : Int) ≤ (k : Int) := by omega
          have i1 : (k : Int) < (m : Int) := by omega
          clear h1 h2 hz
          go_wp2
          go_region_held3 (fun W => W.cell? ⟨b2, o2 + k, none⟩ = some (.int .i64 (cat x y z)) ∧ W.cell? ⟨w2.heap.size, 0, none⟩ = some (.int .i64 x) ∧ W.cell? ⟨w2.heap.size, 1, none⟩ = some (.int .i64 y) ∧ W.cell? ⟨b1, o1 + k, none⟩ = some (.int .i64 z)) (first | assumption | exact ⟨g2, p0, p1, g1⟩ | exact keep4 (by assumption) (by assumption) | fail)
            (first
              | (go_at_call 15; refine (impl_catch_yes _ _ _ _ hfair.ok z0 z1).mono ?_; rintro e w11 ⟨rfl, hb11⟩)
              | fail)
          all_goals
            have B11 := below_step (below_dr hB) hb11
            clear hb11 hB g1 g2 p0 p1
            go_wp2
            go_roundw
            case rel => exact ⟨k + 1, by omega, by go_num, B11⟩
            case measure => simp [intOf]; omega
        · obtain rfl : k = m := by omega
          have BW := below_step B10 hB
          clear B10
          obtain ⟨D, hD⟩ := FirstIn.ex (Enough c A y) 1 1000
          obtain ⟨x1, x2, y1, y2⟩ := hfair
          have hd := hD
          have dD : 1 ≤ D ∧ D ≤ x ∧ c ≤ cat D y A := by
            have hx : Enough c A y x := by show c ≤ cat x y A; rw [HC.out]; exact Int.le_refl _
            rcases hD with ⟨d1, d2, d3, d4⟩ | ⟨d1, d2⟩
            · refine ⟨d1, ?_, d3⟩
              rcases Int.lt_or_le x D with h | h
              · exact absurd hx (d4 x x1 h)
              · exact h
            · exact absurd hx (d2 x x1 (by omega))
          obtain ⟨d1, d2, d3⟩ := dD
          have HDD := Lib.hid hd
          clear hD hd
          have F1 : ROk D y := ⟨d1, by omega, y1, y2⟩
          have F2 : ROk (x + 1) y := ⟨by omega, by omega, y1, y2⟩
          have F3 : ROk x y := ⟨x1, by omega, y1, y2⟩
          have F4 : ROk 100 80 := ⟨by omega, by omega, by omega, by omega⟩
          have d5 : c ≤ cat (x + 1) y A := by
            rw [← HC.out]
            unfold cat
            have := Int.mul_le_mul_of_nonneg_right (show x * y ≤ (x + 1) * y from Int.mul_le_mul_of_nonneg_right (by omega) y1) A0
            omega
          have d6 : Hid (cat x y 0 = 0) := by show cat x y 0 = 0; unfold cat; simp
          have d7 : Hid (cat 100 80 10 = 800) := by show cat 100 80 10 = 800; unfold cat; decide
          go_wp2_with fail
          refine (impl_area_yes _ c A y ⟨⟨by omega, by omega⟩, ⟨A0, by omega⟩, y1, y2⟩ D HDD.out).mono ?_; rintro e w12 ⟨rfl, hb12⟩
          have BW := below_step BW hb12
          have p0 := keep1 p0 hb12; have p1 := keep1 p1 hb12
          clear hb12
          have x13 := Blk.new w12 27 #[.int .i64 (x + 1), .int .i64 y]
          have q0 : (w12.alloc (.cells #[.int .i64 (x + 1), .int .i64 y] 27)).cell? ⟨w12.heap.size, 0, none⟩ = some (.int .i64 (x + 1)) := x13.cell 0
          have q1 : (w12.alloc (.cells #[.int .i64 (x + 1), .int .i64 y] 27)).cell? ⟨w12.heap.size, 1, none⟩ = some (.int .i64 y) := x13.cell 1
          have BX := below_al BW (.cells #[.int .i64 (x + 1), .int .i64 y] 27)
          have p0 := keep1 p0 (below_al (Below.refl _ _) (.cells #[.int .i64 (x + 1), .int .i64 y] 27))
          have p1 := keep1 p1 (below_al (Below.refl _ _) (.cells #[.int .i64 (x + 1), .int .i64 y] 27))
          have e : (x + 1) * y = x * y + y := by rw [Int.add_mul, Int.one_mul]
          have sw : IntKind.i64.wrap (s + c) = s + c := IntWalk.i64_in _ (by omega)
          obtain ⟨bs0, bs1⟩ := bs
          obtain ⟨bc0, bc1⟩ := bc
          clear x13
          obtain ⟨T, hT⟩ : ∃ T, -(tb (decide (0 < y))) = T := ⟨_, rfl⟩
          have d8 : Hid (sgn (x * y) ((x + 1) * y) = T) := by
            show _ = _
            rw [e, ← hT]; unfold sgn
            by_cases hy : 0 < y
            · rw [if_pos (by omega), decide_eq_true hy]; rfl
            · rw [if_neg (by omega), if_neg (by omega), decide_eq_false hy]; rfl
          have nw : IntKind.i64.wrap (-(tb (decide (0 < y)))) = T := by
            rw [hT]
            refine IntWalk.i64_in _ ?_
            rw [← hT]
            cases decide (0 < y) <;> decide
          clear e hT
          have d6b : (cat x y 0 == 0) = true := by rw [d6.out]; rfl
          have d7b : (cat 100 80 10 == 800) = true := by rw [d7.out]; rfl
          clear d6 d7
          have HBX := Lib.hid BX
          clear HL LO1 HF HLN HALL HALL2 HS EM HBY LO8 OKR HLR R9 R10 P0 P1 hz0 hz1 hz2 hi HDD hm hn hlt hk hB BW BX hzz z1 z2 lz
          go_wp2_with fail
          simp only [List.append]
          go_region_held3 (fun W => W.cell? ⟨w2.heap.size, 0, none⟩ = some (.int .i64 x) ∧ W.cell? ⟨w2.heap.size, 1, none⟩ = some (.int .i64 y) ∧ W.cell? ⟨w12.heap.size, 0, none⟩ = some (.int .i64 (x + 1)) ∧ W.cell? ⟨w12.heap.size, 1, none⟩ = some (.int .i64 y)) (first | assumption | exact ⟨p0, p1, q0, q1⟩ | exact keep4 (by assumption) (by assumption) | fail)
            (first
              | (go_at_call 15; refine (impl_catch_yes _ _ _ _ (by first | exact F1 | exact F2 | exact F3 | exact F4) (by omega) (by omega)).mono ?_; rintro e w13 ⟨rfl, hb13⟩)
              | (go_at_call 19; refine (impl_better_yes _ _ _ _ _ F2 F3).mono ?_; rintro e w14 ⟨rfl, hb14⟩; rw [d8.out])
              | (go_at_call 20; refine (btoi_any _ _).mono ?_; rintro e w15 ⟨rfl, rfl⟩)
              | (go_at_call 21; refine (impl_rok_yes _ _ _ F3).mono ?_; rintro e w16 ⟨rfl, hb16⟩)
              | fail)
          all_goals
            have BZ := HBX.out
            go_wp2
            go_ret
            refine ⟨rfl, ?_⟩
            repeat (first | exact BZ | (with_reducible refine below_dr ?_) | (with_reducible refine below_step ?_ (by assumption)) | fail)
end Go.Proofs.Yteogonlclldjlaa.wFnRoofs
