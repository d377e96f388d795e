/- FnPipes returns true. -/
import Derived.Test.YtenhdpemfdecfaaNetP
import Derived.Test.YtenhdpemfdecfaaNetC
import Derived.Test.YtenhdpemfdecfaaNetE2
import Derived.Test.YtenhdpemfdecfaaNetG
import Derived.Test.YtenhdpemfdecfaaHas
set_option linter.unusedVariables false
namespace Go.Proofs.Ytenhdpemfdecfaa.wFnPipes
open Go.RowKit Go.Proofs.Ytenhdpemfdecfaa.kit Go.Proofs.Ytenhdpemfdecfaa.lawi Go.Proofs.Ytenhdpemfdecfaa.own Go.Proofs.Ytenhdpemfdecfaa.rain Go.Proofs.Ytenhdpemfdecfaa.yrl Go.Proofs.Ytenhdpemfdecfaa.net Go.Proofs.Ytenhdpemfdecfaa.nt Go.Proofs.Ytenhdpemfdecfaa.draw Go.Proofs.Ytenhdpemfdecfaa.chn
/-- The drawn net's variable, the turned one's, the places that are reached. -/
structure FP (w W : World) (g1 g2 : Nat) (v u r : Value) (P : Int) (n : Nat) (zs L : List Int) : Prop where
  b1 : Blk W g1 TN #[.int .i64 P, v]
  b2 : Blk W g2 TN #[.int .i64 P, u]
  r1 : Row 3 W v n (IV zs)
  r2 : Row 3 W u n (IV (turned zs n))
  rr : Row 1 W r L.length (IV L)
  bl : Below w.heap.size w W
theorem FP.keep {w W W' : World} {g1 g2 : Nat} {v u r : Value} {P : Int} {n : Nat} {zs L : List Int} (h : FP w W g1 g2 v u r P n zs L) (hb : Below W.heap.size W W') : FP w W' g1 g2 v u r P n zs L :=
  ⟨h.b1.step hb, h.b2.step hb, h.r1.keep hb, h.r2.keep hb, h.rr.keep hb, below_step h.bl hb⟩
set_option maxRecDepth 10000000 in
set_option maxHeartbeats 4000000 in
theorem walk (w : World) (a0 : Option Addr) (len0 cap0 : Nat) (z0 : List Int) (w0 : IsRow .u8 w a0 len0 cap0 z0) :
    Calls Try.prog 3 #[.slice a0 len0 cap0] w fun e w' => e = .returned (.bool true) ∧ Below w.heap.size w w' := by
  classical
  by_cases hbig : 1048576 < len0
  · go_enter Try.func3, Try.ntmps3
    go_wp2_with fail
    refine (big_yes _ _ _ _ hbig).mono ?_; rintro e w1 ⟨rfl, rfl⟩
    go_wp2
    go_ret
    exact ⟨rfl, Below.refl _ _⟩
  · have hlen : len0 ≤ 1048576 := by omega
    have hby := w0.bytes
    have hlow : ∀ x, a0 = some x → 0 < len0 → x.block < w.heap.size := w0.lt
    have HL := Lib.hid hlow
    clear hbig w0 hlow
    go_enter Try.func3, Try.ntmps3
    go_wp2_with fail
    refine (big_no _ _ _ _ hlen).mono ?_; rintro e w1 ⟨rfl, rfl⟩
    go_wp2_with fail
    refine (drawEnds _ _ _ _ hby hlen HL.out).mono ?_; rintro e w1 ⟨P, n, zs, v, A, B, rfl, P1, P2, n9, hF, hA, hB, hAB, r1, B1⟩
    obtain ⟨R, rfl⟩ : ∃ R : Nat, P = (R : Int) := ⟨P.toNat, by omega⟩
    have ok := hF.ok P1 P2 n9
    have hl := hF.1
    have two : Two (R : Int) n zs A B := ⟨ok, hA, hB, hAB⟩
    obtain ⟨x, hx⟩ := Wide.ex (F := pF zs) (T := pT zs) (W := pW zs) (m := n) hAB.symm
    obtain ⟨q, hq⟩ : ∃ q : Nat → Bool, ∀ k : Nat, q k = true ↔ Rch (pF zs) (pT zs) (pW zs) n 1 A k := ⟨fun k => decide (Rch (pF zs) (pT zs) (pW zs) n 1 A k), fun k => decide_eq_true_iff⟩
    obtain ⟨L, hL⟩ : ∃ L, dy q 8 = L := ⟨_, rfl⟩
    have hL8 : L.length ≤ 8 := hL ▸ dy_len q 8
    have hon : ∀ u : Int, 0 ≤ u → u < 8 → ((∃ j, j < L.length ∧ L.getD j 0 = u) ↔ Rch (pF zs) (pT zs) (pW zs) n 1 A u) := fun u h0 h8 => by
      rw [← hL, dy_on h0 h8, hq, show ((u.toNat : Nat) : Int) = u by omega]
    obtain ⟨aV, cV, rfl⟩ := r1.shape
    obtain ⟨A0, A1⟩ := hA
    obtain ⟨B0, B1'⟩ := hB
    have BA : Below w1.heap.size w1 (w1.alloc (.cells #[.int .i64 (R : Int), .slice aV n cV] TN)) := below_al (Below.refl _ _) _
    have X1 := Lib.hid (Blk.new w1 TN #[.int .i64 (R : Int), .slice aV n cV])
    have R1 := Lib.hid (r1.keep BA)
    have BL := Lib.hid (below_step B1 BA)
    have OK := Lib.hid ok
    have TW := Lib.hid two
    have HX := Lib.hid hx
    have HQ := Lib.hid hq
    have HL2 := Lib.hid hL
    have HON := Lib.hid hon
    have HLZ := Lib.hid hl
    clear hby HL r1 B1 BA ok two hx hq hL hon hl hF
    go_wp2_with fail
    refine (impl_wide_yes _ _ _ n zs R1.out A B TW.out x HX.out).mono ?_; rintro e w2 ⟨rfl, hb⟩
    replace X1 := Lib.hid (X1.out.step hb)
    replace R1 := Lib.hid (R1.out.keep hb)
    replace BL := Lib.hid (below_step BL.out hb)
    clear hb
    obtain ⟨p0, p1⟩ := stNet.blk_ X1.out
    go_wp2_with fail
    refine (impl_by_yes _ _ _ n zs R1.out OK.out A A0 A1 q HQ.out).mono ?_; rintro e w3 ⟨r, rfl, or_, hb⟩
    obtain ⟨aR, cR, rfl⟩ := own_shape or_
    rw [HL2.out] at or_ ⊢
    have RR := Lib.hid (Row.of_own or_)
    replace X1 := Lib.hid (X1.out.step hb)
    replace R1 := Lib.hid (R1.out.keep hb)
    replace BL := Lib.hid (below_step BL.out hb)
    clear hb or_ p0 p1
    obtain ⟨p0, p1⟩ := stNet.blk_ X1.out
    go_wp2_with fail
    refine (impl_turn_yes _ _ _ n zs R1.out OK.out).mono ?_; rintro e w4 ⟨u, lo, hi, rfl, ⟨ou, hlo⟩, hb⟩
    obtain ⟨aU, cU, rfl⟩ := own_shape ou.own
    obtain ⟨wA, hwA⟩ : ∃ wA, w4.alloc (.cells #[.int .i64 (R : Int), .slice aU n cU] TN) = wA := ⟨_, rfl⟩
    have BA2 : Below w4.heap.size w4 wA := hwA ▸ below_al (Below.refl _ _) _
    have F : FP w wA w1.heap.size w4.heap.size (.slice aV n cV) (.slice aU n cU) (.slice aR L.length cR) R n zs L :=
      ⟨(X1.out.step hb).step BA2, hwA ▸ Blk.new w4 TN #[.int .i64 (R : Int), .slice aU n cU], (R1.out.keep hb).keep BA2, ou.row.keep BA2, (RR.out.keep hb).keep BA2, below_step (below_step BL.out hb) BA2⟩
    have FF := Lib.hid F
    obtain ⟨g1, hg1⟩ : ∃ g, w1.heap.size = g := ⟨_, rfl⟩
    obtain ⟨g2, hg2⟩ : ∃ g, w4.heap.size = g := ⟨_, rfl⟩
    rw [hg1, hg2] at FF
    obtain ⟨bb, hbb⟩ : ∃ bb, decide (0 < x) = bb := ⟨_, rfl⟩
    have hx0 : 0 ≤ x := HX.out.1
    have tx : decide (x < 0) = false := decide_eq_false (by omega)
    have tb : decide (x > 0) = bb := hbb
    have hW : ∀ k, k < n → 1 ≤ pW zs k := fun k hk => (OK.out.2.2.2 k hk).2.2.2.1
    have hbb2 : bb = true ↔ ∃ j, j < L.length ∧ L.getD j 0 = B := by
      rw [← hbb, decide_eq_true_iff, HX.out.pos hW hAB.symm, rch_one hW, HON.out B B0 (by omega)]
    have haa : ∃ j, j < L.length ∧ L.getD j 0 = A := (HON.out A A0 (by omega)).2 .base
    have HBB := Lib.hid hbb2
    have HAA := Lib.hid haa
    have HW := Lib.hid hW
    clear p0 p1 hb BA2 F ou hlo R1 X1 RR BL HL2 HQ hbb2 haa hW
    go_wp2_with fail
    refine (has_any _ _ L.length L B (by omega) FF.out.rr bb HBB.out).mono ?_; rintro e w5 ⟨rfl, rfl⟩
    go_wp2_with fail
    refine (has_any _ _ L.length L A (by omega) FF.out.rr true ⟨fun _ => HAA.out, fun _ => rfl⟩).mono ?_; rintro e w5 ⟨rfl, rfl⟩
    obtain ⟨q0, q1⟩ := stNet.blk_ FF.out.b2
    go_wp2_with fail
    refine (impl_wide_yes _ _ _ n _ FF.out.r2 B A (two_turned TW.out) x (wide_turned HX.out)).mono ?_; rintro e w5 ⟨rfl, hb⟩
    replace FF := Lib.hid (FF.out.keep hb)
    clear q0 q1 hb hwA
    obtain ⟨q0, q1⟩ := stNet.blk_ FF.out.b2
    go_wp2_with fail
    refine (impl_nok _ _ _ n _ (by omega) FF.out.r2 true ⟨fun _ => ok_turned OK.out, fun _ => rfl⟩).mono ?_; rintro e w6 ⟨rfl, hb⟩
    replace FF := Lib.hid (FF.out.keep hb)
    clear q0 q1 hb
    obtain ⟨p0, p1⟩ := stNet.blk_ FF.out.b1
    obtain ⟨q0, q1⟩ := stNet.blk_ FF.out.b2
    go_wp2
    clear p0 p1 q0 q1 hg1 hg2
    go_loopg [9, 10, 11] R (fun gh s9 s10 s11 wr => ∃ k : Nat, k + gh = R ∧ s11 = .int .i64 k ∧ s9 = .int .i64 (SO zs n k) ∧ s10 = .int .i64 (SO (turned zs n) n k) ∧ FP w wr g1 g2 (.slice aV n cV) (.slice aU n cU) (.slice aR L.length cR) R n zs L)
    case atStart => exact ⟨0, by omega, rfl, rfl, rfl, FF.out⟩
    case round =>
      clear FF
      obtain ⟨k, hkg, rfl, rfl, rfl, hf⟩ := hrel
      have FF := Lib.hid hf
      clear hf
      obtain ⟨p0, p1⟩ := stNet.blk_ FF.out.b1
      by_cases hlt : k < R
      · obtain ⟨gk, rfl⟩ : ∃ g', gk = g' + 1 := ⟨gk - 1, by omega⟩
        obtain ⟨O1, hO1⟩ : ∃ O, OU zs n k = O := ⟨_, rfl⟩
        obtain ⟨O2, hO2⟩ : ∃ O, OU (turned zs n) n k = O := ⟨_, rfl⟩
        have hO1' : outs (pF zs) (pW zs) (k : Int) n = O1 := hO1
        have hO2' : outs (pF (turned zs n)) (pW (turned zs n)) (k : Int) n = O2 := hO2
        have e1 := OU_bd OK.out k
        have e2 := OU_bd (ok_turned OK.out) k
        have e3 := SO_bd OK.out k
        have e4 := SO_bd (ok_turned OK.out) k
        have e5 := SO_succ zs n k
        have e6 := SO_succ (turned zs n) n k
        rw [hO1] at e1 e5
        rw [hO2] at e2 e6
        obtain ⟨S1, hS1⟩ : ∃ S, SO zs n k = S := ⟨_, rfl⟩
        obtain ⟨S2, hS2⟩ : ∃ S, SO (turned zs n) n k = S := ⟨_, rfl⟩
        rw [hS1] at e3 e5 ⊢
        rw [hS2] at e4 e6 ⊢
        have E5 := Lib.hid e5
        have E6 := Lib.hid e6
        clear hO1 hO2 hS1 hS2 e5 e6
        go_wp2_with fail
        refine (impl_out _ _ _ n zs FF.out.r1 k OK.out (by omega) (by omega)).mono ?_; rintro e w7 ⟨rfl, hb⟩
        replace FF := Lib.hid (FF.out.keep hb)
        clear hb p0 p1
        obtain ⟨q0, q1⟩ := stNet.blk_ FF.out.b2
        go_wp2_with fail
        refine (impl_out _ _ _ n _ FF.out.r2 k (ok_turned OK.out) (by omega) (by omega)).mono ?_; rintro e w8 ⟨rfl, hb⟩
        replace FF := Lib.hid (FF.out.keep hb)
        clear hb q0 q1
        go_wp2
        go_roundg gk
        case measure => omega
        case rel => exact ⟨k + 1, by omega, by go_num, by rw [E5.out], by rw [E6.out], FF.out⟩
      · obtain rfl : k = R := by omega
        rw [SO_all OK.out, SO_all (ok_turned OK.out), AW_turned]
        go_wp2
        clear p0 p1
        go_loopg [12, 13] n (fun gh s12 s13 wr => ∃ j : Nat, j + gh = n ∧ s13 = .int .i64 j ∧ s12 = .int .i64 (AW zs j) ∧ FP w wr g1 g2 (.slice aV n cV) (.slice aU n cU) (.slice aR L.length cR) k n zs L)
        case atStart => exact ⟨0, by omega, rfl, rfl, FF.out⟩
        case round =>
          clear FF
          obtain ⟨j, hjg, rfl, rfl, hf⟩ := hrel
          have FF := Lib.hid hf
          clear hf
          obtain ⟨p0, p1⟩ := stNet.blk_ FF.out.b1
          by_cases hlt2 : j < n
          · obtain ⟨gk, rfl⟩ : ∃ g', gk = g' + 1 := ⟨gk - 1, by omega⟩
            obtain ⟨b1, o1, rfl, hc⟩ := FF.out.r1.at_ (by omega)
            have hc3 := pipe_at hc HLZ.out hlt2
            have hp := OK.out.2.2.2 j hlt2
            have aw := AW_bd OK.out j (by omega)
            have aws := AW_succ zs j
            have okl := ok_less OK.out HLZ.out hlt2
            obtain ⟨y, hy⟩ := Wide.ex (F := pF (less zs j)) (T := pT (less zs j)) (W := pW (less zs j)) (m := n - 1) hAB.symm
            have hyx := wide_less HLZ.out hlt2 HX.out hy
            have hFT : Rch (pF zs) (pT zs) (pW zs) n 1 A (pF zs j) → Rch (pF zs) (pT zs) (pW zs) n 1 A (pT zs j) := fun h => .step j hlt2 hp.2.2.2.1 h
            obtain ⟨m, hm⟩ : ∃ m, n - 1 = m := ⟨_, rfl⟩
            rw [hm] at okl hy
            have hm2 : (n : Int) - 1 = (m : Int) := by omega
            have hmw : IntKind.i64.wrap (m : Int) = m := IntWalk.i64_in _ (by omega)
            obtain ⟨⟨F0, F1⟩, ⟨T0, T1⟩, hFTne, W0, W1⟩ := hp
            have onF := HON.out (pF zs j) F0 (by omega)
            have onT := HON.out (pT zs j) T0 (by omega)
            have t1 : decide (y > x) = false := decide_eq_false (by omega)
            have t2 : decide (x < y) = false := decide_eq_false (by omega)
            obtain ⟨S, hS⟩ : ∃ S, AW zs j = S := ⟨_, rfl⟩
            rw [hS] at aw aws ⊢
            generalize pF zs j = F at hc3 F0 F1 onF hFT hFTne
            generalize pT zs j = T at hc3 T0 T1 onT hFT hFTne
            generalize pW zs j = W at hc3 W0 W1 aws
            have TWL : Hid (Two (k : Int) m (less zs j) A B) := Lib.hid ⟨okl, ⟨A0, A1⟩, ⟨B0, B1'⟩, hAB⟩
            have HY := Lib.hid hy
            have HFT := Lib.hid hFT
            have ONF := Lib.hid onF
            have ONT := Lib.hid onT
            have HM := Lib.hid hm
            have AWS := Lib.hid aws
            have HC := Lib.hid hc3
            obtain ⟨c1, c2, c3⟩ := HC.out
            clear hc hc3 okl hy hFT onF onT hm aws hS hFTne
            go_wp2_with fail
            refine (impl_without_yes _ _ _ n j zs FF.out.r1 OK.out hlt2).mono ?_; rintro e w7 ⟨u3, lo3, hi3, rfl, ⟨o3, hlo3⟩, hb⟩
            rw [HM.out] at o3
            obtain ⟨a3, d3, rfl⟩ := own_shape o3.own
            obtain ⟨wB, hwB⟩ : ∃ wB, w7.alloc (.cells #[.int .i64 (k : Int), .slice a3 m d3] TN) = wB := ⟨_, rfl⟩
            have BB : Below w7.heap.size w7 wB := hwB ▸ below_al (Below.refl _ _) _
            have X3 := Lib.hid (hwB ▸ Blk.new w7 TN #[.int .i64 (k : Int), .slice a3 m d3] : Blk wB w7.heap.size TN #[.int .i64 (k : Int), .slice a3 m d3])
            have R3 := Lib.hid (o3.row.keep BB)
            replace FF := Lib.hid ((FF.out.keep hb).keep BB)
            replace HC := Lib.hid (keep3 (keep3 HC.out hb) BB)
            clear o3 hlo3 hb BB p0 p1 c1 c2 c3
            obtain ⟨p0, p1⟩ := stNet.blk_ FF.out.b1
            obtain ⟨x0, x1⟩ := stNet.blk_ X3.out
            go_wp2_with fail
            refine (impl_wide_yes _ _ _ m _ R3.out A B TWL.out y HY.out).mono ?_; rintro e w8 ⟨rfl, hb⟩
            replace FF := Lib.hid (FF.out.keep hb)
            replace HC := Lib.hid (keep3 HC.out hb)
            clear hb p0 p1 x0 x1 hwB
            obtain ⟨p0, p1⟩ := stNet.blk_ FF.out.b1
            obtain ⟨c1, c2, c3⟩ := HC.out
            by_cases hR : Rch (pF zs) (pT zs) (pW zs) n 1 A F
            · have HR1 := Lib.hid (ONF.out.2 hR)
              have HR2 := Lib.hid (ONT.out.2 (HFT.out hR))
              clear hR
              go_wp2_with fail
              refine (has_any _ _ L.length L F (by omega) FF.out.rr true ⟨fun _ => HR1.out, fun _ => rfl⟩).mono ?_; rintro e w9 ⟨rfl, rfl⟩
              go_wp2_with fail
              refine (has_any _ _ L.length L T (by omega) FF.out.rr true ⟨fun _ => HR2.out, fun _ => rfl⟩).mono ?_; rintro e w9 ⟨rfl, rfl⟩
              go_wp2
              go_roundg gk
              case measure => omega
              case rel => exact ⟨j + 1, by omega, by go_num, by rw [AWS.out], FF.out⟩
            · have HR1 := Lib.hid hR
              clear hR
              go_wp2_with fail
              refine (has_any _ _ L.length L F (by omega) FF.out.rr false ⟨fun h => (by cases h), fun h => absurd (ONF.out.1 h) HR1.out⟩).mono ?_; rintro e w9 ⟨rfl, rfl⟩
              go_wp2
              go_roundg gk
              case measure => omega
              case rel => exact ⟨j + 1, by omega, by go_num, by rw [AWS.out], FF.out⟩
          · obtain rfl : j = n := by omega
            have hge := out_ge OK.out hAB.symm HX.out
            have hOb := OU_bd OK.out A.toNat
            obtain ⟨O, hO⟩ : ∃ O, outs (pF zs) (pW zs) A j = O := ⟨_, rfl⟩
            rw [hO] at hge
            obtain ⟨T, hT⟩ : ∃ T, AW zs j = T := ⟨_, rfl⟩
            rw [hT]
            have t1 : decide (x ≤ O) = true := decide_eq_true hge
            clear hT hOb
            go_wp2_with fail
            refine (impl_out _ _ _ j zs FF.out.r1 A OK.out A0 A1).mono ?_; rintro e w7 ⟨rfl, hb⟩
            replace FF := Lib.hid (FF.out.keep hb)
            clear hb p0 p1
            go_wp2
            go_ret
            exact ⟨rfl, FF.out.bl⟩
end Go.Proofs.Ytenhdpemfdecfaa.wFnPipes
