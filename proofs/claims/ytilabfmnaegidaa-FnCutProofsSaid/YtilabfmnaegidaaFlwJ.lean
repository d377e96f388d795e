/- Flows: the program's flowOut, FlowOk, FlowSize, IsUsed. -/
import Derived.Test.YtilabfmnaegidaaFlwS2
namespace Go.Proofs.Ytilabfmnaegidaa.fl_
open Go.RowKit Go.Proofs.Ytilabfmnaegidaa.kit Go.Proofs.Ytilabfmnaegidaa.lawi Go.Proofs.Ytilabfmnaegidaa.own Go.Proofs.Ytilabfmnaegidaa.rain Go.Proofs.Ytilabfmnaegidaa.yrl Go.Proofs.Ytilabfmnaegidaa.net Go.Proofs.Ytilabfmnaegidaa.nt Go.Proofs.Ytilabfmnaegidaa.flw Go.Proofs.Ytilabfmnaegidaa.take
set_option maxHeartbeats 4000000 in
theorem impl_fout (w : World) (P : Int) (v u : Value) (n : Nat) (zs fs : List Int) (a : Int) (hn : n ≤ 20) (hr : Row 3 w v n (IV zs)) (hf : Row 1 w u n (IV fs)) (hd : ∀ k, k < n → pF zs k ≠ pT zs k) (hc : ∀ k, k < n → 0 ≤ gd fs k ∧ gd fs k ≤ 1000) :
    Calls Try.prog 63 #[Nv P v, u, .int .i64 a] w (Gives w (.int .i64 (Go.Proofs.Ytilabfmnaegidaa.flw.nt (pF zs) (pT zs) (gd fs) a n))) := by
  obtain ⟨av, ca, rfl⟩ := hr.shape
  obtain ⟨au, cu, rfl⟩ := hf.shape
  have hl : zs.length = n * 3 := by simpa using hr.1
  have hlf : fs.length = n := by simpa using hf.1
  obtain ⟨w0, hw0⟩ : ∃ w0, w.alloc (.cells #[.int .i64 P, .slice av n ca] TN) = w0 := ⟨_, rfl⟩
  have B0 : Below w.heap.size w w0 := hw0 ▸ below_al (Below.refl _ _) _
  have HX : Hid (Blk w0 w.heap.size TN #[.int .i64 P, .slice av n ca]) := Lib.hid (hw0 ▸ Blk.new w TN #[.int .i64 P, .slice av n ca])
  have HR := Lib.hid (hr.keep B0)
  have HF := Lib.hid (hf.keep B0)
  have HB := Lib.hid B0
  have HD := Lib.hid hd
  have HC := Lib.hid hc
  obtain ⟨p0, p1⟩ := stNet.blk_ HX.out
  clear hr hf B0 hd hc
  go_enter Try.func63, Try.ntmps63
  go_wp2
  clear p0 p1 hw0
  go_loopg [7, 13] n (fun g s7 s13 wr => ∃ k : Nat, k + g = n ∧ s13 = .int .i64 k ∧ s7 = .int .i64 (Go.Proofs.Ytilabfmnaegidaa.flw.nt (pF zs) (pT zs) (gd fs) a k) ∧ Below w0.heap.size w0 wr)
  case atStart => exact ⟨0, by omega, rfl, rfl, Below.refl _ _⟩
  case round =>
    obtain ⟨k, hkg, rfl, rfl, hbel⟩ := hrel
    by_cases hlt : k < n
    · obtain ⟨gk, rfl⟩ : ∃ g', gk = g' + 1 := ⟨gk - 1, by omega⟩
      obtain ⟨b1, o1, rfl, h1⟩ := (HR.out.keep hbel).at_ (by omega)
      obtain ⟨g1, g2, g3⟩ := pipe_at h1 hl hlt
      obtain ⟨b2, o2, rfl, h2⟩ := (HF.out.keep hbel).at_ (by omega)
      have g4 : wr.cell? ⟨b2, o2 + k, none⟩ = some (.int .i64 (gd fs k)) := h2 k _ (getI (by omega))
      have hFT := HD.out k hlt
      have hcap := HC.out
      have y0 := Go.Proofs.Ytilabfmnaegidaa.flw.nt_bd (F := pF zs) (T := pT zs) (v := a) k (fun j hj => hcap j (by omega))
      have yk := hcap k hlt
      obtain ⟨N, hN⟩ : ∃ N, Go.Proofs.Ytilabfmnaegidaa.flw.nt (pF zs) (pT zs) (gd fs) a (k + 1) = N := ⟨_, rfl⟩
      have hN' := hN
      rw [Go.Proofs.Ytilabfmnaegidaa.flw.nt] at hN'
      have HNN := Lib.hid hN
      clear hN hcap h1 h2
      generalize Go.Proofs.Ytilabfmnaegidaa.flw.nt (pF zs) (pT zs) (gd fs) a k = x at y0 hN' ⊢
      generalize pF zs k = F at g1 hFT hN'
      generalize pT zs k = T at g2 hFT hN'
      generalize pW zs k = W at g3
      generalize gd fs k = f at g4 yk hN'
      obtain ⟨w4, hw4⟩ : ∃ w4, wr.alloc (.cells #[.int .i64 F, .int .i64 T, .int .i64 W] TP) = w4 := ⟨_, rfl⟩
      have xp : Blk w4 wr.heap.size TP #[.int .i64 F, .int .i64 T, .int .i64 W] := hw4 ▸ Blk.new wr TP #[.int .i64 F, .int .i64 T, .int .i64 W]
      obtain ⟨d0, d1, d2⟩ := stPipe3 xp
      have b4 : Below wr.heap.size wr w4 := hw4 ▸ below_al (Below.refl _ _) _
      have L4 := Lib.hid (below_step hbel b4)
      have f4 := keep1 g4 b4
      clear xp b4 hbel
      by_cases hF : a = F
      · subst hF
        rw [if_pos rfl, if_neg (fun e => hFT e.symm)] at hN'
        have e1 : IntKind.i64.wrap (x + f) = x + f := IntWalk.i64_in _ (by omega)
        have HN2 := Lib.hid hN'
        clear hN' hFT y0 yk
        go_wp2
        go_roundg gk
        case measure => omega
        case rel => exact ⟨k + 1, by omega, by go_num, by rw [HNN.out, ← HN2.out]; congr 1; omega, L4.out⟩
      · have e0 : (a == F) = false := beq_eq_false_iff_ne.2 hF
        by_cases hT : a = T
        · subst hT
          rw [if_pos rfl, if_neg (fun e => hF e.symm)] at hN'
          have e1 : IntKind.i64.wrap (x - f) = x - f := IntWalk.i64_in _ (by omega)
          have HN2 := Lib.hid hN'
          clear hN' hFT y0 yk
          go_wp2
          go_roundg gk
          case measure => omega
          case rel => exact ⟨k + 1, by omega, by go_num, by rw [HNN.out, ← HN2.out]; congr 1; omega, L4.out⟩
        · rw [if_neg (fun e => hF e.symm), if_neg (fun e => hT e.symm)] at hN'
          have e2 : (a == T) = false := beq_eq_false_iff_ne.2 hT
          have HN2 := Lib.hid hN'
          clear hN' hFT y0 yk
          go_wp2
          go_roundg gk
          case measure => omega
          case rel => exact ⟨k + 1, by omega, by go_num, by rw [HNN.out, ← HN2.out]; congr 1; omega, L4.out⟩
    · obtain rfl : k = n := by omega
      go_wp2
      go_ret
      exact ⟨rfl, HB.out.trans (hbel.mono HB.out.size)⟩
set_option maxHeartbeats 4000000 in
theorem impl_fok_in (w : World) (P : Nat) (v u : Value) (n : Nat) (zs fs : List Int) (a b : Int) (hr : Row 3 w v n (IV zs)) (hf : Row 1 w u n (IV fs)) (two : Two (P : Int) n zs a b) (r : Bool) (hb : r = true ↔ FK P n zs n fs a b) :
    Calls Try.prog 45 #[Nv P v, u, .int .i64 a, .int .i64 b] w (Gives w (.bool r)) := by
  obtain ⟨av, ca, rfl⟩ := hr.shape
  obtain ⟨au, cu, rfl⟩ := hf.shape
  have hl : zs.length = n * 3 := by simpa using hr.1
  have hlf : fs.length = n := by simpa using hf.1
  have ok := two.1
  have hn := ok.2.2.1
  have hP8 : P ≤ 8 := by have := ok.2.1; omega
  obtain ⟨w0, hw0⟩ : ∃ w0, w.alloc (.cells #[.int .i64 (P : Int), .slice av n ca] TN) = w0 := ⟨_, rfl⟩
  have B0 : Below w.heap.size w w0 := hw0 ▸ below_al (Below.refl _ _) _
  have HX : Hid (Blk w0 w.heap.size TN #[.int .i64 (P : Int), .slice av n ca]) := Lib.hid (hw0 ▸ Blk.new w TN #[.int .i64 (P : Int), .slice av n ca])
  have HR := Lib.hid (hr.keep B0)
  have HF := Lib.hid (hf.keep B0)
  have OK := Lib.hid ok
  have TW := Lib.hid two
  have HB := Lib.hid B0
  have A := Lib.hid (FAns.of two hb)
  obtain ⟨p0, p1⟩ := stNet.blk_ HX.out
  clear hr hf ok two B0 hb
  go_enter Try.func45, Try.ntmps45
  go_wp2_with fail
  refine (impl_two _ _ _ n zs (by omega) HR.out a b true ⟨fun _ => TW.out, fun _ => rfl⟩).mono ?_; rintro e w1 ⟨rfl, hb1⟩
  have hX1 := HX.out.step hb1
  have HL := Lib.hid hb1
  clear p0 p1 hw0 hb1
  obtain ⟨p0, p1⟩ := stNet.blk_ hX1
  clear hX1
  have e1 : ((n : Int) != (n : Int)) = false := by simp
  go_wp2
  clear p0 p1
  go_loopg [28] n (fun g s28 wr => ∃ k : Nat, k + g = n ∧ s28 = .int .i64 k ∧ (∀ j, j < k → 0 ≤ gd fs j ∧ gd fs j ≤ pW zs j) ∧ Below w0.heap.size w0 wr)
  case atStart => exact ⟨0, by omega, rfl, fun j hj => by omega, HL.out⟩
  case round =>
    clear HL
    obtain ⟨k, hkg, rfl, hbd, hbel⟩ := hrel
    by_cases hlt : k < n
    · obtain ⟨gk, rfl⟩ : ∃ g', gk = g' + 1 := ⟨gk - 1, by omega⟩
      obtain ⟨b1, o1, rfl, h1⟩ := (HR.out.keep hbel).at_ (by omega)
      obtain ⟨g1, g2, g3⟩ := pipe_at h1 hl hlt
      obtain ⟨b2, o2, rfl, h2⟩ := (HF.out.keep hbel).at_ (by omega)
      have g4 : wr.cell? ⟨b2, o2 + k, none⟩ = some (.int .i64 (gd fs k)) := h2 k _ (getI (by omega))
      have hbad := A.out.bad k hlt
      have hbs := pb_succ hbd
      generalize pF zs k = F at g1
      generalize pT zs k = T at g2
      generalize pW zs k = W at g3 hbad hbs
      generalize gd fs k = f at g4 hbad hbs
      obtain ⟨w4, hw4⟩ : ∃ w4, wr.alloc (.cells #[.int .i64 F, .int .i64 T, .int .i64 W] TP) = w4 := ⟨_, rfl⟩
      obtain ⟨d0, d1, d2⟩ := stPipe3 (hw4 ▸ Blk.new wr TP #[.int .i64 F, .int .i64 T, .int .i64 W] : Blk w4 wr.heap.size TP #[.int .i64 F, .int .i64 T, .int .i64 W])
      have b4 : Below wr.heap.size wr w4 := hw4 ▸ below_al (Below.refl _ _) _
      have f4 := keep1 g4 b4
      have L4 := Lib.hid (below_step hbel b4)
      have HS := Lib.hid hbs
      have j0 : (0 : Int) ≤ (k : Int) := by omega
      have j1 : (k : Int) < (n : Int) := by omega
      clear h1 h2 hbd hbel b4 hbs d0 d1
      by_cases hin : 0 ≤ f ∧ f ≤ W
      · clear hbad
        go_wp2
        go_region_held3 (fun V => V.cell? ⟨b2, o2 + k, none⟩ = some (.int .i64 f) ∧ V.cell? ⟨wr.heap.size, 2, none⟩ = some (.int .i64 W)) (first | assumption | exact ⟨f4, d2⟩ | fail)
          (first | (go_at_call 48; refine (inR_yes _ _ _ _ hin.1 hin.2).mono ?_; rintro e w5 ⟨rfl, rfl⟩) | fail)
        all_goals
          clear f4 d2 g1 g2 g3 g4
          go_wp2
          go_roundg gk
          case measure => omega
          case rel => exact ⟨k + 1, by omega, by go_num, HS.out hin, below_dr L4.out⟩
      · have hr := hbad hin
        clear hbad
        go_wp2
        go_region_held3 (fun V => V.cell? ⟨b2, o2 + k, none⟩ = some (.int .i64 f) ∧ V.cell? ⟨wr.heap.size, 2, none⟩ = some (.int .i64 W)) (first | assumption | exact ⟨f4, d2⟩ | fail)
          (first | (go_at_call 48; refine (inR_no _ _ _ _ hin).mono ?_; rintro e w5 ⟨rfl, rfl⟩) | fail)
        all_goals
          go_wp2
          go_ret
          exact ⟨by rw [hr]; rfl, HB.out.trans ((below_dr L4.out).mono HB.out.size)⟩
    · obtain rfl : k = n := by omega
      have HBD := Lib.hid hbd
      have HL := Lib.hid hbel
      obtain ⟨p0, p1⟩ := stNet.blk_ (HX.out.step hbel)
      clear hbd hbel
      go_wp2
      clear p0 p1
      go_loopg [44] P (fun g s44 wr => ∃ i : Nat, i + g = P ∧ s44 = .int .i64 i ∧ (∀ j : Nat, j < i → (j : Int) ≠ a → (j : Int) ≠ b → Go.Proofs.Ytilabfmnaegidaa.flw.nt (pF zs) (pT zs) (gd fs) (j : Int) k = 0) ∧ Below w0.heap.size w0 wr)
      case atStart => exact ⟨0, by omega, rfl, fun j hj => by omega, HL.out⟩
      case round =>
        clear HL
        obtain ⟨i, hig, rfl, hz, hbel⟩ := hrel
        by_cases hlt2 : i < P
        · obtain ⟨gk2, rfl⟩ : ∃ g', gk = g' + 1 := ⟨gk - 1, by omega⟩
          have hlost := A.out.lost (i : Int) (by omega) (by omega)
          obtain ⟨x, hx⟩ : ∃ x, Go.Proofs.Ytilabfmnaegidaa.flw.nt (pF zs) (pT zs) (gd fs) (i : Int) k = x := ⟨_, rfl⟩
          have HZ := Lib.hid hz
          have HL := Lib.hid hbel
          have HX1 := Lib.hid hx
          have HLO := Lib.hid hlost
          obtain ⟨p0, p1⟩ := stNet.blk_ (HX.out.step hbel)
          clear hx hz hbel hlost
          have hstep : ((i : Int) = a ∨ (i : Int) = b ∨ x = 0) → ∀ j : Nat, j < i + 1 → (j : Int) ≠ a → (j : Int) ≠ b → Go.Proofs.Ytilabfmnaegidaa.flw.nt (pF zs) (pT zs) (gd fs) (j : Int) k = 0 := fun h j hj h1 h2 => by
            by_cases e : j < i
            · exact HZ.out j e h1 h2
            · obtain rfl : j = i := by omega
              rcases h with h | h | h
              · exact absurd h h1
              · exact absurd h h2
              · rw [HX1.out]; exact h
          have HST := Lib.hid hstep
          clear hstep
          by_cases ha : (i : Int) = a
          · have HN := Lib.hid (HST.out (.inl ha))
            clear HLO HX1 HZ HST
            have b1 : ((i : Int) != a) = false := by simpa using ha
            go_wp2
            go_roundg gk2
            case measure => omega
            case rel => exact ⟨i + 1, by omega, by go_num, HN.out, HL.out⟩
          · have b1 : ((i : Int) != a) = true := bne_iff_ne.2 ha
            by_cases hb : (i : Int) = b
            · have HN := Lib.hid (HST.out (.inr (.inl hb)))
              clear HLO HX1 HZ HST
              have b2 : ((i : Int) != b) = false := by simpa using hb
              go_wp2
              go_roundg gk2
              case measure => omega
              case rel => exact ⟨i + 1, by omega, by go_num, HN.out, HL.out⟩
            · have b2 : ((i : Int) != b) = true := bne_iff_ne.2 hb
              go_wp2_with fail
              refine (impl_fout _ _ _ _ k zs fs i (by omega) (HR.out.keep HL.out) (HF.out.keep HL.out) (fun j hj => (OK.out.2.2.2 j hj).2.2.1) (fun j hj => by have := HBD.out j hj; have := (OK.out.2.2.2 j hj).2.2.2.2; omega)).mono ?_; rintro e w5 ⟨rfl, hb5⟩
              rw [HX1.out]
              have L5 := Lib.hid (below_step HL.out hb5)
              clear hb5 p0 p1
              by_cases hx : x = 0
              · have HN := Lib.hid (HST.out (.inr (.inr hx)))
                clear HLO HX1 HZ HST
                have b3 : (x != 0) = false := by simpa using hx
                go_wp2
                go_roundg gk2
                case measure => omega
                case rel => exact ⟨i + 1, by omega, by go_num, HN.out, L5.out⟩
              · have hr := HLO.out ha hb (by rw [HX1.out]; exact hx)
                clear HLO HX1 HZ HST
                have b3 : (x != 0) = true := bne_iff_ne.2 hx
                go_wp2
                go_ret
                exact ⟨by rw [hr]; rfl, HB.out.trans (L5.out.mono HB.out.size)⟩
        · obtain rfl : i = P := by omega
          have hr := A.out.good HBD.out (fun v h0 h1 h2 h3 => by
            obtain ⟨V, rfl⟩ : ∃ V : Nat, v = (V : Int) := ⟨v.toNat, by omega⟩
            exact hz V (by omega) h2 h3)
          have HL := Lib.hid hbel
          clear hz hbel
          go_wp2
          go_ret
          exact ⟨by rw [hr]; rfl, HB.out.trans (HL.out.mono HB.out.size)⟩
theorem impl_fok (w : World) (P : Int) (v u : Value) (n m : Nat) (zs fs : List Int) (a b : Int) (hn : n ≤ 1048576) (hr : Row 3 w v n (IV zs)) (hf : Row 1 w u m (IV fs)) (r : Bool) (hb : r = true ↔ FK P n zs m fs a b) :
    Calls Try.prog 45 #[Nv P v, u, .int .i64 a, .int .i64 b] w (Gives w (.bool r)) := by
  by_cases two : Two P n zs a b
  · by_cases hmn : m = n
    · subst hmn
      obtain ⟨R, rfl⟩ : ∃ R : Nat, P = (R : Int) := ⟨P.toNat, by have := two.1.1; omega⟩
      exact impl_fok_in w R v u m zs fs a b hr hf two r hb
    · have hr0 : r = false := by
        cases r
        · rfl
        · exact absurd (hb.1 rfl).2.1 hmn
      obtain ⟨av, ca, rfl⟩ := hr.shape
      obtain ⟨au, cu, rfl⟩ := hf.shape
      obtain ⟨w0, hw0⟩ : ∃ w0, w.alloc (.cells #[.int .i64 P, .slice av n ca] TN) = w0 := ⟨_, rfl⟩
      have B0 : Below w.heap.size w w0 := hw0 ▸ below_al (Below.refl _ _) _
      have HX : Hid (Blk w0 w.heap.size TN #[.int .i64 P, .slice av n ca]) := Lib.hid (hw0 ▸ Blk.new w TN #[.int .i64 P, .slice av n ca])
      have HR := Lib.hid (hr.keep B0)
      have TW := Lib.hid two
      have HB := Lib.hid B0
      obtain ⟨p0, p1⟩ := stNet.blk_ HX.out
      clear hr hf two B0 hb
      go_enter Try.func45, Try.ntmps45
      go_wp2_with fail
      refine (impl_two _ _ _ n zs (by omega) HR.out a b true ⟨fun _ => TW.out, fun _ => rfl⟩).mono ?_; rintro e w1 ⟨rfl, hb1⟩
      obtain ⟨q0, q1⟩ := stNet.blk_ (HX.out.step hb1)
      have e1 : ((m : Int) != (n : Int)) = true := bne_iff_ne.2 (by omega)
      go_wp2
      go_ret
      exact ⟨by rw [hr0]; rfl, HB.out.trans (hb1.mono HB.out.size)⟩
  · have hr0 : r = false := by
      cases r
      · rfl
      · exact absurd (hb.1 rfl).1 two
    obtain ⟨av, ca, rfl⟩ := hr.shape
    obtain ⟨au, cu, rfl⟩ := hf.shape
    obtain ⟨w0, hw0⟩ : ∃ w0, w.alloc (.cells #[.int .i64 P, .slice av n ca] TN) = w0 := ⟨_, rfl⟩
    have B0 : Below w.heap.size w w0 := hw0 ▸ below_al (Below.refl _ _) _
    have HX : Hid (Blk w0 w.heap.size TN #[.int .i64 P, .slice av n ca]) := Lib.hid (hw0 ▸ Blk.new w TN #[.int .i64 P, .slice av n ca])
    have HR := Lib.hid (hr.keep B0)
    have TW := Lib.hid two
    have HB := Lib.hid B0
    obtain ⟨p0, p1⟩ := stNet.blk_ HX.out
    clear hr hf two B0 hb
    go_enter Try.func45, Try.ntmps45
    go_wp2_with fail
    refine (impl_two _ _ _ n zs (by omega) HR.out a b false ⟨fun h => (by cases h), fun h => absurd h TW.out⟩).mono ?_; rintro e w1 ⟨rfl, hb1⟩
    obtain ⟨q0, q1⟩ := stNet.blk_ (HX.out.step hb1)
    go_wp2
    go_ret
    exact ⟨by rw [hr0]; rfl, HB.out.trans (hb1.mono HB.out.size)⟩
set_option maxHeartbeats 4000000 in
theorem impl_fsz (w : World) (P : Int) (v u : Value) (n m : Nat) (zs fs : List Int) (a b : Int) (hn : n ≤ 1048576) (_ : m ≤ 1048576) (hr : Row 3 w v n (IV zs)) (hf : Row 1 w u m (IV fs)) (s : Int) (hs : FSz P n zs m fs a b s) :
    Calls Try.prog 51 #[Nv P v, u, .int .i64 a, .int .i64 b] w (Gives w (.int .i64 s)) := by
  obtain ⟨av, ca, rfl⟩ := hr.shape
  obtain ⟨w0, hw0⟩ : ∃ w0, w.alloc (.cells #[.int .i64 P, .slice av n ca] TN) = w0 := ⟨_, rfl⟩
  have B0 : Below w.heap.size w w0 := hw0 ▸ below_al (Below.refl _ _) _
  have HX : Hid (Blk w0 w.heap.size TN #[.int .i64 P, .slice av n ca]) := Lib.hid (hw0 ▸ Blk.new w TN #[.int .i64 P, .slice av n ca])
  have HR := Lib.hid (hr.keep B0)
  have HF := Lib.hid (hf.keep B0)
  have HB := Lib.hid B0
  have HS := Lib.hid hs
  obtain ⟨p0, p1⟩ := stNet.blk_ HX.out
  clear hr hf B0 hs
  by_cases fk : FK P n zs m fs a b
  · have FKH := Lib.hid fk
    obtain rfl : m = n := fk.2.1
    have hm20 := fk.1.1.2.2.1
    have HSZ := Lib.hid (HS.out.1 fk)
    clear fk
    go_enter Try.func51, Try.ntmps51
    go_wp2_with fail
    refine (impl_fok _ _ _ _ m m zs fs a b (by omega) HR.out HF.out true ⟨fun _ => FKH.out, fun _ => rfl⟩).mono ?_; rintro e w1 ⟨rfl, hb1⟩
    have hX1 := HX.out.step hb1
    have HL := Lib.hid hb1
    clear hb1 p0 p1 hw0
    obtain ⟨p0, p1⟩ := stNet.blk_ hX1
    clear hX1
    go_wp2_with fail
    refine (impl_fout _ _ _ _ m zs fs a (by omega) (HR.out.keep HL.out) (HF.out.keep HL.out) (fun j hj => (FKH.out.1.1.2.2.2 j hj).2.2.1) FKH.out.cap).mono ?_; rintro e w2 ⟨rfl, hb2⟩
    have L2 := Lib.hid (below_step HL.out hb2)
    clear hb2 p0 p1 HS
    have hsz := HSZ.out
    clear HSZ
    generalize Go.Proofs.Ytilabfmnaegidaa.flw.nt (pF zs) (pT zs) (gd fs) a m = x at hsz ⊢
    have HSZ := Lib.hid hsz
    clear hsz
    rcases (show x < -1 ∨ x = -1 ∨ -1 < x from by omega) with hx | hx | hx
    · have e := HSZ.out
      rw [if_neg (by omega)] at e
      subst e
      go_wp2
      go_ret
      exact ⟨rfl, HB.out.trans (L2.out.mono HB.out.size)⟩
    · have e := HSZ.out
      rw [if_neg (by omega)] at e
      subst hx
      subst e
      go_wp2
      go_ret
      exact ⟨rfl, HB.out.trans (L2.out.mono HB.out.size)⟩
    · have e := HSZ.out
      rw [if_pos (by omega)] at e
      subst e
      have hx2 : ¬ s < -1 := by omega
      go_wp2
      go_ret
      exact ⟨rfl, HB.out.trans (L2.out.mono HB.out.size)⟩
  · have hsz := HS.out.2 fk
    have FKH := Lib.hid fk
    clear fk
    go_enter Try.func51, Try.ntmps51
    go_wp2_with fail
    refine (impl_fok _ _ _ _ n m zs fs a b (by omega) HR.out HF.out false ⟨fun h => (by cases h), fun h => absurd h FKH.out⟩).mono ?_; rintro e w1 ⟨rfl, hb1⟩
    go_wp2
    go_ret
    exact ⟨by rw [hsz]; rfl, HB.out.trans (hb1.mono HB.out.size)⟩
end Go.Proofs.Ytilabfmnaegidaa.fl_
