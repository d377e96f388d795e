/- FnChains returns true. -/
import Derived.Test.YtmffhogefchpbaaChnQ
import Derived.Test.YtmffhogefchpbaaChnD
import Derived.Test.YtmffhogefchpbaaChnH
import Derived.Test.YtmffhogefchpbaaAt
import Derived.BigQuiet
set_option linter.unusedVariables false
namespace Go.Proofs.Ytmffhogefchpbaa.wFnChains
open Go.RowKit Go.Proofs.Ytmffhogefchpbaa.kit Go.Proofs.Ytmffhogefchpbaa.lawi Go.Proofs.Ytmffhogefchpbaa.own Go.Proofs.Ytmffhogefchpbaa.rainl Go.Proofs.Ytmffhogefchpbaa.rain Go.Proofs.Ytmffhogefchpbaa.cis Go.Proofs.Ytmffhogefchpbaa.chl Go.Proofs.Ytmffhogefchpbaa.chn Go.Proofs.Ytmffhogefchpbaa.draw Go.Proofs.Ytmffhogefchpbaa.at_
/-- The drawn chain, the chain poured into, and both variables. -/
structure FC (w W : World) (g1 g2 : Nat) (vC vI uC uI : Value) (n : Nat) (zs ns ys : List Int) : Prop where
  bc : Blk W g1 TC #[vC, vI]
  bx : Blk W g2 TC #[uC, uI]
  rC : Row 2 W vC n (IV zs)
  rI : Row 1 W vI n (IV ns)
  xC : Row 2 W uC n (IV ys)
  xI : Row 1 W uI n (IV ns)
  bl : Below w.heap.size w W
theorem FC.keep {w W W' : World} {g1 g2 : Nat} {vC vI uC uI : Value} {n : Nat} {zs ns ys : List Int} (h : FC w W g1 g2 vC vI uC uI n zs ns ys) (hb : Below W.heap.size W W') : FC w W' g1 g2 vC vI uC uI n zs ns ys :=
  ⟨h.bc.step hb, h.bx.step hb, h.rC.keep hb, h.rI.keep hb, h.xC.keep hb, h.xI.keep hb, below_step h.bl hb⟩
/-- A row of one block that the call made. -/
theorem own_of_blk {w : World} {base g : Nat} {e : TypeId} {size n : Nat} {xs : Array Value} (h : Blk w g e xs) (hb : base ≤ g) (hn : xs.size = n * size) (hm : n ≤ 1000000) : w.ownsRow base e size (.slice (some ⟨g, 0, none⟩) n n) n xs.toList :=
  ⟨by simpa using hn, .inr ⟨g, n, xs, rfl, hb, h, Nat.le_refl _, by unfold maxLen; omega, hn, by rw [← hn]; exact List.take_of_length_le (by simp)⟩⟩
set_option maxRecDepth 10000000 in
set_option maxHeartbeats 4000000 in
theorem walk (w : World) (a0 : Option Addr) (len0 cap0 : Nat) (z0 : List Int) (w0 : IsRow .u8 w a0 len0 cap0 z0) :
    Calls Try.prog 3 #[.slice a0 len0 cap0] w fun e w' => e = .returned (.bool true) ∧ Below w.heap.size w w' := by
  by_cases hbig : 1048576 < len0
  · go_enter Try.func3, Try.ntmps3
    go_wp2_with fail
    refine (big_yes _ _ _ _ hbig).mono ?_; rintro e w1 ⟨rfl, rfl⟩
    go_wp2
    go_ret
    exact ⟨rfl, Below.refl _ _⟩
  · have hlen : len0 ≤ 1048576 := by omega
    have hby := w0.bytes
    have hlow : ∀ x, a0 = some x → 0 < len0 → x.block < w.heap.size := w0.lt
    have HL := Lib.hid hlow
    clear hbig w0 hlow
    go_enter Try.func3, Try.ntmps3
    go_wp2_with fail
    refine (big_no _ _ _ _ hlen).mono ?_; rintro e w1 ⟨rfl, rfl⟩
    go_wp2_with fail
    refine (drawChain _ _ _ _ hby hlen HL.out).mono ?_; rintro e w1 ⟨n, zs, ns, vC, vI, rfl, n1, n6, hF, rC, rI, B⟩
    obtain ⟨aC, cC, rfl⟩ := rC.shape
    obtain ⟨aI, cI, rfl⟩ := rI.shape
    have ok := hF.ok n1 (by omega)
    have B1 : Below w1.heap.size w1 (w1.alloc (.cells #[.slice aC n cC, .slice aI n cI] TC)) := below_al (Below.refl _ _) _
    have by1 : Bytes (w1.alloc (.cells #[.slice aC n cC, .slice aI n cI] TC)) a0 len0 := bytes_step (bytes_step hby B) B1
    have X1 := Blk.new w1 TC #[.slice aC n cC, .slice aI n cI]
    have RC := Lib.hid (rC.keep B1)
    have RI := Lib.hid (rI.keep B1)
    have BL := Lib.hid (below_step B B1)
    have HO := Lib.hid ok
    have HX1 := Lib.hid X1
    have HF := Lib.hid hF
    obtain ⟨p0, p1, _⟩ := blk2 X1
    clear hby HL hF rC rI B ok B1 X1
    have hn0 : ((n : Int) == 0) = false := by simp; omega
    go_wp2
    have by2 := bytes_step by1 (below_dr (Below.refl _ _))
    refine wp_region_held_drew (S := fun W => W.cell? ⟨w1.heap.size, 1, none⟩ = some (.slice aI n cI)) (by kernel_rfl) p1 (fun hHeld => ?_)
    refine takeH 0 (by simp only [List.getElem?_toArray, List.getElem?_cons_zero]; rfl) (by kernel_rfl) (by kernel_rfl) (by kernel_rfl) (by rfl) (by intro w hSw; (try dsimp only at hSw); go_simp; first | done | with_reducible rfl) (by intro _ _ _ h; exact h) (by assumption) ?_
    (try simp only [Act.put, List.setIfInBounds_toArray, List.set_cons_zero, List.set_cons_succ])
    refine takeH 2 (by simp only [List.getElem?_toArray, List.getElem?_cons_succ, List.getElem?_cons_zero]; rfl) (by kernel_rfl) (by kernel_rfl) (by kernel_rfl) (by rfl) (by intro w hSw; (try dsimp only at hSw); go_simp; first | done | with_reducible rfl) (by intro _ _ _ h; exact h) (by assumption) ?_
    (try simp only [Act.put, List.setIfInBounds_toArray, List.set_cons_zero, List.set_cons_succ])
    refine takeH 3 (by simp only [List.getElem?_toArray, List.getElem?_cons_succ, List.getElem?_cons_zero]; rfl) (by kernel_rfl) (by kernel_rfl) (by kernel_rfl) (by rfl) (by intro w hSw; (try dsimp only at hSw); go_simp; first | done | with_reducible rfl) (by intro _ _ _ h; exact h) (by assumption) ?_
    (try simp only [Act.put, List.setIfInBounds_toArray, List.set_cons_zero, List.set_cons_succ])
    refine takeH 4 (by simp only [List.getElem?_toArray, List.getElem?_cons_succ, List.getElem?_cons_zero]; rfl) (by kernel_rfl) (by kernel_rfl) (by kernel_rfl) (by rfl) (by intro w hSw; (try dsimp only at hSw); go_simp; first | done | with_reducible rfl) (by intro _ _ _ h; exact h) (by assumption) ?_
    (try simp only [Act.put, List.setIfInBounds_toArray, List.set_cons_zero, List.set_cons_succ])
    refine wpAnyH_ready (rs := [1]) (by kernel_rfl) (by simp) (AllReadyH.cons (by simp only [List.getElem?_toArray, List.getElem?_cons_succ, List.getElem?_cons_zero]; rfl) (fun K hK => ?_) AllReadyH.nil)
    go_simp
    go_at_call 12
    refine (at_any _ _ _ _ 0 (by omega) (by omega) by2 hlen).mono ?_; rintro e w2 ⟨A, rfl, A0, A1, rfl⟩
    (try go_simp)
    refine hK.out _ _ (p1) (fun hHeld => ?_)
    clear hK K
    (try simp only [Act.put, List.setIfInBounds_toArray, List.set_cons_zero, List.set_cons_succ])
    obtain ⟨k, hk⟩ : ∃ k, A.tmod (n : Int) = k := ⟨_, rfl⟩
    have hn : ¬ n = 0 := by omega
    have hin : In n k := by
      rw [← hk, Int.tmod_eq_emod_of_nonneg A0]
      exact ⟨Int.emod_nonneg _ (by omega), Int.emod_lt_of_pos _ (by omega)⟩
    refine takeH 5 (by simp only [List.getElem?_toArray, List.getElem?_cons_succ, List.getElem?_cons_zero]; rfl) (by kernel_rfl) (by kernel_rfl) (by kernel_rfl) (by rfl) (by intro w hSw; (try dsimp only at hSw); go_simp; first | done | with_reducible rfl) (by intro _ _ _ h; exact h) (by assumption) ?_
    (try simp only [Act.put, List.setIfInBounds_toArray, List.set_cons_zero, List.set_cons_succ])
    refine takeH 6 (by simp only [List.getElem?_toArray, List.getElem?_cons_succ, List.getElem?_cons_zero]; rfl) (by kernel_rfl) (by kernel_rfl) (by kernel_rfl) (by rfl) (by intro w hSw; (try dsimp only at hSw); go_simp; first | done | with_reducible rfl) (by intro _ _ _ h; exact h) (by assumption) ?_
    (try simp only [Act.put, List.setIfInBounds_toArray, List.set_cons_zero, List.set_cons_succ])
    refine wpAnyH_done (by kernel_rfl) ?_ _
    clear hHeld hn hn0 A0 A1 by2
    have by2 := bytes_step by1 (below_dr (Below.refl _ _))
    have p0d := keep1 p0 (below_dr (Below.refl _ _))
    have p1d := keep1 p1 (below_dr (Below.refl _ _))
    have RC := Lib.hid (RC.out.keep (below_dr (Below.refl _ _)))
    have RI := Lib.hid (RI.out.keep (below_dr (Below.refl _ _)))
    have BL := Lib.hid (below_dr BL.out)
    have HX1 := Lib.hid (HX1.out.drew)
    clear p0 p1 hk
    obtain ⟨W2, hW2⟩ : ∃ W2, (w1.alloc (.cells #[.slice aC n cC, .slice aI n cI] TC)).drew = W2 := ⟨_, rfl⟩
    rw [hW2] at by2 p0d p1d RC RI BL HX1 ⊢
    clear hW2 by1
    go_wp2_with fail
    refine (at_any _ _ _ _ 1 (by omega) (by omega) by2 hlen).mono ?_; rintro e w2 ⟨A2, rfl, A20, A21, rfl⟩
    obtain ⟨X, hX⟩ : ∃ X, A2 * 3 = X := ⟨_, rfl⟩
    have hx : Wok X := ⟨by omega, by omega⟩
    have hX7 : X ≤ 765 := by omega
    clear by2
    obtain ⟨M, hM1, hM, hE⟩ := Leads.ex HO.out.2.2.2.2.1 HO.out.2.2.2.2.2 hin
    have HK := Lib.hid hin
    have HE := Lib.hid hE
    have HX := Lib.hid hx
    obtain ⟨P, hP⟩ : ∃ P, pst ns n k zs X M = P := ⟨_, rfl⟩
    have h1 := impl_pinto_yes W2 (.slice aC n cC) (.slice aI n cI) n n zs ns k X M RC.out RI.out HO.out hin hx hM1 hM hE
    rw [hP] at h1
    have HP := Lib.hid hP
    clear hE hin hx hP
    go_wp2_with fail
    clear A20 A21
    go_wp2_with fail
    refine (h1).mono ?_; rintro e w3 ⟨u0, u1, lo0, hi0, lo1, hi1, rfl, ⟨o0, l0⟩, ⟨o1, l1⟩, hd, hb⟩
    dsimp only
    obtain ⟨bC, dC, rfl⟩ := own_shape o0.1
    obtain ⟨bI, dI, rfl⟩ := own_shape o1.1
    have B3 : Below w3.heap.size w3 (w3.alloc (.cells #[.slice bC n dC, .slice bI n dI] TC)) := below_al (Below.refl _ _) _
    have F : FC w (w3.alloc (.cells #[.slice bC n dC, .slice bI n dI] TC)) w1.heap.size w3.heap.size (.slice aC n cC) (.slice aI n cI) (.slice bC n dC) (.slice bI n dI) n zs ns P.1 :=
      ⟨(HX1.out.step hb).step B3, Blk.new _ _ _, (RC.out.keep hb).keep B3, (RI.out.keep hb).keep B3, o0.row.keep B3, o1.row.keep B3, below_step (below_step BL.out hb) B3⟩
    obtain ⟨p0, p1, _⟩ := blk2 F.bc
    have FF := Lib.hid F
    have HQ := Lib.hid hX
    clear B3 F o0 o1 l0 l1 hd hb HX1 RC RI BL h1 p0d p1d hX
    have hzl : zs.length = n * 2 := HF.out.lz
    go_wp2_with fail
    refine (impl_tl_yes _ _ _ n n zs ns FF.out.rC FF.out.rI HO.out).mono ?_; rintro e w4 ⟨rfl, hb⟩
    obtain ⟨p0, p1, _⟩ := blk2 (FF.out.keep hb).bc
    have FF := Lib.hid (FF.out.keep hb)
    clear hb
    go_wp2_with fail
    refine (impl_room_yes _ _ _ n n zs ns k M FF.out.rC FF.out.rI HO.out HK.out hM HE.out).mono ?_; rintro e w5 ⟨rfl, hb⟩
    obtain ⟨p0, p1, _⟩ := blk2 (FF.out.keep hb).bc
    have FF := Lib.hid (FF.out.keep hb)
    clear hb
    go_wp2_with fail
    refine (impl_way_yes _ _ _ n n zs ns k M FF.out.rC FF.out.rI HO.out HK.out hM HE.out).mono ?_; rintro e w6 ⟨vW, rfl, ow, hb⟩
    obtain ⟨p0, p1, _⟩ := blk2 (FF.out.keep hb).bc
    obtain ⟨q0, q1, _⟩ := blk2 (FF.out.keep hb).bx
    have FF := Lib.hid (FF.out.keep hb)
    obtain ⟨aW, cW, rfl⟩ := own_shape ow
    have RW := Lib.hid (Row.of_own ow)
    clear hb ow
    obtain ⟨Y, L⟩ := P
    have hPY : (pst ns n k zs X M).1 = Y := by rw [HP.out]
    have hPL : (pst ns n k zs X M).2 = L := by rw [HP.out]
    have okY : CO Y n ns n := by rw [← hPY]; exact HO.out.poured HE.out HX.out.1 hzl
    have hTT := pst_tl (zs := zs) (x := X) HE.out hzl M (Nat.le_refl _)
    have hT1 := tl_bd HO.out.2.2.2.1 n (Nat.le_refl _)
    have hT2 := tl_bd okY.2.2.2.1 n (Nat.le_refl _)
    have hW := pst_water HE.out HO.out.2.2.2.1 HX.out.1 M (Nat.le_refl _)
    have hR := room_bd HO.out.2.2.2.1 HE.out.1 M (Nat.le_refl _)
    rw [hPY, hPL] at hTT
    rw [hPL, U] at hW
    obtain ⟨T, hT⟩ : ∃ T, tl zs n = T := ⟨_, rfl⟩
    obtain ⟨T2, hT2'⟩ : ∃ T2, tl Y n = T2 := ⟨_, rfl⟩
    obtain ⟨R, hRr⟩ : ∃ R, room zs ns n k M = R := ⟨_, rfl⟩
    rw [hT] at hT1 hTT ⊢
    rw [hT2'] at hT2 hTT
    rw [hRr] at hR hW ⊢
    have hL0 : 0 ≤ L ∧ L ≤ 765 ∧ (0 < X - R ∧ L = X - R ∨ ¬ 0 < X - R ∧ L = 0) := by
      split at hW <;> omega
    have dT : decide (T < 0) = false := decide_eq_false (by omega)
    have dL : decide (L < 0) = false := decide_eq_false (by omega)
    have HOY := Lib.hid okY
    have HPY := Lib.hid hPY
    dsimp only at FF
    clear okY hPY hPL hW hRr hT
    dsimp only
    go_wp2_with fail
    refine (impl_tl_yes _ _ _ n n Y ns FF.out.xC FF.out.xI HOY.out).mono ?_; rintro e w7 ⟨rfl, hb⟩
    rw [hT2']
    obtain ⟨S, hS⟩ : ∃ S, T + X = S := ⟨_, rfl⟩
    have hTS : T2 + L = S := by omega
    have FF := Lib.hid (FF.out.keep hb)
    have RW := Lib.hid (RW.out.keep hb)
    obtain ⟨p0, p1, _⟩ := blk2 FF.out.bc
    obtain ⟨q0, q1, _⟩ := blk2 FF.out.bx
    obtain ⟨b2, o2, e2, h2⟩ := RW.out.at_ (by omega)
    cases e2
    have g0 := h2 0 _ (getI (by rw [wy_len]; omega))
    rw [wy_at k (by omega), it] at g0
    simp only [Nat.add_zero] at g0
    have hM0 : ((M : Int) == 0) = false := by simp; omega
    obtain ⟨V, hV⟩ : ∃ V, X - R = V := ⟨_, rfl⟩
    clear hb hTT h2 hT2'
    have hmax : (if 0 < V then V else 0) = L := by
      obtain ⟨_, _, ⟨a, b⟩ | ⟨a, b⟩⟩ := hL0
      · rw [if_pos (by omega)]; omega
      · rw [if_neg (by omega)]; omega
    have hmax2 : (if V < 0 then 0 else V) = L := by
      obtain ⟨_, _, ⟨a, b⟩ | ⟨a, b⟩⟩ := hL0
      · rw [if_neg (by omega)]; omega
      · split <;> omega
    go_wp2
    clear p0 p1 q0 q1 g0 hM0 hV hmax hmax2 hS hTS hL0 dT dL hT1 hT2 hR hX7
    go_loopg [11] M (fun g s11 wr => ∃ i : Nat, i + g = M ∧ s11 = .int .i64 i ∧ FC w wr w1.heap.size w3.heap.size (.slice aC n cC) (.slice aI n cI) (.slice bC n dC) (.slice bI n dI) n zs ns Y ∧ Row 1 wr (.slice (some ⟨b2, o2, none⟩) M cW) M (IV (wy ns n k M)))
    case atStart => exact ⟨0, by omega, rfl, FF.out, RW.out⟩
    case round =>
      clear FF RW
      obtain ⟨i, hig, rfl, F, R1⟩ := hrel
      by_cases hlt : i < M
      · obtain ⟨gk, rfl⟩ : ∃ g', gk = g' + 1 := ⟨gk - 1, by omega⟩
        have hin := HE.out.1 i hlt
        have hnx := it_step hin
        obtain ⟨D, hD⟩ : ∃ D : Nat, it ns n k i = D := ⟨(it ns n k i).toNat, by have := hin.1; omega⟩
        rw [hD] at hin hnx
        rw [Int.toNat_natCast] at hnx
        obtain ⟨hin0, hin1⟩ := hin
        have hDn : D < n := by omega
        obtain ⟨b3, o3, e3, h3⟩ := R1.at_ (by omega)
        cases e3
        have g0 := h3 i _ (getI (by rw [wy_len]; omega))
        rw [wy_at k hlt, hD] at g0
        obtain ⟨b4, o4, e4, h4⟩ := F.rI.at_ (by omega)
        cases e4
        have g1 := h4 D _ (getI (by rw [HF.out.ln]; omega))
        obtain ⟨z, hz⟩ : ∃ z, ns.getD D 0 = z := ⟨_, rfl⟩
        rw [hz] at g1 hnx
        obtain ⟨p0, p1, _⟩ := blk2 F.bc
        have FF := Lib.hid F
        have RW := Lib.hid R1
        have d1 : decide ((D : Int) < 0) = false := decide_eq_false (by omega)
        have d2 : decide (n ≤ D) = false := decide_eq_false (by omega)
        obtain ⟨J, hJ⟩ : ∃ J, i + 1 = J := ⟨_, rfl⟩
        have e1 : IntKind.i64.wrap ((i : Int) + 1) = (J : Int) := by rw [← hJ]; exact IntWalk.i64_in _ (by omega)
        by_cases hend : i + 1 < M
        · have g2 := h3 (i + 1) _ (getI (by rw [wy_len]; omega))
          rw [wy_at k hend, hnx] at g2
          rw [hJ] at g2
          have hJM : J < M := by omega
          have d3 : decide (J < M) = true := decide_eq_true (by omega)
          have d3' : decide ((J : Int) < M) = true := decide_eq_true (by omega)
          have d4 : ((J : Int) == M) = false := by simp; omega
          have d4' : (J == M) = false := by simp; omega
          have HJ := Lib.hid hJ
          clear hJ h3 h4 F R1 hD hnx hz
          go_wp2
          go_quiet (fail)
          go_wp2
          go_roundg gk
          case rel => exact ⟨J, by have := HJ.out; omega, rfl, FF.out.keep (below_drN (Below.refl _ _) _), RW.out.keep (below_drN (Below.refl _ _) _)⟩
          case measure => omega
        · have hz1 : z = -1 := by rw [← hnx, show i + 1 = M by omega]; exact HE.out.2
          subst hz1
          have d3 : decide (J < M) = false := decide_eq_false (by omega)
          have d3' : decide ((J : Int) < M) = false := decide_eq_false (by omega)
          have d4 : ((J : Int) == M) = true := by simp; omega
          have d4' : (J == M) = true := by simp; omega
          have HJ := Lib.hid hJ
          clear hJ h3 h4 F R1 hD hnx hz
          go_wp2
          go_quiet (fail)
          go_wp2
          go_roundg gk
          case rel => exact ⟨J, by have := HJ.out; omega, rfl, FF.out.keep (below_drN (Below.refl _ _) _), RW.out.keep (below_drN (Below.refl _ _) _)⟩
          case measure => omega
      · obtain rfl : i = M := by omega
        have FF := Lib.hid F
        have RW := Lib.hid R1
        obtain ⟨p0, p1, _⟩ := blk2 F.bc
        clear F R1
        go_wp2
        clear p0 p1
        go_loopg [12] n (fun g s12 wr => ∃ j : Nat, j + g = n ∧ s12 = .int .i64 j ∧ FC w wr w1.heap.size w3.heap.size (.slice aC n cC) (.slice aI n cI) (.slice bC n dC) (.slice bI n dI) n zs ns Y ∧ Row 1 wr (.slice (some ⟨b2, o2, none⟩) i cW) i (IV (wy ns n k i)))
        case atStart => exact ⟨0, by omega, rfl, FF.out, RW.out⟩
        case round =>
          clear FF RW
          obtain ⟨j, hjg, rfl, F, R1⟩ := hrel
          by_cases hlt2 : j < n
          · obtain ⟨gk, rfl⟩ : ∃ g', gk = g' + 1 := ⟨gk - 1, by omega⟩
            obtain ⟨b4, o4, e4, h4⟩ := F.rC.at_ (by omega)
            cases e4
            obtain ⟨b5, o5, e5, h5⟩ := F.xC.at_ (by omega)
            cases e5
            have hYl : Y.length = n * 2 := by rw [← HPY.out, pst_len, hzl]
            have g1 := h4 (j * 2 + 1) _ (getI (by omega))
            have g2 := h5 (j * 2 + 1) _ (getI (by omega))
            rw [← Nat.add_assoc] at g1 g2
            have hlv := pst_lvl HE.out HO.out.2.2.2.1 HX.out.1 hzl i (Nat.le_refl _) j hlt2
            have hout := pst_out (ns := ns) (n := n) (k := k) (zs := zs) (x := X) j i
            rw [HPY.out] at hlv hout
            obtain ⟨l, hl⟩ : ∃ l, zs.getD (j * 2 + 1) 0 = l := ⟨_, rfl⟩
            obtain ⟨l2, hl2⟩ : ∃ l2, Y.getD (j * 2 + 1) 0 = l2 := ⟨_, rfl⟩
            rw [hl] at g1 hlv hout
            rw [hl2] at g2 hlv hout
            obtain ⟨p0, p1, _⟩ := blk2 F.bc
            obtain ⟨q0, q1, _⟩ := blk2 F.bx
            have d1 : decide (l2 < l) = false := decide_eq_false (by omega)
            have FF := Lib.hid F
            have RW := Lib.hid R1
            obtain ⟨b, hb⟩ : ∃ b : Bool, b = true ↔ ∃ a, a < i ∧ (wy ns n k i).getD a 0 = (j : Int) := by
              by_cases q : ∃ a, a < i ∧ (wy ns n k i).getD a 0 = (j : Int)
              · exact ⟨true, fun _ => q, fun _ => rfl⟩
              · exact ⟨false, fun e => (by cases e), fun e => absurd e q⟩
            have hne : b = false → (l2 != l) = false := fun e => by
              have : ¬ ∃ a, a < i ∧ (wy ns n k i).getD a 0 = (j : Int) := fun q => by rw [hb.2 q] at e; cases e
              have : l2 = l := hout fun a ha e2 => this ⟨a, ha, by
                rw [wy_at k ha]
                have := (HE.out.1 a ha).1
                omega⟩
              simp [this]
            have hcall := fun q : Nat => has_any (wr.drewN q) (.slice (some ⟨b2, o2, none⟩) i cW) i (wy ns n k i) (j : Int) (by omega) (R1.keep (below_drN (Below.refl _ _) q)) b hb
            have HC := Lib.hid hcall
            clear h4 h5 hlv hout hl hl2 hb hcall F R1
            go_wp2
            cases b
            · have t := hne rfl
              clear hne
              go_quiet ((go_at_call 17; refine Calls.quiet_of_same ((HC.out _).mono fun _ _ ⟨h1, h2⟩ => ⟨h1, h2.symm⟩)))
              go_wp2
              go_roundg gk
              case rel => exact ⟨j + 1, by omega, by simp, FF.out.keep (below_drN (Below.refl _ _) _), RW.out.keep (below_drN (Below.refl _ _) _)⟩
              case measure => omega
            · clear hne
              go_quiet ((go_at_call 17; refine Calls.quiet_of_same ((HC.out _).mono fun _ _ ⟨h1, h2⟩ => ⟨h1, h2.symm⟩)))
              go_wp2
              go_roundg gk
              case rel => exact ⟨j + 1, by omega, by simp, FF.out.keep (below_drN (Below.refl _ _) _), RW.out.keep (below_drN (Below.refl _ _) _)⟩
              case measure => omega
          · obtain rfl : j = n := by omega
            have FF := Lib.hid F
            have RW := Lib.hid R1
            obtain ⟨p0, p1, _⟩ := blk2 F.bc
            obtain ⟨q0, q1, _⟩ := blk2 F.bx
            clear F R1
            go_wp2
            clear p0 p1 q0 q1
            go_loopg [13] (i - 1) (fun g s13 wr => ∃ q : Nat, q + g = i ∧ 1 ≤ q ∧ s13 = .int .i64 q ∧ FC w wr w1.heap.size w3.heap.size (.slice aC j cC) (.slice aI j cI) (.slice bC j dC) (.slice bI j dI) j zs ns Y ∧ Row 1 wr (.slice (some ⟨b2, o2, none⟩) i cW) i (IV (wy ns j k i)))
            case atStart => exact ⟨1, by omega, by omega, rfl, FF.out, RW.out⟩
            case round =>
              clear FF RW
              obtain ⟨q, hqg, hq1, rfl, F, R1⟩ := hrel
              by_cases hlt3 : q < i
              · obtain ⟨gk, rfl⟩ : ∃ g', gk = g' + 1 := ⟨gk - 1, by omega⟩
                obtain ⟨a, rfl⟩ : ∃ a, q = a + 1 := ⟨q - 1, by omega⟩
                have e1 : IntKind.i64.wrap (((a + 1 : Nat) : Int) - 1) = (a : Int) := by
                  rw [show ((a + 1 : Nat) : Int) - 1 = a by omega]; exact IntWalk.i64_in _ (by omega)
                have e1' : IntKind.i64.wrap (a : Int) = (a : Int) := IntWalk.i64_in _ (by omega)
                have hin := HE.out.1 a (by omega)
                have hin2 := HE.out.1 (a + 1) hlt3
                have hfull := pst_full HE.out HO.out.2.2.2.1 HX.out.1 hzl hlt3
                obtain ⟨D, hD⟩ : ∃ D : Nat, it ns j k a = D := ⟨(it ns j k a).toNat, by have := hin.1; omega⟩
                obtain ⟨E, hE2⟩ : ∃ E : Nat, it ns j k (a + 1) = E := ⟨(it ns j k (a + 1)).toNat, by have := hin2.1; omega⟩
                rw [hD] at hin hfull
                rw [hE2] at hin2 hfull
                rw [HPY.out, Int.toNat_natCast, Int.toNat_natCast] at hfull
                obtain ⟨hin0, hin1⟩ := hin
                obtain ⟨hin20, hin21⟩ := hin2
                have hDn : D < j := by omega
                have hEn : E < j := by omega
                have haM : a < i := by omega
                obtain ⟨b3, o3, e3, h3⟩ := R1.at_ (by omega)
                cases e3
                obtain ⟨b4, o4, e4, h4⟩ := F.rC.at_ (by omega)
                cases e4
                obtain ⟨b5, o5, e5, h5⟩ := F.xC.at_ (by omega)
                cases e5
                have hYl : Y.length = j * 2 := by rw [← HPY.out, pst_len, hzl]
                have g0 := h3 a _ (getI (by rw [wy_len]; omega))
                rw [wy_at k haM, hD] at g0
                have g1 := h3 (a + 1) _ (getI (by rw [wy_len]; omega))
                rw [wy_at k hlt3, hE2] at g1
                have g2 := h5 (D * 2) _ (getI (by omega))
                have g3 := h5 (D * 2 + 1) _ (getI (by omega))
                have g4 := h5 (E * 2 + 1) _ (getI (by omega))
                have g5 := h4 (E * 2 + 1) _ (getI (by omega))
                obtain ⟨r1, hr1⟩ : ∃ r, Y.getD (D * 2) 0 = r := ⟨_, rfl⟩
                obtain ⟨l1, hl1⟩ : ∃ r, Y.getD (D * 2 + 1) 0 = r := ⟨_, rfl⟩
                obtain ⟨l2, hl2⟩ : ∃ r, Y.getD (E * 2 + 1) 0 = r := ⟨_, rfl⟩
                obtain ⟨l0, hl0⟩ : ∃ r, zs.getD (E * 2 + 1) 0 = r := ⟨_, rfl⟩
                rw [hl0, hl2, hl1, hr1] at hfull
                rw [hr1] at g2
                rw [hl1] at g3
                rw [hl2] at g4
                rw [hl0] at g5
                rw [← Nat.add_assoc] at g3 g4 g5
                obtain ⟨p0, p1, _⟩ := blk2 F.bc
                obtain ⟨q0, q1, _⟩ := blk2 F.bx
                have FF := Lib.hid F
                have RW := Lib.hid R1
                clear hD hE2 hr1 hl1 hl2 hl0 h3 h4 h5 F R1
                go_wp2
                refine wp_region_held_drew (S := fun W => W.cell? ⟨w3.heap.size, 0, none⟩ = some (.slice (some ⟨b5, o5, none⟩) j dC) ∧ W.cell? ⟨b2, o2 + a, none⟩ = some (.int .i64 D) ∧ W.cell? ⟨b5, o5 + D * 2, none⟩ = some (.int .i64 r1) ∧ W.cell? ⟨b5, o5 + D * 2 + 1, none⟩ = some (.int .i64 l1)) (by kernel_rfl) ⟨q0, g0, g2, g3⟩ (fun hHeld => ?_)
                refine takeH 0 (by simp only [List.getElem?_toArray, List.getElem?_cons_zero]; rfl) (by kernel_rfl) (by kernel_rfl) (by kernel_rfl) (by rfl) (by intro w hSw; (try dsimp only at hSw); go_simp; first | done | with_reducible rfl) (by intro _ _ _ h; exact h) (by assumption) ?_
                (try simp only [Act.put, List.setIfInBounds_toArray, List.set_cons_zero, List.set_cons_succ])
                refine takeH 1 (by simp only [List.getElem?_toArray, List.getElem?_cons_succ, List.getElem?_cons_zero]; rfl) (by kernel_rfl) (by kernel_rfl) (by kernel_rfl) (by rfl) (by intro w hSw; (try dsimp only at hSw); go_simp; first | done | with_reducible rfl) (by intro _ _ _ h; exact h) (by assumption) ?_
                (try simp only [Act.put, List.setIfInBounds_toArray, List.set_cons_zero, List.set_cons_succ])
                refine takeH 2 (by simp only [List.getElem?_toArray, List.getElem?_cons_succ, List.getElem?_cons_zero]; rfl) (by kernel_rfl) (by kernel_rfl) (by kernel_rfl) (by rfl) (by intro w hSw; (try dsimp only at hSw); go_simp; first | done | with_reducible rfl) (by intro _ _ _ h; exact h) (by assumption) ?_
                (try simp only [Act.put, List.setIfInBounds_toArray, List.set_cons_zero, List.set_cons_succ])
                refine takeH 3 (by simp only [List.getElem?_toArray, List.getElem?_cons_succ, List.getElem?_cons_zero]; rfl) (by kernel_rfl) (by kernel_rfl) (by kernel_rfl) (by rfl) (by intro w hSw; (try dsimp only at hSw); go_simp; first | done | with_reducible rfl) (by intro _ _ _ h; exact h) (by assumption) ?_
                (try simp only [Act.put, List.setIfInBounds_toArray, List.set_cons_zero, List.set_cons_succ])
                refine takeH 4 (by simp only [List.getElem?_toArray, List.getElem?_cons_succ, List.getElem?_cons_zero]; rfl) (by kernel_rfl) (by kernel_rfl) (by kernel_rfl) (by rfl) (by intro w hSw; (try dsimp only at hSw); go_simp; first | done | with_reducible rfl) (by intro _ _ _ h; exact h) (by assumption) ?_
                (try simp only [Act.put, List.setIfInBounds_toArray, List.set_cons_zero, List.set_cons_succ])
                refine takeH 5 (by simp only [List.getElem?_toArray, List.getElem?_cons_succ, List.getElem?_cons_zero]; rfl) (by kernel_rfl) (by kernel_rfl) (by kernel_rfl) (by rfl) (by intro w hSw; (try dsimp only at hSw); go_simp; first | done | with_reducible rfl) (by intro _ _ _ h; exact h) (by assumption) ?_
                (try simp only [Act.put, List.setIfInBounds_toArray, List.set_cons_zero, List.set_cons_succ])
                refine takeH 6 (by simp only [List.getElem?_toArray, List.getElem?_cons_succ, List.getElem?_cons_zero]; rfl) (by kernel_rfl) (by kernel_rfl) (by kernel_rfl) (by rfl) (by intro w hSw; (try dsimp only at hSw); go_simp; first | done | with_reducible rfl) (by intro _ _ _ h; exact h) (by assumption) ?_
                (try simp only [Act.put, List.setIfInBounds_toArray, List.set_cons_zero, List.set_cons_succ])
                refine takeH 7 (by simp only [List.getElem?_toArray, List.getElem?_cons_succ, List.getElem?_cons_zero]; rfl) (by kernel_rfl) (by kernel_rfl) (by kernel_rfl) (by rfl) (by intro w hSw; (try dsimp only at hSw); go_simp; first | done | with_reducible rfl) (by intro _ _ _ h; exact h) (by assumption) ?_
                (try simp only [Act.put, List.setIfInBounds_toArray, List.set_cons_zero, List.set_cons_succ])
                refine takeH 8 (by simp only [List.getElem?_toArray, List.getElem?_cons_succ, List.getElem?_cons_zero]; rfl) (by kernel_rfl) (by kernel_rfl) (by kernel_rfl) (by rfl) (by intro w hSw; (try dsimp only at hSw); go_simp; first | done | with_reducible rfl) (by intro _ _ _ h; exact h) (by assumption) ?_
                (try simp only [Act.put, List.setIfInBounds_toArray, List.set_cons_zero, List.set_cons_succ])
                refine wpAnyH_ready (rs := [9]) (by kernel_rfl) (by simp) (AllReadyH.cons (by simp only [List.getElem?_toArray, List.getElem?_cons_succ, List.getElem?_cons_zero]; rfl) (fun K hK => ?_) AllReadyH.nil)
                go_simp
                refine hK.out _ _ (keep4 ⟨q0, g0, g2, g3⟩ (below_al (below_dr (Below.refl _ _)) _)) (fun hHeld => ?_)
                clear hK K
                (try simp only [Act.put, List.setIfInBounds_toArray, List.set_cons_zero, List.set_cons_succ])
                refine wpAnyH_ready (rs := [10]) (by kernel_rfl) (by simp) (AllReadyH.cons (by simp only [List.getElem?_toArray, List.getElem?_cons_succ, List.getElem?_cons_zero]; rfl) (fun K hK => ?_) AllReadyH.nil)
                go_simp
                refine hK.out _ _ (keep4 ⟨q0, g0, g2, g3⟩ (below_dr (below_al (Below.refl _ _) _))) (fun hHeld => ?_)
                clear hK K
                (try simp only [Act.put, List.setIfInBounds_toArray, List.set_cons_zero, List.set_cons_succ])
                refine wpAnyH_done (by kernel_rfl) ?_ _
                have hbB : Below wr.heap.size wr (wr.alloc (.cells #[.int .i64 r1, .int .i64 l1] 36)).drew := below_dr (below_al (Below.refl _ _) _)
                have hbX := (Blk.new wr 36 #[.int .i64 r1, .int .i64 l1]).drew
                have FF := Lib.hid (FF.out.keep hbB)
                have RW := Lib.hid (RW.out.keep hbB)
                replace g1 := keep1 g1 hbB
                replace g4 := keep1 g4 hbB
                replace g5 := keep1 g5 hbB
                replace p0 := keep1 p0 hbB
                replace q0 := keep1 q0 hbB
                clear hHeld g0 g2 g3 p1 q1 hbB
                obtain ⟨gz, hgz⟩ : ∃ gz, wr.heap.size = gz := ⟨_, rfl⟩
                obtain ⟨W9, hW9⟩ : ∃ W9, (wr.alloc (.cells #[.int .i64 r1, .int .i64 l1] 36)).drew = W9 := ⟨_, rfl⟩
                rw [hW9] at g1 g4 g5 p0 q0 hbX FF RW ⊢
                rw [hgz] at hbX ⊢
                obtain ⟨x0, x1, _⟩ := blk2 hbX
                clear hW9 hgz hbX
                by_cases hm : l0 < l2
                · have dG : decide (l2 > l0) = true := decide_eq_true hm
                  obtain rfl := hfull hm
                  clear hfull
                  go_wp2
                  go_quiet (fail)
                  go_wp2
                  go_roundg gk
                  case rel => exact ⟨a + 1 + 1, by omega, by omega, by simp, FF.out.keep (below_drN (Below.refl _ _) _), RW.out.keep (below_drN (Below.refl _ _) _)⟩
                  case measure => omega
                · have dG : decide (l2 > l0) = false := decide_eq_false hm
                  clear hfull
                  go_wp2
                  go_quiet (fail)
                  go_wp2
                  go_roundg gk
                  case rel => exact ⟨a + 1 + 1, by omega, by omega, by simp, FF.out.keep (below_drN (Below.refl _ _) _), RW.out.keep (below_drN (Below.refl _ _) _)⟩
                  case measure => omega
              · obtain rfl : q = i := by omega
                obtain ⟨p0, p1, _⟩ := blk2 F.bc
                obtain ⟨q0, q1, _⟩ := blk2 F.bx
                have FF := Lib.hid F
                clear F R1
                go_wp2_with fail
                refine (impl_chok_yes _ _ _ j j Y ns FF.out.xC FF.out.xI HOY.out).mono ?_; rintro e w8 ⟨rfl, hb⟩
                have FF := Lib.hid (FF.out.keep hb)
                obtain ⟨p0, p1, _⟩ := blk2 FF.out.bc
                clear hb
                go_wp2_with fail
                refine (impl_circ0 _ _ j ns (by omega) FF.out.rI HO.out.2.2.2.2.2).mono ?_; rintro e w9 ⟨v9, rfl, ho, hb⟩
                obtain ⟨a9, c9, rfl⟩ := own_shape ho
                have BL := Lib.hid (FF.out.keep hb).bl
                clear hb ho p0 p1 q0 q1 FF
                have r3 : Row 1 (w9.alloc (.cells #[.int .i64 1, .int .i64 0, .int .i64 0] 3)) (.slice (some ⟨w9.heap.size, 0, none⟩) 3 3) 3 (IV [1, 0, 0]) :=
                  .of_own (own_of_blk (Blk.new w9 3 #[.int .i64 1, .int .i64 0, .int .i64 0]) (Nat.zero_le _) rfl (by omega))
                have BL2 := below_al BL.out (.cells #[.int .i64 1, .int .i64 0, .int .i64 0] 3)
                go_wp2_with fail
                refine (impl_circ3 _ _ r3).mono ?_; rintro e w10 ⟨v10, rfl, ho, hb⟩
                have BL3 := below_step BL2 hb
                have R10 := (Row.of_own ho).keep (below_al (Below.refl _ _) (.cells #[.int .i64 0, .int .i64 1] 3))
                obtain ⟨a10, c10, rfl⟩ := own_shape ho
                have r2 : Row 1 (w10.alloc (.cells #[.int .i64 0, .int .i64 1] 3)) (.slice (some ⟨w10.heap.size, 0, none⟩) 2 2) 2 (IV [0, 1]) :=
                  .of_own (own_of_blk (Blk.new w10 3 #[.int .i64 0, .int .i64 1]) (Nat.zero_le _) rfl (by omega))
                have BL4 := below_al BL3 (.cells #[.int .i64 0, .int .i64 1] 3)
                clear r3 BL2 ho hb BL3
                go_wp2_with fail
                refine (same_yes _ _ _ 2 [0, 1] (by omega) R10 r2).mono ?_; rintro e w11 ⟨rfl, hb⟩
                go_wp2
                go_ret
                exact ⟨rfl, below_step BL4 hb⟩
end Go.Proofs.Ytmffhogefchpbaa.wFnChains
