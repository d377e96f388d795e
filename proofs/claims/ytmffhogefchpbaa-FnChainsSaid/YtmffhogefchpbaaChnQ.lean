/- Water poured into chains: the program. -/
import Derived.Test.YtmffhogefchpbaaChnP
import Derived.Test.YtmffhogefchpbaaChnI2
import Derived.Outline
namespace Go.Proofs.Ytmffhogefchpbaa.chn
open Go.RowKit Go.Proofs.Ytmffhogefchpbaa.kit Go.Proofs.Ytmffhogefchpbaa.lawi Go.Proofs.Ytmffhogefchpbaa.own Go.Proofs.Ytmffhogefchpbaa.rainl Go.Proofs.Ytmffhogefchpbaa.rain Go.Proofs.Ytmffhogefchpbaa.cis Go.Proofs.Ytmffhogefchpbaa.chl
theorem least (p : Nat → Prop) (h : ∃ n, p n) : ∃ n, p n ∧ ∀ m, p m → n ≤ m := by
  obtain ⟨n, hn⟩ := h
  induction n using Nat.strongRecOn with
  | _ n ih =>
    by_cases e : ∃ m, m < n ∧ p m
    · obtain ⟨m, hm, hp⟩ := e
      exact ih m hm hp
    · exact ⟨n, hn, fun m hm => Nat.le_of_not_lt fun hl => e ⟨m, hl, hm⟩⟩
open Classical in
noncomputable def lst (p : Nat → Prop) : Nat := if h : ∃ n, p n then Classical.choose (least p h) else 0
theorem lst_spec {p : Nat → Prop} (h : ∃ n, p n) : p (lst p) ∧ ∀ m, p m → lst p ≤ m := by
  unfold lst
  rw [dif_pos h]
  exact Classical.choose_spec (least p h)
/-- A label to which the scope's code goes back, each time with fewer rounds to come (the number named by the relation). -/
theorem scope_jumps {P : Program} {a : Act} {w : World} {Q : Exit → Act → World → Prop} {c rest : Code} (l : Nat) (J : Nat → Act → World → Prop) (hf : findLabel c l = some (Code.skip.seq rest))
    (pass : ∀ g a w, J g a w → rest.wp P (Exit.jump l (fun a' w' => ∃ g', g' < g ∧ J g' a' w') Q) a w)
    (first : (∀ g a w, J g a w → rest.wp P (Exit.jump l (fun a' w' => ∃ g', J g' a' w') Q) a w) → c.wp P (Exit.jump l (fun a' w' => ∃ g', J g' a' w') Q) a w) : (Code.scope c).wp P Q a w := by
  refine wp_scope_jumps l (fun a' w' => ∃ g', J g' a' w') (fun a' w' => lst fun g => J g a' w') hf (first fun g a w h => Code.wp_mono (fun e a' w' h' => ?_) (pass g a w h)) fun a w h => wp_seq (wp_skip ?_)
  · cases e <;> first | exact h' | exact ⟨h'.1, h'.2.imp fun g hg => hg.2⟩
  · obtain ⟨h1, h2⟩ := lst_spec h
    refine Code.wp_mono (fun e a' w' h' => ?_) (pass _ a w h1)
    cases e <;> first | exact h' | skip
    obtain ⟨rfl, g, hg, hJ⟩ := h'
    exact ⟨rfl, ⟨g, hJ⟩, Nat.lt_of_le_of_lt ((lst_spec ⟨g, hJ⟩).2 g hJ) hg⟩
set_option maxHeartbeats 1000000 in
theorem impl_pinto_yes (w : World) (va vb : Value) (n m : Nat) (zs ns : List Int) (k x : Int) (M : Nat) (ha : Row 2 w va n (IV zs)) (hb : Row 1 w vb m (IV ns)) (ok : CO zs n ns m) (hk : In n k) (hx : Wok x) (hM1 : 1 ≤ M) (hM : M ≤ n) (hE : Leads ns n k M) :
    Calls Try.prog 13 #[CH va vb, .int .i64 k, .int .i64 x] w (stChain.Got w n (pst ns n k zs x M).1 m ns (fun t => .tuple #[t, .int .i64 (pst ns n k zs x M).2])) := by
  obtain ⟨a, ca, rfl⟩ := ha.shape
  obtain ⟨b, cb, rfl⟩ := hb.shape
  have hla : zs.length = n * 2 := by simpa using ha.1
  have h10 := ok.2.1
  obtain rfl : m = n := ok.2.2.1
  have HV := Lib.hid ok.2.2.2.1
  have HE := Lib.hid hE
  have HA := Lib.hid ha
  have HB := Lib.hid hb
  have HO := Lib.hid ok
  have HK := Lib.hid hk
  have HX := Lib.hid hx
  have B0 : Below w.heap.size w ((w.alloc (.cells #[.slice a m ca, .slice b m cb] TC)).alloc (.cells #[.slice none 0 0, .slice none 0 0] TC)) := below_al (below_al (Below.refl _ _) _) _
  have hra := ha.keep B0
  have hrb := hb.keep B0
  have HL := Lib.hid B0
  clear ha hb hE ok hk hx B0
  obtain ⟨Z, hZ⟩ : ∃ Z, pst ns m k zs x M = Z := ⟨_, rfl⟩
  rw [hZ]
  have HZ := Lib.hid hZ
  clear hZ
  go_enter Try.func13, Try.ntmps13
  go_wp2_with fail
  refine scope_jumps 0 (fun g a' wr => ∃ (i b8 : Nat) (aC : Option Addr) (cC : Nat) (aI : Option Addr) (cI lo0 hi0 lo1 hi1 : Nat) (kk yy : Int) (u9 u10 u11 u12 u13 u14 u15 u16 u17 u18 u19 u20 u21 u22 u23 u24 u25 u26 u27 u28 u29 u30 u31 u32 u33 u34 u35 u36 u37 u38 u39 u40 u41 u42 u43 : Value), i + g = M ∧ 0 < g ∧ kk = it ns m k i ∧ yy = (pst ns m k zs x i).2 ∧
      a' = { tmps := #[CH (.slice a m ca) (.slice b m cb), .int .i64 kk, .int .i64 yy, .pointer (some ⟨w.heap.size, 0, none⟩), undef, undef, .pointer (some ⟨w.heap.size + 1, 0, none⟩), .int .i64 0, .pointer (some ⟨b8, 0, none⟩), u9, u10, u11, u12, u13, u14, u15, u16, u17, u18, u19, u20, u21, u22, u23, u24, u25, u26, u27, u28, u29, u30, u31, u32, u33, u34, u35, u36, u37, u38, u39, u40, u41, u42, u43], defers := [] } ∧
      Lay w b8 lo0 hi0 lo1 hi1 ∧ St w wr b8 (.slice aC m cC) (.slice aI m cI) lo0 hi0 lo1 hi1 m (pst ns m k zs x i).1 m ns) rfl ?pass ?first
  case first =>
    intro hgo
    have HG := Lib.hid hgo
    clear hgo
    go_wp2_with fail
    refine (impl_copy _ _ _ m m zs ns (by omega) (by omega) hra hrb).mono ?_; rintro e w1 ⟨u0, u1, lo0, hi0, lo1, hi1, rfl, ⟨O0, l0⟩, ⟨O1, l1⟩, hd, hb1⟩
    have hz : w.heap.size + 2 = ((w.alloc (.cells #[.slice a m ca, .slice b m cb] TC)).alloc (.cells #[.slice none 0 0, .slice none 0 0] TC)).heap.size := by simp
    rw [← hz] at l0 l1
    have L : Lay w w1.heap.size lo0 hi0 lo1 hi1 := ⟨l0, l1, O0.2.2, O1.2.2, hd, by have := hb1.size; rw [← hz] at this; exact this⟩
    have X0 : Blk w1 w.heap.size TC #[.slice a m ca, .slice b m cb] := ((Blk.new _ _ _).alloc _).step hb1
    have X1 : Blk w1 (w.heap.size + 1) TC #[.slice none 0 0, .slice none 0 0] := (Blk.new1 w TC #[.slice none 0 0, .slice none 0 0] _).step hb1
    have B1 := below_step HL.out hb1
    obtain ⟨aC, cC, rfl⟩ := own_shape O0.1
    obtain ⟨aI, cI, rfl⟩ := own_shape O1.1
    have O := Lib.hid (And.intro O0 O1)
    have L := Lib.hid L
    have X0 := Lib.hid X0
    have X1 := Lib.hid X1
    have B1 := Lib.hid B1
    clear hra hrb O0 O1 l0 l1 hd hb1 hz HL
    have B2 : Below w.heap.size w (w1.alloc (.cells #[.slice aC m cC, .slice aI m cI] TC)) := below_al B1.out _
    have hra := HA.out.keep B2
    have hrb := HB.out.keep B2
    obtain ⟨p0, p1, _⟩ := blk2 (X0.out.alloc (.cells #[.slice aC m cC, .slice aI m cI] TC))
    have hS : St w (w1.alloc (.cells #[.slice aC m cC, .slice aI m cI] TC)) w1.heap.size (.slice aC m cC) (.slice aI m cI) lo0 hi0 lo1 hi1 m zs m ns :=
      ⟨O.out.1.keep (below_al (Below.refl _ _) _), O.out.2.keep (below_al (Below.refl _ _) _), Blk.new _ _ _, X1.out.alloc _, B2⟩
    have HS := Lib.hid hS
    clear hS B2 X0 X1 B1 HA HB
    go_wp2_with fail
    refine (impl_has_yes _ _ _ m m zs ns k hra hrb HO.out HK.out).mono ?_; rintro e w2 ⟨rfl, hb2⟩
    have HS := Lib.hid (HS.out.keep hb2)
    clear hra hrb p0 p1 hb2 HO HK
    go_wp2_with fail
    refine (impl_water_yes _ _ HX.out).mono ?_; rintro e w3 ⟨rfl, rfl⟩
    go_wp2
    refine wp_label ?_
    dsimp only [Exit.then]
    apply_assumption
    exact HG.out M _ _ ⟨0, _, _, _, _, _, _, _, _, _, _, _, _, _, _, _, _, _, _, _, _, _, _, _, _, _, _, _, _, _, _, _, _, _, _, _, _, _, _, _, _, _, _, _, _, _, _, by omega, by omega, rfl, rfl, rfl, L.out, HS.out⟩
  case pass =>
    clear hra hrb HA HB HO HK HL
    rintro g a' wr ⟨i, b8, aC, cC, aI, cI, lo0, hi0, lo1, hi1, kk, yy, u9, u10, u11, u12, u13, u14, u15, u16, u17, u18, u19, u20, u21, u22, u23, u24, u25, u26, u27, u28, u29, u30, u31, u32, u33, u34, u35, u36, u37, u38, u39, u40, u41, u42, u43, hig, hg0, rfl, rfl, rfl, L, hst⟩
    have hlt : i < M := by omega
    have hin := HE.out.1 i hlt
    have hnx := it_step hin
    obtain ⟨D, hD⟩ : ∃ D : Nat, it ns m k i = D := ⟨(it ns m k i).toNat, by have := hin.1; omega⟩
    rw [hD] at hin hnx ⊢
    rw [Int.toNat_natCast] at hnx
    obtain ⟨hin0, hin1⟩ := hin
    have hpl : (pst ns m k zs x i).1.length = m * 2 := (pst_len i).trans hla
    have hwt : Wok (pst ns m k zs x i).2 := by
      have h := U_le HE.out HV.out HX.out.1 (i := i) (by omega)
      have h2 := HX.out.2
      rw [pst_water HE.out HV.out HX.out.1 i (by omega)]
      exact ⟨h.1, by omega⟩
    have hcok := pst_valid HE.out HV.out HX.out.1 hla i (by omega) D (by omega)
    have hsucc : pst ns m k zs x (i + 1) = _ := pst_succ (zs := zs) (ns := ns) (n := m) (k := k) (x := x) i
    rw [hD, sp, Int.toNat_natCast] at hsucc
    obtain ⟨p, hp⟩ : ∃ p, pst ns m k zs x i = p := ⟨_, rfl⟩
    rw [hp] at hst hpl hwt hcok hsucc ⊢
    obtain ⟨Zi, y⟩ := p
    dsimp only at hst hpl hwt hcok hsucc ⊢
    obtain ⟨r, hr⟩ : ∃ r, Zi.getD (D * 2) 0 = r := ⟨_, rfl⟩
    obtain ⟨l, hl⟩ : ∃ l, Zi.getD (D * 2 + 1) 0 = l := ⟨_, rfl⟩
    rw [hr, hl] at hcok hsucc
    obtain ⟨v, hv⟩ : ∃ v, mn y (r - l) = v := ⟨_, rfl⟩
    have hMn : Mn v y (r - l) := hv ▸ mn_Mn _ _
    rw [hv] at hsucc
    obtain ⟨q, cq, e, hq1, hq2⟩ := own_some hst.o0.1 (by omega)
    cases e
    obtain ⟨q1, cq1, e, hq3, hq4⟩ := own_some hst.o1.1 (by omega)
    cases e
    have hlb : ns.length = m := by have := hst.o1.row.1; simpa using this
    have g1 := own_cell hst.o0.1 (g := q) rfl (D * 2) _ (getI (by omega))
    have g2 := own_cell hst.o0.1 (g := q) rfl (D * 2 + 1) _ (getI (by omega))
    rw [hr] at g1
    rw [hl] at g2
    obtain ⟨p0, p1, _⟩ := blk2 hst.bx
    have hqh := hst.o0.2.1 q rfl
    have hlay := L.h0
    have n1 : b8 ≠ q := by omega
    have hz : Zi.set (D * 2) r = Zi := set_same hr (by omega)
    obtain ⟨z, hzz⟩ : ∃ z, ns.getD D 0 = z := ⟨_, rfl⟩
    rw [hzz] at hnx
    have L := Lib.hid L
    have HS := Lib.hid hst
    have HU := Lib.hid hsucc
    have HZ2 := Lib.hid hz
    have HN := Lib.hid hnx
    have HZ3 := Lib.hid hzz
    clear hst hsucc hz hp hr hl hv hD hq1 hq2 hq3 hq4 hpl hnx hzz
    go_wp2
    refine wp_region_held_drew (S := fun W => W.cell? ⟨b8, 0, none⟩ = some (.slice (some ⟨q, 0, none⟩) m cC) ∧ W.cell? ⟨b8, 1, none⟩ = some (.slice (some ⟨q1, 0, none⟩) m cI)) (by kernel_rfl) ⟨p0, p1⟩ (fun hHeld => ?_)
    refine takeH 0 (by simp only [List.getElem?_toArray, List.getElem?_cons_zero]; rfl) (by kernel_rfl) (by kernel_rfl) (by kernel_rfl) (by rfl) (by intro w hSw; (try dsimp only at hSw); go_simp; first | done | with_reducible rfl) (by intro _ _ _ h; exact h) (by assumption) ?_
    (try simp only [Act.put, List.setIfInBounds_toArray, List.set_cons_zero, List.set_cons_succ])
    refine takeH 1 (by simp only [List.getElem?_toArray, List.getElem?_cons_succ, List.getElem?_cons_zero]; rfl) (by kernel_rfl) (by kernel_rfl) (by kernel_rfl) (by rfl) (by intro w hSw; (try dsimp only at hSw); go_simp; first | done | with_reducible rfl) (by intro _ _ _ h; exact h) (by assumption) ?_
    (try simp only [Act.put, List.setIfInBounds_toArray, List.set_cons_zero, List.set_cons_succ])
    refine takeH 2 (by simp only [List.getElem?_toArray, List.getElem?_cons_succ, List.getElem?_cons_zero]; rfl) (by kernel_rfl) (by kernel_rfl) (by kernel_rfl) (by rfl) (by intro w hSw; (try dsimp only at hSw); go_simp; first | done | with_reducible rfl) (by intro _ _ _ h; exact h) (by assumption) ?_
    (try simp only [Act.put, List.setIfInBounds_toArray, List.set_cons_zero, List.set_cons_succ])
    refine takeH 3 (by simp only [List.getElem?_toArray, List.getElem?_cons_succ, List.getElem?_cons_zero]; rfl) (by kernel_rfl) (by kernel_rfl) (by kernel_rfl) (by rfl) (by intro w hSw; (try dsimp only at hSw); go_simp; first | done | with_reducible rfl) (by intro _ _ _ h; exact h) (by assumption) ?_
    (try simp only [Act.put, List.setIfInBounds_toArray, List.set_cons_zero, List.set_cons_succ])
    refine takeH 4 (by simp only [List.getElem?_toArray, List.getElem?_cons_succ, List.getElem?_cons_zero]; rfl) (by kernel_rfl) (by kernel_rfl) (by kernel_rfl) (by rfl) (by intro w hSw; (try dsimp only at hSw); go_simp; first | done | with_reducible rfl) (by intro _ _ _ h; exact h) (by assumption) ?_
    (try simp only [Act.put, List.setIfInBounds_toArray, List.set_cons_zero, List.set_cons_succ])
    refine takeH 5 (by simp only [List.getElem?_toArray, List.getElem?_cons_succ, List.getElem?_cons_zero]; rfl) (by kernel_rfl) (by kernel_rfl) (by kernel_rfl) (by rfl) (by intro w hSw; (try dsimp only at hSw); go_simp; first | done | with_reducible rfl) (by intro _ _ _ h; exact h) (by assumption) ?_
    (try simp only [Act.put, List.setIfInBounds_toArray, List.set_cons_zero, List.set_cons_succ])
    refine takeH 6 (by simp only [List.getElem?_toArray, List.getElem?_cons_succ, List.getElem?_cons_zero]; rfl) (by kernel_rfl) (by kernel_rfl) (by kernel_rfl) (by rfl) (by intro w hSw; (try dsimp only at hSw); go_simp; first | done | with_reducible rfl) (by intro _ _ _ h; exact h) (by assumption) ?_
    (try simp only [Act.put, List.setIfInBounds_toArray, List.set_cons_zero, List.set_cons_succ])
    refine takeH 8 (by simp only [List.getElem?_toArray, List.getElem?_cons_succ, List.getElem?_cons_zero]; rfl) (by kernel_rfl) (by kernel_rfl) (by kernel_rfl) (by rfl) (by intro w hSw; (try dsimp only at hSw); go_simp; first | done | with_reducible rfl) (by intro _ _ _ h; exact h) (by assumption) ?_
    (try simp only [Act.put, List.setIfInBounds_toArray, List.set_cons_zero, List.set_cons_succ])
    refine wpAnyH_ready (rs := [7]) (by kernel_rfl) (by simp) (AllReadyH.cons (by simp only [List.getElem?_toArray, List.getElem?_cons_succ, List.getElem?_cons_zero]; rfl) (fun K hK => ?_) AllReadyH.nil)
    go_simp
    refine hK.out _ _ (⟨p0, p1⟩) (fun hHeld => ?_)
    clear hK K
    (try simp only [Act.put, List.setIfInBounds_toArray, List.set_cons_zero, List.set_cons_succ])
    refine wpAnyH_ready (rs := [9]) (by kernel_rfl) (by simp) (AllReadyH.cons (by simp only [List.getElem?_toArray, List.getElem?_cons_succ, List.getElem?_cons_zero]; rfl) (fun K hK => ?_) AllReadyH.nil)
    go_simp
    go_at_call 41
    refine (impl_pour_yes _ _ _ _ v hcok hwt hMn).mono ?_; rintro e w3 ⟨rfl, hb3⟩
    have hb4 : Below wr.heap.size wr w3 := below_step (below_dr (Below.refl _ _)) hb3
    (try go_simp)
    refine hK.out _ _ (keep2 ⟨p0, p1⟩ hb4) (fun hHeld => ?_)
    clear hK K
    (try simp only [Act.put, List.setIfInBounds_toArray, List.set_cons_zero, List.set_cons_succ])
    have S3 := HS.out.keep hb4
    have f0 := own_free S3.o0.1 (g := q) rfl (D * 2)
    have f1 := own_free S3.o0.1 (g := q) rfl (D * 2 + 1)
    replace g1 := keep1 g1 hb4
    replace g2 := keep1 g2 hb4
    replace S3 := Lib.hid S3
    clear HS
    refine takeH 10 (by simp only [List.getElem?_toArray, List.getElem?_cons_succ, List.getElem?_cons_zero]; rfl) (by kernel_rfl) (by kernel_rfl) (by kernel_rfl) (by rfl) (by intro w hSw; (try dsimp only at hSw); go_simp; first | done | with_reducible rfl) (by intro _ _ _ h; exact h) (by assumption) ?_
    (try simp only [Act.put, List.setIfInBounds_toArray, List.set_cons_zero, List.set_cons_succ])
    refine takeH 11 (by simp only [List.getElem?_toArray, List.getElem?_cons_succ, List.getElem?_cons_zero]; rfl) (by kernel_rfl) (by kernel_rfl) (by kernel_rfl) (by rfl) (by intro w hSw; (try dsimp only at hSw); go_simp; first | done | with_reducible rfl) (by intro _ _ _ h; exact h) (by assumption) ?_
    (try simp only [Act.put, List.setIfInBounds_toArray, List.set_cons_zero, List.set_cons_succ])
    refine takeH 12 (by simp only [List.getElem?_toArray, List.getElem?_cons_succ, List.getElem?_cons_zero]; rfl) (by kernel_rfl) (by kernel_rfl) (by kernel_rfl) (by rfl) (by intro w hSw; (try dsimp only at hSw); go_simp; first | done | with_reducible rfl) (by intro _ _ _ h; exact h) (by assumption) ?_
    (try simp only [Act.put, List.setIfInBounds_toArray, List.set_cons_zero, List.set_cons_succ])
    refine takeH 13 (by simp only [List.getElem?_toArray, List.getElem?_cons_succ, List.getElem?_cons_zero]; rfl) (by kernel_rfl) (by kernel_rfl) (by kernel_rfl) (by rfl) (by intro w hSw; (try dsimp only at hSw); go_simp; first | done | with_reducible rfl) (by intro _ _ _ h; exact h) (by assumption) ?_
    (try simp only [Act.put, List.setIfInBounds_toArray, List.set_cons_zero, List.set_cons_succ])
    refine wpAnyH_ready (rs := [14]) (by kernel_rfl) (by simp) (AllReadyH.cons (by simp only [List.getElem?_toArray, List.getElem?_cons_succ, List.getElem?_cons_zero]; rfl) (fun K hK => ?_) AllReadyH.nil)
    go_simp
    refine hK.out _ _ (keepS2 hHeld n1 n1) (fun hHeld => ?_)
    clear hK K
    (try simp only [Act.put, List.setIfInBounds_toArray, List.set_cons_zero, List.set_cons_succ])
    refine takeH 15 (by simp only [List.getElem?_toArray, List.getElem?_cons_succ, List.getElem?_cons_zero]; rfl) (by kernel_rfl) (by kernel_rfl) (by kernel_rfl) (by rfl) (by intro w hSw; (try dsimp only at hSw); go_simp; first | done | with_reducible rfl) (by intro _ _ _ h; exact h) (by assumption) ?_
    (try simp only [Act.put, List.setIfInBounds_toArray, List.set_cons_zero, List.set_cons_succ])
    refine wpAnyH_done (by kernel_rfl) ?_ _
    have hb0 := (S3.out.o0.1.lt q rfl).1
    have T1 := S3.out.set L.out (q := q) rfl (D * 2) r
    rw [HZ2.out] at T1
    have T2 := T1.set L.out (q := q) rfl (D * 2 + 1) (l + v)
    clear g1 g2 p0 p1 f0 f1 hb3 hb4 hHeld T1
    obtain ⟨wf, hwf⟩ : ∃ wf, (w3.setCell ⟨q, D * 2, none⟩ (.int .i64 r)).setCell ⟨q, D * 2 + 1, none⟩ (.int .i64 (l + v)) = wf := ⟨_, rfl⟩
    rw [hwf] at T2 ⊢
    clear hwf
    obtain ⟨p0, p1, _⟩ := blk2 T2.bx
    have g3 := own_cell T2.o1.1 (g := q1) rfl D _ (getI (by omega))
    rw [HZ3.out] at g3
    obtain ⟨r0, r1, r2, r3⟩ := blk2 T2.rs
    replace T2 := Lib.hid T2
    by_cases hend : i + 1 < M
    · have hz0 : 0 ≤ z := by have := (HE.out.1 (i + 1) hend).1; rw [HN.out] at this; exact this
      have dd : (z != -1) = true := by simp; omega
      go_wp2
      go_step3
      refine ⟨rfl, g - 1, by omega, i + 1, _, _, _, _, _, _, _, _, _, _, _, _, _, _, _, _, _, _, _, _, _, _, _, _, _, _, _, _, _, _, _, _, _, _, _, _, _, _, _, _, _, _, _, _, _, _, by omega, by omega, HN.out.symm, by rw [HU.out], rfl, L.out, by rw [HU.out]; exact T2.out⟩
    · obtain rfl : M = i + 1 := by omega
      have hz1 : z = -1 := by rw [← HN.out]; exact HE.out.2
      subst hz1
      go_wp2
      simp only [Exit.jump]
      have hst := T2.out
      have hlay := L.out
      have hZ : Z = (Zi.set (D * 2 + 1) (l + v), y - v) := by rw [← HZ.out, HU.out]
      subst hZ
      refine bodyPost_ret (v := .tuple #[CH (.slice (some ⟨q, 0, none⟩) m cC) (.slice (some ⟨q1, 0, none⟩) m cI), .int .i64 (y - v)]) (by simp [*, results, Try.results13, go_sem]) rfl ?_
      obtain ⟨a1, a2, a3, a4, a5, a6⟩ := hlay
      refine stChain.got_of (K := fun t => .tuple #[t, .int .i64 (y - v)]) (w.heap.size + 1) (w.heap.size + 2) hst.o0 hst.o1 ?_ (.inr (by omega)) (.inr (by omega)) (by omega) (by omega) (by omega) a5 hst.bl
      refine Chg.trans ?_ (Chg.set _ _ _ (by omega) (by omega))
      exact Chg.set _ _ _ (by omega) (by omega)
set_option maxHeartbeats 1000000 in
theorem impl_pinto_no (w : World) (va vb : Value) (n m : Nat) (zs ns : List Int) (k x : Int) (hn : n ≤ 1048576) (hm : m ≤ 1048576) (ha : Row 2 w va n (IV zs)) (hb : Row 1 w vb m (IV ns)) (no : ¬ (CO zs n ns m ∧ In n k ∧ Wok x)) :
    Calls Try.prog 13 #[CH va vb, .int .i64 k, .int .i64 x] w (stChain.Got w n zs m ns (fun t => .tuple #[t, .int .i64 (-1)])) := by
  obtain ⟨a, ca, rfl⟩ := ha.shape
  obtain ⟨b, cb, rfl⟩ := hb.shape
  have HA := Lib.hid ha
  have HB := Lib.hid hb
  have B0 : Below w.heap.size w ((w.alloc (.cells #[.slice a n ca, .slice b m cb] TC)).alloc (.cells #[.slice none 0 0, .slice none 0 0] TC)) := below_al (below_al (Below.refl _ _) _) _
  have hra := ha.keep B0
  have hrb := hb.keep B0
  have HL := Lib.hid B0
  have HN := Lib.hid no
  clear ha hb B0 no
  go_enter Try.func13, Try.ntmps13
  go_wp2_with fail
  refine wp_scope_straight ?_
  go_wp2_with fail
  refine (impl_copy _ _ _ n m zs ns hn hm hra hrb).mono ?_; rintro e w1 ⟨u0, u1, lo0, hi0, lo1, hi1, rfl, ⟨O0, l0⟩, ⟨O1, l1⟩, hd, hb1⟩
  have hz : w.heap.size + 2 = ((w.alloc (.cells #[.slice a n ca, .slice b m cb] TC)).alloc (.cells #[.slice none 0 0, .slice none 0 0] TC)).heap.size := by simp
  rw [← hz] at l0 l1
  have L : Lay w w1.heap.size lo0 hi0 lo1 hi1 := ⟨l0, l1, O0.2.2, O1.2.2, hd, by have := hb1.size; rw [← hz] at this; exact this⟩
  have X0 : Blk w1 w.heap.size TC #[.slice a n ca, .slice b m cb] := ((Blk.new _ _ _).alloc _).step hb1
  have X1 : Blk w1 (w.heap.size + 1) TC #[.slice none 0 0, .slice none 0 0] := (Blk.new1 w TC #[.slice none 0 0, .slice none 0 0] _).step hb1
  have B1 := below_step HL.out hb1
  obtain ⟨aC, cC, rfl⟩ := own_shape O0.1
  obtain ⟨aI, cI, rfl⟩ := own_shape O1.1
  have O := Lib.hid (And.intro O0 O1)
  have L := Lib.hid L
  have X0 := Lib.hid X0
  have X1 := Lib.hid X1
  have B1 := Lib.hid B1
  clear hra hrb O0 O1 l0 l1 hd hb1 hz HL
  have B2 : Below w.heap.size w (w1.alloc (.cells #[.slice aC n cC, .slice aI m cI] TC)) := below_al B1.out _
  have hra := HA.out.keep B2
  have hrb := HB.out.keep B2
  obtain ⟨p0, p1, _⟩ := blk2 (X0.out.alloc (.cells #[.slice aC n cC, .slice aI m cI] TC))
  have hS : St w (w1.alloc (.cells #[.slice aC n cC, .slice aI m cI] TC)) w1.heap.size (.slice aC n cC) (.slice aI m cI) lo0 hi0 lo1 hi1 n zs m ns :=
    ⟨O.out.1.keep (below_al (Below.refl _ _) _), O.out.2.keep (below_al (Below.refl _ _) _), Blk.new _ _ _, X1.out.alloc _, B2⟩
  have HS := Lib.hid hS
  clear hS B2 X0 X1 B1 HA HB
  by_cases h : CO zs n ns m ∧ In n k
  · have hx : ¬ Wok x := fun hx => HN.out ⟨h.1, h.2, hx⟩
    have HX := Lib.hid hx
    have h1 := Lib.hid h.1
    have h2 := Lib.hid h.2
    clear h HN hx
    go_wp2_with fail
    refine (impl_has_yes _ _ _ n m zs ns k hra hrb h1.out h2.out).mono ?_; rintro e w2 ⟨rfl, hb2⟩
    have HS := Lib.hid (HS.out.keep hb2)
    clear hra hrb p0 p1 hb2
    go_wp2_with fail
    refine (impl_water_no _ _ HX.out).mono ?_; rintro e w3 ⟨rfl, rfl⟩
    obtain ⟨p0, p1, _⟩ := blk2 HS.out.bx
    obtain ⟨r0, r1, r2, r3⟩ := blk2 HS.out.rs
    go_wp2
    rw [Exit.noGoto_ret]
    have hst := HS.out
    have hlay := L.out
    refine bodyPost_ret (v := .tuple #[CH (.slice aC n cC) (.slice aI m cI), .int .i64 (-1)]) (by simp [*, results, Try.results13, go_sem]) rfl ?_
    obtain ⟨a1, a2, a3, a4, a5, a6⟩ := hlay
    refine stChain.got_of (K := fun t => .tuple #[t, .int .i64 (-1)]) (w.heap.size + 1) (w.heap.size + 2) hst.o0 hst.o1 ?_ (.inr (by omega)) (.inr (by omega)) (by omega) (by omega) (by omega) a5 hst.bl
    refine Chg.trans ?_ (Chg.set _ _ _ (by omega) (by omega))
    exact Chg.set _ _ _ (by omega) (by omega)
  · have h := Lib.hid h
    clear HN
    go_wp2_with fail
    refine (impl_has_no _ _ _ n m zs ns k hn hm hra hrb h.out).mono ?_; rintro e w2 ⟨rfl, hb2⟩
    have HS := Lib.hid (HS.out.keep hb2)
    clear hra hrb p0 p1 hb2
    obtain ⟨p0, p1, _⟩ := blk2 HS.out.bx
    obtain ⟨r0, r1, r2, r3⟩ := blk2 HS.out.rs
    go_wp2
    rw [Exit.noGoto_ret]
    have hst := HS.out
    have hlay := L.out
    refine bodyPost_ret (v := .tuple #[CH (.slice aC n cC) (.slice aI m cI), .int .i64 (-1)]) (by simp [*, results, Try.results13, go_sem]) rfl ?_
    obtain ⟨a1, a2, a3, a4, a5, a6⟩ := hlay
    refine stChain.got_of (K := fun t => .tuple #[t, .int .i64 (-1)]) (w.heap.size + 1) (w.heap.size + 2) hst.o0 hst.o1 ?_ (.inr (by omega)) (.inr (by omega)) (by omega) (by omega) (by omega) a5 hst.bl
    refine Chg.trans ?_ (Chg.set _ _ _ (by omega) (by omega))
    exact Chg.set _ _ _ (by omega) (by omega)
end Go.Proofs.Ytmffhogefchpbaa.chn
