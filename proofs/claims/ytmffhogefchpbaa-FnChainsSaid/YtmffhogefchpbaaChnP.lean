/- Water poured into chains: both sides. -/
import Derived.Test.YtmffhogefchpbaaChnC2
import Derived.Test.YtmffhogefchpbaaChnL2
import Derived.ScopeJumps
import Derived.WalkMore
namespace Go.Proofs.Ytmffhogefchpbaa.chn
open Go.RowKit Go.Proofs.Ytmffhogefchpbaa.kit Go.Proofs.Ytmffhogefchpbaa.lawi Go.Proofs.Ytmffhogefchpbaa.own Go.Proofs.Ytmffhogefchpbaa.rainl Go.Proofs.Ytmffhogefchpbaa.rain Go.Proofs.Ytmffhogefchpbaa.cis Go.Proofs.Ytmffhogefchpbaa.chl
/-- The answer while it is filled: the copy's rows, the box that holds it, the answer's own box. -/
structure St (w wr : World) (g : Nat) (u0 u1 : Value) (lo0 hi0 lo1 hi1 n : Nat) (zs : List Int) (m : Nat) (ns : List Int) : Prop where
  o0 : OwnR wr lo0 hi0 36 2 u0 n (zs.map (Value.int .i64))
  o1 : OwnR wr lo1 hi1 3 1 u1 m (ns.map (Value.int .i64))
  bx : Blk wr g TC #[u0, u1]
  rs : Blk wr (w.heap.size + 1) TC #[.slice none 0 0, .slice none 0 0]
  bl : Below w.heap.size w wr
/-- Where they lie. -/
structure Lay (w : World) (g lo0 hi0 lo1 hi1 : Nat) : Prop where
  l0 : w.heap.size + 2 ≤ lo0
  l1 : w.heap.size + 2 ≤ lo1
  h0 : hi0 ≤ g
  h1 : hi1 ≤ g
  hd : hi0 ≤ lo1 ∨ hi1 ≤ lo0
  hg : w.heap.size + 2 ≤ g
section
variable {w wr wr' : World} {g : Nat} {u0 u1 : Value} {lo0 hi0 lo1 hi1 n : Nat} {zs : List Int} {m : Nat} {ns : List Int}
theorem St.keep (h : St w wr g u0 u1 lo0 hi0 lo1 hi1 n zs m ns) (hb : Below wr.heap.size wr wr') : St w wr' g u0 u1 lo0 hi0 lo1 hi1 n zs m ns :=
  ⟨h.o0.keep hb, h.o1.keep hb, h.bx.step hb, h.rs.step hb, below_step h.bl hb⟩
theorem St.set (h : St w wr g u0 u1 lo0 hi0 lo1 hi1 n zs m ns) (L : Lay w g lo0 hi0 lo1 hi1) {q : Nat} (hq : u0.ownBlock = some q) (j : Nat) (v : Int) :
    St w (wr.setCell ⟨q, j, none⟩ (.int .i64 v)) g u0 u1 lo0 hi0 lo1 hi1 n (zs.set j v) m ns := by
  have b0 := (h.o0.1.lt q hq).1
  have b1 := h.o0.2.1 q hq
  obtain ⟨a1, a2, a3, a4, a5, a6⟩ := L
  have hc : Chg lo0 hi0 wr (wr.setCell ⟨q, j, none⟩ (.int .i64 v)) := Chg.set _ _ _ b0 b1
  refine ⟨⟨?_, h.o0.2.1, by simpa using h.o0.2.2⟩, h.o1.chg hc (by omega), h.bx.chg hc (by omega), h.rs.chg hc (by omega), h.bl.trans (hc.below h.bl.size (by omega))⟩
  have := own_set h.o0.1 hq j (.int .i64 v)
  rwa [← List.map_set] at this
end
theorem set_same {l : List Int} {j : Nat} {r : Int} (h : l.getD j 0 = r) (hj : j < l.length) : l.set j r = l := by
  apply List.ext_getElem?
  intro q
  by_cases e : j = q
  · subst e
    rw [List.getElem?_set_self hj, ← h, List.getD_eq_getElem?_getD, List.getElem?_eq_getElem hj]
    rfl
  · rw [List.getElem?_set_ne e]
theorem keepS2 {W : World} {p p' : Addr} {v v' : Value} {q a b : Nat} {x y : Value} (h : W.cell? p = some v ∧ W.cell? p' = some v') (n : p.block ≠ q) (n' : p'.block ≠ q) :
    ((W.setCell ⟨q, a, none⟩ x).setCell ⟨q, b, none⟩ y).cell? p = some v ∧ ((W.setCell ⟨q, a, none⟩ x).setCell ⟨q, b, none⟩ y).cell? p' = some v' := by
  have key : ∀ (p : Addr) (v : Value) (W : World) (o : Nat) (x : Value), p.block ≠ q → W.cell? p = some v → (W.setCell ⟨q, o, none⟩ x).cell? p = some v := fun p v W o x n h => by
    rw [← h]
    exact World.cell?_setCell_other _ _ _ _ (fun e => n (by rw [← e]))
  exact ⟨key _ _ _ _ _ n (key _ _ _ _ _ n h.1), key _ _ _ _ _ n' (key _ _ _ _ _ n' h.2)⟩
/-- 'wpAnyH_take', its side conditions in the order in which they can be paid. -/
theorem takeH {P : Program} {ops : Array Oper} {Q : Exit → Act → World → Prop} {md : Region.Mode} {S : World → Prop} {oi : Oper} {v : Value} {fuel : Nat} {listed : Array Bool} {a : Act} {w : World} (i : Nat) (hi : ops[i]? = some oi)
    (hs : Region.noSelect ops = true) (hf : Region.free md ops listed i = true) (hr : (Region.ready md ops listed).contains i = true)
    (hw : Region.wanted oi (yielded ops a.tmps) = true) (hy : ∀ w, S w → (execOp a.eval oi).run P w = .ok (.value v) w)
    (hQ : ∀ c a w, Q (.panic c) (a.put oi.dst v) w → Q (.panic c) a w) (hS : S w)
    (h : wpAnyH P md ops Q S fuel (listed.setIfInBounds i true) (a.put oi.dst v) w) : wpAnyH P md ops Q S (fuel + 1) listed a w :=
  wpAnyH_take hi hs hf hr hQ (Or.inl ⟨hw, hy⟩) hS h
set_option maxHeartbeats 1000000 in
theorem spec_pinto_yes (w : World) (va vb : Value) (n m : Nat) (zs ns : List Int) (k x : Int) (M : Nat) (ha : Row 2 w va n (IV zs)) (hb : Row 1 w vb m (IV ns)) (ok : CO zs n ns m) (hk : In n k) (hx : Wok x) (hM1 : 1 ≤ M) (hM : M ≤ n) (hE : Leads ns n k M) :
    Calls Try.prog 25 #[CH va vb, .int .i64 k, .int .i64 x] w (stChain.Got w n (pst ns n k zs x M).1 m ns (fun t => .tuple #[t, .int .i64 (pst ns n k zs x M).2])) := by
  obtain ⟨a, ca, rfl⟩ := ha.shape
  obtain ⟨b, cb, rfl⟩ := hb.shape
  have hla : zs.length = n * 2 := by simpa using ha.1
  have h10 := ok.2.1
  obtain rfl : m = n := ok.2.2.1
  have HV := Lib.hid ok.2.2.2.1
  have HE := Lib.hid hE
  have HA := Lib.hid ha
  have HB := Lib.hid hb
  have HO := Lib.hid ok
  have HK := Lib.hid hk
  have HX := Lib.hid hx
  have B0 : Below w.heap.size w ((w.alloc (.cells #[.slice a m ca, .slice b m cb] TC)).alloc (.cells #[.slice none 0 0, .slice none 0 0] TC)) := below_al (below_al (Below.refl _ _) _) _
  have hra := ha.keep B0
  have hrb := hb.keep B0
  have HL := Lib.hid B0
  have hM0 : ((M : Int) == 0) = false := by simp; omega
  clear ha hb hE ok hk hx B0
  obtain ⟨Z, hZ⟩ : ∃ Z, pst ns m k zs x M = Z := ⟨_, rfl⟩
  rw [hZ]
  have HZ := Lib.hid hZ
  clear hZ
  go_enter Try.func25, Try.ntmps25
  go_wp2_with fail
  refine (spec_copy _ _ _ m m zs ns (by omega) (by omega) hra hrb).mono ?_; rintro e w1 ⟨u0, u1, lo0, hi0, lo1, hi1, rfl, ⟨O0, l0⟩, ⟨O1, l1⟩, hd, hb1⟩
  have hz : w.heap.size + 2 = ((w.alloc (.cells #[.slice a m ca, .slice b m cb] TC)).alloc (.cells #[.slice none 0 0, .slice none 0 0] TC)).heap.size := by simp
  rw [← hz] at l0 l1
  have L : Lay w w1.heap.size lo0 hi0 lo1 hi1 := ⟨l0, l1, O0.2.2, O1.2.2, hd, by have := hb1.size; rw [← hz] at this; exact this⟩
  have X0 : Blk w1 w.heap.size TC #[.slice a m ca, .slice b m cb] := ((Blk.new _ _ _).alloc _).step hb1
  have X1 : Blk w1 (w.heap.size + 1) TC #[.slice none 0 0, .slice none 0 0] := (Blk.new1 w TC #[.slice none 0 0, .slice none 0 0] _).step hb1
  have B1 := below_step HL.out hb1
  obtain ⟨aC, cC, rfl⟩ := own_shape O0.1
  obtain ⟨aI, cI, rfl⟩ := own_shape O1.1
  have O := Lib.hid (And.intro O0 O1)
  have L := Lib.hid L
  have X0 := Lib.hid X0
  have X1 := Lib.hid X1
  have B1 := Lib.hid B1
  clear hra hrb O0 O1 l0 l1 hd hb1 hz HL
  have B2 : Below w.heap.size w (w1.alloc (.cells #[.slice aC m cC, .slice aI m cI] TC)) := below_al B1.out _
  have hra := HA.out.keep B2
  have hrb := HB.out.keep B2
  obtain ⟨p0, p1, _⟩ := blk2 (X0.out.alloc (.cells #[.slice aC m cC, .slice aI m cI] TC))
  have hS : St w (w1.alloc (.cells #[.slice aC m cC, .slice aI m cI] TC)) w1.heap.size (.slice aC m cC) (.slice aI m cI) lo0 hi0 lo1 hi1 m zs m ns :=
    ⟨O.out.1.keep (below_al (Below.refl _ _) _), O.out.2.keep (below_al (Below.refl _ _) _), Blk.new _ _ _, X1.out.alloc _, B2⟩
  have HS := Lib.hid hS
  clear hS B2 X0 X1 B1 HA HB
  go_wp2_with fail
  refine (spec_way_yes _ _ _ m m zs ns k M hra hrb HO.out HK.out hM HE.out).mono ?_; rintro e w2 ⟨vw, rfl, hown, hb2⟩
  have HS := Lib.hid (HS.out.keep hb2)
  have OW : OwnR w2 (w1.heap.size + 1) w2.heap.size 3 1 vw M (IV (wy ns m k M)) := by simpa using OwnR.of_own hown
  obtain ⟨aw, cw, rfl⟩ := own_shape hown
  have HW := Lib.hid OW
  clear hra hrb p0 p1 hown hb2 OW HO HK
  go_wp2_with fail
  refine (spec_water_yes _ _ HX.out).mono ?_; rintro e w3 ⟨rfl, rfl⟩
  go_wp2
  go_loopg [2, 10] M (fun g s2 s10 wr => ∃ i : Nat, i + g = M ∧ s10 = .int .i64 i ∧ s2 = .int .i64 (pst ns m k zs x i).2 ∧
    St w wr w1.heap.size (.slice aC m cC) (.slice aI m cI) lo0 hi0 lo1 hi1 m (pst ns m k zs x i).1 m ns ∧ OwnR wr (w1.heap.size + 1) w2.heap.size 3 1 (.slice aw M cw) M (IV (wy ns m k M)))
  case atStart => exact ⟨0, by omega, rfl, rfl, HS.out, HW.out⟩
  case round =>
    clear hM0
    obtain ⟨i, hig, rfl, rfl, hst, how⟩ := hrel
    by_cases hlt : i < M
    · obtain ⟨gk, rfl⟩ : ∃ g', gk = g' + 1 := ⟨gk - 1, by omega⟩
      have hin := HE.out.1 i hlt
      obtain ⟨D, hD⟩ : ∃ D : Nat, it ns m k i = D := ⟨(it ns m k i).toNat, by have := hin.1; omega⟩
      rw [hD] at hin
      obtain ⟨hin0, hin1⟩ := hin
      have hpl : (pst ns m k zs x i).1.length = m * 2 := (pst_len i).trans hla
      have hwt : Wok (pst ns m k zs x i).2 := by
        have h := U_le HE.out HV.out HX.out.1 (i := i) (by omega)
        have h2 := HX.out.2
        rw [pst_water HE.out HV.out HX.out.1 i (by omega)]
        exact ⟨h.1, by omega⟩
      have hcok := pst_valid HE.out HV.out HX.out.1 hla i (by omega) D (by omega)
      have hsucc : pst ns m k zs x (i + 1) = _ := pst_succ (zs := zs) (ns := ns) (n := m) (k := k) (x := x) i
      rw [hD, sp, Int.toNat_natCast] at hsucc
      obtain ⟨p, hp⟩ : ∃ p, pst ns m k zs x i = p := ⟨_, rfl⟩
      rw [hp] at hst hpl hwt hcok hsucc ⊢
      obtain ⟨Zi, y⟩ := p
      dsimp only at hst hpl hwt hcok hsucc ⊢
      obtain ⟨r, hr⟩ : ∃ r, Zi.getD (D * 2) 0 = r := ⟨_, rfl⟩
      obtain ⟨l, hl⟩ : ∃ l, Zi.getD (D * 2 + 1) 0 = l := ⟨_, rfl⟩
      rw [hr, hl] at hcok hsucc
      obtain ⟨v, hv⟩ : ∃ v, mn y (r - l) = v := ⟨_, rfl⟩
      have hMn : Mn v y (r - l) := hv ▸ mn_Mn _ _
      rw [hv] at hsucc
      obtain ⟨q, cq, e, hq1, hq2⟩ := own_some hst.o0.1 (by omega)
      cases e
      obtain ⟨gw, cw', e, hw1, hw2⟩ := own_some how.1 (by omega)
      cases e
      have g1 := own_cell hst.o0.1 (g := q) rfl (D * 2) _ (getI (by omega))
      have g2 := own_cell hst.o0.1 (g := q) rfl (D * 2 + 1) _ (getI (by omega))
      have g3 := own_cell how.1 (g := gw) rfl i _ (getI (by rw [wy_len]; omega))
      rw [hr] at g1
      rw [hl] at g2
      rw [wy_at k hlt, hD] at g3
      obtain ⟨p0, p1, _⟩ := blk2 hst.bx
      have hqh := hst.o0.2.1 q rfl
      have hlay := L.out.h0
      have n1 : w1.heap.size ≠ q := by omega
      have n2 : gw ≠ q := by omega
      have hz : Zi.set (D * 2) r = Zi := set_same hr (by omega)
      have HS := Lib.hid hst
      have HW := Lib.hid how
      have HU := Lib.hid hsucc
      have HZ2 := Lib.hid hz
      clear hst how hsucc hz hp hr hl hv hD hq1 hq2 hw1 hw2 hpl
      go_wp2
      refine wp_region_held_drew (S := fun W => W.cell? ⟨w1.heap.size, 0, none⟩ = some (.slice (some ⟨q, 0, none⟩) m cC) ∧ W.cell? ⟨gw, i, none⟩ = some (.int .i64 D)) (by kernel_rfl) ⟨p0, g3⟩ (fun hHeld => ?_)
      refine takeH 0 (by simp only [List.getElem?_toArray, List.getElem?_cons_zero]; rfl) (by kernel_rfl) (by kernel_rfl) (by kernel_rfl) (by rfl) (by intro w hSw; (try dsimp only at hSw); go_simp; first | done | with_reducible rfl) (by intro _ _ _ h; exact h) (by assumption) ?_
      (try simp only [Act.put, List.setIfInBounds_toArray, List.set_cons_zero, List.set_cons_succ])
      refine takeH 1 (by simp only [List.getElem?_toArray, List.getElem?_cons_succ, List.getElem?_cons_zero]; rfl) (by kernel_rfl) (by kernel_rfl) (by kernel_rfl) (by rfl) (by intro w hSw; (try dsimp only at hSw); go_simp; first | done | with_reducible rfl) (by intro _ _ _ h; exact h) (by assumption) ?_
      (try simp only [Act.put, List.setIfInBounds_toArray, List.set_cons_zero, List.set_cons_succ])
      refine takeH 2 (by simp only [List.getElem?_toArray, List.getElem?_cons_succ, List.getElem?_cons_zero]; rfl) (by kernel_rfl) (by kernel_rfl) (by kernel_rfl) (by rfl) (by intro w hSw; (try dsimp only at hSw); go_simp; first | done | with_reducible rfl) (by intro _ _ _ h; exact h) (by assumption) ?_
      (try simp only [Act.put, List.setIfInBounds_toArray, List.set_cons_zero, List.set_cons_succ])
      refine takeH 3 (by simp only [List.getElem?_toArray, List.getElem?_cons_succ, List.getElem?_cons_zero]; rfl) (by kernel_rfl) (by kernel_rfl) (by kernel_rfl) (by rfl) (by intro w hSw; (try dsimp only at hSw); go_simp; first | done | with_reducible rfl) (by intro _ _ _ h; exact h) (by assumption) ?_
      (try simp only [Act.put, List.setIfInBounds_toArray, List.set_cons_zero, List.set_cons_succ])
      refine takeH 4 (by simp only [List.getElem?_toArray, List.getElem?_cons_succ, List.getElem?_cons_zero]; rfl) (by kernel_rfl) (by kernel_rfl) (by kernel_rfl) (by rfl) (by intro w hSw; (try dsimp only at hSw); go_simp; first | done | with_reducible rfl) (by intro _ _ _ h; exact h) (by assumption) ?_
      (try simp only [Act.put, List.setIfInBounds_toArray, List.set_cons_zero, List.set_cons_succ])
      refine takeH 5 (by simp only [List.getElem?_toArray, List.getElem?_cons_succ, List.getElem?_cons_zero]; rfl) (by kernel_rfl) (by kernel_rfl) (by kernel_rfl) (by rfl) (by intro w hSw; (try dsimp only at hSw); go_simp; first | done | with_reducible rfl) (by intro _ _ _ h; exact h) (by assumption) ?_
      (try simp only [Act.put, List.setIfInBounds_toArray, List.set_cons_zero, List.set_cons_succ])
      refine takeH 6 (by simp only [List.getElem?_toArray, List.getElem?_cons_succ, List.getElem?_cons_zero]; rfl) (by kernel_rfl) (by kernel_rfl) (by kernel_rfl) (by rfl) (by intro w hSw; (try dsimp only at hSw); go_simp; first | done | with_reducible rfl) (by intro _ _ _ h; exact h) (by assumption) ?_
      (try simp only [Act.put, List.setIfInBounds_toArray, List.set_cons_zero, List.set_cons_succ])
      refine takeH 7 (by simp only [List.getElem?_toArray, List.getElem?_cons_succ, List.getElem?_cons_zero]; rfl) (by kernel_rfl) (by kernel_rfl) (by kernel_rfl) (by rfl) (by intro w hSw; (try dsimp only at hSw); go_simp; first | done | with_reducible rfl) (by intro _ _ _ h; exact h) (by assumption) ?_
      (try simp only [Act.put, List.setIfInBounds_toArray, List.set_cons_zero, List.set_cons_succ])
      refine takeH 8 (by simp only [List.getElem?_toArray, List.getElem?_cons_succ, List.getElem?_cons_zero]; rfl) (by kernel_rfl) (by kernel_rfl) (by kernel_rfl) (by rfl) (by intro w hSw; (try dsimp only at hSw); go_simp; first | done | with_reducible rfl) (by intro _ _ _ h; exact h) (by assumption) ?_
      (try simp only [Act.put, List.setIfInBounds_toArray, List.set_cons_zero, List.set_cons_succ])
      refine takeH 9 (by simp only [List.getElem?_toArray, List.getElem?_cons_succ, List.getElem?_cons_zero]; rfl) (by kernel_rfl) (by kernel_rfl) (by kernel_rfl) (by rfl) (by intro w hSw; (try dsimp only at hSw); go_simp; first | done | with_reducible rfl) (by intro _ _ _ h; exact h) (by assumption) ?_
      (try simp only [Act.put, List.setIfInBounds_toArray, List.set_cons_zero, List.set_cons_succ])
      refine takeH 10 (by simp only [List.getElem?_toArray, List.getElem?_cons_succ, List.getElem?_cons_zero]; rfl) (by kernel_rfl) (by kernel_rfl) (by kernel_rfl) (by rfl) (by intro w hSw; (try dsimp only at hSw); go_simp; first | done | with_reducible rfl) (by intro _ _ _ h; exact h) (by assumption) ?_
      (try simp only [Act.put, List.setIfInBounds_toArray, List.set_cons_zero, List.set_cons_succ])
      refine takeH 11 (by simp only [List.getElem?_toArray, List.getElem?_cons_succ, List.getElem?_cons_zero]; rfl) (by kernel_rfl) (by kernel_rfl) (by kernel_rfl) (by rfl) (by intro w hSw; (try dsimp only at hSw); go_simp; first | done | with_reducible rfl) (by intro _ _ _ h; exact h) (by assumption) ?_
      (try simp only [Act.put, List.setIfInBounds_toArray, List.set_cons_zero, List.set_cons_succ])
      refine takeH 12 (by simp only [List.getElem?_toArray, List.getElem?_cons_succ, List.getElem?_cons_zero]; rfl) (by kernel_rfl) (by kernel_rfl) (by kernel_rfl) (by rfl) (by intro w hSw; (try dsimp only at hSw); go_simp; first | done | with_reducible rfl) (by intro _ _ _ h; exact h) (by assumption) ?_
      (try simp only [Act.put, List.setIfInBounds_toArray, List.set_cons_zero, List.set_cons_succ])
      refine takeH 14 (by simp only [List.getElem?_toArray, List.getElem?_cons_succ, List.getElem?_cons_zero]; rfl) (by kernel_rfl) (by kernel_rfl) (by kernel_rfl) (by rfl) (by intro w hSw; (try dsimp only at hSw); go_simp; first | done | with_reducible rfl) (by intro _ _ _ h; exact h) (by assumption) ?_
      (try simp only [Act.put, List.setIfInBounds_toArray, List.set_cons_zero, List.set_cons_succ])
      refine wpAnyH_ready (rs := [13]) (by kernel_rfl) (by simp) (AllReadyH.cons (by simp only [List.getElem?_toArray, List.getElem?_cons_succ, List.getElem?_cons_zero]; rfl) (fun K hK => ?_) AllReadyH.nil)
      go_simp
      refine hK.out _ _ (⟨p0, g3⟩) (fun hHeld => ?_)
      clear hK K
      (try simp only [Act.put, List.setIfInBounds_toArray, List.set_cons_zero, List.set_cons_succ])
      refine wpAnyH_ready (rs := [15]) (by kernel_rfl) (by simp) (AllReadyH.cons (by simp only [List.getElem?_toArray, List.getElem?_cons_succ, List.getElem?_cons_zero]; rfl) (fun K hK => ?_) AllReadyH.nil)
      go_simp
      go_at_call 54
      refine (spec_pour_yes _ _ _ _ v hcok hwt hMn).mono ?_; rintro e w3 ⟨rfl, hb3⟩
      have hb4 : Below wr.heap.size wr w3 := below_step (below_dr (Below.refl _ _)) hb3
      (try go_simp)
      refine hK.out _ _ (keep2 ⟨p0, g3⟩ hb4) (fun hHeld => ?_)
      clear hK K
      (try simp only [Act.put, List.setIfInBounds_toArray, List.set_cons_zero, List.set_cons_succ])
      have S3 := HS.out.keep hb4
      have W3 := HW.out.keep hb4
      have f0 := own_free S3.o0.1 (g := q) rfl (D * 2)
      have f1 := own_free S3.o0.1 (g := q) rfl (D * 2 + 1)
      replace g1 := keep1 g1 hb4
      replace g2 := keep1 g2 hb4
      replace S3 := Lib.hid S3
      replace W3 := Lib.hid W3
      clear HS HW
      refine takeH 16 (by simp only [List.getElem?_toArray, List.getElem?_cons_succ, List.getElem?_cons_zero]; rfl) (by kernel_rfl) (by kernel_rfl) (by kernel_rfl) (by rfl) (by intro w hSw; (try dsimp only at hSw); go_simp; first | done | with_reducible rfl) (by intro _ _ _ h; exact h) (by assumption) ?_
      (try simp only [Act.put, List.setIfInBounds_toArray, List.set_cons_zero, List.set_cons_succ])
      refine takeH 17 (by simp only [List.getElem?_toArray, List.getElem?_cons_succ, List.getElem?_cons_zero]; rfl) (by kernel_rfl) (by kernel_rfl) (by kernel_rfl) (by rfl) (by intro w hSw; (try dsimp only at hSw); go_simp; first | done | with_reducible rfl) (by intro _ _ _ h; exact h) (by assumption) ?_
      (try simp only [Act.put, List.setIfInBounds_toArray, List.set_cons_zero, List.set_cons_succ])
      refine takeH 18 (by simp only [List.getElem?_toArray, List.getElem?_cons_succ, List.getElem?_cons_zero]; rfl) (by kernel_rfl) (by kernel_rfl) (by kernel_rfl) (by rfl) (by intro w hSw; (try dsimp only at hSw); go_simp; first | done | with_reducible rfl) (by intro _ _ _ h; exact h) (by assumption) ?_
      (try simp only [Act.put, List.setIfInBounds_toArray, List.set_cons_zero, List.set_cons_succ])
      refine takeH 19 (by simp only [List.getElem?_toArray, List.getElem?_cons_succ, List.getElem?_cons_zero]; rfl) (by kernel_rfl) (by kernel_rfl) (by kernel_rfl) (by rfl) (by intro w hSw; (try dsimp only at hSw); go_simp; first | done | with_reducible rfl) (by intro _ _ _ h; exact h) (by assumption) ?_
      (try simp only [Act.put, List.setIfInBounds_toArray, List.set_cons_zero, List.set_cons_succ])
      refine wpAnyH_ready (rs := [20]) (by kernel_rfl) (by simp) (AllReadyH.cons (by simp only [List.getElem?_toArray, List.getElem?_cons_succ, List.getElem?_cons_zero]; rfl) (fun K hK => ?_) AllReadyH.nil)
      go_simp
      refine hK.out _ _ (keepS2 hHeld n1 n2) (fun hHeld => ?_)
      clear hK K
      (try simp only [Act.put, List.setIfInBounds_toArray, List.set_cons_zero, List.set_cons_succ])
      refine takeH 21 (by simp only [List.getElem?_toArray, List.getElem?_cons_succ, List.getElem?_cons_zero]; rfl) (by kernel_rfl) (by kernel_rfl) (by kernel_rfl) (by rfl) (by intro w hSw; (try dsimp only at hSw); go_simp; first | done | with_reducible rfl) (by intro _ _ _ h; exact h) (by assumption) ?_
      (try simp only [Act.put, List.setIfInBounds_toArray, List.set_cons_zero, List.set_cons_succ])
      refine wpAnyH_done (by kernel_rfl) ?_ _
      have hb0 := (S3.out.o0.1.lt q rfl).1
      have T1 := S3.out.set L.out (q := q) rfl (D * 2) r
      rw [HZ2.out] at T1
      have T2 := Lib.hid (T1.set L.out (q := q) rfl (D * 2 + 1) (l + v))
      have W5 := Lib.hid ((W3.out.chg (Chg.set (lo := lo0) (hi := hi0) q (D * 2) (.int .i64 r) hb0 hqh) (.inr (by omega))).chg (Chg.set (lo := lo0) (hi := hi0) q (D * 2 + 1) (.int .i64 (l + v)) hb0 hqh) (.inr (by omega)))
      clear g1 g2 g3 p0 p1 f0 f1 hb3 hb4 hHeld T1
      go_wp2
      go_roundg gk
      case rel => exact ⟨i + 1, by omega, by simp, by rw [HU.out], by rw [HU.out]; exact T2.out, W5.out⟩
      case measure => omega
    · obtain rfl : i = M := by omega
      rw [HZ.out] at hst ⊢
      obtain ⟨p0, p1, _⟩ := blk2 hst.bx
      obtain ⟨r0, r1, r2, r3⟩ := blk2 hst.rs
      have HS := Lib.hid hst
      have hlay := L.out
      clear hst how
      go_wp2
      have hst := HS.out
      refine bodyPost_ret (v := .tuple #[CH (.slice aC m cC) (.slice aI m cI), .int .i64 Z.2]) (by simp [*, results, Try.results25, go_sem]) rfl ?_
      obtain ⟨a1, a2, a3, a4, a5, a6⟩ := hlay
      refine stChain.got_of (K := fun t => .tuple #[t, .int .i64 Z.2]) (w.heap.size + 1) (w.heap.size + 2) hst.o0 hst.o1 ?_ (.inr (by omega)) (.inr (by omega)) (by omega) (by omega) (by omega) a5 hst.bl
      refine Chg.trans ?_ (Chg.set _ _ _ (by omega) (by omega))
      exact Chg.set _ _ _ (by omega) (by omega)
set_option maxHeartbeats 1000000 in
theorem spec_pinto_no (w : World) (va vb : Value) (n m : Nat) (zs ns : List Int) (k x : Int) (hn : n ≤ 1048576) (hm : m ≤ 1048576) (ha : Row 2 w va n (IV zs)) (hb : Row 1 w vb m (IV ns)) (no : ¬ (CO zs n ns m ∧ In n k ∧ Wok x)) :
    Calls Try.prog 25 #[CH va vb, .int .i64 k, .int .i64 x] w (stChain.Got w n zs m ns (fun t => .tuple #[t, .int .i64 (-1)])) := by
  obtain ⟨a, ca, rfl⟩ := ha.shape
  obtain ⟨b, cb, rfl⟩ := hb.shape
  have HA := Lib.hid ha
  have HB := Lib.hid hb
  have B0 : Below w.heap.size w ((w.alloc (.cells #[.slice a n ca, .slice b m cb] TC)).alloc (.cells #[.slice none 0 0, .slice none 0 0] TC)) := below_al (below_al (Below.refl _ _) _) _
  have hra := ha.keep B0
  have hrb := hb.keep B0
  have HL := Lib.hid B0
  have HN := Lib.hid no
  clear ha hb B0 no
  go_enter Try.func25, Try.ntmps25
  go_wp2_with fail
  refine (spec_copy _ _ _ n m zs ns hn hm hra hrb).mono ?_; rintro e w1 ⟨u0, u1, lo0, hi0, lo1, hi1, rfl, ⟨O0, l0⟩, ⟨O1, l1⟩, hd, hb1⟩
  have hz : w.heap.size + 2 = ((w.alloc (.cells #[.slice a n ca, .slice b m cb] TC)).alloc (.cells #[.slice none 0 0, .slice none 0 0] TC)).heap.size := by simp
  rw [← hz] at l0 l1
  have L : Lay w w1.heap.size lo0 hi0 lo1 hi1 := ⟨l0, l1, O0.2.2, O1.2.2, hd, by have := hb1.size; rw [← hz] at this; exact this⟩
  have X0 : Blk w1 w.heap.size TC #[.slice a n ca, .slice b m cb] := ((Blk.new _ _ _).alloc _).step hb1
  have X1 : Blk w1 (w.heap.size + 1) TC #[.slice none 0 0, .slice none 0 0] := (Blk.new1 w TC #[.slice none 0 0, .slice none 0 0] _).step hb1
  have B1 := below_step HL.out hb1
  obtain ⟨aC, cC, rfl⟩ := own_shape O0.1
  obtain ⟨aI, cI, rfl⟩ := own_shape O1.1
  have O := Lib.hid (And.intro O0 O1)
  have L := Lib.hid L
  have X0 := Lib.hid X0
  have X1 := Lib.hid X1
  have B1 := Lib.hid B1
  clear hra hrb O0 O1 l0 l1 hd hb1 hz HL
  have B2 : Below w.heap.size w (w1.alloc (.cells #[.slice aC n cC, .slice aI m cI] TC)) := below_al B1.out _
  have hra := HA.out.keep B2
  have hrb := HB.out.keep B2
  obtain ⟨p0, p1, _⟩ := blk2 (X0.out.alloc (.cells #[.slice aC n cC, .slice aI m cI] TC))
  have hS : St w (w1.alloc (.cells #[.slice aC n cC, .slice aI m cI] TC)) w1.heap.size (.slice aC n cC) (.slice aI m cI) lo0 hi0 lo1 hi1 n zs m ns :=
    ⟨O.out.1.keep (below_al (Below.refl _ _) _), O.out.2.keep (below_al (Below.refl _ _) _), Blk.new _ _ _, X1.out.alloc _, B2⟩
  have HS := Lib.hid hS
  clear hS B2 X0 X1 B1 HA HB
  by_cases h : CO zs n ns m ∧ In n k
  · obtain ⟨M, hM1, hM, hE⟩ := Leads.ex h.1.2.2.2.2.1 h.1.2.2.2.2.2 h.2
    have hx : ¬ Wok x := fun hx => HN.out ⟨h.1, h.2, hx⟩
    have HX := Lib.hid hx
    have h1 := Lib.hid h.1
    have h2 := Lib.hid h.2
    have hE := Lib.hid hE
    have hM0 : ((M : Int) == 0) = false := by simp; omega
    clear h HN hx
    go_wp2_with fail
    refine (spec_way_yes _ _ _ n m zs ns k M hra hrb h1.out h2.out hM hE.out).mono ?_; rintro e w2 ⟨vw, rfl, hown, hb2⟩
    have HS := Lib.hid (HS.out.keep hb2)
    obtain ⟨aw, cw, rfl⟩ := own_shape hown
    clear hra hrb p0 p1 hown hb2
    go_wp2_with fail
    refine (spec_water_no _ _ HX.out).mono ?_; rintro e w3 ⟨rfl, rfl⟩
    obtain ⟨p0, p1, _⟩ := blk2 HS.out.bx
    obtain ⟨r0, r1, r2, r3⟩ := blk2 HS.out.rs
    go_wp2
    have hst := HS.out
    have hlay := L.out
    refine bodyPost_ret (v := .tuple #[CH (.slice aC n cC) (.slice aI m cI), .int .i64 (-1)]) (by simp [*, results, Try.results25, go_sem]) rfl ?_
    obtain ⟨a1, a2, a3, a4, a5, a6⟩ := hlay
    refine stChain.got_of (K := fun t => .tuple #[t, .int .i64 (-1)]) (w.heap.size + 1) (w.heap.size + 2) hst.o0 hst.o1 ?_ (.inr (by omega)) (.inr (by omega)) (by omega) (by omega) (by omega) a5 hst.bl
    refine Chg.trans ?_ (Chg.set _ _ _ (by omega) (by omega))
    exact Chg.set _ _ _ (by omega) (by omega)
  · have h := Lib.hid h
    clear HN
    go_wp2_with fail
    refine (spec_way_no _ _ _ n m zs ns k hn hm hra hrb h.out).mono ?_; rintro e w2 ⟨vw, rfl, hown, hb2⟩
    have HS := Lib.hid (HS.out.keep hb2)
    obtain ⟨aw, cw, rfl⟩ := own_shape hown
    clear hra hrb p0 p1 hown hb2
    obtain ⟨p0, p1, _⟩ := blk2 HS.out.bx
    obtain ⟨r0, r1, r2, r3⟩ := blk2 HS.out.rs
    go_wp2
    have hst := HS.out
    have hlay := L.out
    refine bodyPost_ret (v := .tuple #[CH (.slice aC n cC) (.slice aI m cI), .int .i64 (-1)]) (by simp [*, results, Try.results25, go_sem]) rfl ?_
    obtain ⟨a1, a2, a3, a4, a5, a6⟩ := hlay
    refine stChain.got_of (K := fun t => .tuple #[t, .int .i64 (-1)]) (w.heap.size + 1) (w.heap.size + 2) hst.o0 hst.o1 ?_ (.inr (by omega)) (.inr (by omega)) (by omega) (by omega) (by omega) a5 hst.bl
    refine Chg.trans ?_ (Chg.set _ _ _ (by omega) (by omega))
    exact Chg.set _ _ _ (by omega) (by omega)
end Go.Proofs.Ytmffhogefchpbaa.chn
