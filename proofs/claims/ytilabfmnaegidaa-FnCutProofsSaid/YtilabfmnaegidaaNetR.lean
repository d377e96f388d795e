/- Drawn nets. -/
import Derived.Test.YtilabfmnaegidaaDraw
import Derived.Test.YtilabfmnaegidaaNetA
import Derived.Deep.RegionHeld3
import Derived.Deep.RegionLaw
namespace Go.Proofs.Ytilabfmnaegidaa.nt
open Go.RowKit Go.Proofs.Ytilabfmnaegidaa.kit Go.Proofs.Ytilabfmnaegidaa.lawi Go.Proofs.Ytilabfmnaegidaa.own Go.Proofs.Ytilabfmnaegidaa.rain Go.Proofs.Ytilabfmnaegidaa.yrl Go.Proofs.Ytilabfmnaegidaa.net Go.Proofs.Ytilabfmnaegidaa.draw
/-- A net as it is drawn. -/
def FairN (P : Int) (n : Nat) (zs : List Int) : Prop := zs.length = n * 3 ∧ ∀ k, k < n → (0 ≤ pF zs k ∧ pF zs k < P) ∧ (0 ≤ pT zs k ∧ pT zs k < P) ∧ pF zs k ≠ pT zs k ∧ 1 ≤ pW zs k ∧ pW zs k ≤ 20
theorem FairN.ok {P : Int} {n : Nat} {zs : List Int} (h : FairN P n zs) (h1 : 2 ≤ P) (h2 : P ≤ 6) (h3 : n ≤ 9) : NO P n zs :=
  ⟨h1, by omega, by omega, fun k hk => by
    obtain ⟨a, b, c, d, e⟩ := h.2 k hk
    exact ⟨by omega, by omega, c, d, by omega⟩⟩
theorem FairN.nil (P : Int) : FairN P 0 [] := ⟨rfl, fun k hk => by omega⟩
theorem pF_app1 {zs l : List Int} {n k : Nat} (hl : zs.length = n * 3) (hk : k < n) : pF (zs ++ l) k = pF zs k ∧ pT (zs ++ l) k = pT zs k ∧ pW (zs ++ l) k = pW zs k := by
  unfold pF pT pW
  simp only [List.getD_eq_getElem?_getD]
  rw [List.getElem?_append_left (by omega), List.getElem?_append_left (by omega), List.getElem?_append_left (by omega)]
  exact ⟨rfl, rfl, rfl⟩
theorem pF_app2 {zs : List Int} {n : Nat} {x y z : Int} (hl : zs.length = n * 3) : pF (zs ++ [x, y, z]) n = x ∧ pT (zs ++ [x, y, z]) n = y ∧ pW (zs ++ [x, y, z]) n = z := by
  unfold pF pT pW
  simp only [List.getD_eq_getElem?_getD]
  rw [List.getElem?_append_right (by omega), List.getElem?_append_right (by omega), List.getElem?_append_right (by omega), hl]
  refine ⟨?_, ?_, ?_⟩
  · rw [show n * 3 - n * 3 = 0 by omega]; rfl
  · rw [show n * 3 + 1 - n * 3 = 1 by omega]; rfl
  · rw [show n * 3 + 2 - n * 3 = 2 by omega]; rfl
theorem FairN.snoc {P : Int} {n : Nat} {zs : List Int} (h : FairN P n zs) {x y z : Int} (h1 : 0 ≤ x ∧ x < P) (h2 : 0 ≤ y ∧ y < P) (h3 : x ≠ y) (h4 : 1 ≤ z ∧ z ≤ 20) : FairN P (n + 1) (zs ++ [x, y, z]) := by
  refine ⟨by simp [h.1]; omega, fun k hk => ?_⟩
  rcases (show k < n ∨ k = n from by omega) with h' | rfl
  · obtain ⟨e1, e2, e3⟩ := pF_app1 (l := [x, y, z]) h.1 h'
    rw [e1, e2, e3]
    exact h.2 k h'
  · obtain ⟨e1, e2, e3⟩ := pF_app2 (x := x) (y := y) (z := z) h.1
    rw [e1, e2, e3]
    exact ⟨h1, h2, h3, h4⟩
/-- From a place round to another one. -/
theorem rot {a y P : Int} (ha0 : 0 ≤ a) (ha1 : a < P) (hy0 : 0 ≤ y) (hy1 : y < P - 1) : 0 ≤ (a + 1 + y).tmod P ∧ (a + 1 + y).tmod P < P ∧ a ≠ (a + 1 + y).tmod P := by
  by_cases h : a + 1 + y < P
  · rw [Int.tmod_eq_of_lt (by omega) h]
    omega
  · have e : (a + 1 + y).tmod P = a + 1 + y - P := by
      rw [show a + 1 + y = (a + 1 + y - P) + P by omega, Int.tmod_eq_emod_of_nonneg (by omega), Int.add_emod_right, Int.emod_eq_of_lt (by omega) (by omega)]
      omega
    rw [e]
    omega
theorem blk_row {w : World} {g : Nat} {t e : TypeId} {cs : Array Value} {base sz n : Nat} {v : Value} {xs : List Value} (h : Blk w g t cs) (ho : w.ownsRow base e sz v n xs) (ht : t ≠ e) : v.ownBlock ≠ some g := by
  have h : w.heap[g]? = some (.cells cs t (0, 0)) := h
  rcases ho.2 with ⟨rfl, _⟩ | ⟨b, cp, cur, rfl, _, hh, _⟩
  · simp [Value.ownBlock]
  · intro e
    simp [Value.ownBlock] at e
    subst e
    rw [hh] at h
    cases h
    exact ht rfl
/-- While a net is drawn: its box, the answer's box, the row, the cursor. -/
structure NS (w wr : World) (c : Nat) (a : Option Addr) (len cap g : Nat) (P : Int) (v : Value) (k : Nat) (zs : List Int) : Prop where
  bx : Blk wr g TN #[.int .i64 P, v]
  rs : Blk wr w.heap.size TN #[.int .i64 0, .slice none 0 0]
  oo : wr.ownsRow (w.heap.size + 1) TP 3 v k (IV zs)
  cu : Cur wr c a len cap
  gr : w.grownBy wr (some c)
  lc : c < w.heap.size
  lo : ∀ x, a = some x → 0 < len → x.block < w.heap.size
  lg : w.heap.size < g
section
variable {w wr wr' : World} {c : Nat} {a : Option Addr} {len cap g : Nat} {P : Int} {v : Value} {k : Nat} {zs : List Int}
theorem NS.drew (h : NS w wr c a len cap g P v k zs) : NS w wr.drew c a len cap g P v k zs :=
  ⟨h.bx.drew, h.rs.drew, h.oo, h.cu.drewN 1, grown_drew h.gr, h.lc, h.lo, h.lg⟩
theorem NS.draw (h : NS w wr c a len cap g P v k zs) (hc : Cur wr' c a len cap) (hg : wr.grownBy wr' (some c)) : NS w wr' c a len cap g P v k zs :=
  have lc := h.lc
  have lg := h.lg
  ⟨h.bx.grown hg (by simp; omega), h.rs.grown hg (by simp; omega), h.oo.kept hg (own_not h.oo (by omega)), hc, grown_trans h.gr hg, h.lc, h.lo, h.lg⟩
theorem NS.size (h : NS w wr c a len cap g P v k zs) : w.heap.size + 1 ≤ wr.heap.size := by have := h.rs.lt; omega
theorem NS.mid (h : NS w wr c a len cap g P v k zs) (hg : wr.grownBy wr' v.ownBlock) : Blk wr' g TN #[.int .i64 P, v] ∧ Blk wr' w.heap.size TN #[.int .i64 0, .slice none 0 0] ∧ Cur wr' c a len cap ∧ w.grownBy wr' (some c) :=
  have lc := h.lc
  ⟨h.bx.grown hg (fun e => blk_row h.bx h.oo (by decide) e.symm), h.rs.grown hg (fun e => blk_row h.rs h.oo (by decide) e.symm), h.cu.above hg (B := w.heap.size) (fun k hk => by have := (h.oo.lt k hk).1; omega) h.lc h.lo, grown_above h.gr hg (fun k hk => by have := (h.oo.lt k hk).1; omega)⟩
theorem NS.app (h : NS w wr c a len cap g P v k zs) {v' : Value} {k' : Nat} {zs' : List Int} (ho : wr'.ownsRow (w.heap.size + 1) TP 3 v' k' (IV zs')) (hg : wr.grownBy wr' v.ownBlock) : NS w (wr'.setCell ⟨g, 1, none⟩ v') c a len cap g P v' k' zs' :=
  have m := h.mid hg
  have lg := h.lg
  have hs := grown_setCell (grown_refl wr' (some g)) 1 none v'
  ⟨m.1.set_ 1 _, m.2.1.far (by show w.heap.size ≠ g; omega) _, ho.kept hs (.inr (blk_row m.1 ho (by decide))), m.2.2.1.above hs (B := w.heap.size) (fun k hk => by cases hk; omega) h.lc h.lo, grown_above m.2.2.2 hs (fun k hk => by cases hk; omega), h.lc, h.lo, h.lg⟩
/-- The answer is laid into its box. -/
theorem NS.res (h : NS w wr c a len cap g P v k zs) (u0 u1 : Value) :
    ((wr.setCell ⟨w.heap.size, 0, none⟩ u0).setCell ⟨w.heap.size, 1, none⟩ u1).ownsRow w.heap.size TP 3 v k (IV zs) ∧
    Cur ((wr.setCell ⟨w.heap.size, 0, none⟩ u0).setCell ⟨w.heap.size, 1, none⟩ u1) c a len cap ∧
    w.grownBy ((wr.setCell ⟨w.heap.size, 0, none⟩ u0).setCell ⟨w.heap.size, 1, none⟩ u1) (some c) := by
  have lc := h.lc
  have lo := h.lo
  have hs := grown_trans (grown_setCell (grown_refl wr (some w.heap.size)) 0 none u0) (grown_setCell (grown_refl _ (some w.heap.size)) 1 none u1)
  exact ⟨own_mono (h.oo.kept hs (.inr (blk_row h.rs h.oo (by decide)))) (by omega), h.cu.above hs (B := w.heap.size) (fun k hk => by cases hk; omega) lc lo, grown_above h.gr hs (fun k hk => by cases hk; omega)⟩
end
/-- What a draw of a net leaves. -/
def DrewN (w : World) (c : Nat) (a : Option Addr) (len cap : Nat) (e : Ending) (w' : World) : Prop :=
  ∃ (P : Int) (n : Nat) (zs : List Int) (v : Value), e = .returned (Nv P v) ∧ 2 ≤ P ∧ P ≤ 6 ∧ n ≤ 9 ∧ FairN P n zs ∧ w'.ownsRow w.heap.size TP 3 v n (IV zs) ∧ Cur w' c a len cap ∧ w.grownBy w' (some c)
set_option maxHeartbeats 4000000 in
theorem net_any (w : World) (c : Nat) (a : Option Addr) (len cap : Nat) (hcur : Cur w c a len cap) :
    Calls Try.prog 38 #[.pointer (some ⟨c, 0, none⟩)] w (DrewN w c a len cap) := by
  have hclt := hcur.lt
  have hlow := hcur.low
  have x0 := Blk.new w TN #[.int .i64 0, .slice none 0 0]
  go_enter Try.func38, Try.ntmps38
  go_wp2_with fail
  refine (below_any _ c a len cap 5 (by omega) (hcur.above (World.grownBy_alloc w _ none) (by simp) hclt hlow)).mono ?_; rintro e w1 ⟨x, hx, rfl, hc1, hg1⟩
  obtain ⟨x1, x2⟩ := hx.of (by omega)
  have y0 := x0.grown hg1 (by simp; omega)
  obtain ⟨P, hP⟩ : ∃ P, 2 + x = P := ⟨_, rfl⟩
  have P1 : 2 ≤ P := by omega
  have P2 : P ≤ 6 := by omega
  have zg : w.heap.size < w1.heap.size := y0.lt
  have e0 : w.grownBy w1 (some c) := grown_trans (World.grownBy_alloc w _ _) hg1
  have D0 : NS w (w1.alloc (.cells #[.int .i64 P, .slice none 0 0] TN)) c a len cap w1.heap.size P (.slice none 0 0) 0 [] :=
    ⟨Blk.new _ _ _, y0.alloc _, World.ownsRow_nil _ _ _ _, hc1.above (World.grownBy_alloc _ _ none) (by simp) (show c < w1.heap.size by omega) (fun u e h0 => by have := hlow u e h0; omega), grown_alloc e0 _, hclt, hlow, zg⟩
  have HD := Lib.hid D0
  clear hx x0 y0 hc1 hg1 e0 D0 x1 x2 hcur
  obtain ⟨g, hg⟩ : ∃ g, w1.heap.size = g := ⟨_, rfl⟩
  rw [hg] at HD zg
  go_wp2_with fail
  refine (below_any _ c a len cap 10 (by omega) HD.out.cu).mono ?_; rintro e w2 ⟨m, hm, rfl, hc2, hg2⟩
  obtain ⟨m1, m2⟩ := hm.of (by omega)
  replace HD := Lib.hid (HD.out.draw hc2 hg2)
  obtain ⟨M, hM⟩ : ∃ M : Nat, m = (M : Int) := ⟨m.toNat, by omega⟩
  subst hM
  have hM9 : M ≤ 9 := by omega
  clear hc2 hg2 hm m1 m2
  go_wp2
  clear hg hP
  go_loopg [4] M (fun gh s4 wr => ∃ (k : Nat) (zs : List Int) (v : Value), k + gh = M ∧ s4 = .int .i64 (gh : Nat) ∧ FairN P k zs ∧ NS w wr c a len cap g P v k zs)
  case atStart => exact ⟨0, [], _, by omega, rfl, .nil P, HD.out⟩
  case round =>
    clear HD
    obtain ⟨k, zs, v, hkg, rfl, hf, hns⟩ := hrel
    obtain ⟨p0, p1⟩ := stNet.blk_ hns.bx
    have HD := Lib.hid hns
    have HF := Lib.hid hf
    clear hns hf
    by_cases hlt : 0 < gk
    · obtain ⟨gl, rfl⟩ : ∃ g', gk = g' + 1 := ⟨gk - 1, by omega⟩
      go_wp2_with fail
      refine (below_any _ c a len cap P (by omega) HD.out.cu).mono ?_; rintro e w3 ⟨A, hA, rfl, hc3, hg3⟩
      obtain ⟨A0, A1⟩ := hA.of (by omega)
      replace HD := Lib.hid (HD.out.draw hc3 hg3)
      clear p0 p1 hA hc3 hg3
      obtain ⟨p0, p1⟩ := stNet.blk_ HD.out.bx
      have hP0 : ¬ P = 0 := by omega
      have hw1 : IntKind.i64.wrap (P - 1) = P - 1 := IntWalk.i64_in _ (by omega)
      have hw2 : IntKind.i64.wrap (A + 1) = A + 1 := IntWalk.i64_in _ (by omega)
      go_wp2
      go_region_held3 (fun W => W.cell? ⟨g, 0, none⟩ = some (.int .i64 P)) (first | assumption | exact p0 | exact p5 | fail)
        (first
          | (go_at_call 39; refine (below_any _ c a len cap (P - 1) (by omega) HD.out.drew.cu).mono ?_; rintro e w5 ⟨y, hy, rfl, hc5, hg5⟩
             have HD5 := Lib.hid (HD.out.drew.draw hc5 hg5)
             obtain ⟨p5, p6⟩ := stNet.blk_ HD5.out.bx
             obtain ⟨y0, y1⟩ := hy.of (by omega)
             have hrot := rot A0 A1 y0 y1
             obtain ⟨B, hB⟩ : ∃ B, (A + 1 + y).tmod P = B := ⟨_, rfl⟩
             rw [hB] at hrot
             have hw3 : IntKind.i64.wrap (A + 1 + y) = A + 1 + y := IntWalk.i64_in _ (by omega)
             clear hc5 hg5 hy))
      all_goals
        clear p0 p1 p5 p6 hw1 hw2 hw3 hB y0 y1 hP0
        obtain ⟨p0, p1⟩ := stNet.blk_ HD5.out.bx
        obtain ⟨f0, f1⟩ := stNet.fz_ HD5.out.bx
        have hsz := HD5.out.size
        have hk9 : k ≤ 9 := by omega
        go_wp2
        go_region_law (first
            | (refine stPipe.appR _ rfl _ _ rfl (w.heap.size + 1) A B Z HD6.out.oo rfl _ rfl rfl (by omega) HD6.out.size ?_; intro v7 w7 ho7 hg7
               obtain ⟨aI, cI, rfl⟩ := own_shape ho7
               have HO7 := Lib.hid ho7
               have HG7 := Lib.hid hg7
               obtain ⟨p8, p9⟩ := stNet.blk_ (HD6.out.mid hg7).1
               obtain ⟨f8, f9⟩ := stNet.fz_ (HD6.out.mid hg7).1
               clear ho7 hg7)
            | (go_simp
               go_at_call 39; refine (below_any _ c a len cap 20 (by omega) HD5.out.drew.cu).mono ?_; rintro e w6 ⟨z, hz, rfl, hc6, hg6⟩
               have HD6 := Lib.hid (HD5.out.drew.draw hc6 hg6)
               obtain ⟨z0, z1⟩ := hz.of (by omega)
               obtain ⟨Z, hZ⟩ : ∃ Z, 1 + z = Z := ⟨_, rfl⟩
               have hw4 : IntKind.i64.wrap Z = Z := IntWalk.i64_in _ (by omega)
               obtain ⟨p5, p6⟩ := stNet.blk_ HD6.out.bx
               have p7 := keep1 p6 (below_al (Below.refl _ _) (.cells #[.int .i64 A, .int .i64 B, .int .i64 Z] TP))
               clear hc6 hg6 hz)
            | fail)
        all_goals
          have D7 := HD6.out.app HO7.out HG7.out
          go_wp2
          go_roundg gl
          case measure => omega
          case rel => exact ⟨k + 1, _, _, by omega, by go_num, HF.out.snoc ⟨A0, A1⟩ ⟨hrot.1, hrot.2.1⟩ hrot.2.2 ⟨by omega, by omega⟩, D7⟩
    · obtain rfl : gk = 0 := by omega
      obtain rfl : k = M := by omega
      obtain ⟨aI, cI, rfl⟩ := own_shape HD.out.oo
      obtain ⟨q0, q1⟩ := stNet.blk_ HD.out.rs
      obtain ⟨f0, f1⟩ := stNet.fz_ HD.out.rs
      have hne : ¬ w.heap.size = g := by omega
      have hne' : ¬ g = w.heap.size := by omega
      go_wp2
      refine bodyPost_ret (v := Nv P (.slice aI k cI)) (by simp [*, results, Try.results38, go_sem]) rfl ?_
      obtain ⟨e1, e2, e3⟩ := HD.out.res (.int .i64 P) (.slice aI k cI)
      exact ⟨P, k, zs, _, rfl, P1, P2, by omega, HF.out, e1, e2, e3⟩
end Go.Proofs.Ytilabfmnaegidaa.nt
