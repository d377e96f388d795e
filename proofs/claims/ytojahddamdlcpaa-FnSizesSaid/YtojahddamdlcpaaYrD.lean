/- Drawn years. -/
import Derived.Test.YtojahddamdlcpaaDrawN
import Derived.Test.YtojahddamdlcpaaYrS
namespace Go.Proofs.Ytojahddamdlcpaa.yr
open Go.RowKit Go.Proofs.Ytojahddamdlcpaa.kit Go.Proofs.Ytojahddamdlcpaa.lawi Go.Proofs.Ytojahddamdlcpaa.own Go.Proofs.Ytojahddamdlcpaa.rainl Go.Proofs.Ytojahddamdlcpaa.rain Go.Proofs.Ytojahddamdlcpaa.cis Go.Proofs.Ytojahddamdlcpaa.chl Go.Proofs.Ytojahddamdlcpaa.yrl Go.Proofs.Ytojahddamdlcpaa.draw
/-- A year as it is drawn. -/
def FairY (r s d : Int) (n : Nat) (cs : List Int) : Prop := (1 ≤ r ∧ r ≤ 250) ∧ (0 ≤ s ∧ s ≤ r) ∧ (0 ≤ d ∧ d ≤ 39) ∧ (1 ≤ n ∧ n ≤ 12) ∧ cs.length = n ∧ ∀ k, k < n → 0 ≤ cs.getD k 0 ∧ cs.getD k 0 ≤ 99
theorem FairY.ok {r s d : Int} {n : Nat} {cs : List Int} (h : FairY r s d n cs) : YOk r s d n cs :=
  ⟨⟨h.1.1, by have := h.1.2; omega⟩, h.2.1, ⟨h.2.2.2.1.1, by have := h.2.2.2.1.2; omega⟩, ⟨h.2.2.1.1, by have := h.2.2.1.2; omega⟩, fun k hk => by have := h.2.2.2.2.2 k hk; omega⟩
def SmallC (cs : List Int) (n : Nat) : Prop := cs.length = n ∧ ∀ k, k < n → 0 ≤ cs.getD k 0 ∧ cs.getD k 0 ≤ 99
theorem SmallC.snoc {cs : List Int} {n : Nat} (h : SmallC cs n) {x : Int} (h0 : 0 ≤ x) (h1 : x ≤ 99) : SmallC (cs ++ [x]) (n + 1) := by
  refine ⟨by simp [h.1], fun k hk => ?_⟩
  rcases (show k < n ∨ k = n from by omega) with h' | rfl
  · rw [List.getD_eq_getElem?_getD, List.getElem?_append_left (by rw [h.1]; exact h'), ← List.getD_eq_getElem?_getD]
    exact h.2 k h'
  · rw [List.getD_eq_getElem?_getD, List.getElem?_append_right (by rw [h.1]; exact Nat.le_refl _), h.1]
    simp; omega
/-- While a year is drawn: its box, the answer's box, the row, the cursor. -/
structure YS (w wr : World) (c : Nat) (a : Option Addr) (len cap g : Nat) (r s d : Int) (v : Value) (k : Nat) (cs : List Int) : Prop where
  bx : Blk wr g TY #[.int .i64 r, .int .i64 s, v, .int .i64 d]
  rs : Blk wr w.heap.size TY #[.int .i64 0, .int .i64 0, .slice none 0 0, .int .i64 0]
  oo : wr.ownsRow (w.heap.size + 1) 3 1 v k (IV cs)
  cu : Cur wr c a len cap
  gr : w.grownBy wr (some c)
  lc : c < w.heap.size
  lo : ∀ x, a = some x → 0 < len → x.block < w.heap.size
  lg : w.heap.size < g
section
variable {w wr wr' : World} {c : Nat} {a : Option Addr} {len cap g : Nat} {r s d : Int} {v : Value} {k : Nat} {cs : List Int}
theorem YS.draw (h : YS w wr c a len cap g r s d v k cs) (hc : Cur wr' c a len cap) (hg : wr.grownBy wr' (some c)) : YS w wr' c a len cap g r s d v k cs :=
  have lc := h.lc
  have lg := h.lg
  ⟨h.bx.grown hg (by simp; omega), h.rs.grown hg (by simp; omega), h.oo.kept hg (own_not h.oo (by omega)), hc, grown_trans h.gr hg, h.lc, h.lo, h.lg⟩
theorem YS.size (h : YS w wr c a len cap g r s d v k cs) : w.heap.size + 1 ≤ wr.heap.size := by have := h.rs.lt; omega
/-- One of the numbers is stored. -/
theorem YS.setS (h : YS w wr c a len cap g r s d v k cs) (s' : Int) : YS w (wr.setCell ⟨g, 1, none⟩ (.int .i64 s')) c a len cap g r s' d v k cs :=
  have lg := h.lg
  have lc := h.lc
  have hs := grown_setCell (grown_refl wr (some g)) 1 none (.int .i64 s')
  ⟨h.bx.set_ 1 _, h.rs.far (by show w.heap.size ≠ g; omega) _, h.oo.kept hs (.inr (blk_row h.bx h.oo (by decide))), h.cu.above hs (B := w.heap.size) (fun k hk => by cases hk; omega) h.lc h.lo, grown_above h.gr hs (fun k hk => by cases hk; omega), h.lc, h.lo, h.lg⟩
theorem YS.mid (h : YS w wr c a len cap g r s d v k cs) (hg : wr.grownBy wr' v.ownBlock) : Blk wr' g TY #[.int .i64 r, .int .i64 s, v, .int .i64 d] ∧ Blk wr' w.heap.size TY #[.int .i64 0, .int .i64 0, .slice none 0 0, .int .i64 0] ∧ Cur wr' c a len cap ∧ w.grownBy wr' (some c) :=
  have lc := h.lc
  ⟨h.bx.grown hg (fun e => blk_row h.bx h.oo (by decide) e.symm), h.rs.grown hg (fun e => blk_row h.rs h.oo (by decide) e.symm), h.cu.above hg (B := w.heap.size) (fun k hk => by have := (h.oo.lt k hk).1; omega) h.lc h.lo, grown_above h.gr hg (fun k hk => by have := (h.oo.lt k hk).1; omega)⟩
theorem YS.app (h : YS w wr c a len cap g r s d v k cs) {v' : Value} {k' : Nat} {cs' : List Int} (ho : wr'.ownsRow (w.heap.size + 1) 3 1 v' k' (IV cs')) (hg : wr.grownBy wr' v.ownBlock) : YS w (wr'.setCell ⟨g, 2, none⟩ v') c a len cap g r s d v' k' cs' :=
  have m := h.mid hg
  have lg := h.lg
  have hs := grown_setCell (grown_refl wr' (some g)) 2 none v'
  ⟨m.1.set_ 2 _, m.2.1.far (by show w.heap.size ≠ g; omega) _, ho.kept hs (.inr (blk_row m.1 ho (by decide))), m.2.2.1.above hs (B := w.heap.size) (fun k hk => by cases hk; omega) h.lc h.lo, grown_above m.2.2.2 hs (fun k hk => by cases hk; omega), h.lc, h.lo, h.lg⟩
/-- The answer is laid into its box. -/
theorem YS.res (h : YS w wr c a len cap g r s d v k cs) (u0 u1 u2 u3 : Value) :
    ((((wr.setCell ⟨w.heap.size, 0, none⟩ u0).setCell ⟨w.heap.size, 1, none⟩ u1).setCell ⟨w.heap.size, 2, none⟩ u2).setCell ⟨w.heap.size, 3, none⟩ u3).ownsRow w.heap.size 3 1 v k (IV cs) ∧
    Cur ((((wr.setCell ⟨w.heap.size, 0, none⟩ u0).setCell ⟨w.heap.size, 1, none⟩ u1).setCell ⟨w.heap.size, 2, none⟩ u2).setCell ⟨w.heap.size, 3, none⟩ u3) c a len cap ∧
    w.grownBy ((((wr.setCell ⟨w.heap.size, 0, none⟩ u0).setCell ⟨w.heap.size, 1, none⟩ u1).setCell ⟨w.heap.size, 2, none⟩ u2).setCell ⟨w.heap.size, 3, none⟩ u3) (some c) := by
  have lc := h.lc
  have lo := h.lo
  have hs := grown_trans (grown_trans (grown_trans (grown_setCell (grown_refl wr (some w.heap.size)) 0 none u0) (grown_setCell (grown_refl _ (some w.heap.size)) 1 none u1)) (grown_setCell (grown_refl _ (some w.heap.size)) 2 none u2)) (grown_setCell (grown_refl _ (some w.heap.size)) 3 none u3)
  exact ⟨own_mono (h.oo.kept hs (.inr (blk_row h.rs h.oo (by decide)))) (by omega), h.cu.above hs (B := w.heap.size) (fun k hk => by cases hk; omega) lc lo, grown_above h.gr hs (fun k hk => by cases hk; omega)⟩
end
theorem fz4 {w : World} {g : Nat} {t : TypeId} {a b c d : Value} (h : Blk w g t #[a, b, c, d]) : w.frozen? ⟨g, 0, none⟩ = false ∧ w.frozen? ⟨g, 1, none⟩ = false ∧ w.frozen? ⟨g, 2, none⟩ = false ∧ w.frozen? ⟨g, 3, none⟩ = false := ⟨h.frozen 0, h.frozen 1, h.frozen 2, h.frozen 3⟩
/-- What a draw of a year leaves. -/
def DrewY (w : World) (c : Nat) (a : Option Addr) (len cap : Nat) (e : Ending) (w' : World) : Prop :=
  ∃ (r s d : Int) (n : Nat) (cs : List Int) (v : Value), e = .returned (Yv r s v d) ∧ FairY r s d n cs ∧ w'.ownsRow w.heap.size 3 1 v n (IV cs) ∧ Cur w' c a len cap ∧ w.grownBy w' (some c)
set_option maxHeartbeats 1000000 in
theorem year_any (w : World) (c : Nat) (a : Option Addr) (len cap : Nat) (hcur : Cur w c a len cap) :
    Calls Try.prog 54 #[.pointer (some ⟨c, 0, none⟩)] w (DrewY w c a len cap) := by
  have hclt := hcur.lt
  have hlow := hcur.low
  have x0 := Blk.new w TY #[.int .i64 0, .int .i64 0, .slice none 0 0, .int .i64 0]
  go_enter Try.func54, Try.ntmps54
  go_wp2_with fail
  refine (below_any _ c a len cap 250 (by omega) (hcur.above (World.grownBy_alloc w _ none) (by simp) hclt hlow)).mono ?_; rintro e w1 ⟨x, hx, rfl, hc1, hg1⟩
  obtain ⟨x1, x2⟩ := hx.of (by omega)
  have y0 := x0.grown hg1 (by simp; omega)
  obtain ⟨r, hr⟩ : ∃ r, 1 + x = r := ⟨_, rfl⟩
  have r1 : 1 ≤ r ∧ r ≤ 250 := by omega
  go_wp2_with fail
  refine (below_any _ c a len cap 40 (by omega) hc1).mono ?_; rintro e w2 ⟨d, hd, rfl, hc2, hg2⟩
  obtain ⟨d1, d2⟩ := hd.of (by omega)
  have y1 := y0.grown hg2 (by simp; omega)
  have zg : w.heap.size < w2.heap.size := y1.lt
  have e0 : w.grownBy w2 (some c) := grown_trans (grown_trans (World.grownBy_alloc w _ _) hg1) hg2
  have D0 : YS w (w2.alloc (.cells #[.int .i64 r, .int .i64 0, .slice none 0 0, .int .i64 d] TY)) c a len cap w2.heap.size r 0 d (.slice none 0 0) 0 [] :=
    ⟨Blk.new _ _ _, y1.alloc _, World.ownsRow_nil _ _ _ _, hc2.above (World.grownBy_alloc _ _ none) (by simp) (show c < w2.heap.size by omega) (fun u e h0 => by have := hlow u e h0; omega), grown_alloc e0 _, hclt, hlow, zg⟩
  have HD := Lib.hid D0
  clear hx hd x0 y0 y1 hc1 hc2 hg1 hg2 e0 D0 hr x1 x2 hcur
  obtain ⟨g, hg⟩ : ∃ g, w2.heap.size = g := ⟨_, rfl⟩
  rw [hg] at HD zg
  obtain ⟨p0, p1, p2, p3⟩ := blk4 HD.out.bx
  obtain ⟨f0, f1, f2, f3⟩ := fz4 HD.out.bx
  go_wp2_with fail
  refine (below_any _ c a len cap (r + 1) (by omega) HD.out.cu).mono ?_; rintro e w3 ⟨s, hs, rfl, hc3, hg3⟩
  obtain ⟨s1, s2⟩ := hs.of (by omega)
  replace HD := Lib.hid (HD.out.draw hc3 hg3)
  clear hs hc3 hg3 p0 p1 p2 p3 f0 f1 f2 f3
  have q1 : w3.cell? ⟨g, 1, none⟩ = some (.int .i64 0) := HD.out.bx.cell 1
  have f1 : w3.frozen? ⟨g, 1, none⟩ = false := HD.out.bx.frozen 1
  have D1 := HD.out.setS s
  clear HD
  have HD := Lib.hid D1
  clear D1
  go_wp2_with fail
  refine (below_any _ c a len cap 12 (by omega) HD.out.cu).mono ?_; rintro e w4 ⟨m, hm, rfl, hc4, hg4⟩
  obtain ⟨m1, m2⟩ := hm.of (by omega)
  replace HD := Lib.hid (HD.out.draw hc4 hg4)
  obtain ⟨n, hn⟩ : ∃ n : Nat, 1 + m = n := ⟨(1 + m).toNat, by omega⟩
  have hn1 : 1 ≤ n ∧ n ≤ 12 := by omega
  clear q1 f1 hc4 hg4 hm
  go_wp2
  clear hn m1 m2 hg
  go_loopg [5] n (fun gh i wr => ∃ (k : Nat) (cs : List Int) (v : Value), k + gh = n ∧ i = .int .i64 k ∧ SmallC cs k ∧ YS w wr c a len cap g r s d v k cs)
  case atStart => exact ⟨0, [], _, by omega, rfl, ⟨rfl, fun k hk => by omega⟩, HD.out⟩
  case round =>
    clear HD
    obtain ⟨k, cs, v, hkg, rfl, hsm, hys⟩ := hrel
    by_cases hlt : k < n
    · obtain ⟨gk, rfl⟩ : ∃ g', gk = g' + 1 := ⟨gk - 1, by omega⟩
      have HD := Lib.hid hys
      have HS := Lib.hid hsm
      clear hys hsm
      go_wp2_with fail
      refine (below_any _ c a len cap 100 (by omega) HD.out.cu).mono ?_; rintro e w5 ⟨x, hx, rfl, hc5, hg5⟩
      obtain ⟨x1, x2⟩ := hx.of (by omega)
      replace HD := Lib.hid (HD.out.draw hc5 hg5)
      clear hx hc5 hg5
      go_wp2_with fail
      refine (once_any _ c a len cap 2 (by omega) HD.out.cu).mono ?_; rintro e w6 ⟨bb, rfl, hc6, hg6⟩
      replace HD := Lib.hid (HD.out.draw hc6 hg6)
      clear hc6 hg6
      obtain ⟨p0, p1, p2, p3⟩ := blk4 HD.out.bx
      have hsz := HD.out.size
      have hk12 : k ≤ 12 := by omega
      cases bb
      · go_wp2_with (at_builtin; refine app1 _ rfl _ _ rfl (w.heap.size + 1) x HD.out.oo rfl rfl (by omega) hsz ?_; intro v' w7 ho7 hg7; obtain ⟨aI, cI, rfl⟩ := own_shape ho7; obtain ⟨q0, q1, q2, q3⟩ := blk4 (HD.out.mid hg7).1; obtain ⟨f0, f1, f2, f3⟩ := fz4 (HD.out.mid hg7).1; have HO7 := Lib.hid ho7; have HG7 := Lib.hid hg7; clear ho7 hg7)
        have D6 := HD.out.app HO7.out HG7.out
        go_roundg gk
        case rel => exact ⟨k + 1, _, _, by omega, by go_num, HS.out.snoc x1 (by omega), D6⟩
        case measure => omega
      · go_wp2_with (at_builtin; refine app1 _ rfl _ _ rfl (w.heap.size + 1) 0 HD.out.oo rfl rfl (by omega) hsz ?_; intro v' w7 ho7 hg7; obtain ⟨aI, cI, rfl⟩ := own_shape ho7; obtain ⟨q0, q1, q2, q3⟩ := blk4 (HD.out.mid hg7).1; obtain ⟨f0, f1, f2, f3⟩ := fz4 (HD.out.mid hg7).1; have HO7 := Lib.hid ho7; have HG7 := Lib.hid hg7; clear ho7 hg7)
        have D6 := HD.out.app HO7.out HG7.out
        go_roundg gk
        case rel => exact ⟨k + 1, _, _, by omega, by go_num, HS.out.snoc (by omega) (by omega), D6⟩
        case measure => omega
    · obtain rfl : k = n := by omega
      obtain ⟨aI, cI, rfl⟩ := own_shape hys.oo
      obtain ⟨p0, p1, p2, p3⟩ := blk4 hys.bx
      obtain ⟨q0, q1, q2, q3⟩ := blk4 hys.rs
      obtain ⟨f0, f1, f2, f3⟩ := fz4 hys.rs
      have hne : ¬ w.heap.size = g := by omega
      have hne' : ¬ g = w.heap.size := by omega
      have HD := Lib.hid hys
      have HS := Lib.hid hsm
      clear hys hsm
      go_wp2
      refine bodyPost_ret (v := Yv r s (.slice aI k cI) d) (by simp [*, results, Try.results54, go_sem]) rfl ?_
      obtain ⟨e1, e2, e3⟩ := HD.out.res (.int .i64 r) (.int .i64 s) (.slice aI k cI) (.int .i64 d)
      exact ⟨r, s, d, k, cs, _, rfl, ⟨r1, ⟨s1, by omega⟩, ⟨d1, by omega⟩, hn1, HS.out.1, HS.out.2⟩, e1, e2, e3⟩
/-- A valid year, drawn. -/
def DrewY0 (w : World) (e : Ending) (w' : World) : Prop :=
  ∃ (r s d : Int) (n : Nat) (cs : List Int) (v : Value), e = .returned (Yv r s v d) ∧ FairY r s d n cs ∧ Row 1 w' v n (IV cs) ∧ Below w.heap.size w w'
theorem drawYear (w : World) (a : Option Addr) (len cap : Nat) (hb : Bytes w a len) (hl : len ≤ 1048576) (hx : ∀ x, a = some x → 0 < len → x.block < w.heap.size) :
    Calls Try.prog 25 #[.slice a len cap] w (DrewY0 w) := by
  have x0 := Blk.new w TY #[.int .i64 0, .int .i64 0, .slice none 0 0, .int .i64 0]
  have hb0 : Below w.heap.size w (w.alloc (.cells #[.int .i64 0, .int .i64 0, .slice none 0 0, .int .i64 0] TY)) := below_al (Below.refl _ _) _
  go_enter Try.func25, Try.ntmps25
  go_wp2_with fail
  refine (new_any _ a len cap (hb.grown (World.grownBy_alloc w _ none) (by simp)) hl (fun x e h0 => by have := hx x e h0; simp; omega)).mono ?_; rintro e w1 ⟨c, rfl, hlc, hc1, hg1⟩
  have hb1 : Below w.heap.size w w1 := hb0.grown hg1 hb0.size (by simp)
  have x1 := x0.grown hg1 (by simp)
  have hcw : w.heap.size < c := by simp at hlc; omega
  have hz1 := hb1.size
  have hz2 := x1.lt
  go_wp2_with fail
  refine (year_any w1 c a len cap hc1).mono ?_; rintro e w2 ⟨r, s, d, n, cs, v, rfl, hF, oo, hc2, hg2⟩
  have hb2 : Below w.heap.size w w2 := hb1.grown hg2 hb1.size (by rintro k ⟨⟩; omega)
  have y3 := x1.grown hg2 (by simp; omega)
  obtain ⟨q0, q1, q2, q3⟩ := blk4 y3
  obtain ⟨f0, f1, f2, f3⟩ := fz4 y3
  obtain ⟨aI, cI, rfl⟩ := own_shape oo
  have HF := Lib.hid hF
  have HO := Lib.hid oo
  have HB := Lib.hid hb2
  have HY := Lib.hid y3
  clear x0 x1 hb0 hb1 hc1 hg1 hc2 hg2 hF oo hb2 y3 hb hx
  go_wp2
  refine bodyPost_ret (v := Yv r s (.slice aI n cI) d) (by simp [*, results, Try.results25, go_sem]) rfl ?_
  have hs := grown_trans (grown_trans (grown_trans (grown_setCell (grown_refl w2 (some w.heap.size)) 0 none (.int .i64 r)) (grown_setCell (grown_refl _ (some w.heap.size)) 1 none (.int .i64 s))) (grown_setCell (grown_refl _ (some w.heap.size)) 2 none (.slice aI n cI))) (grown_setCell (grown_refl _ (some w.heap.size)) 3 none (.int .i64 d))
  exact ⟨r, s, d, n, cs, _, rfl, HF.out, .of_own (HO.out.kept hs (.inr (blk_row HY.out HO.out (by decide)))), (((HB.out.setCell (Nat.le_refl _) _).setCell (Nat.le_refl _) _).setCell (Nat.le_refl _) _).setCell (Nat.le_refl _) _⟩
end Go.Proofs.Ytojahddamdlcpaa.yr
