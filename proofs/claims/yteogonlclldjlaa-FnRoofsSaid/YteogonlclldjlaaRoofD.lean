/- Drawn roofs. -/
import Derived.Test.YteogonlclldjlaaDrawN
import Derived.Test.YteogonlclldjlaaStRoof
import Derived.Test.YteogonlclldjlaaRoof
namespace Go.Proofs.Yteogonlclldjlaa.roof
open Go.RowKit Go.Proofs.Yteogonlclldjlaa.kit Go.Proofs.Yteogonlclldjlaa.lawi Go.Proofs.Yteogonlclldjlaa.draw
def Fair (x y : Int) : Prop := 1 ≤ x ∧ x ≤ 200 ∧ 0 ≤ y ∧ y ≤ 100
theorem Fair.ok {x y : Int} (h : Fair x y) : ROk x y := ⟨h.1, by have := h.2.1; omega, h.2.2⟩
def DrewR (w : World) (c : Nat) (a : Option Addr) (len cap : Nat) (e : Ending) (w' : World) : Prop :=
  ∃ x y, e = .returned (R x y) ∧ Fair x y ∧ Cur w' c a len cap ∧ w.grownBy w' (some c)
set_option maxHeartbeats 400000 in
theorem roof_any (w : World) (c : Nat) (a : Option Addr) (len cap : Nat) (hcur : Cur w c a len cap) :
    Calls Try.prog 38 #[.pointer (some ⟨c, 0, none⟩)] w (DrewR w c a len cap) := by
  have hclt := hcur.lt
  have hlow := hcur.low
  have x0 := Blk.new w 27 #[.int .i64 0, .int .i64 0]
  go_enter Try.func38, Try.ntmps38
  go_wp2_with fail
  refine (below_any _ c a len cap 200 (by omega) (hcur.above (World.grownBy_alloc w _ none) (by simp) hclt hlow)).mono ?_; rintro e w1 ⟨x, hx, rfl, hc1, hg1⟩
  obtain ⟨x0', x1⟩ := hx.of (by omega)
  have y0 := x0.grown hg1 (by simp; omega)
  have hl1 := hc1.lt
  go_wp2_with fail
  refine (pickInt_any (P := fun p => 0 ≤ p ∧ p ≤ 100) _ c a len cap w1.heap.size 5 5 (by omega) (by omega) (by omega) (nums_new w1 [50, 80, 90, 100, 0] _ (by intro m hm; simp at hm; omega)) (hc1.grown (World.grownBy_alloc w1 _ none) (by simp) (by simp))).mono ?_; rintro e w2 ⟨y, ⟨y1, y2⟩, rfl, hc2, hg2⟩
  have y3 := (y0.alloc (.cells ([50, 80, 90, 100, 0].map (Value.int .i64)).toArray 3)).grown hg2 (by simp; omega)
  have q0 := y3.cell 0; have q1 := y3.cell 1; have f0 := y3.frozen 0; have f1 := y3.frozen 1
  go_wp2
  have z := (y3.set_ 0 (.int .i64 (1 + x))).set_ 1 (.int .i64 y)
  have c0 : ((w2.setCell ⟨w.heap.size, 0, none⟩ (.int .i64 (1 + x))).setCell ⟨w.heap.size, 1, none⟩ (.int .i64 y)).cell? ⟨w.heap.size, 0, none⟩ = some (.int .i64 (1 + x)) := by rw [z.cell]; rfl
  have c1 : ((w2.setCell ⟨w.heap.size, 0, none⟩ (.int .i64 (1 + x))).setCell ⟨w.heap.size, 1, none⟩ (.int .i64 y)).cell? ⟨w.heap.size, 1, none⟩ = some (.int .i64 y) := by rw [z.cell]; rfl
  refine bodyPost_ret (v := R (1 + x) y) (by simp [results, Try.results38, go_sem, c0, c1]) rfl ⟨1 + x, y, rfl, ⟨by omega, by omega, y1, y2⟩, ?_, ?_⟩
  · exact (hc2.grown (grown_setCell (grown_refl _ _) 0 none _) (by simp; omega) (fun u e h0 => by have := hlow u e h0; simp; omega)).grown (grown_setCell (grown_refl _ _) 1 none _) (by simp; omega) (fun u e h0 => by have := hlow u e h0; simp; omega)
  · have e1 : w.grownBy w2 (some c) := grown_trans (grown_trans (World.grownBy_alloc w _ _) hg1) (grown_trans (World.grownBy_alloc w1 _ _) hg2)
    have e2 := grown_above e1 (grown_setCell (grown_refl w2 (some w.heap.size)) 0 none (.int .i64 (1 + x))) (by rintro _ ⟨⟩; exact Nat.le_refl _)
    exact grown_above e2 (grown_setCell (grown_refl _ (some w.heap.size)) 1 none (.int .i64 y)) (by rintro _ ⟨⟩; exact Nat.le_refl _)
/-- A drawn list of roofs: n of them, all fair. -/
def AllF (zs : List Int) : Prop := ∀ k, 2 * k + 1 < zs.length → Fair (zs.getD (k * 2) 0) (zs.getD (k * 2 + 1) 0)
theorem AllF.snoc {zs : List Int} {n : Nat} (h : AllF zs) (hl : zs.length = n * 2) {x y : Int} (hf : Fair x y) : AllF (zs ++ [x, y]) := by
  intro k hk
  simp only [List.length_append, List.length_cons, List.length_nil] at hk
  simp only [List.getD_eq_getElem?_getD]
  by_cases h1 : k < n
  · rw [List.getElem?_append_left (by omega), List.getElem?_append_left (by omega), ← List.getD_eq_getElem?_getD, ← List.getD_eq_getElem?_getD]
    exact h k (by omega)
  · obtain rfl : k = n := by omega
    rw [List.getElem?_append_right (by omega), List.getElem?_append_right (by omega), show k * 2 - zs.length = 0 by omega, show k * 2 + 1 - zs.length = 1 by omega]
    exact hf
def DrewL (w : World) (c : Nat) (a : Option Addr) (len cap : Nat) (e : Ending) (w' : World) : Prop :=
  ∃ v n zs, e = .returned v ∧ n ≤ 4 ∧ AllF zs ∧ w'.ownsRow w.heap.size 27 2 v n (zs.map (Value.int .i64)) ∧ Cur w' c a len cap ∧ w.grownBy w' (some c)
set_option maxRecDepth 100000 in
set_option maxHeartbeats 400000 in
theorem list_any (w : World) (c : Nat) (a : Option Addr) (len cap : Nat) (hcur : Cur w c a len cap) :
    Calls Try.prog 36 #[.pointer (some ⟨c, 0, none⟩)] w (DrewL w c a len cap) := by
  have hclt := hcur.lt
  have hlow := hcur.low
  go_enter Try.func36, Try.ntmps36
  go_wp2_with fail
  refine (below_any _ c a len cap 5 (by omega) (hcur.above (World.grownBy_alloc w _ none) (by simp) hclt hlow)).mono ?_; rintro e w1 ⟨x, hx, rfl, hc1, hg1⟩
  obtain ⟨x0, x1⟩ := hx.of (by omega)
  obtain ⟨N, rfl⟩ := Int.eq_ofNat_of_zero_le x0
  have hown1 := (World.ownsRow_made w #[] 0 (Nat.le_refl _) (Nat.zero_le _) rfl : (w.alloc (.cells #[] 27)).ownsRow w.heap.size 27 2 _ 0 []).kept hg1 (.inr (by simp [Value.ownBlock]; omega))
  have hg1 : w.grownBy w1 (some c) := grown_trans (World.grownBy_alloc w _ _) hg1
  clear hcur hx
  go_wp2
  go_loopw [3, 5] (fun v i wr => ∃ (k : Nat) (zs : List Int), k ≤ N ∧ i = .int .i64 k ∧ AllF zs ∧ wr.ownsRow w.heap.size 27 2 v k (zs.map (Value.int .i64)) ∧ Cur wr c a len cap ∧ w.grownBy wr (some c)) (fun _ i _ => N - (intOf i).toNat)
  case atStart => exact ⟨0, [], Nat.zero_le _, rfl, fun k hk => absurd hk (Nat.not_lt_zero _), hown1, hc1, hg1⟩
  case round =>
    clear hown1 hc1 hg1
    obtain ⟨k, zs, hk, rfl, hF, hown, hc, hg⟩ := hrel
    have HF := Lib.hid hF
    clear hF
    by_cases hlt : k < N
    · go_wp2_with fail
      refine (roof_any _ c a len cap hc).mono ?_; rintro e w2 ⟨y, z, rfl, hfair, hc2, hg2⟩
      have hown2 := hown.kept hg2 (own_not hown hclt)
      have hg2 := grown_trans hg hg2
      have hl : zs.length = k * 2 := by simpa using hown.1
      have HL := Lib.hid hl
      clear hown hc hg hl
      go_wp2_with (at_builtin; refine stRoof.app _ rfl _ _ rfl w.heap.size y z (hown2.alloc _) rfl (w2.heap.size + 1) (by simp) rfl (by omega) (by have := hg2.size; simp; omega) ?_; intro v' w4 hown4 hg4)
      have hc4 := (hc2.above (World.grownBy_alloc w2 _ none) (B := w.heap.size) (by simp) hclt hlow).above hg4 (B := w.heap.size) (fun q hq => (hown2.lt q hq).1) hclt hlow
      have hg5 := grown_above (grown_alloc hg2 _) hg4 (fun q hq => (hown2.lt q hq).1)
      have HN := HF.out.snoc HL.out hfair
      clear hown2 hc2 hg2 hg4
      go_wp2
      go_roundw
      case rel => exact ⟨k + 1, zs ++ [y, z], by omega, by go_num, HN, hown4, hc4, hg5⟩
      case measure => simp [intOf]; omega
    · obtain rfl : k = N := by omega
      go_wp2
      go_ret
      exact ⟨_, _, zs, rfl, by omega, HF.out, hown, hc, hg⟩
def Drew0 (w : World) (e : Ending) (w' : World) : Prop := ∃ x y, e = .returned (R x y) ∧ Fair x y ∧ Below w.heap.size w w'
def DrewL0 (w : World) (e : Ending) (w' : World) : Prop := ∃ v n zs, e = .returned v ∧ n ≤ 4 ∧ AllF zs ∧ w'.ownsRow w.heap.size 27 2 v n (zs.map (Value.int .i64)) ∧ Below w.heap.size w w'
theorem drawRoofs (w : World) (a : Option Addr) (len cap : Nat) (hb : Bytes w a len) (hl : len ≤ 1048576) (hx : ∀ x, a = some x → 0 < len → x.block < w.heap.size) :
    Calls Try.prog 11 #[.slice a len cap] w (DrewL0 w) := by
  go_enter Try.func11, Try.ntmps11
  go_wp2_with fail
  refine (new_any w a len cap hb hl hx).mono ?_; rintro e w1 ⟨c, rfl, hlc, hc1, hg1⟩
  have hb1 : Below w.heap.size w w1 := (Below.refl _ _).grown hg1 (Nat.le_refl _) (by simp)
  go_wp2_with fail
  refine (list_any w1 c a len cap hc1).mono ?_; rintro e w2 ⟨v, n, zs, rfl, hn, hF, hown, hc2, hg2⟩
  have hb2 : Below w.heap.size w w2 := hb1.grown hg2 hb1.size (by rintro k ⟨⟩; exact hlc)
  have HF := Lib.hid hF
  clear hF
  go_wp2
  go_ret
  exact ⟨v, n, zs, rfl, hn, HF.out, own_mono hown hb1.size, hb2⟩
theorem drawRoof (w : World) (a : Option Addr) (len cap : Nat) (hb : Bytes w a len) (hl : len ≤ 1048576) (hx : ∀ x, a = some x → 0 < len → x.block < w.heap.size) :
    Calls Try.prog 12 #[.slice a len cap] w (Drew0 w) := by
  have x0 := Blk.new w 27 #[.int .i64 0, .int .i64 0]
  have hb0 : Below w.heap.size w (w.alloc (.cells #[.int .i64 0, .int .i64 0] 27)) := below_al (Below.refl _ _) _
  go_enter Try.func12, Try.ntmps12
  go_wp2_with fail
  refine (new_any _ a len cap (hb.grown (World.grownBy_alloc w _ none) (by simp)) hl (fun x e h0 => by have := hx x e h0; simp; omega)).mono ?_; rintro e w1 ⟨c, rfl, hlc, hc1, hg1⟩
  have hb1 : Below w.heap.size w w1 := hb0.grown hg1 hb0.size (by simp)
  have x1 := x0.grown hg1 (by simp)
  have hcw : w.heap.size < c := by simp at hlc; omega
  go_wp2_with fail
  refine (roof_any w1 c a len cap hc1).mono ?_; rintro e w2 ⟨x, y, rfl, hF, hc2, hg2⟩
  have hb2 : Below w.heap.size w w2 := hb1.grown hg2 hb1.size (by rintro k ⟨⟩; omega)
  have y3 := x1.grown hg2 (by simp; omega)
  have q0 := y3.cell 0; have q1 := y3.cell 1; have f0 := y3.frozen 0; have f1 := y3.frozen 1
  have z := (y3.set_ 0 (.int .i64 x)).set_ 1 (.int .i64 y)
  have c0 : ((w2.setCell ⟨w.heap.size, 0, none⟩ (.int .i64 x)).setCell ⟨w.heap.size, 1, none⟩ (.int .i64 y)).cell? ⟨w.heap.size, 0, none⟩ = some (.int .i64 x) := by rw [z.cell]; rfl
  have c1 : ((w2.setCell ⟨w.heap.size, 0, none⟩ (.int .i64 x)).setCell ⟨w.heap.size, 1, none⟩ (.int .i64 y)).cell? ⟨w.heap.size, 1, none⟩ = some (.int .i64 y) := by rw [z.cell]; rfl
  have C0 := Lib.hid c0; have C1 := Lib.hid c1
  clear z c0 c1
  go_wp2
  exact bodyPost_ret (v := R x y) (by simp [results, Try.results12, go_sem, C0.out, C1.out]) rfl ⟨x, y, rfl, hF, (hb2.setCell (Nat.le_refl _) _).setCell (Nat.le_refl _) _⟩
/-- laws.at: some byte. -/
def AtV (w : World) (e : Ending) (w' : World) : Prop := ∃ x : Int, e = .returned (.int .i64 x) ∧ 0 ≤ x ∧ x ≤ 255 ∧ w = w'
theorem at_any (w : World) (a : Option Addr) (len cap : Nat) (i : Int) (hi : 0 ≤ i) (hi2 : i ≤ 1000000) (hb : Bytes w a len) (hl : len ≤ 1048576) :
    Calls Try.prog 13 #[.slice a len cap, .int .i64 i] w (AtV w) := by
  by_cases h0 : len = 0
  · subst h0
    go_enter Try.func13, Try.ntmps13
    go_wp2
    go_ret
    exact ⟨0, rfl, by omega, by omega, rfl⟩
  · obtain ⟨b, off, rfl, hc⟩ := hb.resolve_left h0
    obtain ⟨k, hk⟩ : ∃ k : Nat, (i * 5 + 1) % len = k := Int.eq_ofNat_of_zero_le (Int.emod_nonneg _ (by omega))
    have hkl : k < len := by have := Int.emod_lt_of_pos (i * 5 + 1) (show (0 : Int) < len by omega); omega
    obtain ⟨n, n0, n1, hcell⟩ := hc k hkl
    have hne : ((len : Int) == 0) = false := by rw [beq_eq_false_iff_ne]; omega
    clear hc hb
    go_enter Try.func13, Try.ntmps13
    go_wp2
    go_ret
    exact ⟨n, rfl, by omega, by omega, rfl⟩
end Go.Proofs.Yteogonlclldjlaa.roof
