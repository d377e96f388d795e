/- Drawn rain: what the draw leaves. -/
import Derived.Test.YtojahddamdlcpaaDrawN
import Derived.Test.YtojahddamdlcpaaLawI
import Derived.Test.YtojahddamdlcpaaRainL
namespace Go.Proofs.Ytojahddamdlcpaa.rain
open Go.RowKit Go.Proofs.Ytojahddamdlcpaa.kit Go.Proofs.Ytojahddamdlcpaa.rainl Go.Proofs.Ytojahddamdlcpaa.lawi Go.Proofs.Ytojahddamdlcpaa.draw
def Small (zs : List Int) : Prop := ∀ k, k < zs.length → 0 ≤ zs.getD k 0 ∧ zs.getD k 0 ≤ 300
theorem Small.snoc {zs : List Int} (h : Small zs) {x : Int} (h0 : 0 ≤ x) (h1 : x ≤ 300) : Small (zs ++ [x]) := by
  intro k hk
  rw [List.getD_eq_getElem?_getD]
  rw [List.length_append, List.length_singleton] at hk
  by_cases hl : k < zs.length
  · rw [List.getElem?_append_left hl, ← List.getD_eq_getElem?_getD]; exact h k hl
  · rw [List.getElem?_append_right (by omega), show k - zs.length = 0 by omega]; exact ⟨h0, h1⟩
def Rained (w : World) (c : Nat) (a : Option Addr) (len cap : Nat) (e : Ending) (w' : World) : Prop :=
  ∃ v n zs, e = .returned v ∧ 1 ≤ n ∧ n ≤ 20 ∧ zs.length = n ∧ Small zs ∧ w'.ownsRow w.heap.size 3 1 v n (zs.map (Value.int .i64)) ∧ Cur w' c a len cap ∧ w.grownBy w' (some c)
set_option maxRecDepth 100000 in
set_option maxHeartbeats 400000 in
theorem rain_any (w : World) (c : Nat) (a : Option Addr) (len cap : Nat) (hcur : Cur w c a len cap) :
    Calls Try.prog 49 #[.pointer (some ⟨c, 0, none⟩)] w (Rained w c a len cap) := by
  have hclt := hcur.lt
  have hlow := hcur.low
  go_enter Try.func49, Try.ntmps49
  go_wp2_with fail
  refine (below_any _ c a len cap 20 (by omega) (hcur.above (World.grownBy_alloc w _ none) (by simp) hclt hlow)).mono ?_; rintro e w1 ⟨x, hx, rfl, hc1, hg1⟩
  obtain ⟨x0, x1⟩ := hx.of (by omega)
  obtain ⟨N, rfl⟩ := Int.eq_ofNat_of_zero_le x0
  have hown1 := (World.ownsRow_made w #[] 0 (Nat.le_refl _) (Nat.zero_le _) rfl : (w.alloc (.cells #[] 3)).ownsRow w.heap.size 3 1 _ 0 []).kept hg1 (.inr (by simp [Value.ownBlock]; omega))
  have hg1 : w.grownBy w1 (some c) := grown_trans (World.grownBy_alloc w _ _) hg1
  clear hcur hx
  go_wp2
  go_loopw [3, 5] (fun v i wr => ∃ (k : Nat) (zs : List Int), k ≤ 1 + N ∧ i = .int .i64 k ∧ zs.length = k ∧ Small zs ∧ wr.ownsRow w.heap.size 3 1 v k (zs.map (Value.int .i64)) ∧ Cur wr c a len cap ∧ w.grownBy wr (some c)) (fun _ i _ => 1 + N - (intOf i).toNat)
  case atStart => exact ⟨0, [], Nat.zero_le _, rfl, rfl, fun k hk => absurd hk (Nat.not_lt_zero k), hown1, hc1, hg1⟩
  case round =>
    clear hown1 hc1 hg1
    obtain ⟨k, zs, hk, rfl, hl, hsm, hown, hc, hg⟩ := hrel
    have HL := Lib.hid hl
    have HSM := Lib.hid hsm
    clear hl hsm
    by_cases hlt : k < 1 + N
    · have hlt' : (k : Int) < 1 + N := by omega
      go_wp2_with fail
      refine (below_any _ c a len cap 40 (by omega) hc).mono ?_; rintro e w2 ⟨y, hy, rfl, hc2, hg2⟩
      obtain ⟨y0, y1⟩ := hy.of (by omega)
      have hown2 := hown.kept hg2 (own_not hown hclt)
      have hg2 := grown_trans hg hg2
      clear hown hc hg hy
      go_wp2_with fail
      refine (once_any _ c a len cap 2 (by omega) hc2).mono ?_; rintro e w3 ⟨b, rfl, hc3, hg3⟩
      have hown3 := hown2.kept hg3 (own_not hown2 hclt)
      have hg3 := grown_trans hg2 hg3
      clear hown2 hc2 hg2
      cases b
      · go_wp2_with (at_builtin; refine app1 w3 rfl _ _ rfl w.heap.size y hown3 rfl rfl (by omega) hg3.size ?_; intro v' w4 hown4 hg4)
        have hc4 := hc3.above hg4 (B := w.heap.size) (fun q hq => (hown3.lt q hq).1) hclt hlow
        have hg5 := grown_above hg3 hg4 (fun q hq => (hown3.lt q hq).1)
        clear hown3 hc3 hg3 hg4
        go_wp2
        go_roundw
        case rel => exact ⟨k + 1, zs ++ [y], by omega, by go_num, by simp [HL.out], HSM.out.snoc y0 (by omega), hown4, hc4, hg5⟩
        case measure => simp [intOf]; omega
      · go_wp2_with (at_builtin; refine app1 w3 rfl _ _ rfl w.heap.size 0 hown3 rfl rfl (by omega) hg3.size ?_; intro v' w4 hown4 hg4)
        have hc4 := hc3.above hg4 (B := w.heap.size) (fun q hq => (hown3.lt q hq).1) hclt hlow
        have hg5 := grown_above hg3 hg4 (fun q hq => (hown3.lt q hq).1)
        clear hown3 hc3 hg3 hg4
        go_wp2
        go_roundw
        case rel => exact ⟨k + 1, zs ++ [0], by omega, by go_num, by simp [HL.out], HSM.out.snoc (by omega) (by omega), hown4, hc4, hg5⟩
        case measure => simp [intOf]; omega
    · obtain rfl : k = 1 + N := by omega
      go_wp2
      go_ret
      exact ⟨_, _, zs, rfl, by omega, by omega, HL.out, HSM.out, hown, hc, hg⟩
def Rained0 (w : World) (e : Ending) (w' : World) : Prop :=
  ∃ v n zs, e = .returned v ∧ n ≤ 20 ∧ Ok zs ∧ zs.length = n ∧ w'.ownsRow w.heap.size 3 1 v n (zs.map (Value.int .i64)) ∧ Below w.heap.size w w'
theorem drawRain (w : World) (a : Option Addr) (len cap : Nat) (hb : Bytes w a len) (hl : len ≤ 1048576) (hx : ∀ x, a = some x → 0 < len → x.block < w.heap.size) :
    Calls Try.prog 16 #[.slice a len cap] w (Rained0 w) := by
  go_enter Try.func16, Try.ntmps16
  go_wp2_with fail
  refine (new_any w a len cap hb hl hx).mono ?_; rintro e w1 ⟨c, rfl, hlc, hc1, hg1⟩
  have hb1 : Below w.heap.size w w1 := (Below.refl _ _).grown hg1 (Nat.le_refl _) (by simp)
  go_wp2_with fail
  refine (rain_any w1 c a len cap hc1).mono ?_; rintro e w2 ⟨v, n, zs, rfl, n1, n2, hz, hsm, hown, hc2, hg2⟩
  have hb2 : Below w.heap.size w w2 := hb1.grown hg2 hb1.size (by rintro k ⟨⟩; exact hlc)
  have HZ := Lib.hid hz
  have HSM := Lib.hid hsm
  clear hz hsm
  go_wp2
  go_ret
  exact ⟨v, n, zs, rfl, n2, ⟨by rw [HZ.out]; omega, by rw [HZ.out]; omega, HSM.out⟩, HZ.out, own_mono hown hb1.size, hb2⟩
end Go.Proofs.Ytojahddamdlcpaa.rain
