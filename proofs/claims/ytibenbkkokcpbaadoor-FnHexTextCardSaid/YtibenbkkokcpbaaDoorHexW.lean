/- For every row of bytes, FnHexText returns true. -/
import Derived.Test.YtibenbkkokcpbaaDoorHexT
import Derived.Test.YtibenbkkokcpbaaDoorEncI
import Derived.Test.YtibenbkkokcpbaaDoorDecI
import Derived.Test.YtibenbkkokcpbaaDoorDrawT
import Derived.Test.YtibenbkkokcpbaaDoorFmtW
namespace Go.Proofs.YtibenbkkokcpbaaDoor.wFnHexText
open Go.RowKit Go.Proofs.YtibenbkkokcpbaaDoor.kit Go.Proofs.YtibenbkkokcpbaaDoor.fmt Go.Proofs.YtibenbkkokcpbaaDoor.draw Go.Proofs.YtibenbkkokcpbaaDoor.enc Go.Proofs.YtibenbkkokcpbaaDoor.dec Go.Proofs.YtibenbkkokcpbaaDoor.hexl Go.Proofs.YtibenbkkokcpbaaDoor.hext Go.Proofs.YtibenbkkokcpbaaDoor.numl
theorem big_any (w : World) (a : Option Addr) (len cap : Nat) :
    Calls Tryd.prog 8 #[.slice a len cap] w fun e w' => e = .returned (.bool (decide ((1048576 : Int) < (len : Int)))) ∧ w = w' := by
  go_enter Tryd.func8, Tryd.ntmps8
  go_wp2
  go_ret
  exact ⟨rfl, rfl⟩
def Text (w w' : World) (e : Ending) : Prop := ∃ s : ByteArray, s.size ≤ 30000 ∧ e = .returned (.string s) ∧ Below w.heap.size w w'
theorem draw_any (w : World) (a : Option Addr) (len cap : Nat) (hb : Bytes w a len) (hl : len ≤ 1048576) (hx : ∀ x, a = some x → 0 < len → x.block < w.heap.size) :
    Calls Tryd.prog 9 #[.slice a len cap] w fun e w' => Text w w' e := by
  go_enter Tryd.func9, Tryd.ntmps9
  go_wp2_with fail
  refine (new_any w a len cap hb hl hx).mono ?_; rintro e w1 ⟨c, rfl, hlc, hc1, hg1⟩
  have hb1 : Below w.heap.size w w1 := (Below.refl _ _).grown hg1 (Nat.le_refl _) (by simp)
  go_wp2_with fail
  refine (once_any w1 c a len cap 60 (by omega) hc1).mono ?_; rintro e w2 ⟨b, rfl, hc2, hg2⟩
  have hb2 : Below w.heap.size w w2 := hb1.grown hg2 hb1.size (by rintro k ⟨⟩; exact hlc)
  cases b
  · go_wp2_with fail
    refine (below_any w2 c a len cap 30 (by omega) hc2).mono ?_; rintro e w3 ⟨x, hx1, rfl, hc3, hg3⟩
    have hb3 : Below w.heap.size w w3 := hb2.grown hg3 hb2.size (by rintro k ⟨⟩; exact hlc)
    obtain ⟨x0, x1⟩ := hx1.of (by omega)
    obtain ⟨n, rfl⟩ := Int.eq_ofNat_of_zero_le x0
    go_wp2_with fail
    refine (text_any w3 c a len cap n (by omega) hc3 (fun y hy h0 => by have := hx y hy h0; have := hb3.size; omega)).mono ?_; rintro e w4 ⟨t, ht, rfl, hc4, hg4⟩
    have hb4 : Below w.heap.size w w4 := hb3.grown hg4 hb3.size (by rintro k ⟨⟩; exact hlc)
    go_wp2
    go_ret
    exact ⟨t, by omega, rfl, hb4⟩
  · go_wp2_with fail
    refine (below_any w2 c a len cap 2 (by omega) hc2).mono ?_; rintro e w3 ⟨x, hx1, rfl, hc3, hg3⟩
    have hb3 : Below w.heap.size w w3 := hb2.grown hg3 hb2.size (by rintro k ⟨⟩; exact hlc)
    obtain ⟨x0, x1⟩ := hx1.of (by omega)
    obtain ⟨n, rfl⟩ := Int.eq_ofNat_of_zero_le x0
    have hl := fun W => long_any W (20000 + n) (by omega) 200
    go_wp2_with fail
    refine (hl w3).mono ?_; rintro e w4 ⟨rfl, hg4⟩
    have hb4 := hb3.trans (below_grown hg4 hb3.size (by simp))
    go_wp2
    go_ret
    exact ⟨_, by rw [strOfNums_size]; simp; omega, rfl, hb4⟩
theorem ten : num 10 = ⟨#[49, 48]⟩ := by decide +kernel
set_option maxRecDepth 100000 in
set_option maxHeartbeats 400000 in
theorem walk (w : World) (ht : Tab w) (a0 : Option Addr) (len0 cap0 : Nat) (z0 : List Int) (w0 : IsRow .u8 w a0 len0 cap0 z0) :
    Calls Tryd.prog 3 #[.slice a0 len0 cap0] w fun e w' => e = .returned (.bool true) ∧ Below w.heap.size w w' := by
  have fits : len0 ≤ 1048576 ∨ 1048576 < len0 := by omega
  rcases fits with hl | hl
  · go_enter Tryd.func3, Tryd.ntmps3
    go_wp2_with fail
    refine (big_any _ _ _ _).mono ?_; rintro e w1 ⟨rfl, rfl⟩
    go_wp2_with fail
    refine (draw_any _ _ _ _ w0.bytes hl w0.lt).mono ?_; rintro e w1 ⟨s, hs, rfl, b1⟩
    have t1 := ht.keep b1
    clear w0
    by_cases h20 : s.size ≤ 20000
    · go_wp2_with fail
      refine (impl_enc s _ h20).mono ?_; rintro e w2 ⟨rfl, b2⟩
      have bb2 := b1.trans (b2.mono b1.size)
      have hz := hex_size s
      have hz' : ((hexS s).size : Int) = 2 * (s.size : Int) := by omega
      have HZ := Lib.hid hz
      clear b1 b2 t1 hz
      go_wp2_with fail
      refine (impl_dec (hexS s) _ (by have := HZ.out; omega) (by have := HZ.out; omega)).mono ?_; rintro e w3 ⟨h3, b3⟩
      have bb3 := bb2.trans (b3.mono bb2.size)
      clear b3 bb2
      rcases h3 with ⟨_, rfl⟩ | ⟨hn, rfl⟩
      · rw [hex_back]
        go_wp2
        go_ret
        exact ⟨by first | rfl | (simp; done) | (simp; omega), bb3⟩
      · exact absurd (hex_good s) hn
    · go_wp2_with fail
      refine (impl_enc_no s _ (by omega)).mono ?_; rintro e w2 ⟨rfl, rfl⟩
      go_wp2_with fail
      refine (impl_fmt 10 (by omega) (by omega) _ t1).mono ?_; rintro e w3 ⟨rfl, g3⟩
      have bb3 := b1.trans (below_grown g3 b1.size (by simp))
      clear g3 t1 b1
      rw [ten]
      go_wp2
      go_ret
      exact ⟨by first | rfl | (simp; done) | (simp; omega), bb3⟩
  · go_enter Tryd.func3, Tryd.ntmps3
    go_wp2_with fail
    refine (big_any _ _ _ _).mono ?_; rintro e w1 ⟨rfl, rfl⟩
    go_wp2
    go_ret
    exact ⟨rfl, Below.refl _ _⟩
end Go.Proofs.YtibenbkkokcpbaaDoor.wFnHexText
