/- For every text, FnExactEncodeHex returns true. -/
import Derived.Test.YtibenbkkokcpbaaEnc
namespace Go.Proofs.Ytibenbkkokcpbaa.wFnExactEncodeHex
open Go.RowKit Go.Proofs.Ytibenbkkokcpbaa.enc
theorem walk (w : World) (a0 : ByteArray) (_ : a0.size ≤ maxLen) :
    Calls Try.prog 4 #[.string a0] w fun e w' => e = .returned (.bool true) ∧ Below w.heap.size w w' := by
  have fits : a0.size ≤ 1048576 ∨ 1048576 < a0.size := by omega
  rcases fits with hb | hb
  · by_cases hs : a0.size ≤ 20000
    · go_enter Try.func4, Try.ntmps4
      go_wp2_with fail
      refine (spec_enc a0 _ hs).mono ?_; rintro e w1 ⟨rfl, h1⟩
      go_wp2_with fail
      refine (impl_enc a0 _ hs).mono ?_; rintro e w2 ⟨rfl, h2⟩
      go_wp2
      go_ret
      exact ⟨rfl, h1.trans (h2.mono h1.size)⟩
    · go_enter Try.func4, Try.ntmps4
      go_wp2_with fail
      refine (spec_enc_no a0 _ (by omega)).mono ?_; rintro e w1 ⟨rfl, rfl⟩
      go_wp2_with fail
      refine (impl_enc_no a0 _ (by omega)).mono ?_; rintro e w2 ⟨rfl, rfl⟩
      go_wp2
      go_ret
      exact ⟨rfl, Below.refl _ _⟩
  · go_enter Try.func4, Try.ntmps4
    go_wp2
    go_ret
    exact ⟨rfl, Below.refl _ _⟩
end Go.Proofs.Ytibenbkkokcpbaa.wFnExactEncodeHex
