/- For every text, FnExactDecodeHex returns true. -/
import Derived.Test.YtibenbkkokcpbaaDec
namespace Go.Proofs.Ytibenbkkokcpbaa.wFnExactDecodeHex
open Go.RowKit Go.Proofs.Ytibenbkkokcpbaa.dec Go.Proofs.Ytibenbkkokcpbaa.decl
theorem walk (w : World) (a0 : ByteArray) (hm : a0.size ≤ maxLen) :
    Calls Try.prog 5 #[.string a0] w fun e w' => e = .returned (.bool true) ∧ Below w.heap.size w w' := by
  have fits : a0.size ≤ 1048576 ∨ 1048576 < a0.size := by omega
  rcases fits with hb | hb
  · by_cases hs : a0.size ≤ 40000 ∧ a0.size % 2 = 0
    · go_enter Try.func5, Try.ntmps5
      go_wp2_with fail
      refine (spec_dec a0 _ hs.1 hs.2).mono ?_; rintro e w1 ⟨h1, hb1⟩
      rcases h1 with ⟨hg, rfl⟩ | ⟨hg, rfl⟩
      all_goals
        go_wp2_with fail
        refine (impl_dec a0 _ hs.1 hs.2).mono ?_; rintro e w2 ⟨h2, hb2⟩
        rcases h2 with ⟨hg2, rfl⟩ | ⟨hg2, rfl⟩
        all_goals first | (exfalso; exact hg hg2) | (exfalso; exact hg2 hg) | skip
        clear hg hg2
        go_wp2
        go_ret
        exact ⟨rfl, hb1.trans (hb2.mono hb1.size)⟩
    · go_enter Try.func5, Try.ntmps5
      go_wp2_with fail
      refine (spec_dec_no a0 _ (by omega)).mono ?_; rintro e w1 ⟨rfl, rfl⟩
      go_wp2_with fail
      refine (impl_dec_no a0 _ hm (by omega)).mono ?_; rintro e w2 ⟨rfl, rfl⟩
      go_wp2
      go_ret
      exact ⟨rfl, Below.refl _ _⟩
  · go_enter Try.func5, Try.ntmps5
    go_wp2
    go_ret
    exact ⟨rfl, Below.refl _ _⟩
end Go.Proofs.Ytibenbkkokcpbaa.wFnExactDecodeHex
