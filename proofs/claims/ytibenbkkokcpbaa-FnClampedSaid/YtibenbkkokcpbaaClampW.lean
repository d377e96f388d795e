/- For every row of bytes, FnClamped returns true; for every three numbers, FnExactClamp does. -/
import Derived.Test.YtibenbkkokcpbaaClamp
import Derived.Deep.RegionWith
namespace Go.Proofs.Ytibenbkkokcpbaa.wFnExactClamp
open Go.RowKit Go.Proofs.Ytibenbkkokcpbaa.clamp
theorem walk (w : World) (a0 : Int) (_ : (Lit.int .i64 a0).wf = true) (a1 : Int) (_ : (Lit.int .i64 a1).wf = true) (a2 : Int) (_ : (Lit.int .i64 a2).wf = true) :
    Calls Try.prog 7 #[.int .i64 a0, .int .i64 a1, .int .i64 a2] w fun e w' => e = .returned (.bool true) ∧ Below w.heap.size w w' := by
  go_enter Try.func7, Try.ntmps7
  go_wp2_with fail
  refine (spec_clamp a0 a1 a2 _).mono ?_; rintro e w1 ⟨rfl, rfl⟩
  go_wp2_with fail
  refine (impl_clamp a0 a1 a2 _).mono ?_; rintro e w1 ⟨rfl, rfl⟩
  go_wp2
  go_ret
  exact ⟨rfl, Below.refl _ _⟩
end Go.Proofs.Ytibenbkkokcpbaa.wFnExactClamp
namespace Go.Proofs.Ytibenbkkokcpbaa.wFnClamped
open Go.RowKit Go.Proofs.Ytibenbkkokcpbaa.clamp Go.Proofs.Ytibenbkkokcpbaa.draw Go.Proofs.Ytibenbkkokcpbaa.kit
theorem big_any (w : World) (a : Option Addr) (len cap : Nat) :
    Calls Try.prog 8 #[.slice a len cap] w fun e w' => e = .returned (.bool (decide ((1048576 : Int) < (len : Int)))) ∧ w' = w := by
  go_enter Try.func8, Try.ntmps8
  go_wp2
  go_ret
  exact ⟨rfl, rfl⟩
theorem impl_is (n a b x : Int) (h : clampI n a b = x) (w : World) :
    Calls Try.prog 10 #[.int .i64 n, .int .i64 a, .int .i64 b] w fun e w' => e = .returned (.int .i64 x) ∧ w' = w := h ▸ impl_clamp n a b w
set_option maxHeartbeats 400000 in
theorem walk (w : World) (a0 : Option Addr) (len0 cap0 : Nat) (z0 : List Int) (w0 : IsRow .u8 w a0 len0 cap0 z0) :
    Calls Try.prog 3 #[.slice a0 len0 cap0] w fun e w' => e = .returned (.bool true) ∧ Below w.heap.size w w' := by
  have fits : len0 ≤ 1048576 ∨ 1048576 < len0 := by omega
  rcases fits with hl | hl
  · go_enter Try.func3, Try.ntmps3
    go_wp2_with fail
    refine (big_any _ _ _ _).mono ?_; rintro e w1 ⟨rfl, rfl⟩
    go_wp2_with fail
    refine (draw_any _ _ _ _ w0.bytes hl w0.lt).mono ?_; rintro e w1 ⟨n, a, b, rfl, h1⟩
    by_cases hab : b < a
    · go_wp2_with fail
      refine (impl_is n a b a (by unfold clampI; rw [if_pos hab]) _).mono ?_; rintro e w1 ⟨rfl, rfl⟩
      go_wp2_with (first | (go_at_call 10; refine (impl_is 7 3 5 5 (by decide) _).mono ?_; rintro e w1 ⟨rfl, rfl⟩) | fail)
      go_ret
      exact ⟨rfl, h1⟩
    · by_cases hna : n < a
      · go_wp2_with fail
        refine (impl_is n a b a (by unfold clampI; repeat' split <;> omega) _).mono ?_; rintro e w1 ⟨rfl, rfl⟩
        go_wp2_with (first | (go_at_call_of 10 (Value.int .i64 7); refine (impl_is 7 3 5 5 (by decide) _).mono ?_; rintro e w1 ⟨rfl, rfl⟩) | (go_at_call 10; refine (impl_is a a b a (by unfold clampI; repeat' split <;> omega) _).mono ?_; rintro e w1 ⟨rfl, rfl⟩) | fail)
        go_ret
        exact ⟨rfl, h1⟩
      by_cases hnb : b < n
      · go_wp2_with fail
        refine (impl_is n a b b (by unfold clampI; repeat' split <;> omega) _).mono ?_; rintro e w1 ⟨rfl, rfl⟩
        go_wp2_with (first | (go_at_call_of 10 (Value.int .i64 7); refine (impl_is 7 3 5 5 (by decide) _).mono ?_; rintro e w1 ⟨rfl, rfl⟩) | (go_at_call 10; refine (impl_is b a b b (by unfold clampI; repeat' split <;> omega) _).mono ?_; rintro e w1 ⟨rfl, rfl⟩) | fail)
        go_ret
        exact ⟨rfl, h1⟩
      · go_wp2_with fail
        refine (impl_is n a b n (by unfold clampI; repeat' split <;> omega) _).mono ?_; rintro e w1 ⟨rfl, rfl⟩
        go_wp2_with (first | (go_at_call_of 10 (Value.int .i64 7); refine (impl_is 7 3 5 5 (by decide) _).mono ?_; rintro e w1 ⟨rfl, rfl⟩) | (go_at_call 10; refine (impl_is n a b n (by unfold clampI; repeat' split <;> omega) _).mono ?_; rintro e w1 ⟨rfl, rfl⟩) | fail)
        go_ret
        exact ⟨rfl, h1⟩
  · go_enter Try.func3, Try.ntmps3
    go_wp2_with fail
    refine (big_any _ _ _ _).mono ?_; rintro e w1 ⟨rfl, rfl⟩
    go_wp2
    go_ret
    exact ⟨rfl, Below.refl _ _⟩
end Go.Proofs.Ytibenbkkokcpbaa.wFnClamped
