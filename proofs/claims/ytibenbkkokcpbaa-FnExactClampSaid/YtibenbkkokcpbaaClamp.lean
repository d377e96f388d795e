/- The contracts of both clamps, of the drawn numbers, and the two laws on Clamp. -/
import Derived.Test.YtibenbkkokcpbaaDrawN
namespace Go.Proofs.Ytibenbkkokcpbaa.clamp
open Go.RowKit Go.Proofs.Ytibenbkkokcpbaa.kit Go.Proofs.Ytibenbkkokcpbaa.draw
/-- The number, clamped; the lower end wins. -/
def clampI (n a b : Int) : Int := if b < a then a else if n < a then a else if b < n then b else n
theorem spec_clamp (n a b : Int) (w : World) :
    Calls Try.prog 20 #[.int .i64 n, .int .i64 a, .int .i64 b] w fun e w' => e = .returned (.int .i64 (clampI n a b)) ∧ w' = w := by
  by_cases h1 : b < a <;> by_cases h2 : n < a <;> by_cases h3 : b < n
  all_goals
    go_enter Try.func20, Try.ntmps20
    go_wp2
    go_ret
    refine ⟨ret_int ?_, rfl⟩
    simp [clampI]
    omega
theorem impl_clamp (n a b : Int) (w : World) :
    Calls Try.prog 10 #[.int .i64 n, .int .i64 a, .int .i64 b] w fun e w' => e = .returned (.int .i64 (clampI n a b)) ∧ w' = w := by
  by_cases h1 : b < a <;> by_cases h2 : n < a <;> by_cases h3 : b < n
  all_goals
    go_enter Try.func10, Try.ntmps10
    go_wp2
  all_goals
    go_ret
    refine ⟨ret_int ?_, rfl⟩
    unfold clampI
    repeat' split
    all_goals omega
def Three (w w' : World) (e : Ending) : Prop := ∃ n a b : Int, e = .returned (.tuple #[.int .i64 n, .int .i64 a, .int .i64 b]) ∧ Below w.heap.size w w'
set_option maxHeartbeats 400000 in
theorem draw_any (w : World) (a : Option Addr) (len cap : Nat) (hb : Bytes w a len) (hl : len ≤ 1048576) (hx : ∀ x, a = some x → 0 < len → x.block < w.heap.size) :
    Calls Try.prog 9 #[.slice a len cap] w fun e w' => Three w w' e := by
  go_enter Try.func9, Try.ntmps9
  go_wp2_with fail
  refine (new_any w a len cap hb hl hx).mono ?_; rintro e w1 ⟨c, rfl, hlc, hc1, hg1⟩
  have hb1 : Below w.heap.size w w1 := (Below.refl _ _).grown hg1 (Nat.le_refl _) (by simp)
  go_wp2_with fail
  refine (once_any w1 c a len cap 4 (by omega) hc1).mono ?_; rintro e w2 ⟨b, rfl, hc2, hg2⟩
  have hb2 : Below w.heap.size w w2 := hb1.grown hg2 hb1.size (by rintro k ⟨⟩; exact hlc)
  cases b
  · go_wp2_with fail
    refine (below_any w2 c a len cap 40 (by omega) hc2).mono ?_; rintro e w3 ⟨x, hx1, rfl, hc3, hg3⟩
    have hb3 : Below w.heap.size w w3 := hb2.grown hg3 hb2.size (by rintro k ⟨⟩; exact hlc)
    have x1 := hx1.of (by omega)
    go_wp2_with fail
    refine (below_any w3 c a len cap 80 (by omega) hc3).mono ?_; rintro e w4 ⟨y, hy1, rfl, hc4, hg4⟩
    have hb4 : Below w.heap.size w w4 := hb3.grown hg4 hb3.size (by rintro k ⟨⟩; exact hlc)
    have y1 := hy1.of (by omega)
    go_wp2_with fail
    refine (below_any w4 c a len cap 30 (by omega) hc4).mono ?_; rintro e w5 ⟨z, hz1, rfl, hc5, hg5⟩
    have hb5 : Below w.heap.size w w5 := hb4.grown hg5 hb4.size (by rintro k ⟨⟩; exact hlc)
    have z1 := hz1.of (by omega)
    go_wp2
    go_ret3
    exact ⟨_, _, _, rfl, hb5⟩
  · go_wp2_with fail
    refine (number_any w2 c a len cap hc2).mono ?_; rintro e w3 ⟨x, hx1, rfl, hc3, hg3⟩
    have hb3 : Below w.heap.size w w3 := hb2.grown hg3 hb2.size (by rintro k ⟨⟩; exact hlc)
    go_wp2_with fail
    refine (number_any w3 c a len cap hc3).mono ?_; rintro e w4 ⟨y, hy1, rfl, hc4, hg4⟩
    have hb4 : Below w.heap.size w w4 := hb3.grown hg4 hb3.size (by rintro k ⟨⟩; exact hlc)
    go_wp2_with fail
    refine (number_any w4 c a len cap hc4).mono ?_; rintro e w5 ⟨z, hz1, rfl, hc5, hg5⟩
    have hb5 : Below w.heap.size w w5 := hb4.grown hg5 hb4.size (by rintro k ⟨⟩; exact hlc)
    go_wp2
    go_ret3
    exact ⟨_, _, _, rfl, hb5⟩
end Go.Proofs.Ytibenbkkokcpbaa.clamp
