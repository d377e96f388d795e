/- laws.at: some byte of a draw. -/
import Derived.Test.YtopbeacfljoacaaDrawN
namespace Go.Proofs.Ytopbeacfljoacaa.at_
open Go.RowKit Go.Proofs.Ytopbeacfljoacaa.kit
theorem bytes_step {w w' : World} {a : Option Addr} {len : Nat} (h : Bytes w a len) (hb : Below w.heap.size w w') : Bytes w' a len := by
  rcases h with h | ⟨b, off, rfl, hc⟩
  · exact .inl h
  · refine .inr ⟨b, off, rfl, fun j hj => ?_⟩
    obtain ⟨n, h0, h1, h2⟩ := hc j hj
    exact ⟨n, h0, h1, keep1 h2 hb⟩
/-- laws.at: some byte. -/
def AtV (w : World) (e : Ending) (w' : World) : Prop := ∃ x : Int, e = .returned (.int .i64 x) ∧ 0 ≤ x ∧ x ≤ 255 ∧ w = w'
theorem at_any (w : World) (a : Option Addr) (len cap : Nat) (i : Int) (hi : 0 ≤ i) (hi2 : i ≤ 1000000) (hb : Bytes w a len) (hl : len ≤ 1048576) :
    Calls Try.prog 11 #[.slice a len cap, .int .i64 i] w (AtV w) := by
  by_cases h0 : len = 0
  · subst h0
    go_enter Try.func11, Try.ntmps11
    go_wp2
    go_ret
    exact ⟨0, rfl, by omega, by omega, rfl⟩
  · obtain ⟨b, off, rfl, hc⟩ := hb.resolve_left h0
    obtain ⟨k, hk⟩ : ∃ k : Nat, (i * 5 + 1) % len = k := Int.eq_ofNat_of_zero_le (Int.emod_nonneg _ (by omega))
    have hkl : k < len := by have := Int.emod_lt_of_pos (i * 5 + 1) (show (0 : Int) < len by omega); omega
    obtain ⟨n, n0, n1, hcell⟩ := hc k hkl
    have hne : ((len : Int) == 0) = false := by rw [beq_eq_false_iff_ne]; omega
    clear hc hb
    go_enter Try.func11, Try.ntmps11
    go_wp2
    go_ret
    exact ⟨n, rfl, by omega, by omega, rfl⟩
end Go.Proofs.Ytopbeacfljoacaa.at_
