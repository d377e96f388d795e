/- laws.has: is a number on a list? -/
import Derived.Test.YtilabfmnaegidaaOwn
import Derived.Test.YtilabfmnaegidaaBase
import Derived.BigQuiet
namespace Go.Proofs.Ytilabfmnaegidaa.chn
open Go.RowKit Go.Proofs.Ytilabfmnaegidaa.kit Go.Proofs.Ytilabfmnaegidaa.lawi Go.Proofs.Ytilabfmnaegidaa.own Go.Proofs.Ytilabfmnaegidaa.rain
theorem has_any (w : World) (v : Value) (n : Nat) (zs : List Int) (k : Int) (hn : n ≤ 4611686018427387904) (h : Row 1 w v n (IV zs)) (b : Bool) (hb : b = true ↔ ∃ j, j < n ∧ zs.getD j 0 = k) :
    Calls Try.prog 22 #[v, .int .i64 k] w fun e w' => e = .returned (.bool b) ∧ w = w' := by
  obtain ⟨hl, a, ca, rfl, ha⟩ := h
  have hl : zs.length = n := by simpa using hl
  go_enter Try.func22, Try.ntmps22
  go_wp2
  go_loopw [5] (fun i wr => ∃ j : Nat, j ≤ n ∧ i = .int .i64 j ∧ (∀ i, i < j → zs.getD i 0 ≠ k) ∧ w = wr) (fun i _ => n - (intOf i).toNat)
  case atStart => exact ⟨0, Nat.zero_le _, rfl, fun _ h => by omega, rfl⟩
  case round =>
    obtain ⟨j, hj, rfl, hno, rfl⟩ := hrel
    by_cases hlt : j < n
    · obtain ⟨b1, o1, rfl, h1⟩ := ha.resolve_left (by omega)
      have g1 := h1 j _ (getI (by omega))
      clear h1 ha
      obtain ⟨z, hz⟩ : ∃ z, zs.getD j 0 = z := ⟨_, rfl⟩
      rw [hz] at g1
      by_cases e : z = k
      · obtain rfl : b = true := hb.2 ⟨j, hlt, by rw [hz, e]⟩
        have t : (z == k) = true := by simp [e]
        clear hb hno
        go_wp2
        go_ret
        exact ⟨rfl, rfl⟩
      · have t : (z == k) = false := by simp [e]
        have HB := Lib.hid hb
        have HN := Lib.hid hno
        clear hb hno
        go_wp2
        go_roundw
        case rel => exact ⟨j + 1, by omega, by go_num, fun i hi => by
          by_cases q : i = j
          · subst q; rw [hz]; exact e
          · exact HN.out i (by omega), by first | rfl | trivial⟩
        case measure => simp [intOf]; omega
    · obtain rfl : j = n := by omega
      obtain rfl : b = false := by
        cases b
        · rfl
        · obtain ⟨i, hi, e⟩ := hb.1 rfl
          exact absurd e (hno i hi)
      clear hb hno
      go_wp2
      go_ret
      exact ⟨rfl, rfl⟩
end Go.Proofs.Ytilabfmnaegidaa.chn
