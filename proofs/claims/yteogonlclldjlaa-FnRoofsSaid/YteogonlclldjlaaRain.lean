/- The contracts of the specification's functions on rain. -/
import Derived.Test.YteogonlclldjlaaRainL
import Derived.Test.YteogonlclldjlaaLawI
import Derived.Deep.QuietTactic
import Derived.BigQuiet
namespace Go.Proofs.Yteogonlclldjlaa.rain
open Go.RowKit Go.Proofs.Yteogonlclldjlaa.kit Go.Proofs.Yteogonlclldjlaa.rainl Go.Proofs.Yteogonlclldjlaa.lawi
abbrev IV (zs : List Int) : List Value := zs.map (Value.int .i64)
theorem okAt {zs : List Int} {n k : Nat} (h : Ok zs) (hl : zs.length = n) (hk : k < n) {z : Int} (hz : zs.getD k 0 = z) : 0 ≤ z ∧ z ≤ 300 := hz ▸ h.2.2 k (by omega)
def Good (zs : List Int) (k : Nat) : Prop := ∀ j, j < k → 0 ≤ zs.getD j 0 ∧ zs.getD j 0 ≤ 300
theorem Good.succ {zs : List Int} {k : Nat} (h : Good zs k) {z : Int} (hz : zs.getD k 0 = z) (h0 : 0 ≤ z) (h1 : z ≤ 300) : Good zs (k + 1) := fun j hj => by
  rcases (show j < k ∨ j = k from by omega) with h' | rfl
  · exact h j h'
  · omega
theorem spec_ok_yes (w : World) (v : Value) (n : Nat) (zs : List Int) (h : Row 1 w v n (IV zs)) (ok : Ok zs) :
    Calls Try.prog 48 #[v] w fun e w' => e = .returned (.bool true) ∧ w = w' := by
  obtain ⟨hl, a, ca, rfl, ha⟩ := h
  have hl : zs.length = n := by simpa using hl
  have hn1 : 1 ≤ n := hl ▸ ok.1
  have hn2 : n ≤ 400 := hl ▸ ok.2.1
  go_enter Try.func48, Try.ntmps48
  go_wp2
  go_loop [3] (fun i => ∃ k : Nat, k ≤ n ∧ i = .int .i64 k) (fun i => n - (intOf i).toNat)
  case atStart => exact ⟨0, Nat.zero_le _, rfl⟩
  case round =>
    obtain ⟨k, hk, rfl⟩ := hrel
    by_cases hlt : k < n
    · obtain ⟨b1, o1, rfl, h1⟩ := ha.resolve_left (by omega)
      obtain ⟨z, hz⟩ : ∃ z, zs.getD k 0 = z := ⟨_, rfl⟩
      have g1 := h1 k _ (getI (by omega))
      rw [hz] at g1
      obtain ⟨z0, z1⟩ := okAt ok hl hlt hz
      clear h1 ha hz
      go_wp2_with fail
      refine (in_any _ _ _ _).mono ?_; rintro e w1 ⟨rfl, rfl⟩
      go_wp2
      go_round
      case rel => exact ⟨k + 1, by omega, by go_num⟩
      case measure => simp [intOf]; omega
    · obtain rfl : k = n := by omega
      go_wp2_with fail
      refine (in_any _ _ _ _).mono ?_; rintro e w1 ⟨rfl, rfl⟩
      go_wp2
      go_ret
      exact ⟨by simp; omega, rfl⟩
theorem spec_ok_no (w : World) (v : Value) (n : Nat) (zs : List Int) (hn : n ≤ 1048576) (h : Row 1 w v n (IV zs)) (ok : ¬ Ok zs) :
    Calls Try.prog 48 #[v] w fun e w' => e = .returned (.bool false) ∧ w = w' := by
  obtain ⟨hl, a, ca, rfl, ha⟩ := h
  have hl : zs.length = n := by simpa using hl
  go_enter Try.func48, Try.ntmps48
  go_wp2
  go_loop [3] (fun i => ∃ k : Nat, k ≤ n ∧ i = .int .i64 k ∧ Good zs k) (fun i => n - (intOf i).toNat)
  case atStart => exact ⟨0, Nat.zero_le _, rfl, fun j hj => by omega⟩
  case round =>
    obtain ⟨k, hk, rfl, hgood⟩ := hrel
    by_cases hlt : k < n
    · obtain ⟨b1, o1, rfl, h1⟩ := ha.resolve_left (by omega)
      obtain ⟨z, hz⟩ : ∃ z, zs.getD k 0 = z := ⟨_, rfl⟩
      have g1 := h1 k _ (getI (by omega))
      rw [hz] at g1
      have HZ := Lib.hid hz
      clear h1 ha hz
      go_wp2_with fail
      refine (in_any _ _ _ _).mono ?_; rintro e w1 ⟨rfl, rfl⟩
      by_cases hz01 : 0 ≤ z ∧ z ≤ 300
      · obtain ⟨z0, z1⟩ := hz01
        go_wp2
        go_round
        case rel => exact ⟨k + 1, by omega, by go_num, hgood.succ HZ.out z0 z1⟩
        case measure => simp [intOf]; omega
      · have hd : decide (0 ≤ z ∧ z ≤ 300) = false := by simpa using hz01
        go_wp2
        go_ret
        exact ⟨rfl, rfl⟩
    · obtain rfl : k = n := by omega
      have hd : decide ((1 : Int) ≤ (k : Int) ∧ (k : Int) ≤ 400) = false := by
        rw [decide_eq_false_iff_not]
        intro hk2
        exact ok ⟨by omega, by omega, fun j hj => hgood j (by omega)⟩
      go_wp2_with fail
      refine (in_any _ _ _ _).mono ?_; rintro e w1 ⟨rfl, rfl⟩
      go_wp2
      go_ret
      exact ⟨rfl, rfl⟩
end Go.Proofs.Yteogonlclldjlaa.rain
