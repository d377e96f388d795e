/- The contracts of the program's functions on rain. -/
import Derived.Test.YteogonlclldjlaaRain3
namespace Go.Proofs.Yteogonlclldjlaa.rain
open Go.RowKit Go.Proofs.Yteogonlclldjlaa.kit Go.Proofs.Yteogonlclldjlaa.rainl Go.Proofs.Yteogonlclldjlaa.lawi
theorem impl_ok_yes (w : World) (v : Value) (n : Nat) (zs : List Int) (h : Row 1 w v n (IV zs)) (ok : Ok zs) :
    Calls Try.prog 43 #[v] w fun e w' => e = .returned (.bool true) ∧ w = w' := by
  obtain ⟨hl, a, ca, rfl, ha⟩ := h
  have hl : zs.length = n := by simpa using hl
  have hn1 : 1 ≤ n := hl ▸ ok.1
  have hn2 : n ≤ 400 := hl ▸ ok.2.1
  go_enter Try.func43, Try.ntmps43
  go_wp2
  go_loop [15] (fun i => ∃ k : Nat, k ≤ n ∧ i = .int .i64 k) (fun i => n - (intOf i).toNat)
  case atStart => exact ⟨0, Nat.zero_le _, rfl⟩
  case round =>
    obtain ⟨k, hk, rfl⟩ := hrel
    by_cases hlt : k < n
    · obtain ⟨b1, o1, rfl, h1⟩ := ha.resolve_left (by omega)
      obtain ⟨z, hz⟩ : ∃ z, zs.getD k 0 = z := ⟨_, rfl⟩
      have g1 := h1 k _ (getI (by omega))
      rw [hz] at g1
      obtain ⟨z0, z1⟩ := okAt ok hl hlt hz
      clear h1 ha hz
      go_wp2_with fail
      refine (inR_yes _ _ _ _ z0 z1).mono ?_; rintro e w1 ⟨rfl, rfl⟩
      go_wp2
      go_round
      case rel => exact ⟨k + 1, by omega, by go_num⟩
      case measure => simp [intOf]; omega
    · obtain rfl : k = n := by omega
      go_wp2
      go_ret
      exact ⟨rfl, rfl⟩
theorem impl_ok_no (w : World) (v : Value) (n : Nat) (zs : List Int) (hn : n ≤ 1048576) (h : Row 1 w v n (IV zs)) (ok : ¬ Ok zs) :
    Calls Try.prog 43 #[v] w fun e w' => e = .returned (.bool false) ∧ w = w' := by
  obtain ⟨hl, a, ca, rfl, ha⟩ := h
  have hl : zs.length = n := by simpa using hl
  by_cases hn3 : n < 1
  · go_enter Try.func43, Try.ntmps43
    go_wp2
    go_ret
    exact ⟨rfl, rfl⟩
  · by_cases hn4 : 400 < n
    · go_enter Try.func43, Try.ntmps43
      go_wp2
      go_ret
      exact ⟨rfl, rfl⟩
    · have hn1 : 1 ≤ n := by omega
      have hn2 : n ≤ 400 := by omega
      clear hn3 hn4
      go_enter Try.func43, Try.ntmps43
      go_wp2
      go_loop [15] (fun i => ∃ k : Nat, k ≤ n ∧ i = .int .i64 k ∧ Good zs k) (fun i => n - (intOf i).toNat)
      case atStart => exact ⟨0, Nat.zero_le _, rfl, fun j hj => by omega⟩
      case round =>
        obtain ⟨k, hk, rfl, hgood⟩ := hrel
        by_cases hlt : k < n
        · obtain ⟨b1, o1, rfl, h1⟩ := ha.resolve_left (by omega)
          obtain ⟨z, hz⟩ : ∃ z, zs.getD k 0 = z := ⟨_, rfl⟩
          have g1 := h1 k _ (getI (by omega))
          rw [hz] at g1
          have HZ := Lib.hid hz
          clear h1 ha hz
          by_cases hz01 : 0 ≤ z ∧ z ≤ 300
          · go_wp2_with fail
            refine (inR_yes _ _ _ _ hz01.1 hz01.2).mono ?_; rintro e w1 ⟨rfl, rfl⟩
            go_wp2
            go_round
            case rel => exact ⟨k + 1, by omega, by go_num, hgood.succ HZ.out hz01.1 hz01.2⟩
            case measure => simp [intOf]; omega
          · go_wp2_with fail
            refine (inR_no _ _ _ _ hz01).mono ?_; rintro e w1 ⟨rfl, rfl⟩
            go_wp2
            go_ret
            exact ⟨rfl, rfl⟩
        · obtain rfl : k = n := by omega
          exact absurd ⟨by omega, by omega, fun j hj => hgood j (by omega)⟩ ok
/-- A part of a row, in its memory. -/
def Sub (w : World) (d : Nat) (ys : List Int) (e : Ending) (w' : World) : Prop := ∃ u, e = .returned u ∧ Row 1 w u d (IV ys) ∧ w = w'
end Go.Proofs.Yteogonlclldjlaa.rain
