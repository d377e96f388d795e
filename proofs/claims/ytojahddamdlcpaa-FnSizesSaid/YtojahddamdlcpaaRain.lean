/- The contracts of the specification's functions on rain. -/
import Derived.Test.YtojahddamdlcpaaRainL
import Derived.Test.YtojahddamdlcpaaLawI
import Derived.Deep.QuietTactic
import Derived.BigQuiet
namespace Go.Proofs.Ytojahddamdlcpaa.rain
open Go.RowKit Go.Proofs.Ytojahddamdlcpaa.kit Go.Proofs.Ytojahddamdlcpaa.rainl Go.Proofs.Ytojahddamdlcpaa.lawi
abbrev IV (zs : List Int) : List Value := zs.map (Value.int .i64)
theorem okAt {zs : List Int} {n k : Nat} (h : Ok zs) (hl : zs.length = n) (hk : k < n) {z : Int} (hz : zs.getD k 0 = z) : 0 ≤ z ∧ z ≤ 300 := hz ▸ h.2.2 k (by omega)
def Good (zs : List Int) (k : Nat) : Prop := ∀ j, j < k → 0 ≤ zs.getD j 0 ∧ zs.getD j 0 ≤ 300
theorem Good.succ {zs : List Int} {k : Nat} (h : Good zs k) {z : Int} (hz : zs.getD k 0 = z) (h0 : 0 ≤ z) (h1 : z ≤ 300) : Good zs (k + 1) := fun j hj => by
  rcases (show j < k ∨ j = k from by omega) with h' | rfl
  · exact h j h'
  · omega
theorem spec_ok_yes (w : World) (v : Value) (n : Nat) (zs : List Int) (h : Row 1 w v n (IV zs)) (ok : Ok zs) :
    Calls Try.prog 63 #[v] w fun e w' => e = .returned (.bool true) ∧ w = w' := by
  obtain ⟨hl, a, ca, rfl, ha⟩ := h
  have hl : zs.length = n := by simpa using hl
  have hn1 : 1 ≤ n := hl ▸ ok.1
  have hn2 : n ≤ 400 := hl ▸ ok.2.1
  go_enter Try.func63, Try.ntmps63
  go_wp2
  go_loop [3] (fun i => ∃ k : Nat, k ≤ n ∧ i = .int .i64 k) (fun i => n - (intOf i).toNat)
  case atStart => exact ⟨0, Nat.zero_le _, rfl⟩
  case round =>
    obtain ⟨k, hk, rfl⟩ := hrel
    by_cases hlt : k < n
    · obtain ⟨b1, o1, rfl, h1⟩ := ha.resolve_left (by omega)
      obtain ⟨z, hz⟩ : ∃ z, zs.getD k 0 = z := ⟨_, rfl⟩
      have g1 := h1 k _ (getI (by omega))
      rw [hz] at g1
      obtain ⟨z0, z1⟩ := okAt ok hl hlt hz
      clear h1 ha hz
      go_wp2_with fail
      refine (in_any _ _ _ _).mono ?_; rintro e w1 ⟨rfl, rfl⟩
      go_wp2
      go_round
      case rel => exact ⟨k + 1, by omega, by go_num⟩
      case measure => simp [intOf]; omega
    · obtain rfl : k = n := by omega
      go_wp2_with fail
      refine (in_any _ _ _ _).mono ?_; rintro e w1 ⟨rfl, rfl⟩
      go_wp2
      go_ret
      exact ⟨by simp; omega, rfl⟩
theorem spec_ok_no (w : World) (v : Value) (n : Nat) (zs : List Int) (hn : n ≤ 1048576) (h : Row 1 w v n (IV zs)) (ok : ¬ Ok zs) :
    Calls Try.prog 63 #[v] w fun e w' => e = .returned (.bool false) ∧ w = w' := by
  obtain ⟨hl, a, ca, rfl, ha⟩ := h
  have hl : zs.length = n := by simpa using hl
  go_enter Try.func63, Try.ntmps63
  go_wp2
  go_loop [3] (fun i => ∃ k : Nat, k ≤ n ∧ i = .int .i64 k ∧ Good zs k) (fun i => n - (intOf i).toNat)
  case atStart => exact ⟨0, Nat.zero_le _, rfl, fun j hj => by omega⟩
  case round =>
    obtain ⟨k, hk, rfl, hgood⟩ := hrel
    by_cases hlt : k < n
    · obtain ⟨b1, o1, rfl, h1⟩ := ha.resolve_left (by omega)
      obtain ⟨z, hz⟩ : ∃ z, zs.getD k 0 = z := ⟨_, rfl⟩
      have g1 := h1 k _ (getI (by omega))
      rw [hz] at g1
      have HZ := Lib.hid hz
      clear h1 ha hz
      go_wp2_with fail
      refine (in_any _ _ _ _).mono ?_; rintro e w1 ⟨rfl, rfl⟩
      by_cases hz01 : 0 ≤ z ∧ z ≤ 300
      · obtain ⟨z0, z1⟩ := hz01
        go_wp2
        go_round
        case rel => exact ⟨k + 1, by omega, by go_num, hgood.succ HZ.out z0 z1⟩
        case measure => simp [intOf]; omega
      · have hd : decide (0 ≤ z ∧ z ≤ 300) = false := by simpa using hz01
        go_wp2
        go_ret
        exact ⟨rfl, rfl⟩
    · obtain rfl : k = n := by omega
      have hd : decide ((1 : Int) ≤ (k : Int) ∧ (k : Int) ≤ 400) = false := by
        rw [decide_eq_false_iff_not]
        intro hk2
        exact ok ⟨by omega, by omega, fun j hj => hgood j (by omega)⟩
      go_wp2_with fail
      refine (in_any _ _ _ _).mono ?_; rintro e w1 ⟨rfl, rfl⟩
      go_wp2
      go_ret
      exact ⟨rfl, rfl⟩
/-- The specification's TotalRain. -/
theorem spec_total (w : World) (v : Value) (n : Nat) (zs : List Int) (h : Row 1 w v n (IV zs)) (ok : Ok zs) :
    Calls Try.prog 32 #[v] w fun e w' => e = .returned (.int .i64 (P zs n)) ∧ w = w' := by
  have h' := h
  obtain ⟨hl, a, ca, rfl, ha⟩ := h
  have hl : zs.length = n := by simpa using hl
  have hn2 : n ≤ 400 := hl ▸ ok.2.1
  go_enter Try.func32, Try.ntmps32
  go_wp2_with fail
  refine (spec_ok_yes _ _ n zs h' ok).mono ?_; rintro e w1 ⟨rfl, rfl⟩
  go_wp2
  go_loop [3, 4] (fun t i => ∃ k : Nat, k ≤ n ∧ i = .int .i64 k ∧ t = .int .i64 (P zs k)) (fun _ i => n - (intOf i).toNat)
  case atStart => exact ⟨0, Nat.zero_le _, rfl, rfl⟩
  case round =>
    obtain ⟨k, hk, rfl, rfl⟩ := hrel
    by_cases hlt : k < n
    · obtain ⟨b1, o1, rfl, h1⟩ := ha.resolve_left (by omega)
      obtain ⟨z, hz⟩ : ∃ z, zs.getD k 0 = z := ⟨_, rfl⟩
      have g1 := h1 k _ (getI (by omega))
      rw [hz] at g1
      obtain ⟨z0, z1⟩ := okAt ok hl hlt hz
      obtain ⟨s, hs⟩ : ∃ s, P zs k = s := ⟨_, rfl⟩
      have hb := P_bd ok k (by omega)
      have HS : Hid (P zs (k + 1) = s + z) := by show P zs (k + 1) = s + z; rw [P_succ, hs, hz]
      rw [hs] at hb ⊢
      clear h1 ha hz hs h'
      go_wp2
      go_round
      case rel => exact ⟨k + 1, by omega, by go_num, by rw [HS.out]⟩
      case measure => simp [intOf]; omega
    · obtain rfl : k = n := by omega
      go_wp2
      go_ret
      exact ⟨rfl, rfl⟩
theorem spec_total_no (w : World) (v : Value) (n : Nat) (zs : List Int) (hn : n ≤ 1048576) (h : Row 1 w v n (IV zs)) (ok : ¬ Ok zs) :
    Calls Try.prog 32 #[v] w fun e w' => e = .returned (.int .i64 (-1)) ∧ w = w' := by
  go_enter Try.func32, Try.ntmps32
  go_wp2_with fail
  refine (spec_ok_no _ _ n zs hn h ok).mono ?_; rintro e w1 ⟨rfl, rfl⟩
  go_wp2
  go_ret
  exact ⟨rfl, rfl⟩
/-- The specification's WettestDay. -/
theorem spec_day (w : World) (v : Value) (n : Nat) (zs : List Int) (h : Row 1 w v n (IV zs)) (ok : Ok zs) (d : Nat) (hd : First (psum zs 1) n d) :
    Calls Try.prog 35 #[v] w (Reads w (.int .i64 d)) := by
  have h' := h
  obtain ⟨hl, a, ca, rfl, ha⟩ := h
  have hl : zs.length = n := by simpa using hl
  have hn1 : 1 ≤ n := hl ▸ ok.1
  have hn2 : n ≤ 400 := hl ▸ ok.2.1
  go_enter Try.func35, Try.ntmps35
  go_wp2_with fail
  refine (spec_ok_yes _ _ n zs h' ok).mono ?_; rintro e w1 ⟨rfl, rfl⟩
  go_wp2
  go_loopw [3, 4] (fun t i wr => ∃ k b : Nat, k ≤ n ∧ b < n ∧ i = .int .i64 k ∧ t = .int .i64 b ∧ First (psum zs 1) (max k 1) b ∧ ∃ q, wr = w.drewN q) (fun _ i _ => n - (intOf i).toNat)
  case atStart => exact ⟨0, 0, Nat.zero_le _, by omega, rfl, rfl, First.one _, 0, rfl⟩
  case round =>
    obtain ⟨k, b, hk, hbn, rfl, rfl, hF, q, rfl⟩ := hrel
    by_cases hlt : k < n
    · obtain ⟨b1, o1, rfl, h1⟩ := ha.resolve_left (by omega)
      obtain ⟨z, hz⟩ : ∃ z, zs.getD k 0 = z := ⟨_, rfl⟩
      obtain ⟨y, hy⟩ : ∃ y, zs.getD b 0 = y := ⟨_, rfl⟩
      have g1 := h1 k _ (getI (by omega))
      have g2 := h1 b _ (getI (by omega))
      rw [hz] at g1
      rw [hy] at g2
      have HZ := Lib.hid hz
      have HY := Lib.hid hy
      have HF := Lib.hid hF
      clear h1 ha hz hy h' hF hd
      by_cases hzy : y < z
      · go_wp2
        go_quiet (fail)
        go_wp2
        go_roundw
        case rel => exact ⟨k + 1, k, by omega, by omega, by go_num, rfl, day_up HF.out HZ.out HY.out hzy, _, rfl⟩
        case measure => simp [intOf]; omega
      · go_wp2
        go_quiet (fail)
        go_wp2
        go_roundw
        case rel => exact ⟨k + 1, b, by omega, by omega, by go_num, rfl, day_keep HF.out HZ.out HY.out (by omega), _, rfl⟩
        case measure => simp [intOf]; omega
    · obtain rfl : k = n := by omega
      rw [Nat.max_eq_left (by omega)] at hF
      obtain rfl := hF.same hd
      go_wp2
      go_ret
      exact ⟨rfl, q, rfl⟩
theorem spec_day_no (w : World) (v : Value) (n : Nat) (zs : List Int) (hn : n ≤ 1048576) (h : Row 1 w v n (IV zs)) (ok : ¬ Ok zs) :
    Calls Try.prog 35 #[v] w fun e w' => e = .returned (.int .i64 (-1)) ∧ w = w' := by
  go_enter Try.func35, Try.ntmps35
  go_wp2_with fail
  refine (spec_ok_no _ _ n zs hn h ok).mono ?_; rintro e w1 ⟨rfl, rfl⟩
  go_wp2
  go_ret
  exact ⟨rfl, rfl⟩
end Go.Proofs.Ytojahddamdlcpaa.rain
