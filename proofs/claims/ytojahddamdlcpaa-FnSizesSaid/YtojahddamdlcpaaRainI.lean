/- The contracts of the program's functions on rain. -/
import Derived.Test.YtojahddamdlcpaaRain3
namespace Go.Proofs.Ytojahddamdlcpaa.rain
open Go.RowKit Go.Proofs.Ytojahddamdlcpaa.kit Go.Proofs.Ytojahddamdlcpaa.rainl Go.Proofs.Ytojahddamdlcpaa.lawi
theorem impl_ok_yes (w : World) (v : Value) (n : Nat) (zs : List Int) (h : Row 1 w v n (IV zs)) (ok : Ok zs) :
    Calls Try.prog 24 #[v] w fun e w' => e = .returned (.bool true) ∧ w = w' := by
  obtain ⟨hl, a, ca, rfl, ha⟩ := h
  have hl : zs.length = n := by simpa using hl
  have hn1 : 1 ≤ n := hl ▸ ok.1
  have hn2 : n ≤ 400 := hl ▸ ok.2.1
  go_enter Try.func24, Try.ntmps24
  go_wp2
  go_loop [15] (fun i => ∃ k : Nat, k ≤ n ∧ i = .int .i64 k) (fun i => n - (intOf i).toNat)
  case atStart => exact ⟨0, Nat.zero_le _, rfl⟩
  case round =>
    obtain ⟨k, hk, rfl⟩ := hrel
    by_cases hlt : k < n
    · obtain ⟨b1, o1, rfl, h1⟩ := ha.resolve_left (by omega)
      obtain ⟨z, hz⟩ : ∃ z, zs.getD k 0 = z := ⟨_, rfl⟩
      have g1 := h1 k _ (getI (by omega))
      rw [hz] at g1
      obtain ⟨z0, z1⟩ := okAt ok hl hlt hz
      clear h1 ha hz
      go_wp2_with fail
      refine (inR_yes _ _ _ _ z0 z1).mono ?_; rintro e w1 ⟨rfl, rfl⟩
      go_wp2
      go_round
      case rel => exact ⟨k + 1, by omega, by go_num⟩
      case measure => simp [intOf]; omega
    · obtain rfl : k = n := by omega
      go_wp2
      go_ret
      exact ⟨rfl, rfl⟩
theorem impl_ok_no (w : World) (v : Value) (n : Nat) (zs : List Int) (hn : n ≤ 1048576) (h : Row 1 w v n (IV zs)) (ok : ¬ Ok zs) :
    Calls Try.prog 24 #[v] w fun e w' => e = .returned (.bool false) ∧ w = w' := by
  obtain ⟨hl, a, ca, rfl, ha⟩ := h
  have hl : zs.length = n := by simpa using hl
  by_cases hn3 : n < 1
  · go_enter Try.func24, Try.ntmps24
    go_wp2
    go_ret
    exact ⟨rfl, rfl⟩
  · by_cases hn4 : 400 < n
    · go_enter Try.func24, Try.ntmps24
      go_wp2
      go_ret
      exact ⟨rfl, rfl⟩
    · have hn1 : 1 ≤ n := by omega
      have hn2 : n ≤ 400 := by omega
      clear hn3 hn4
      go_enter Try.func24, Try.ntmps24
      go_wp2
      go_loop [15] (fun i => ∃ k : Nat, k ≤ n ∧ i = .int .i64 k ∧ Good zs k) (fun i => n - (intOf i).toNat)
      case atStart => exact ⟨0, Nat.zero_le _, rfl, fun j hj => by omega⟩
      case round =>
        obtain ⟨k, hk, rfl, hgood⟩ := hrel
        by_cases hlt : k < n
        · obtain ⟨b1, o1, rfl, h1⟩ := ha.resolve_left (by omega)
          obtain ⟨z, hz⟩ : ∃ z, zs.getD k 0 = z := ⟨_, rfl⟩
          have g1 := h1 k _ (getI (by omega))
          rw [hz] at g1
          have HZ := Lib.hid hz
          clear h1 ha hz
          by_cases hz01 : 0 ≤ z ∧ z ≤ 300
          · go_wp2_with fail
            refine (inR_yes _ _ _ _ hz01.1 hz01.2).mono ?_; rintro e w1 ⟨rfl, rfl⟩
            go_wp2
            go_round
            case rel => exact ⟨k + 1, by omega, by go_num, hgood.succ HZ.out hz01.1 hz01.2⟩
            case measure => simp [intOf]; omega
          · go_wp2_with fail
            refine (inR_no _ _ _ _ hz01).mono ?_; rintro e w1 ⟨rfl, rfl⟩
            go_wp2
            go_ret
            exact ⟨rfl, rfl⟩
        · obtain rfl : k = n := by omega
          exact absurd ⟨by omega, by omega, fun j hj => hgood j (by omega)⟩ ok
theorem impl_sum (w : World) (v : Value) (n : Nat) (zs : List Int) (h : Row 1 w v n (IV zs)) (ok : Ok zs) :
    Calls Try.prog 51 #[v] w fun e w' => e = .returned (.int .i64 (P zs n)) ∧ w = w' := by
  obtain ⟨hl, a, ca, rfl, ha⟩ := h
  have hl : zs.length = n := by simpa using hl
  have hn2 : n ≤ 400 := hl ▸ ok.2.1
  go_enter Try.func51, Try.ntmps51
  go_wp2
  go_loop [3, 8] (fun t i => ∃ k : Nat, k ≤ n ∧ i = .int .i64 k ∧ t = .int .i64 (P zs k)) (fun _ i => n - (intOf i).toNat)
  case atStart => exact ⟨0, Nat.zero_le _, rfl, rfl⟩
  case round =>
    obtain ⟨k, hk, rfl, rfl⟩ := hrel
    by_cases hlt : k < n
    · obtain ⟨b1, o1, rfl, h1⟩ := ha.resolve_left (by omega)
      obtain ⟨z, hz⟩ : ∃ z, zs.getD k 0 = z := ⟨_, rfl⟩
      have g1 := h1 k _ (getI (by omega))
      rw [hz] at g1
      obtain ⟨z0, z1⟩ := okAt ok hl hlt hz
      obtain ⟨s, hs⟩ : ∃ s, P zs k = s := ⟨_, rfl⟩
      have hb := P_bd ok k (by omega)
      have HS : Hid (P zs (k + 1) = s + z) := by show P zs (k + 1) = s + z; rw [P_succ, hs, hz]
      rw [hs] at hb ⊢
      clear h1 ha hz hs
      go_wp2
      go_round
      case rel => exact ⟨k + 1, by omega, by go_num, by rw [HS.out]⟩
      case measure => simp [intOf]; omega
    · obtain rfl : k = n := by omega
      go_wp2
      go_ret
      exact ⟨rfl, rfl⟩
theorem impl_total (w : World) (v : Value) (n : Nat) (zs : List Int) (h : Row 1 w v n (IV zs)) (ok : Ok zs) :
    Calls Try.prog 18 #[v] w fun e w' => e = .returned (.int .i64 (P zs n)) ∧ w = w' := by
  go_enter Try.func18, Try.ntmps18
  go_wp2_with fail
  refine (impl_ok_yes _ _ n zs h ok).mono ?_; rintro e w1 ⟨rfl, rfl⟩
  go_wp2_with fail
  refine (impl_sum _ _ n zs h ok).mono ?_; rintro e w1 ⟨rfl, rfl⟩
  go_wp2
  go_ret
  exact ⟨rfl, rfl⟩
theorem impl_total_no (w : World) (v : Value) (n : Nat) (zs : List Int) (hn : n ≤ 1048576) (h : Row 1 w v n (IV zs)) (ok : ¬ Ok zs) :
    Calls Try.prog 18 #[v] w fun e w' => e = .returned (.int .i64 (-1)) ∧ w = w' := by
  go_enter Try.func18, Try.ntmps18
  go_wp2_with fail
  refine (impl_ok_no _ _ n zs hn h ok).mono ?_; rintro e w1 ⟨rfl, rfl⟩
  go_wp2
  go_ret
  exact ⟨rfl, rfl⟩
/-- A part of a row, in its memory. -/
def Sub (w : World) (d : Nat) (ys : List Int) (e : Ending) (w' : World) : Prop := ∃ u, e = .returned u ∧ Row 1 w u d (IV ys) ∧ w = w'
theorem impl_pslice (w : World) (v : Value) (n : Nat) (zs : List Int) (h : Row 1 w v n (IV zs)) (hc : Cap v) (hn : n ≤ 400) (f d : Nat) (F D : Int) (eF : F = f) (eD : D = d) (h1 : 1 ≤ d) (h2 : f + d ≤ n) :
    Calls Try.prog 77 #[v, .int .i64 F, .int .i64 D] w (Sub w d ((zs.drop f).take d)) := by
  obtain ⟨hl, a, ca, rfl, ha⟩ := h
  have hl : zs.length = n := by simpa using hl
  have hca : n ≤ ca := hc _ _ _ rfl
  obtain ⟨b1, o1, rfl, hc1⟩ := ha.resolve_left (by omega)
  subst eF eD
  clear ha hc
  go_enter Try.func77, Try.ntmps77
  go_wp2
  go_ret
  refine ⟨_, rfl, ?_, rfl⟩
  have e : f + d - f = d := by omega
  show Row 1 w (.slice (some ⟨b1, o1 + f, none⟩) (f + d - f) (f + d - f)) d _
  rw [e]
  refine ⟨by simp; omega, _, _, rfl, .inr ⟨b1, o1 + f, rfl, fun j u hu => ?_⟩⟩
  have hj : j < d := by
    have := (List.getElem?_eq_some_iff.1 hu).1
    simp at this; omega
  rw [Nat.add_assoc]
  refine hc1 (f + j) u ?_
  rw [← hu]
  simp only [IV, List.getElem?_map]
  rw [List.getElem?_take_of_lt hj, List.getElem?_drop]
set_option maxHeartbeats 400000 in
theorem impl_part (w : World) (v : Value) (n : Nat) (zs : List Int) (h : Row 1 w v n (IV zs)) (hc : Cap v) (ok : Ok zs) (D : Nat) (I : Int) (eI : I = D) (h1 : 1 ≤ D) (h2 : D ≤ n) (d : Nat) (hd : First (psum zs D) (n - D + 1) d) :
    Calls Try.prog 52 #[v, .int .i64 I] w fun e w' => e = .returned (.tuple #[.int .i64 d, .int .i64 (psum zs D d)]) ∧ w = w' := by
  subst eI
  have h' := h
  obtain ⟨hl, a, ca, rfl, ha⟩ := h
  have hl : zs.length = n := by simpa using hl
  have hn2 : n ≤ 400 := hl ▸ ok.2.1
  obtain ⟨o0, l0⟩ := ok.sub (a := 0) h1 (by omega)
  have s0 := psum_sub zs 0 D (by omega)
  have HD := Lib.hid hd
  have H' := Lib.hid h'
  have S0 := Lib.hid s0
  clear ha hd h' s0 l0
  go_enter Try.func52, Try.ntmps52
  go_wp2_with fail
  refine (impl_pslice _ _ n zs H'.out hc hn2 0 D _ _ (by rfl) rfl h1 (by omega)).mono ?_; rintro e w1 ⟨u, rfl, hu, rfl⟩
  go_wp2_with fail
  refine (impl_sum _ _ D _ hu o0).mono ?_; rintro e w1 ⟨rfl, rfl⟩
  rw [S0.out]
  clear hu
  go_wp2
  go_loop [6, 7, 8] (fun t u i => ∃ (k b : Nat) (m : Int), 1 ≤ k ∧ k ≤ n - D + 1 ∧ i = .int .i64 k ∧ t = .int .i64 b ∧ u = .int .i64 m ∧ PartSt zs D k b m) (fun _ _ i => n - D + 1 - (intOf i).toNat)
  case atStart => exact ⟨1, 0, _, Nat.le_refl _, by omega, rfl, rfl, rfl, .inr ⟨First.one _, rfl⟩⟩
  case round =>
    obtain ⟨k, b, m, hk1, hk, rfl, rfl, rfl, hP⟩ := hrel
    obtain ⟨m0, m1, _⟩ := hP.bd ok (by omega)
    have HP := Lib.hid hP
    clear hP
    by_cases hlt : k + D ≤ n
    · obtain ⟨x, hx⟩ : ∃ x, psum zs D k = x := ⟨_, rfl⟩
      have b3 := psum_bd ok (d := D) (k := k) (by omega)
      rw [hx] at b3
      have HX := Lib.hid hx
      have SX := Lib.hid (psum_sub zs k D (by omega))
      obtain ⟨ok2, _⟩ := ok.sub (a := k) h1 (by omega)
      have OK2 := Lib.hid ok2
      clear hx ok2
      go_wp2_with fail
      refine (impl_pslice _ _ n zs H'.out hc hn2 k D _ _ (by rfl) rfl h1 (by omega)).mono ?_; rintro e w1 ⟨u, rfl, hu, rfl⟩
      go_wp2_with fail
      refine (impl_sum _ _ D _ hu OK2.out).mono ?_; rintro e w1 ⟨rfl, rfl⟩
      rw [SX.out, HX.out]
      clear hu
      by_cases hmx : m < x
      · go_wp2
        go_round
        case rel => exact ⟨k + 1, k, x, by omega, by omega, by go_num, rfl, rfl, HP.out.up HX.out hmx⟩
        case measure => simp [intOf]; omega
      · go_wp2
        go_round
        case rel => exact ⟨k + 1, b, m, by omega, by omega, by go_num, rfl, rfl, HP.out.keep HX.out b3.1 (by omega)⟩
        case measure => simp [intOf]; omega
    · obtain rfl : k = n - D + 1 := by omega
      obtain ⟨rfl, rfl⟩ := HP.out.done HD.out
      clear HP HD
      go_wp2
      go_ret2
      exact ⟨rfl, rfl⟩
theorem impl_day (w : World) (v : Value) (n : Nat) (zs : List Int) (h : Row 1 w v n (IV zs)) (hc : Cap v) (ok : Ok zs) (d : Nat) (hd : First (psum zs 1) n d) :
    Calls Try.prog 19 #[v] w fun e w' => e = .returned (.int .i64 d) ∧ w = w' := by
  have hl : zs.length = n := by have := h.1; simpa using this
  have hn1 : 1 ≤ n := hl ▸ ok.1
  have hd' : First (psum zs 1) (n - 1 + 1) d := by rw [show n - 1 + 1 = n by omega]; exact hd
  clear hd
  go_enter Try.func19, Try.ntmps19
  go_wp2_with fail
  refine (impl_ok_yes _ _ n zs h ok).mono ?_; rintro e w1 ⟨rfl, rfl⟩
  go_wp2_with fail
  refine (impl_part _ _ n zs h hc ok 1 _ (by rfl) (Nat.le_refl _) hn1 d hd').mono ?_; rintro e w1 ⟨rfl, rfl⟩
  go_wp2
  go_ret
  exact ⟨rfl, rfl⟩
theorem impl_day_no (w : World) (v : Value) (n : Nat) (zs : List Int) (hn : n ≤ 1048576) (h : Row 1 w v n (IV zs)) (ok : ¬ Ok zs) :
    Calls Try.prog 19 #[v] w fun e w' => e = .returned (.int .i64 (-1)) ∧ w = w' := by
  go_enter Try.func19, Try.ntmps19
  go_wp2_with fail
  refine (impl_ok_no _ _ n zs hn h ok).mono ?_; rintro e w1 ⟨rfl, rfl⟩
  go_wp2
  go_ret
  exact ⟨rfl, rfl⟩
theorem impl_dry (w : World) (v : Value) (n : Nat) (zs : List Int) (h : Row 1 w v n (IV zs)) (ok : Ok zs) :
    Calls Try.prog 22 #[v] w fun e w' => e = .returned (.int .i64 (dry zs n)) ∧ w = w' := by
  have h' := h
  obtain ⟨hl, a, ca, rfl, ha⟩ := h
  have hl : zs.length = n := by simpa using hl
  have hn2 : n ≤ 400 := hl ▸ ok.2.1
  go_enter Try.func22, Try.ntmps22
  go_wp2_with fail
  refine (impl_ok_yes _ _ n zs h' ok).mono ?_; rintro e w1 ⟨rfl, rfl⟩
  go_wp2
  go_loop [3, 4, 12] (fun t u i => ∃ k : Nat, k ≤ n ∧ i = .int .i64 k ∧ t = .int .i64 (dry zs k) ∧ u = .int .i64 (run zs k)) (fun _ _ i => n - (intOf i).toNat)
  case atStart => exact ⟨0, Nat.zero_le _, rfl, rfl, rfl⟩
  case round =>
    obtain ⟨k, hk, rfl, rfl, rfl⟩ := hrel
    by_cases hlt : k < n
    · obtain ⟨b1, o1, rfl, h1⟩ := ha.resolve_left (by omega)
      obtain ⟨z, hz⟩ : ∃ z, zs.getD k 0 = z := ⟨_, rfl⟩
      have g1 := h1 k _ (getI (by omega))
      rw [hz] at g1
      have hb1 := dry_bd zs k
      have hb2 := run_bd zs k
      obtain ⟨s, hs⟩ : ∃ s, dry zs k = s := ⟨_, rfl⟩
      obtain ⟨r, hr⟩ : ∃ r, run zs k = r := ⟨_, rfl⟩
      rw [hs] at hb1 ⊢
      rw [hr] at hb2 ⊢
      by_cases hz0 : 0 < z
      · have HD : Hid (dry zs (k + 1) = s) := by show dry zs (k + 1) = s; rw [dry_wet (by omega), hs]
        have HR : Hid (run zs (k + 1) = 0) := by show run zs (k + 1) = 0; rw [run_wet (by omega)]
        clear h1 ha hz hs hr h'
        go_wp2
        all_goals
          go_round
          case rel => exact ⟨k + 1, by omega, by go_num, by rw [HD.out], by rw [HR.out]⟩
          case measure => simp [intOf]; omega
      · have HD : Hid (dry zs (k + 1) = max s (r + 1)) := by show dry zs (k + 1) = max s (r + 1); rw [dry_up (by omega), hs, hr]
        have HR : Hid (run zs (k + 1) = r + 1) := by show run zs (k + 1) = r + 1; rw [run_dry (by omega), hr]
        clear h1 ha hz hs hr h'
        go_wp2
        all_goals
          go_round
          case rel => exact ⟨k + 1, by omega, by go_num, by rw [HD.out]; exact congrArg _ (by split <;> omega), by rw [HR.out]⟩
          case measure => simp [intOf]; omega
    · obtain rfl : k = n := by omega
      go_wp2
      go_ret
      exact ⟨rfl, rfl⟩
theorem impl_dry_no (w : World) (v : Value) (n : Nat) (zs : List Int) (hn : n ≤ 1048576) (h : Row 1 w v n (IV zs)) (ok : ¬ Ok zs) :
    Calls Try.prog 22 #[v] w fun e w' => e = .returned (.int .i64 (-1)) ∧ w = w' := by
  go_enter Try.func22, Try.ntmps22
  go_wp2_with fail
  refine (impl_ok_no _ _ n zs hn h ok).mono ?_; rintro e w1 ⟨rfl, rfl⟩
  go_wp2
  go_ret
  exact ⟨rfl, rfl⟩
end Go.Proofs.Ytojahddamdlcpaa.rain
