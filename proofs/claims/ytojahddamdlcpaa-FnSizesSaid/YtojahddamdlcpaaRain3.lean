/- The contracts of the specification's WettestWeek and HasWetPart. -/
import Derived.Test.YtojahddamdlcpaaRain2
namespace Go.Proofs.Ytojahddamdlcpaa.rain
open Go.RowKit Go.Proofs.Ytojahddamdlcpaa.kit Go.Proofs.Ytojahddamdlcpaa.rainl Go.Proofs.Ytojahddamdlcpaa.lawi
theorem spec_part_of (w : World) (v : Value) (n : Nat) (zs : List Int) (h : Row 1 w v n (IV zs)) (ok : Ok zs) (D : Nat) (I : Int) (e : I = D) (h1 : 1 ≤ D) (h2 : D ≤ n) (d : Nat) (hd : First (psum zs D) (n - D + 1) d) :
    Calls Try.prog 64 #[v, .int .i64 I] w (Wet w d (psum zs D d)) := by
  subst e
  exact spec_part w v n zs h ok D h1 h2 d hd
theorem spec_week (w : World) (v : Value) (n : Nat) (zs : List Int) (h : Row 1 w v n (IV zs)) (ok : Ok zs) (D : Nat) (hD : D = min 7 n) (d : Nat) (hd : First (psum zs D) (n - D + 1) d) :
    Calls Try.prog 36 #[v] w (Wet w d (psum zs D d)) := by
  have h' := h
  obtain ⟨hl, a, ca, rfl, ha⟩ := h
  have hl : zs.length = n := by simpa using hl
  have hn1 : 1 ≤ n := hl ▸ ok.1
  have hn2 : n ≤ 400 := hl ▸ ok.2.1
  have HD := Lib.hid hD
  clear hD
  have fits : n < 7 ∨ 7 ≤ n := by omega
  rcases fits with h7 | h7
  all_goals
    go_enter Try.func36, Try.ntmps36
    go_wp2_with fail
    refine (spec_ok_yes _ _ n zs h' ok).mono ?_; rintro e w1 ⟨rfl, rfl⟩
    go_wp2_with fail
    refine (spec_part_of _ _ n zs h' ok D _ (by have := HD.out; omega) (by have := HD.out; omega) (by have := HD.out; omega) d hd).mono ?_; rintro e w1 ⟨rfl, hb⟩
    go_wp2
    go_ret2
    exact ⟨rfl, hb⟩
theorem spec_week_no (w : World) (v : Value) (n : Nat) (zs : List Int) (hn : n ≤ 1048576) (h : Row 1 w v n (IV zs)) (ok : ¬ Ok zs) :
    Calls Try.prog 36 #[v] w fun e w' => e = .returned (.tuple #[.int .i64 (-1), .int .i64 (-1)]) ∧ w = w' := by
  go_enter Try.func36, Try.ntmps36
  go_wp2_with fail
  refine (spec_ok_no _ _ n zs hn h ok).mono ?_; rintro e w1 ⟨rfl, rfl⟩
  go_wp2
  go_ret2
  exact ⟨rfl, rfl⟩
/-- A value, in a world that has grown. -/
def Bel (w : World) (v : Value) (e : Ending) (w' : World) : Prop := e = .returned v ∧ Below w.heap.size w w'
theorem spec_wet (w : World) (v : Value) (n : Nat) (zs : List Int) (h : Row 1 w v n (IV zs)) (ok : Ok zs) (D : Nat) (I S : Int) (e : I = D) (h1 : 1 ≤ D) (h2 : D ≤ n) (d : Nat) (hd : First (psum zs D) (n - D + 1) d) :
    Calls Try.prog 37 #[v, .int .i64 I, .int .i64 S] w (Bel w (.bool (decide (S ≤ psum zs D d)))) := by
  have h' := h
  obtain ⟨hl, a, ca, rfl, ha⟩ := h
  have hl : zs.length = n := by simpa using hl
  have hn2 : n ≤ 400 := hl ▸ ok.2.1
  have i1 : 1 ≤ I := by omega
  have i2 : I ≤ n := by omega
  have E := Lib.hid e
  clear e
  go_enter Try.func37, Try.ntmps37
  go_wp2_with fail
  refine (spec_ok_yes _ _ n zs h' ok).mono ?_; rintro e w1 ⟨rfl, rfl⟩
  go_wp2_with fail
  refine (in_any _ _ _ _).mono ?_; rintro e w1 ⟨rfl, rfl⟩
  go_wp2_with fail
  refine (spec_part_of _ _ n zs h' ok D _ E.out h1 h2 d hd).mono ?_; rintro e w1 ⟨rfl, hb⟩
  go_wp2
  go_ret
  exact ⟨rfl, hb⟩
theorem spec_wet_no (w : World) (v : Value) (n : Nat) (zs : List Int) (hn : n ≤ 1048576) (h : Row 1 w v n (IV zs)) (ok : ¬ Ok zs) (I S : Int) :
    Calls Try.prog 37 #[v, .int .i64 I, .int .i64 S] w (Bel w (.bool false)) := by
  go_enter Try.func37, Try.ntmps37
  go_wp2_with fail
  refine (spec_ok_no _ _ n zs hn h ok).mono ?_; rintro e w1 ⟨rfl, rfl⟩
  go_wp2
  go_ret
  exact ⟨rfl, Below.refl _ _⟩
theorem spec_wet_out (w : World) (v : Value) (n : Nat) (zs : List Int) (h : Row 1 w v n (IV zs)) (ok : Ok zs) (I S : Int) (hi : ¬ (1 ≤ I ∧ I ≤ n)) :
    Calls Try.prog 37 #[v, .int .i64 I, .int .i64 S] w (Bel w (.bool false)) := by
  have h' := h
  obtain ⟨hl, a, ca, rfl, ha⟩ := h
  have hl : zs.length = n := by simpa using hl
  have hn2 : n ≤ 400 := hl ▸ ok.2.1
  have hd : decide (1 ≤ I ∧ I ≤ n) = false := by simpa using hi
  clear hi
  go_enter Try.func37, Try.ntmps37
  go_wp2_with fail
  refine (spec_ok_yes _ _ n zs h' ok).mono ?_; rintro e w1 ⟨rfl, rfl⟩
  go_wp2_with fail
  refine (in_any _ _ _ _).mono ?_; rintro e w1 ⟨rfl, rfl⟩
  go_wp2
  go_ret
  exact ⟨rfl, Below.refl _ _⟩
end Go.Proofs.Ytojahddamdlcpaa.rain
