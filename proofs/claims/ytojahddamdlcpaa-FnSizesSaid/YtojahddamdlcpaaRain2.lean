/- The contracts of the specification's SumsOf, WettestWeek and HasWetPart. -/
import Derived.Test.YtojahddamdlcpaaRain
namespace Go.Proofs.Ytojahddamdlcpaa.rain
open Go.RowKit Go.Proofs.Ytojahddamdlcpaa.kit Go.Proofs.Ytojahddamdlcpaa.rainl Go.Proofs.Ytojahddamdlcpaa.lawi
/-- A new row that the call owns; what was there is as it was. -/
def Got (w : World) (n : Nat) (zs : List Int) (e : Ending) (w' : World) : Prop :=
  ∃ v, e = .returned v ∧ w'.ownsRow w.heap.size 3 1 v n (IV zs) ∧ Below w.heap.size w w'
set_option maxHeartbeats 400000 in
theorem spec_sums (w : World) (v : Value) (n : Nat) (zs : List Int) (h : Row 1 w v n (IV zs)) (ok : Ok zs) :
    Calls Try.prog 82 #[v] w (Got w n (sums zs n)) := by
  have h' := h
  obtain ⟨hl, a, ca, rfl, ha⟩ := h
  have hl : zs.length = n := by simpa using hl
  have hn2 : n ≤ 400 := hl ▸ ok.2.1
  go_enter Try.func82, Try.ntmps82
  go_wp2
  go_loopw [3, 4, 5] (fun v t i wr => ∃ k : Nat, k ≤ n ∧ i = .int .i64 k ∧ t = .int .i64 (P zs k) ∧ wr.ownsRow w.heap.size 3 1 v k (IV (sums zs k)) ∧ Below w.heap.size w wr) (fun _ _ i _ => n - (intOf i).toNat)
  case atStart => exact ⟨0, Nat.zero_le _, rfl, rfl, World.ownsRow_made _ #[] 0 (Nat.le_refl _) (Nat.zero_le _) rfl, (Below.refl _ _).alloc (Nat.le_refl _) _⟩
  case round =>
    obtain ⟨k, hk, rfl, rfl, hown, hbel⟩ := hrel
    by_cases hlt : k < n
    · obtain ⟨b1, o1, rfl, h1⟩ := ha.resolve_left (by omega)
      obtain ⟨z, hz⟩ : ∃ z, zs.getD k 0 = z := ⟨_, rfl⟩
      have g1 := h1 k _ (getI (by omega))
      rw [hz] at g1
      have g2 : wr.cell? ⟨b1, o1 + k, none⟩ = some (.int .i64 z) := (hbel.cell (p := ⟨b1, o1 + k, none⟩) (World.block_lt_of_cell? w _ g1)).trans g1
      obtain ⟨z0, z1⟩ := okAt ok hl hlt hz
      obtain ⟨s, hs⟩ : ∃ s, P zs k = s := ⟨_, rfl⟩
      have hb := P_bd ok k (by omega)
      have HS : Hid (P zs (k + 1) = s + z) := by show P zs (k + 1) = s + z; rw [P_succ, hs, hz]
      rw [hs] at hb ⊢
      have hr := Row.keep h' hbel
      clear h1 ha hz hs h' g1
      go_wp2_with fail
      refine (spec_ok_yes _ _ n zs hr ok).mono ?_; rintro e w1 ⟨rfl, rfl⟩
      go_wp2_with (at_builtin; refine app1 wr rfl _ _ rfl w.heap.size (s + z) hown rfl rfl (by omega) hbel.size ?_; intro v' w1 hown1 hg1)
      have hbel1 := hbel.grown hg1 hbel.size (fun q hq => (hown.lt q hq).1)
      have hown2 : w1.ownsRow w.heap.size 3 1 v' (k + 1) (IV (sums zs (k + 1))) := by rw [sums_succ, HS.out]; exact hown1
      clear hown hown1 hg1 hbel hr g2
      go_wp2
      go_roundw
      case rel => exact ⟨k + 1, by omega, by go_num, by rw [HS.out], hown2, hbel1⟩
      case measure => simp [intOf]; omega
    · obtain rfl : k = n := by omega
      go_wp2
      go_ret
      exact ⟨_, rfl, hown, hbel⟩
theorem spec_sums_no (w : World) (v : Value) (n : Nat) (zs : List Int) (hn : n ≤ 1048576) (h : Row 1 w v n (IV zs)) (ok : ¬ Ok zs) :
    Calls Try.prog 82 #[v] w (Got w 0 []) := by
  have h' := h
  obtain ⟨hl, a, ca, rfl, ha⟩ := h
  have hl : zs.length = n := by simpa using hl
  by_cases h0 : 0 < n
  · go_enter Try.func82, Try.ntmps82
    go_wp2
    go_loopw [3, 5] (fun v i wr => v = .slice (some ⟨w.heap.size, 0, none⟩) 0 0 ∧ i = .int .i64 0 ∧ wr = w.alloc (.cells #[] 3)) (fun _ _ _ => 0)
    case atStart => exact ⟨rfl, rfl, rfl⟩
    case round =>
      obtain ⟨rfl, rfl, rfl⟩ := hrel
      have hr := Row.keep h' ((Below.refl _ _).alloc (Nat.le_refl _) (.cells #[] 3))
      go_wp2_with fail
      refine (spec_ok_no _ _ n zs hn hr ok).mono ?_; rintro e w1 ⟨rfl, rfl⟩
      go_wp2
      go_ret
      exact ⟨_, rfl, World.ownsRow_made _ #[] 0 (Nat.le_refl _) (Nat.zero_le _) rfl, (Below.refl _ _).alloc (Nat.le_refl _) _⟩
  · obtain rfl : n = 0 := by omega
    go_enter Try.func82, Try.ntmps82
    go_wp2
    go_loopw [3, 5] (fun v i wr => v = .slice (some ⟨w.heap.size, 0, none⟩) 0 0 ∧ i = .int .i64 0 ∧ wr = w.alloc (.cells #[] 3)) (fun _ _ _ => 0)
    case atStart => exact ⟨rfl, rfl, rfl⟩
    case round =>
      obtain ⟨rfl, rfl, rfl⟩ := hrel
      go_wp2
      go_ret
      exact ⟨_, rfl, World.ownsRow_made _ #[] 0 (Nat.le_refl _) (Nat.zero_le _) rfl, (Below.refl _ _).alloc (Nat.le_refl _) _⟩
/-- The first wettest part and its sum. -/
def Wet (w : World) (d : Nat) (m : Int) (e : Ending) (w' : World) : Prop := e = .returned (.tuple #[.int .i64 d, .int .i64 m]) ∧ Below w.heap.size w w'
set_option maxHeartbeats 1000000 in
theorem spec_part (w : World) (v : Value) (n : Nat) (zs : List Int) (h : Row 1 w v n (IV zs)) (ok : Ok zs) (D : Nat) (h1 : 1 ≤ D) (h2 : D ≤ n) (d : Nat) (hd : First (psum zs D) (n - D + 1) d) :
    Calls Try.prog 64 #[v, .int .i64 D] w (Wet w d (psum zs D d)) := by
  have h' := h
  obtain ⟨hl, a, ca, rfl, ha⟩ := h
  have hl : zs.length = n := by simpa using hl
  have hn2 : n ≤ 400 := hl ▸ ok.2.1
  obtain ⟨b1, o1, rfl, hc1⟩ := ha.resolve_left (by omega)
  clear ha
  go_enter Try.func64, Try.ntmps64
  go_wp2_with fail
  refine (spec_sums _ _ n zs h' ok).mono ?_; rintro e w1 ⟨vs, rfl, hown, hbel⟩
  obtain ⟨g, cap, rfl, _, _⟩ := own_some hown (by omega)
  have hc2 : ∀ j u, (IV (sums zs n))[j]? = some u → w1.cell? ⟨g, j, none⟩ = some u := fun j u hu => own_cell hown (g := g) rfl j u hu
  have hc3 : ∀ j u, (IV zs)[j]? = some u → w1.cell? ⟨b1, o1 + j, none⟩ = some u := fun j u hu => (hbel.cell (p := ⟨b1, o1 + j, none⟩) (World.block_lt_of_cell? w _ (hc1 j u hu))).trans (hc1 j u hu)
  have HB := Lib.hid hbel
  have HC2 := Lib.hid hc2
  have HC3 := Lib.hid hc3
  have HD := Lib.hid hd
  clear hc1 hown hbel hc2 hc3 hd h'
  go_wp2
  go_loopw [7, 8, 9] (fun t u i wr => ∃ (k b : Nat) (m : Int), k ≤ n - D + 1 ∧ i = .int .i64 k ∧ t = .int .i64 b ∧ u = .int .i64 m ∧ PartSt zs D k b m ∧ ∃ q, wr = w1.drewN q) (fun _ _ i _ => n - D + 1 - (intOf i).toNat)
  case atStart => exact ⟨0, 0, -1, Nat.zero_le _, rfl, rfl, rfl, .inl ⟨rfl, rfl, rfl⟩, 0, rfl⟩
  case round =>
    obtain ⟨k, b, m, hk, rfl, rfl, rfl, hP, q, rfl⟩ := hrel
    obtain ⟨m0, m1, _⟩ := hP.bd ok (by omega)
    have HP := Lib.hid hP
    clear hP
    by_cases hlt : k + D ≤ n
    · obtain ⟨z, hz⟩ : ∃ z, zs.getD k 0 = z := ⟨_, rfl⟩
      obtain ⟨p1, hp1⟩ : ∃ p, P zs (k + 1) = p := ⟨_, rfl⟩
      obtain ⟨p2, hp2⟩ : ∃ p, P zs (k + D) = p := ⟨_, rfl⟩
      obtain ⟨x, hx⟩ : ∃ x, psum zs D k = x := ⟨_, rfl⟩
      obtain ⟨z0, z1⟩ := okAt ok hl (show k < n by omega) hz
      have b1 := P_bd ok (k + 1) (by omega)
      have b2 := P_bd ok (k + D) (by omega)
      have b3 := psum_bd ok (d := D) (k := k) (by omega)
      have hxz : p2 - p1 + z = x := by
        rw [← hx, ← hp1, ← hp2, ← hz]; unfold psum; rw [P_succ]; omega
      rw [hp1] at b1
      rw [hp2] at b2
      rw [hx] at b3
      have g1 := HC2.out k _ (getI (by rw [sums_len]; omega))
      rw [sums_at _ _ _ (by omega), hp1] at g1
      have g2 := HC2.out (k + D - 1) _ (getI (by rw [sums_len]; omega))
      rw [sums_at _ _ _ (by omega), show k + D - 1 + 1 = k + D by omega, hp2] at g2
      have g3 := HC3.out k _ (getI (by omega))
      rw [hz] at g3
      have HX := Lib.hid hx
      have e1 : IntKind.i64.wrap ((k : Int) + D) = k + D := IntWalk.i64_in _ (by omega)
      have e2 : IntKind.i64.wrap ((k : Int) + D - 1) = k + D - 1 := IntWalk.i64_in _ (by omega)
      have e3 : ((k : Int) + D - 1).toNat = k + D - 1 := by omega
      have e4 : IntKind.i64.wrap (p2 - p1) = p2 - p1 := IntWalk.i64_in _ (by omega)
      have e5 : IntKind.i64.wrap (p2 - p1 + z) = x := by rw [hxz]; exact IntWalk.i64_in _ (by omega)
      clear hz hp1 hp2 hx hxz
      by_cases hmx : m < x
      · go_wp2
        go_quiet (fail)
        go_wp2
        go_roundw
        case rel => exact ⟨k + 1, k, x, by omega, by go_num, rfl, rfl, HP.out.up HX.out hmx, _, rfl⟩
        case measure => simp [intOf]; omega
      · go_wp2
        go_quiet (fail)
        go_wp2
        go_roundw
        case rel => exact ⟨k + 1, b, m, by omega, by go_num, rfl, rfl, HP.out.keep HX.out b3.1 (by omega), _, rfl⟩
        case measure => simp [intOf]; omega
    · obtain rfl : k = n - D + 1 := by omega
      obtain ⟨rfl, rfl⟩ := HP.out.done HD.out
      clear HP HD HC2 HC3
      go_wp2
      go_ret2
      exact ⟨rfl, below_drewN HB.out q⟩
end Go.Proofs.Ytojahddamdlcpaa.rain
