/- The contracts of the program's SumsOf, WettestWeek and HasWetPart. -/
import Derived.Test.YtojahddamdlcpaaRainI
namespace Go.Proofs.Ytojahddamdlcpaa.rain
open Go.RowKit Go.Proofs.Ytojahddamdlcpaa.kit Go.Proofs.Ytojahddamdlcpaa.rainl Go.Proofs.Ytojahddamdlcpaa.lawi
theorem impl_week (w : World) (v : Value) (n : Nat) (zs : List Int) (h : Row 1 w v n (IV zs)) (hc : Cap v) (ok : Ok zs) (D : Nat) (hD : D = min 7 n) (d : Nat) (hd : First (psum zs D) (n - D + 1) d) :
    Calls Try.prog 21 #[v] w fun e w' => e = .returned (.tuple #[.int .i64 d, .int .i64 (psum zs D d)]) ∧ w = w' := by
  have h' := h
  obtain ⟨hl, a, ca, rfl, ha⟩ := h
  have hl : zs.length = n := by simpa using hl
  have hn1 : 1 ≤ n := hl ▸ ok.1
  have hn2 : n ≤ 400 := hl ▸ ok.2.1
  have HD := Lib.hid hD
  clear hD
  have fits : n < 7 ∨ 7 ≤ n := by omega
  rcases fits with h7 | h7
  all_goals
    go_enter Try.func21, Try.ntmps21
    go_wp2_with fail
    refine (impl_ok_yes _ _ n zs h' ok).mono ?_; rintro e w1 ⟨rfl, rfl⟩
    go_wp2_with fail
    refine (impl_part _ _ n zs h' hc ok D _ (by have := HD.out; omega) (by have := HD.out; omega) (by have := HD.out; omega) d hd).mono ?_; rintro e w1 ⟨rfl, rfl⟩
    go_wp2
    go_ret2
    exact ⟨rfl, rfl⟩
theorem impl_week_no (w : World) (v : Value) (n : Nat) (zs : List Int) (hn : n ≤ 1048576) (h : Row 1 w v n (IV zs)) (ok : ¬ Ok zs) :
    Calls Try.prog 21 #[v] w fun e w' => e = .returned (.tuple #[.int .i64 (-1), .int .i64 (-1)]) ∧ w = w' := by
  go_enter Try.func21, Try.ntmps21
  go_wp2_with fail
  refine (impl_ok_no _ _ n zs hn h ok).mono ?_; rintro e w1 ⟨rfl, rfl⟩
  go_wp2
  go_ret2
  exact ⟨rfl, rfl⟩
theorem impl_wet (w : World) (v : Value) (n : Nat) (zs : List Int) (h : Row 1 w v n (IV zs)) (hc : Cap v) (ok : Ok zs) (D : Nat) (I S : Int) (e : I = D) (h1 : 1 ≤ D) (h2 : D ≤ n) (d : Nat) (hd : First (psum zs D) (n - D + 1) d) :
    Calls Try.prog 23 #[v, .int .i64 I, .int .i64 S] w fun e w' => e = .returned (.bool (decide (S ≤ psum zs D d))) ∧ w = w' := by
  have h' := h
  obtain ⟨hl, a, ca, rfl, ha⟩ := h
  have hl : zs.length = n := by simpa using hl
  have hn2 : n ≤ 400 := hl ▸ ok.2.1
  have i1 : 1 ≤ I := by omega
  have i2 : I ≤ n := by omega
  have E := Lib.hid e
  clear e
  go_enter Try.func23, Try.ntmps23
  go_wp2_with fail
  refine (impl_ok_yes _ _ n zs h' ok).mono ?_; rintro e w1 ⟨rfl, rfl⟩
  go_wp2_with fail
  refine (impl_part _ _ n zs h' hc ok D _ E.out h1 h2 d hd).mono ?_; rintro e w1 ⟨rfl, rfl⟩
  go_wp2
  go_ret
  exact ⟨rfl, rfl⟩
theorem impl_wet_no (w : World) (v : Value) (n : Nat) (zs : List Int) (hn : n ≤ 1048576) (h : Row 1 w v n (IV zs)) (ok : ¬ Ok zs) (I S : Int) :
    Calls Try.prog 23 #[v, .int .i64 I, .int .i64 S] w fun e w' => e = .returned (.bool false) ∧ w = w' := by
  go_enter Try.func23, Try.ntmps23
  go_wp2_with fail
  refine (impl_ok_no _ _ n zs hn h ok).mono ?_; rintro e w1 ⟨rfl, rfl⟩
  go_wp2
  go_ret
  exact ⟨rfl, rfl⟩
theorem impl_wet_out (w : World) (v : Value) (n : Nat) (zs : List Int) (h : Row 1 w v n (IV zs)) (ok : Ok zs) (I S : Int) (hi : ¬ (1 ≤ I ∧ I ≤ n)) :
    Calls Try.prog 23 #[v, .int .i64 I, .int .i64 S] w fun e w' => e = .returned (.bool false) ∧ w = w' := by
  have h' := h
  obtain ⟨hl, a, ca, rfl, ha⟩ := h
  have hl : zs.length = n := by simpa using hl
  have hn2 : n ≤ 400 := hl ▸ ok.2.1
  have hi2 : I < 1 ∨ (1 ≤ I ∧ n < I) := by omega
  clear hi
  rcases hi2 with hi | ⟨hi, hj⟩
  all_goals
    go_enter Try.func23, Try.ntmps23
    go_wp2_with fail
    refine (impl_ok_yes _ _ n zs h' ok).mono ?_; rintro e w1 ⟨rfl, rfl⟩
    go_wp2
    go_ret
    exact ⟨rfl, rfl⟩
def smid (zs : List Int) (n k : Nat) : List Int := sums zs k ++ List.replicate (n - k) 0
theorem smid_len {zs : List Int} {n k : Nat} (hk : k ≤ n) : (smid zs n k).length = n := by simp [smid, sums_len]; omega
theorem smid_set {zs : List Int} {n k : Nat} (hk : k < n) : (IV (smid zs n k)).set k (.int .i64 (P zs (k + 1))) = IV (smid zs n (k + 1)) := by
  unfold IV
  rw [← List.map_set]
  congr 1
  unfold smid
  rw [List.set_append, if_neg (by rw [sums_len]; omega), sums_len, Nat.sub_self, show n - k = (n - (k + 1)) + 1 by omega, List.replicate_succ, List.set_cons_zero, sums_succ]
  simp
theorem smid_all {zs : List Int} {n : Nat} : smid zs n n = sums zs n := by simp [smid]
set_option maxHeartbeats 400000 in
theorem impl_sums (w : World) (v : Value) (n : Nat) (zs : List Int) (h : Row 1 w v n (IV zs)) (ok : Ok zs) :
    Calls Try.prog 17 #[v] w (Got w n (sums zs n)) := by
  obtain ⟨i0, hi, hz0, hz1, hz2⟩ := info_parts infoI
  have h' := h
  obtain ⟨hl, a, ca, rfl, ha⟩ := h
  have hl : zs.length = n := by simpa using hl
  have hn2 : n ≤ 400 := hl ▸ ok.2.1
  go_enter Try.func17, Try.ntmps17
  go_wp2_with fail
  refine (impl_ok_yes _ _ n zs h' ok).mono ?_; rintro e w1 ⟨rfl, rfl⟩
  go_wp2_with (at_make; refine wpList_make_full _ rfl _ _ 24 rfl w.heap.size 3 i0 (.int .i64 0) 1 Try.underlying24 hi hz0 hz1 _ _ _ _ n rfl rfl rfl rfl (by rw [hz2]; omega) (by unfold maxLen; omega) (Nat.le_refl _) ?_; intro w0 hown0 hg0)
  have hown0 : w0.ownsRow w.heap.size 3 1 (.slice (some ⟨w.heap.size, 0, none⟩) n n) n (IV (smid zs n 0)) := by
    have e : (madeCells (Value.int .i64 0).cells (n * 1)).toList = IV (smid zs n 0) := by
      show (madeCells #[Value.int .i64 0] (n * 1)).toList = _
      rw [toList_madeCells_one]; simp [IV, smid, sums]
    rw [← e]; exact hown0
  go_loopw [4, 15] (fun t i wr => ∃ k : Nat, k ≤ n ∧ i = .int .i64 k ∧ t = .int .i64 (P zs k) ∧ wr.ownsRow w.heap.size 3 1 (.slice (some ⟨w.heap.size, 0, none⟩) n n) n (IV (smid zs n k)) ∧ w.grownBy wr none)
    (fun _ i _ => n - (intOf i).toNat)
  case atStart => exact ⟨0, Nat.zero_le _, rfl, rfl, hown0, hg0⟩
  case round =>
    clear hown0 hg0
    obtain ⟨k, hk, rfl, rfl, hown, hg⟩ := hrel
    by_cases hlt : k < n
    · obtain ⟨b1, o1, rfl, h1⟩ := ha.resolve_left (by omega)
      obtain ⟨z, hz⟩ : ∃ z, zs.getD k 0 = z := ⟨_, rfl⟩
      have g1 := hg.cell (h1 k _ (getI (by omega))) (by simp)
      rw [hz] at g1
      obtain ⟨z0, z1⟩ := okAt ok hl hlt hz
      obtain ⟨s, hs⟩ : ∃ s, P zs k = s := ⟨_, rfl⟩
      have hb := P_bd ok k (by omega)
      have hsz : P zs (k + 1) = s + z := by rw [P_succ, hs, hz]
      rw [hs] at hb ⊢
      obtain ⟨u, hu⟩ : ∃ u, wr.cell? ⟨w.heap.size, k, none⟩ = some (.int .i64 u) := ⟨_, own_cell hown (g := w.heap.size) rfl k _ (getI (by rw [smid_len hk]; omega))⟩
      have hf := own_free hown (g := w.heap.size) rfl k
      have hown2 := own_set hown (g := w.heap.size) rfl k (.int .i64 (P zs (k + 1)))
      rw [smid_set hlt, hsz] at hown2
      have HS := Lib.hid hsz
      have hg2 : w.grownBy (wr.setCell ⟨w.heap.size, k, none⟩ (.int .i64 (s + z))) none := grown_above hg (grown_setCell (grown_refl wr (some w.heap.size)) k none _) (by rintro _ ⟨⟩; exact Nat.le_refl _)
      clear h1 ha hown hg hz hs hsz h'
      go_wp2
      go_roundw
      case rel => exact ⟨k + 1, by omega, by go_num, by rw [HS.out], hown2, hg2⟩
      case measure => simp [intOf]; omega
    · obtain rfl : k = n := by omega
      rw [smid_all] at hown
      go_wp2
      go_ret
      exact ⟨_, rfl, hown, below_grown hg (Nat.le_refl _) (by simp)⟩
theorem impl_sums_no (w : World) (v : Value) (n : Nat) (zs : List Int) (hn : n ≤ 1048576) (h : Row 1 w v n (IV zs)) (ok : ¬ Ok zs) :
    Calls Try.prog 17 #[v] w (Got w 0 []) := by
  go_enter Try.func17, Try.ntmps17
  go_wp2_with fail
  refine (impl_ok_no _ _ n zs hn h ok).mono ?_; rintro e w1 ⟨rfl, rfl⟩
  go_wp2
  go_ret
  exact ⟨_, rfl, World.ownsRow_nil _ _ _ _, Below.refl _ _⟩
end Go.Proofs.Ytojahddamdlcpaa.rain
