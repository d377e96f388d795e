/- The contracts of the functions on roofs: lists of roofs. -/
import Derived.Test.YteogonlclldjlaaRoof
import Derived.Test.YteogonlclldjlaaPlain
namespace Go.Proofs.Yteogonlclldjlaa.roof
open Go.RowKit Go.Proofs.Yteogonlclldjlaa.kit Go.Proofs.Yteogonlclldjlaa.lawi Go.Proofs.Yteogonlclldjlaa.rainl Go.Proofs.Yteogonlclldjlaa.rain Go.Proofs.Yteogonlclldjlaa.plain
/-- A row of roofs: their numbers, two a roof. -/
def RokAt (zs : List Int) (r : Int) (k : Nat) : Prop := ROk (zs.getD (k * 2) 0) (zs.getD (k * 2 + 1) 0) ∧ 0 ≤ r ∧ r ≤ 300
def AllR (zs : List Int) (r : Int) (n : Nat) : Prop := ∀ k, k < n → RokAt zs r k
def csum (zs : List Int) (r : Int) : Nat → Int
  | 0 => 0
  | k + 1 => csum zs r k + cat (zs.getD (k * 2) 0) (zs.getD (k * 2 + 1) 0) r
theorem cat_ok {a p r : Int} (h : ROk a p) (h0 : 0 ≤ r) (h1 : r ≤ 300) : 0 ≤ cat a p r ∧ cat a p r ≤ 300000 := by
  have := mul_bd h.pr.1 h.pr.2 h0 h1
  unfold cat
  omega
theorem csum_bd {zs : List Int} {r : Int} : ∀ {n : Nat}, AllR zs r n → 0 ≤ csum zs r n ∧ csum zs r n ≤ 300000 * n
  | 0, _ => by simp [csum]
  | n + 1, h => by
    have h1 := csum_bd (n := n) fun k hk => h k (by omega)
    obtain ⟨h2, h3, h4⟩ := h n (by omega)
    have h5 := cat_ok h2 h3 h4
    show 0 ≤ csum zs r n + _ ∧ csum zs r n + _ ≤ 300000 * ((n + 1 : Nat) : Int)
    omega
set_option maxHeartbeats 400000 in
theorem spec_all_yes (w : World) (v : Value) (n : Nat) (zs : List Int) (r : Int) (h : Row 2 w v n (IV zs)) (hn : n ≤ 20) (ok : AllR zs r n) :
    Calls Try.prog 26 #[v, .int .i64 r] w (Gives w (.int .i64 (csum zs r n))) := by
  obtain ⟨a, ca, rfl⟩ := h.shape
  have hl : zs.length = n * 2 := by simpa using h.1
  have H := Lib.hid h
  clear h
  go_enter Try.func26, Try.ntmps26
  go_wp2
  go_loopw [5, 6] (fun t i wr => ∃ k : Nat, k ≤ n ∧ i = .int .i64 k ∧ t = .int .i64 (csum zs r k) ∧ Below w.heap.size w wr) (fun _ i _ => n - (intOf i).toNat)
  case atStart => exact ⟨0, Nat.zero_le _, rfl, rfl, Below.refl _ _⟩
  case round =>
    obtain ⟨k, hk, rfl, rfl, hB⟩ := hrel
    by_cases hlt : k < n
    · obtain ⟨b1, o1, rfl, h1⟩ := (H.out.keep hB).at_ (by omega)
      obtain ⟨x, hx⟩ : ∃ x, zs.getD (k * 2) 0 = x := ⟨_, rfl⟩
      obtain ⟨y, hy⟩ : ∃ y, zs.getD (k * 2 + 1) 0 = y := ⟨_, rfl⟩
      have g1 := h1 (k * 2) _ (getI (by omega))
      have g2 := h1 (k * 2 + 1) _ (getI (by omega))
      obtain ⟨okk, r0, r1⟩ := ok k hlt
      have hb := csum_bd (n := k) fun j hj => ok j (by omega)
      have hc := cat_ok okk r0 r1
      rw [hx, hy] at okk hc
      rw [hx] at g1
      rw [hy, ← Nat.add_assoc] at g2
      obtain ⟨s, hs⟩ : ∃ s, csum zs r k = s := ⟨_, rfl⟩
      obtain ⟨c, hcc⟩ : ∃ c, cat x y r = c := ⟨_, rfl⟩
      have HS : Hid (csum zs r (k + 1) = s + c) := by show csum zs r (k + 1) = s + c; rw [csum, hs, hx, hy, hcc]
      rw [hs] at hb ⊢
      have HC := Lib.hid hcc
      clear h1 hx hy hs hcc
      go_wp2_with fail
      refine (spec_catch_yes _ _ _ _ okk r0 r1).mono ?_; rintro e w1 ⟨rfl, hb1⟩
      rw [HC.out]
      have hcc := HC.out
      rw [hcc] at hc
      clear hcc
      go_wp2
      go_roundw
      case rel => exact ⟨k + 1, by omega, by go_num, by rw [HS.out], below_step hB hb1⟩
      case measure => simp [intOf]; omega
    · obtain rfl : k = n := by omega
      go_wp2
      go_ret
      exact ⟨rfl, hB⟩
set_option maxHeartbeats 400000 in
theorem spec_all_no (w : World) (v : Value) (n : Nat) (zs : List Int) (r : Int) (h : Row 2 w v n (IV zs)) (hn : n ≤ 1048576) (no : ¬ (AllR zs r n ∧ n ≤ 20)) :
    Calls Try.prog 26 #[v, .int .i64 r] w (Gives w (.int .i64 (-1))) := by
  obtain ⟨a, ca, rfl⟩ := h.shape
  have hl : zs.length = n * 2 := by simpa using h.1
  have H := Lib.hid h
  clear h
  go_enter Try.func26, Try.ntmps26
  go_wp2
  go_loopw [5, 6] (fun t i wr => ∃ k : Nat, k ≤ n ∧ i = .int .i64 k ∧ t = .int .i64 (csum zs r k) ∧ AllR zs r k ∧ Below w.heap.size w wr) (fun _ i _ => n - (intOf i).toNat)
  case atStart => exact ⟨0, Nat.zero_le _, rfl, rfl, fun _ h => by omega, Below.refl _ _⟩
  case round =>
    obtain ⟨k, hk, rfl, rfl, hA, hB⟩ := hrel
    by_cases hlt : k < n
    · obtain ⟨b1, o1, rfl, h1⟩ := (H.out.keep hB).at_ (by omega)
      obtain ⟨x, hx⟩ : ∃ x, zs.getD (k * 2) 0 = x := ⟨_, rfl⟩
      obtain ⟨y, hy⟩ : ∃ y, zs.getD (k * 2 + 1) 0 = y := ⟨_, rfl⟩
      have g1 := h1 (k * 2) _ (getI (by omega))
      have g2 := h1 (k * 2 + 1) _ (getI (by omega))
      rw [hx] at g1
      rw [hy, ← Nat.add_assoc] at g2
      have hb := csum_bd (n := k) hA
      obtain ⟨s, hs⟩ : ∃ s, csum zs r k = s := ⟨_, rfl⟩
      rw [hs] at hb ⊢
      have HX := Lib.hid hx
      have HY := Lib.hid hy
      have HS := Lib.hid hs
      clear h1 hx hy hs
      by_cases okk : ROk x y ∧ 0 ≤ r ∧ r ≤ 300
      · have hc := cat_ok okk.1 okk.2.1 okk.2.2
        obtain ⟨c, hcc⟩ : ∃ c, cat x y r = c := ⟨_, rfl⟩
        have HC := Lib.hid hcc
        rw [hcc] at hc
        clear hcc
        go_wp2_with fail
        refine (spec_catch_yes _ _ _ _ okk.1 okk.2.1 okk.2.2).mono ?_; rintro e w1 ⟨rfl, hb1⟩
        rw [HC.out]
        go_wp2
        go_roundw
        case rel =>
          refine ⟨k + 1, by omega, by go_num, by rw [csum, HX.out, HY.out, HS.out, HC.out], fun j hj => ?_, below_step hB hb1⟩
          rcases (show j < k ∨ j = k by omega) with h | rfl
          · exact hA j h
          · show ROk _ _ ∧ _
            rw [HX.out, HY.out]; exact okk
        case measure => simp [intOf]; omega
      · go_wp2_with fail
        refine (spec_catch_no _ _ _ _ okk).mono ?_; rintro e w1 ⟨rfl, hb1⟩
        go_wp2
        go_ret
        exact ⟨rfl, below_step hB hb1⟩
    · obtain rfl : k = n := by omega
      have h20 : 20 < k := Nat.lt_of_not_le fun h => no ⟨hA, h⟩
      clear no
      go_wp2
      go_ret
      exact ⟨rfl, hB⟩
set_option maxHeartbeats 400000 in
theorem impl_all_yes (w : World) (v : Value) (n : Nat) (zs : List Int) (r : Int) (h : Row 2 w v n (IV zs)) (hn : n ≤ 20) (ok : AllR zs r n) :
    Calls Try.prog 14 #[v, .int .i64 r] w (Gives w (.int .i64 (csum zs r n))) := by
  obtain ⟨a, ca, rfl⟩ := h.shape
  have hl : zs.length = n * 2 := by simpa using h.1
  have H := Lib.hid h
  clear h
  go_enter Try.func14, Try.ntmps14
  go_wp2
  go_loopw [5, 14] (fun t i wr => ∃ k : Nat, k ≤ n ∧ i = .int .i64 k ∧ t = .int .i64 (csum zs r k) ∧ Below w.heap.size w wr) (fun _ i _ => n - (intOf i).toNat)
  case atStart => exact ⟨0, Nat.zero_le _, rfl, rfl, Below.refl _ _⟩
  case round =>
    obtain ⟨k, hk, rfl, rfl, hB⟩ := hrel
    by_cases hlt : k < n
    · obtain ⟨b1, o1, rfl, h1⟩ := (H.out.keep hB).at_ (by omega)
      obtain ⟨x, hx⟩ : ∃ x, zs.getD (k * 2) 0 = x := ⟨_, rfl⟩
      obtain ⟨y, hy⟩ : ∃ y, zs.getD (k * 2 + 1) 0 = y := ⟨_, rfl⟩
      have g1 := h1 (k * 2) _ (getI (by omega))
      have g2 := h1 (k * 2 + 1) _ (getI (by omega))
      obtain ⟨okk, r0, r1⟩ := ok k hlt
      have hb := csum_bd (n := k) fun j hj => ok j (by omega)
      have hc := cat_ok okk r0 r1
      rw [hx, hy] at okk hc
      rw [hx] at g1
      rw [hy, ← Nat.add_assoc] at g2
      obtain ⟨s, hs⟩ : ∃ s, csum zs r k = s := ⟨_, rfl⟩
      obtain ⟨c, hcc⟩ : ∃ c, cat x y r = c := ⟨_, rfl⟩
      have HS : Hid (csum zs r (k + 1) = s + c) := by show csum zs r (k + 1) = s + c; rw [csum, hs, hx, hy, hcc]
      rw [hs] at hb ⊢
      have HC := Lib.hid hcc
      rw [hcc] at hc
      clear h1 hx hy hs hcc
      go_wp2_with fail
      refine (impl_catch_yes _ _ _ _ okk r0 r1).mono ?_; rintro e w1 ⟨rfl, hb1⟩
      rw [HC.out]
      go_wp2
      go_roundw
      case rel => exact ⟨k + 1, by omega, by go_num, by rw [HS.out], below_step (below_al hB _) hb1⟩
      case measure => simp [intOf]; omega
    · obtain rfl : k = n := by omega
      go_wp2
      go_ret
      exact ⟨rfl, hB⟩
set_option maxHeartbeats 400000 in
theorem impl_all_no (w : World) (v : Value) (n : Nat) (zs : List Int) (r : Int) (h : Row 2 w v n (IV zs)) (hn : n ≤ 1048576) (no : ¬ (AllR zs r n ∧ n ≤ 20)) :
    Calls Try.prog 14 #[v, .int .i64 r] w (Gives w (.int .i64 (-1))) := by
  obtain ⟨a, ca, rfl⟩ := h.shape
  have hl : zs.length = n * 2 := by simpa using h.1
  have H := Lib.hid h
  clear h
  by_cases h20 : 20 < n
  · clear no
    go_enter Try.func14, Try.ntmps14
    go_wp2
    go_ret
    exact ⟨rfl, Below.refl _ _⟩
  · have no' : ¬ AllR zs r n := fun h => no ⟨h, by omega⟩
    clear no
    go_enter Try.func14, Try.ntmps14
    go_wp2
    go_loopw [5, 14] (fun t i wr => ∃ k : Nat, k ≤ n ∧ i = .int .i64 k ∧ t = .int .i64 (csum zs r k) ∧ AllR zs r k ∧ Below w.heap.size w wr) (fun _ i _ => n - (intOf i).toNat)
    case atStart => exact ⟨0, Nat.zero_le _, rfl, rfl, fun _ h => by omega, Below.refl _ _⟩
    case round =>
      obtain ⟨k, hk, rfl, rfl, hA, hB⟩ := hrel
      by_cases hlt : k < n
      · obtain ⟨b1, o1, rfl, h1⟩ := (H.out.keep hB).at_ (by omega)
        obtain ⟨x, hx⟩ : ∃ x, zs.getD (k * 2) 0 = x := ⟨_, rfl⟩
        obtain ⟨y, hy⟩ : ∃ y, zs.getD (k * 2 + 1) 0 = y := ⟨_, rfl⟩
        have g1 := h1 (k * 2) _ (getI (by omega))
        have g2 := h1 (k * 2 + 1) _ (getI (by omega))
        rw [hx] at g1
        rw [hy, ← Nat.add_assoc] at g2
        have hb := csum_bd (n := k) hA
        obtain ⟨s, hs⟩ : ∃ s, csum zs r k = s := ⟨_, rfl⟩
        rw [hs] at hb ⊢
        have HX := Lib.hid hx
        have HY := Lib.hid hy
        have HS := Lib.hid hs
        clear h1 hx hy hs
        by_cases okk : ROk x y ∧ 0 ≤ r ∧ r ≤ 300
        · have hc := cat_ok okk.1 okk.2.1 okk.2.2
          obtain ⟨c, hcc⟩ : ∃ c, cat x y r = c := ⟨_, rfl⟩
          have HC := Lib.hid hcc
          rw [hcc] at hc
          clear hcc
          go_wp2_with fail
          refine (impl_catch_yes _ _ _ _ okk.1 okk.2.1 okk.2.2).mono ?_; rintro e w1 ⟨rfl, hb1⟩
          rw [HC.out]
          go_wp2
          go_roundw
          case rel =>
            refine ⟨k + 1, by omega, by go_num, by rw [csum, HX.out, HY.out, HS.out, HC.out], fun j hj => ?_, below_step (below_al hB _) hb1⟩
            rcases (show j < k ∨ j = k by omega) with h | rfl
            · exact hA j h
            · show ROk _ _ ∧ _
              rw [HX.out, HY.out]; exact okk
          case measure => simp [intOf]; omega
        · go_wp2_with fail
          refine (impl_catch_no _ _ _ _ okk).mono ?_; rintro e w1 ⟨rfl, hb1⟩
          go_wp2
          go_ret
          exact ⟨rfl, below_step (below_al hB _) hb1⟩
      · obtain rfl : k = n := by omega
        exact absurd hA no'
/-- The least area. -/
def Enough (need r p : Int) (a : Int) : Prop := need ≤ cat a p r
theorem cat_small {a p r : Int} (h1 : 0 ≤ a) (h2 : a ≤ 1001) (h3 : 0 ≤ p) (h4 : p ≤ 100) (h5 : 0 ≤ r) (h6 : r ≤ 300) : 0 ≤ a * p ∧ a * p ≤ 1000000 ∧ 0 ≤ a * r * p ∧ a * r * p ≤ 100000000 ∧ 0 ≤ a * r ∧ a * r ≤ 1000000 ∧ a * r * p / 100 = cat a p r := by
  have m1 := mul_bd h1 h2 h3 h4
  have m2 := mul_bd h1 h2 h5 h6
  have m3 := mul_bd m2.1 m2.2 h3 h4
  refine ⟨m1.1, by omega, m3.1, by omega, m2.1, by omega, ?_⟩
  unfold cat
  rw [Int.mul_right_comm]
def AreaIn (need r p : Int) : Prop := (0 ≤ need ∧ need ≤ 1000000) ∧ (0 ≤ r ∧ r ≤ 300) ∧ (0 ≤ p ∧ p ≤ 100)
theorem spec_area_yes (w : World) (need r p : Int) (h : AreaIn need r p) (A : Int) (hA : FirstIn (Enough need r p) 1 1000 A) :
    Calls Try.prog 34 #[.int .i64 need, .int .i64 r, .int .i64 p] w (Gives w (.int .i64 A)) := by
  obtain ⟨⟨n0, n1⟩, ⟨r0, r1⟩, p0, p1⟩ := h
  have HA := Lib.hid hA
  clear hA
  go_enter Try.func34, Try.ntmps34
  go_wp2_with fail
  refine (in_yes _ _ _ _ n0 n1).mono ?_; rintro e w1 ⟨rfl, rfl⟩
  go_wp2_with fail
  refine (in_yes _ _ _ _ r0 r1).mono ?_; rintro e w1 ⟨rfl, rfl⟩
  go_wp2_with fail
  refine (in_yes _ _ _ _ p0 p1).mono ?_; rintro e w1 ⟨rfl, rfl⟩
  go_wp2
  go_loop [7] (fun i => ∃ k : Int, 1 ≤ k ∧ k ≤ 1001 ∧ i = .int .i64 k ∧ ∀ b, 1 ≤ b → b < k → ¬ Enough need r p b) (fun i => (1001 - intOf i).toNat)
  case atStart => exact ⟨1, by omega, by omega, rfl, fun b _ _ => by omega⟩
  case round =>
    obtain ⟨k, k1, k2, rfl, hb⟩ := hrel
    have HB := Lib.hid hb
    clear hb
    by_cases hlt : k ≤ 1000
    · obtain ⟨_, _, m3, m4, m5, m6, hcc⟩ := cat_small (a := k) (by omega) k2 p0 p1 r0 r1
      by_cases hq : need ≤ k * r * p / 100
      · have e : Hid (A = k) := by show A = k; exact HA.out.at_ k1 hlt (by show need ≤ _; rw [← hcc]; exact hq) HB.out
        clear hcc
        go_wp2
        go_ret
        exact ⟨ret_int e.out.symm, Below.refl _ _⟩
      · have HN : Hid (¬ Enough need r p k) := by show ¬ (need ≤ _); rw [← hcc]; exact hq
        clear hcc
        go_wp2
        go_round
        case rel =>
          refine ⟨k + 1, by omega, by omega, rfl, fun b b1 b2 => ?_⟩
          rcases (show b < k ∨ b = k by omega) with h | rfl
          · exact HB.out b b1 h
          · exact HN.out
        case measure => simp [intOf]; omega
    · obtain rfl : k = 1001 := by omega
      have e : Hid (A = -1) := by show A = -1; exact HA.out.none_ fun b b1 b2 => HB.out b b1 (by omega)
      go_wp2
      go_ret
      exact ⟨ret_int e.out.symm, Below.refl _ _⟩
theorem spec_area_no (w : World) (need r p : Int) (h : ¬ AreaIn need r p) :
    Calls Try.prog 34 #[.int .i64 need, .int .i64 r, .int .i64 p] w (Gives w (.int .i64 (-1))) := by
  by_cases h1 : 0 ≤ need ∧ need ≤ 1000000
  · by_cases h2 : 0 ≤ r ∧ r ≤ 300
    · have h3 : ¬ (0 ≤ p ∧ p ≤ 100) := fun h3 => h ⟨h1, h2, h3⟩
      clear h
      go_enter Try.func34, Try.ntmps34
      go_wp2_with fail
      refine (in_yes _ _ _ _ h1.1 h1.2).mono ?_; rintro e w1 ⟨rfl, rfl⟩
      go_wp2_with fail
      refine (in_yes _ _ _ _ h2.1 h2.2).mono ?_; rintro e w1 ⟨rfl, rfl⟩
      go_wp2_with fail
      refine (in_no _ _ _ _ h3).mono ?_; rintro e w1 ⟨rfl, rfl⟩
      go_wp2
      go_ret
      exact ⟨rfl, Below.refl _ _⟩
    · clear h
      go_enter Try.func34, Try.ntmps34
      go_wp2_with fail
      refine (in_yes _ _ _ _ h1.1 h1.2).mono ?_; rintro e w1 ⟨rfl, rfl⟩
      go_wp2_with fail
      refine (in_no _ _ _ _ h2).mono ?_; rintro e w1 ⟨rfl, rfl⟩
      go_wp2
      go_ret
      exact ⟨rfl, Below.refl _ _⟩
  · clear h
    go_enter Try.func34, Try.ntmps34
    go_wp2_with fail
    refine (in_no _ _ _ _ h1).mono ?_; rintro e w1 ⟨rfl, rfl⟩
    go_wp2
    go_ret
    exact ⟨rfl, Below.refl _ _⟩
theorem impl_area_yes (w : World) (need r p : Int) (h : AreaIn need r p) (A : Int) (hA : FirstIn (Enough need r p) 1 1000 A) :
    Calls Try.prog 18 #[.int .i64 need, .int .i64 r, .int .i64 p] w (Gives w (.int .i64 A)) := by
  obtain ⟨⟨n0, n1⟩, ⟨r0, r1⟩, p0, p1⟩ := h
  have HA := Lib.hid hA
  clear hA
  go_enter Try.func18, Try.ntmps18
  go_wp2_with fail
  refine (inR_yes _ _ _ _ n0 n1).mono ?_; rintro e w1 ⟨rfl, rfl⟩
  go_wp2_with fail
  refine (inR_yes _ _ _ _ r0 r1).mono ?_; rintro e w1 ⟨rfl, rfl⟩
  go_wp2_with fail
  refine (inR_yes _ _ _ _ p0 p1).mono ?_; rintro e w1 ⟨rfl, rfl⟩
  go_wp2
  go_loopw [7] (fun i wr => ∃ k : Int, 1 ≤ k ∧ k ≤ 1001 ∧ i = .int .i64 k ∧ (∀ b, 1 ≤ b → b < k → ¬ Enough need r p b) ∧ Below w.heap.size w wr) (fun i _ => (1001 - intOf i).toNat)
  case atStart => exact ⟨1, by omega, by omega, rfl, fun b _ _ => by omega, Below.refl _ _⟩
  case round =>
    obtain ⟨k, k1, k2, rfl, hb, hB⟩ := hrel
    have HB := Lib.hid hb
    clear hb
    by_cases hlt : k ≤ 1000
    · obtain ⟨m1, m2, _, _, _, _, _⟩ := cat_small (a := k) (by omega) k2 p0 p1 r0 r1
      obtain ⟨c, hc⟩ : ∃ c, cat k p r = c := ⟨_, rfl⟩
      have HC := Lib.hid hc
      clear hc
      by_cases hq : need ≤ c
      · have e : Hid (A = k) := by show A = k; exact HA.out.at_ k1 hlt (by show need ≤ _; rw [HC.out]; exact hq) HB.out
        go_wp2_with fail
        refine (impl_catch1 _ _ _ _ m1 m2 r0 r1).mono ?_; rintro e w1 ⟨rfl, hb1⟩
        rw [HC.out]
        go_wp2
        go_ret
        exact ⟨ret_int e.out.symm, below_step (below_al hB _) hb1⟩
      · have HN : Hid (¬ Enough need r p k) := by show ¬ (need ≤ _); rw [HC.out]; exact hq
        go_wp2_with fail
        refine (impl_catch1 _ _ _ _ m1 m2 r0 r1).mono ?_; rintro e w1 ⟨rfl, hb1⟩
        rw [HC.out]
        go_wp2
        go_roundw
        case rel =>
          refine ⟨k + 1, by omega, by omega, rfl, fun b b1 b2 => ?_, below_step (below_al hB _) hb1⟩
          rcases (show b < k ∨ b = k by omega) with h | rfl
          · exact HB.out b b1 h
          · exact HN.out
        case measure => simp [intOf]; omega
    · obtain rfl : k = 1001 := by omega
      have e : Hid (A = -1) := by show A = -1; exact HA.out.none_ fun b b1 b2 => HB.out b b1 (by omega)
      go_wp2
      go_ret
      exact ⟨ret_int e.out.symm, hB⟩
theorem impl_area_no (w : World) (need r p : Int) (h : ¬ AreaIn need r p) :
    Calls Try.prog 18 #[.int .i64 need, .int .i64 r, .int .i64 p] w (Gives w (.int .i64 (-1))) := by
  by_cases h1 : 0 ≤ need ∧ need ≤ 1000000
  · by_cases h2 : 0 ≤ r ∧ r ≤ 300
    · have h3 : ¬ (0 ≤ p ∧ p ≤ 100) := fun h3 => h ⟨h1, h2, h3⟩
      clear h
      go_enter Try.func18, Try.ntmps18
      go_wp2_with fail
      refine (inR_yes _ _ _ _ h1.1 h1.2).mono ?_; rintro e w1 ⟨rfl, rfl⟩
      go_wp2_with fail
      refine (inR_yes _ _ _ _ h2.1 h2.2).mono ?_; rintro e w1 ⟨rfl, rfl⟩
      go_wp2_with fail
      refine (inR_no _ _ _ _ h3).mono ?_; rintro e w1 ⟨rfl, rfl⟩
      go_wp2
      go_ret
      exact ⟨rfl, Below.refl _ _⟩
    · clear h
      go_enter Try.func18, Try.ntmps18
      go_wp2_with fail
      refine (inR_yes _ _ _ _ h1.1 h1.2).mono ?_; rintro e w1 ⟨rfl, rfl⟩
      go_wp2_with fail
      refine (inR_no _ _ _ _ h2).mono ?_; rintro e w1 ⟨rfl, rfl⟩
      go_wp2
      go_ret
      exact ⟨rfl, Below.refl _ _⟩
  · clear h
    go_enter Try.func18, Try.ntmps18
    go_wp2_with fail
    refine (inR_no _ _ _ _ h1).mono ?_; rintro e w1 ⟨rfl, rfl⟩
    go_wp2
    go_ret
    exact ⟨rfl, Below.refl _ _⟩
end Go.Proofs.Yteogonlclldjlaa.roof
