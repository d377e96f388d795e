/- For every row of days, FnExactSumsOf returns true. -/
import Derived.Test.YtmmnlangkabfiaaRainJ
set_option linter.unusedVariables false
namespace Go.Proofs.Ytmmnlangkabfiaa.wFnExactSumsOf
open Go.RowKit Go.Proofs.Ytmmnlangkabfiaa.kit Go.Proofs.Ytmmnlangkabfiaa.rainl Go.Proofs.Ytmmnlangkabfiaa.lawi Go.Proofs.Ytmmnlangkabfiaa.rain
set_option maxHeartbeats 800000 in
theorem core (w : World) (v0 : Value) (n : Nat) (zs : List Int) (hn : n ≤ 1048576) (h0 : Row 1 w v0 n (IV zs)) (hv : ∃ a c, v0 = .slice a n c) (m : Nat) (ys : List Int) (hm : m ≤ 1048576)
    (hs : ∀ W v, Row 1 W v n (IV zs) → Calls Try.prog 28 #[v] W (Got W m ys))
    (hi : ∀ W v, Row 1 W v n (IV zs) → Calls Try.prog 13 #[v] W (Got W m ys)) :
    Calls Try.prog 9 #[v0] w fun e w' => e = .returned (.bool true) ∧ Below w.heap.size w w' := by
  obtain ⟨a0, c0, rfl⟩ := hv
  have HS := Lib.hid hs
  have HI := Lib.hid hi
  clear hs hi
  go_enter Try.func9, Try.ntmps9
  go_wp2_with fail
  refine (toInt_any _ _ n zs hn h0).mono ?_; rintro e w1 ⟨v1, rfl, ho1, hg1⟩
  have B1 : Below w.heap.size w w1 := below_grown hg1 (Nat.le_refl _) (by simp)
  clear hg1
  go_wp2_with fail
  refine (HS.out _ _ (.of_own ho1)).mono ?_; rintro e w2 ⟨vs, rfl, hos, hb2⟩
  have B2 := B1.trans (hb2.mono B1.size)
  clear ho1 B1 hb2
  go_wp2_with fail
  refine (toInt_any _ _ n zs hn (h0.keep B2)).mono ?_; rintro e w3 ⟨vx, rfl, hox, hg3⟩
  have B3 := B2.trans ((below_grown hg3 (Nat.le_refl _) (by simp)).mono B2.size)
  have hos3 := own_weak hos hg3
  have ap1 := own_apart hos hox (Nat.le_refl _)
  have z2 := B2.size
  have z3 := B3.size
  clear hg3 hos B2
  go_wp2_with fail
  refine (HI.out _ _ (.of_own hox)).mono ?_; rintro e w4 ⟨vg, rfl, hog, hb4⟩
  have B4 := B3.trans (hb4.mono B3.size)
  have hos4 := own_below hos3 hb4
  have hox4 := own_below hox hb4
  have ap2 := own_apart hos3 hog (Nat.le_refl _)
  have ap3 := own_apart hox hog (Nat.le_refl _)
  have h34 := hb4.size
  clear hox hos3 hb4 B3
  go_wp2_with fail
  refine (eqI_yes _ vg vs m ys (by omega) (.of_own hog) (.of_own hos4)).mono ?_; rintro e w5 ⟨rfl, q5, rfl⟩
  have B5 := below_drewN B4 q5
  clear B4
  go_wp2_with fail
  refine (toInt_any _ _ n zs hn (h0.keep B5)).mono ?_; rintro e w6 ⟨vy, rfl, hoy, hg6⟩
  have B6 := B5.trans ((below_grown hg6 (Nat.le_refl _) (by simp)).mono B5.size)
  have hos6 := own_weak (w := w4.drewN q5) hos4 hg6
  have hox6 := own_weak (w := w4.drewN q5) hox4 hg6
  have hog6 := own_weak (w := w4.drewN q5) hog hg6
  clear hg6 B5 hos4 hox4 hog
  go_wp2_with fail
  refine (eqI_yes _ vx vy n zs (by omega) (.of_own hox6) (.of_own hoy)).mono ?_; rintro e w7 ⟨rfl, q7, rfl⟩
  have B7 := below_drewN B6 q7
  clear B6 hoy
  go_wp2_with fail
  refine (markI_any (w6.drewN q7) _ vx n _ 1 1 rfl (by omega) hox6).mono ?_; rintro e w8 ⟨rfl, hox8, hg8⟩
  have hos8 := World.ownsRow.kept (w := w6.drewN q7) hos6 hg8 ap1.1
  have hog8 := World.ownsRow.kept (w := w6.drewN q7) hog6 hg8 ap3.2
  have B8 := B7.trans (below_grown (w := w6.drewN q7) hg8 (B := w.heap.size) B7.size (fun k hk => by have := (hox6.lt k hk).1; omega))
  clear hg8 hox6 hos6 hog6 B7 hox8
  go_wp2_with fail
  refine (eqI_yes _ vg vs m ys (by omega) (.of_own hog8) (.of_own hos8)).mono ?_; rintro e w9 ⟨rfl, q9, rfl⟩
  have B9 := below_drewN B8 q9
  clear B8
  go_wp2_with fail
  refine (markI_any (w8.drewN q9) _ vg m _ 1 1 rfl (by omega) hog8).mono ?_; rintro e w10 ⟨rfl, hog10, hg10⟩
  have hos10 := World.ownsRow.kept (w := w8.drewN q9) hos8 hg10 ap2.1
  have B10 := B9.trans (below_grown (w := w8.drewN q9) hg10 (B := w.heap.size) B9.size (fun k hk => by have := (hog8.lt k hk).1; omega))
  clear hg10 hos8 hog8 B9
  go_wp2_with fail
  refine (heldI_yes _ vg m 1 1 rfl (by omega) (.of_own hog10)).mono ?_; rintro e w11 ⟨rfl, rfl⟩
  go_wp2_with fail
  refine (toInt_any _ _ n zs hn (h0.keep B10)).mono ?_; rintro e w12 ⟨vz, rfl, hoz, hg12⟩
  have B12 := B10.trans ((below_grown hg12 (Nat.le_refl _) (by simp)).mono B10.size)
  have hos12 := own_weak hos10 hg12
  have hog12 := own_weak hog10 hg12
  clear hg12 hos10 hog10 B10
  go_wp2_with fail
  refine (HI.out _ _ (.of_own hoz)).mono ?_; rintro e w13 ⟨vh, rfl, hoh, hb13⟩
  have B13 := B12.trans (hb13.mono B12.size)
  have hos13 := own_below hos12 hb13
  have hog13 := own_below hog12 hb13
  clear hos12 hog12 hb13 B12 hoz
  go_wp2_with fail
  refine (eqI_yes _ vh vs m ys (by omega) (.of_own hoh) (.of_own hos13)).mono ?_; rintro e w14 ⟨rfl, q14, rfl⟩
  have B14 := below_drewN B13 q14
  clear B13
  go_wp2_with fail
  refine (heldI_yes (w13.drewN q14) vg m 1 1 rfl (by omega) (.of_own hog13)).mono ?_; rintro e w15 ⟨rfl, rfl⟩
  go_wp2
  go_ret
  exact ⟨rfl, B14⟩
theorem walk (w : World) (a0 : Option Addr) (len0 cap0 : Nat) (z0 : List Int) (w0 : IsRow .i64 w a0 len0 cap0 z0) :
    Calls Try.prog 9 #[.slice a0 len0 cap0] w fun e w' => e = .returned (.bool true) ∧ Below w.heap.size w w' := by
  have fits : len0 ≤ 1048576 ∨ 1048576 < len0 := by omega
  rcases fits with hl | hl
  · by_cases ok : Ok (z0.take len0)
    · exact core w _ len0 _ hl w0.row ⟨_, _, rfl⟩ len0 _ hl (fun W v h => spec_sums W v len0 _ h ok) (fun W v h => impl_sums W v len0 _ h ok)
    · exact core w _ len0 _ hl w0.row ⟨_, _, rfl⟩ 0 [] (by omega) (fun W v h => spec_sums_no W v len0 _ hl h ok) (fun W v h => impl_sums_no W v len0 _ hl h ok)
  · go_enter Try.func9, Try.ntmps9
    go_wp2
    go_ret
    exact ⟨rfl, Below.refl _ _⟩
end Go.Proofs.Ytmmnlangkabfiaa.wFnExactSumsOf
