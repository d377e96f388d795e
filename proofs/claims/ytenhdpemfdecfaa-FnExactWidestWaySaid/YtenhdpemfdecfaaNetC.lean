/- Nets of pipes: two places of a net; what leaves a place, of both sides. -/
import Derived.Test.YtenhdpemfdecfaaNetB
namespace Go.Proofs.Ytenhdpemfdecfaa.nt
open Go.RowKit Go.Proofs.Ytenhdpemfdecfaa.kit Go.Proofs.Ytenhdpemfdecfaa.lawi Go.Proofs.Ytenhdpemfdecfaa.own Go.Proofs.Ytenhdpemfdecfaa.rain Go.Proofs.Ytenhdpemfdecfaa.yrl Go.Proofs.Ytenhdpemfdecfaa.net
theorem NO.wd {P : Int} {n : Nat} {zs : List Int} (ok : NO P n zs) : ∀ j, j < n → 0 ≤ pW zs j ∧ pW zs j ≤ 1000 := fun j hj => by
  have := (ok.2.2.2 j hj).2.2.2
  omega
set_option maxHeartbeats 1000000 in
theorem spec_two (w : World) (P : Int) (v : Value) (n : Nat) (zs : List Int) (hn : n ≤ 1048576) (hr : Row 3 w v n (IV zs)) (x y : Int) (b : Bool) (hb : b = true ↔ NO P n zs ∧ (0 ≤ x ∧ x < P) ∧ (0 ≤ y ∧ y < P) ∧ x ≠ y) :
    Calls Try.prog 56 #[Nv P v, .int .i64 x, .int .i64 y] w (Gives w (.bool b)) := by
  obtain ⟨a, ca, rfl⟩ := hr.shape
  have B0 : Below w.heap.size w (w.alloc (.cells #[.int .i64 P, .slice a n ca] TN)) := below_al (Below.refl _ _) _
  have HR := Lib.hid (hr.keep B0)
  have HB := Lib.hid B0
  have HX := Lib.hid (Blk.new w TN #[.int .i64 P, .slice a n ca])
  obtain ⟨p0, p1⟩ := stNet.blk_ HX.out
  have HBB := Lib.hid hb
  clear hr B0 hb
  by_cases ok : NO P n zs
  · have hQ := wrap_sub ok.1 ok.2.1
    have OK := Lib.hid ok
    clear ok
    go_enter Try.func56, Try.ntmps56
    go_wp2_with fail
    refine (spec_nok _ _ _ n zs hn HR.out true ⟨fun _ => OK.out, fun _ => rfl⟩).mono ?_; rintro e w1 ⟨rfl, hb1⟩
    obtain ⟨e0, e1⟩ := stNet.blk_ (HX.out.step hb1)
    replace HB := Lib.hid (below_step HB.out hb1)
    clear p0 p1 hb1
    by_cases hx : 0 ≤ x ∧ x ≤ P - 1
    · go_wp2_with fail
      refine (in_yes _ _ _ _ hx.1 hx.2).mono ?_; rintro e w2 ⟨rfl, rfl⟩
      by_cases hy : 0 ≤ y ∧ y ≤ P - 1
      · go_wp2_with fail
        refine (in_yes _ _ _ _ hy.1 hy.2).mono ?_; rintro e w2 ⟨rfl, rfl⟩
        by_cases hxy : x = y
        · have e : b = false := by
            cases b
            · rfl
            · exact absurd hxy (HBB.out.1 rfl).2.2.2
          subst hxy
          clear hx hy
          go_wp2
          go_ret
          exact ⟨by rw [e]; rfl, HB.out⟩
        · have e : b = true := HBB.out.2 ⟨OK.out, by omega, by omega, hxy⟩
          clear hx hy
          go_wp2
          go_ret
          exact ⟨by rw [e]; exact congrArg (fun z => Ending.returned (Value.bool z)) (by simpa using hxy), HB.out⟩
      · go_wp2_with fail
        refine (in_no _ _ _ _ hy).mono ?_; rintro e w2 ⟨rfl, rfl⟩
        have e : b = false := by
          cases b
          · rfl
          · exact absurd (HBB.out.1 rfl).2.2.1 (by omega)
        clear hx hy
        go_wp2
        go_ret
        exact ⟨by rw [e]; rfl, HB.out⟩
    · go_wp2_with fail
      refine (in_no _ _ _ _ hx).mono ?_; rintro e w2 ⟨rfl, rfl⟩
      have e : b = false := by
        cases b
        · rfl
        · exact absurd (HBB.out.1 rfl).2.1 (by omega)
      clear hx
      go_wp2
      go_ret
      exact ⟨by rw [e]; rfl, HB.out⟩
  · have e : b = false := by
      cases b
      · rfl
      · exact absurd (HBB.out.1 rfl).1 ok
    have OK := Lib.hid ok
    clear ok
    go_enter Try.func56, Try.ntmps56
    go_wp2_with fail
    refine (spec_nok _ _ _ n zs hn HR.out false ⟨fun h => (by cases h), fun h => absurd h OK.out⟩).mono ?_; rintro e w1 ⟨rfl, hb1⟩
    replace HB := Lib.hid (below_step HB.out hb1)
    clear hb1
    go_wp2
    go_ret
    exact ⟨by rw [e]; rfl, HB.out⟩
set_option maxHeartbeats 1000000 in
theorem spec_out (w : World) (P : Int) (v : Value) (n : Nat) (zs : List Int) (hr : Row 3 w v n (IV zs)) (x : Int) (ok : NO P n zs) (hx0 : 0 ≤ x) (hx1 : x < P) :
    Calls Try.prog 24 #[Nv P v, .int .i64 x] w (Gives w (.int .i64 (outs (pF zs) (pW zs) x n))) := by
  obtain ⟨a, ca, rfl⟩ := hr.shape
  have hl : zs.length = n * 3 := by simpa using hr.1
  have hn := ok.2.2.1
  have hQ := wrap_sub ok.1 ok.2.1
  have B0 : Below w.heap.size w (w.alloc (.cells #[.int .i64 P, .slice a n ca] TN)) := below_al (Below.refl _ _) _
  have HR := Lib.hid hr
  have HB := Lib.hid B0
  have HX := Lib.hid (Blk.new w TN #[.int .i64 P, .slice a n ca])
  obtain ⟨p0, p1⟩ := stNet.blk_ HX.out
  have OK := Lib.hid ok
  clear hr B0 ok
  go_enter Try.func24, Try.ntmps24
  go_wp2_with fail
  refine (spec_nok _ _ _ n zs (by omega) (HR.out.keep HB.out) true ⟨fun _ => OK.out, fun _ => rfl⟩).mono ?_; rintro e w1 ⟨rfl, hb1⟩
  obtain ⟨e0, e1⟩ := stNet.blk_ (HX.out.step hb1)
  replace HB := Lib.hid (below_step HB.out hb1)
  clear p0 p1 hb1
  go_wp2_with fail
  refine (in_yes _ _ _ _ hx0 (by omega : x ≤ P - 1)).mono ?_; rintro e w2 ⟨rfl, rfl⟩
  clear hx0 hx1 hQ
  go_wp2
  go_loopg [5, 6] n (fun g s5 s6 wr => wr = w1 ∧ ∃ k : Nat, k + g = n ∧ s6 = .int .i64 k ∧ s5 = .int .i64 (outs (pF zs) (pW zs) x k))
  case atStart => exact ⟨rfl, 0, by omega, rfl, rfl⟩
  case round =>
    obtain ⟨rfl, k, hkg, rfl, rfl⟩ := hrel
    by_cases hlt : k < n
    · obtain ⟨gk, rfl⟩ : ∃ g', gk = g' + 1 := ⟨gk - 1, by omega⟩
      obtain ⟨b1, o1, rfl, h1⟩ := (HR.out.keep HB.out).at_ (by omega)
      obtain ⟨g1, g2, g3⟩ := pipe_at h1 hl hlt
      have hb := outs_bd (F := pF zs) (W := pW zs) (p := x) k (fun j hj => OK.out.wd j (by omega))
      have hw := OK.out.wd k hlt
      have hs : outs (pF zs) (pW zs) x (k + 1) = outs (pF zs) (pW zs) x k + (if pF zs k = x then pW zs k else 0) := rfl
      obtain ⟨t, ht⟩ : ∃ t, outs (pF zs) (pW zs) x k = t := ⟨_, rfl⟩
      rw [ht] at hb hs ⊢
      generalize pF zs k = F at g1 hs
      generalize pW zs k = W at g3 hs hw
      clear h1 g2 ht
      by_cases hF : F = x
      · rw [if_pos hF] at hs
        subst hF
        have HS := Lib.hid hs
        clear hs
        go_wp2
        go_roundg gk
        case measure => omega
        case rel => exact ⟨rfl, k + 1, by omega, by go_num, by rw [HS.out]⟩
      · rw [if_neg hF, Int.add_zero] at hs
        have HS := Lib.hid hs
        clear hs
        go_wp2
        go_roundg gk
        case measure => omega
        case rel => exact ⟨rfl, k + 1, by omega, by go_num, by rw [HS.out]⟩
    · obtain rfl : k = n := by omega
      go_wp2
      go_ret
      exact ⟨rfl, HB.out⟩
theorem spec_out_no (w : World) (P : Int) (v : Value) (n : Nat) (zs : List Int) (hn : n ≤ 1048576) (hr : Row 3 w v n (IV zs)) (x : Int) (no : ¬ (NO P n zs ∧ 0 ≤ x ∧ x < P)) :
    Calls Try.prog 24 #[Nv P v, .int .i64 x] w (Gives w (.int .i64 (-1))) := by
  obtain ⟨a, ca, rfl⟩ := hr.shape
  have B0 : Below w.heap.size w (w.alloc (.cells #[.int .i64 P, .slice a n ca] TN)) := below_al (Below.refl _ _) _
  have HR := Lib.hid (hr.keep B0)
  have HB := Lib.hid B0
  have HX := Lib.hid (Blk.new w TN #[.int .i64 P, .slice a n ca])
  obtain ⟨p0, p1⟩ := stNet.blk_ HX.out
  clear hr B0
  by_cases ok : NO P n zs
  · have hQ := wrap_sub ok.1 ok.2.1
    have OK := Lib.hid ok
    have hx : ¬ (0 ≤ x ∧ x ≤ P - 1) := fun h => no ⟨ok, by omega⟩
    clear ok no
    go_enter Try.func24, Try.ntmps24
    go_wp2_with fail
    refine (spec_nok _ _ _ n zs hn HR.out true ⟨fun _ => OK.out, fun _ => rfl⟩).mono ?_; rintro e w1 ⟨rfl, hb1⟩
    obtain ⟨e0, e1⟩ := stNet.blk_ (HX.out.step hb1)
    replace HB := Lib.hid (below_step HB.out hb1)
    clear p0 p1 hb1
    go_wp2_with fail
    refine (in_no _ _ _ _ hx).mono ?_; rintro e w2 ⟨rfl, rfl⟩
    clear hx
    go_wp2
    go_ret
    exact ⟨rfl, HB.out⟩
  · have OK := Lib.hid ok
    clear ok no
    go_enter Try.func24, Try.ntmps24
    go_wp2_with fail
    refine (spec_nok _ _ _ n zs hn HR.out false ⟨fun h => (by cases h), fun h => absurd h OK.out⟩).mono ?_; rintro e w1 ⟨rfl, hb1⟩
    replace HB := Lib.hid (below_step HB.out hb1)
    clear hb1
    go_wp2
    go_ret
    exact ⟨rfl, HB.out⟩
set_option maxHeartbeats 1000000 in
theorem impl_out (w : World) (P : Int) (v : Value) (n : Nat) (zs : List Int) (hr : Row 3 w v n (IV zs)) (x : Int) (ok : NO P n zs) (hx0 : 0 ≤ x) (hx1 : x < P) :
    Calls Try.prog 18 #[Nv P v, .int .i64 x] w (Gives w (.int .i64 (outs (pF zs) (pW zs) x n))) := by
  obtain ⟨a, ca, rfl⟩ := hr.shape
  have hl : zs.length = n * 3 := by simpa using hr.1
  have hn := ok.2.2.1
  have B0 : Below w.heap.size w (w.alloc (.cells #[.int .i64 P, .slice a n ca] TN)) := below_al (Below.refl _ _) _
  have HR := Lib.hid hr
  have HB := Lib.hid B0
  have HX := Lib.hid (Blk.new w TN #[.int .i64 P, .slice a n ca])
  obtain ⟨p0, p1⟩ := stNet.blk_ HX.out
  have OK := Lib.hid ok
  clear hr B0 ok
  go_enter Try.func18, Try.ntmps18
  go_wp2_with fail
  refine (impl_hp _ _ _ n zs (by omega) (HR.out.keep HB.out) x true ⟨fun _ => ⟨OK.out, hx0, hx1⟩, fun _ => rfl⟩).mono ?_; rintro e w1 ⟨rfl, hb1⟩
  obtain ⟨e0, e1⟩ := stNet.blk_ (HX.out.step hb1)
  replace HB := Lib.hid (below_step HB.out hb1)
  clear p0 p1 hb1 hx0 hx1
  go_wp2
  clear e0 e1
  go_loopg [5, 15] n (fun g s5 s6 wr => Below w.heap.size w wr ∧ ∃ k : Nat, k + g = n ∧ s6 = .int .i64 k ∧ s5 = .int .i64 (outs (pF zs) (pW zs) x k))
  case atStart => exact ⟨HB.out, 0, by omega, rfl, rfl⟩
  case round =>
    obtain ⟨hbel, k, hkg, rfl, rfl⟩ := hrel
    by_cases hlt : k < n
    · obtain ⟨gk, rfl⟩ : ∃ g', gk = g' + 1 := ⟨gk - 1, by omega⟩
      obtain ⟨b1, o1, rfl, h1⟩ := (HR.out.keep hbel).at_ (by omega)
      obtain ⟨g1, g2, g3⟩ := pipe_at h1 hl hlt
      have hb := outs_bd (F := pF zs) (W := pW zs) (p := x) k (fun j hj => OK.out.wd j (by omega))
      have hw := OK.out.wd k hlt
      have hs : outs (pF zs) (pW zs) x (k + 1) = outs (pF zs) (pW zs) x k + (if pF zs k = x then pW zs k else 0) := rfl
      obtain ⟨t, ht⟩ : ∃ t, outs (pF zs) (pW zs) x k = t := ⟨_, rfl⟩
      rw [ht] at hb hs ⊢
      generalize pF zs k = F at g1 hs
      generalize pT zs k = T at g2
      generalize pW zs k = W at g3 hs hw
      have HL := Lib.hid (below_al hbel (.cells #[.int .i64 F, .int .i64 T, .int .i64 W] TP))
      clear h1 ht hbel
      by_cases hF : F = x
      · rw [if_pos hF] at hs
        subst hF
        have HS := Lib.hid hs
        clear hs
        go_wp2
        go_roundg gk
        case measure => omega
        case rel => exact ⟨HL.out, k + 1, by omega, by go_num, by rw [HS.out]⟩
      · rw [if_neg hF, Int.add_zero] at hs
        have HS := Lib.hid hs
        clear hs
        go_wp2
        go_roundg gk
        case measure => omega
        case rel => exact ⟨HL.out, k + 1, by omega, by go_num, by rw [HS.out]⟩
    · obtain rfl : k = n := by omega
      go_wp2
      go_ret
      exact ⟨rfl, hbel⟩
theorem impl_out_no (w : World) (P : Int) (v : Value) (n : Nat) (zs : List Int) (hn : n ≤ 1048576) (hr : Row 3 w v n (IV zs)) (x : Int) (no : ¬ (NO P n zs ∧ 0 ≤ x ∧ x < P)) :
    Calls Try.prog 18 #[Nv P v, .int .i64 x] w (Gives w (.int .i64 (-1))) := by
  obtain ⟨a, ca, rfl⟩ := hr.shape
  have B0 : Below w.heap.size w (w.alloc (.cells #[.int .i64 P, .slice a n ca] TN)) := below_al (Below.refl _ _) _
  have HR := Lib.hid (hr.keep B0)
  have HB := Lib.hid B0
  have HX := Lib.hid (Blk.new w TN #[.int .i64 P, .slice a n ca])
  obtain ⟨p0, p1⟩ := stNet.blk_ HX.out
  clear hr B0
  have NN := Lib.hid no
  clear no
  go_enter Try.func18, Try.ntmps18
  go_wp2_with fail
  refine (impl_hp _ _ _ n zs hn HR.out x false ⟨fun h => (by cases h), fun h => absurd h NN.out⟩).mono ?_; rintro e w1 ⟨rfl, hb1⟩
  replace HB := Lib.hid (below_step HB.out hb1)
  clear hb1
  go_wp2
  go_ret
  exact ⟨rfl, HB.out⟩
end Go.Proofs.Ytenhdpemfdecfaa.nt
