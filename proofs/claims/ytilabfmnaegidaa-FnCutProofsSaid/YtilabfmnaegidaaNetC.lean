/- Nets of pipes: two places of a net; what leaves a place, of both sides. -/
import Derived.Test.YtilabfmnaegidaaNetB
namespace Go.Proofs.Ytilabfmnaegidaa.nt
open Go.RowKit Go.Proofs.Ytilabfmnaegidaa.kit Go.Proofs.Ytilabfmnaegidaa.lawi Go.Proofs.Ytilabfmnaegidaa.own Go.Proofs.Ytilabfmnaegidaa.rain Go.Proofs.Ytilabfmnaegidaa.yrl Go.Proofs.Ytilabfmnaegidaa.net
theorem NO.wd {P : Int} {n : Nat} {zs : List Int} (ok : NO P n zs) : ∀ j, j < n → 0 ≤ pW zs j ∧ pW zs j ≤ 1000 := fun j hj => by
  have := (ok.2.2.2 j hj).2.2.2
  omega
set_option maxHeartbeats 1000000 in
theorem spec_two (w : World) (P : Int) (v : Value) (n : Nat) (zs : List Int) (hn : n ≤ 1048576) (hr : Row 3 w v n (IV zs)) (x y : Int) (b : Bool) (hb : b = true ↔ NO P n zs ∧ (0 ≤ x ∧ x < P) ∧ (0 ≤ y ∧ y < P) ∧ x ≠ y) :
    Calls Try.prog 41 #[Nv P v, .int .i64 x, .int .i64 y] w (Gives w (.bool b)) := by
  obtain ⟨a, ca, rfl⟩ := hr.shape
  have B0 : Below w.heap.size w (w.alloc (.cells #[.int .i64 P, .slice a n ca] TN)) := below_al (Below.refl _ _) _
  have HR := Lib.hid (hr.keep B0)
  have HB := Lib.hid B0
  have HX := Lib.hid (Blk.new w TN #[.int .i64 P, .slice a n ca])
  obtain ⟨p0, p1⟩ := stNet.blk_ HX.out
  have HBB := Lib.hid hb
  clear hr B0 hb
  by_cases ok : NO P n zs
  · have hQ := wrap_sub ok.1 ok.2.1
    have OK := Lib.hid ok
    clear ok
    go_enter Try.func41, Try.ntmps41
    go_wp2_with fail
    refine (spec_nok _ _ _ n zs hn HR.out true ⟨fun _ => OK.out, fun _ => rfl⟩).mono ?_; rintro e w1 ⟨rfl, hb1⟩
    obtain ⟨e0, e1⟩ := stNet.blk_ (HX.out.step hb1)
    replace HB := Lib.hid (below_step HB.out hb1)
    clear p0 p1 hb1
    by_cases hx : 0 ≤ x ∧ x ≤ P - 1
    · go_wp2_with fail
      refine (in_yes _ _ _ _ hx.1 hx.2).mono ?_; rintro e w2 ⟨rfl, rfl⟩
      by_cases hy : 0 ≤ y ∧ y ≤ P - 1
      · go_wp2_with fail
        refine (in_yes _ _ _ _ hy.1 hy.2).mono ?_; rintro e w2 ⟨rfl, rfl⟩
        by_cases hxy : x = y
        · have e : b = false := by
            cases b
            · rfl
            · exact absurd hxy (HBB.out.1 rfl).2.2.2
          subst hxy
          clear hx hy
          go_wp2
          go_ret
          exact ⟨by rw [e]; rfl, HB.out⟩
        · have e : b = true := HBB.out.2 ⟨OK.out, by omega, by omega, hxy⟩
          clear hx hy
          go_wp2
          go_ret
          exact ⟨by rw [e]; exact congrArg (fun z => Ending.returned (Value.bool z)) (by simpa using hxy), HB.out⟩
      · go_wp2_with fail
        refine (in_no _ _ _ _ hy).mono ?_; rintro e w2 ⟨rfl, rfl⟩
        have e : b = false := by
          cases b
          · rfl
          · exact absurd (HBB.out.1 rfl).2.2.1 (by omega)
        clear hx hy
        go_wp2
        go_ret
        exact ⟨by rw [e]; rfl, HB.out⟩
    · go_wp2_with fail
      refine (in_no _ _ _ _ hx).mono ?_; rintro e w2 ⟨rfl, rfl⟩
      have e : b = false := by
        cases b
        · rfl
        · exact absurd (HBB.out.1 rfl).2.1 (by omega)
      clear hx
      go_wp2
      go_ret
      exact ⟨by rw [e]; rfl, HB.out⟩
  · have e : b = false := by
      cases b
      · rfl
      · exact absurd (HBB.out.1 rfl).1 ok
    have OK := Lib.hid ok
    clear ok
    go_enter Try.func41, Try.ntmps41
    go_wp2_with fail
    refine (spec_nok _ _ _ n zs hn HR.out false ⟨fun h => (by cases h), fun h => absurd h OK.out⟩).mono ?_; rintro e w1 ⟨rfl, hb1⟩
    replace HB := Lib.hid (below_step HB.out hb1)
    clear hb1
    go_wp2
    go_ret
    exact ⟨by rw [e]; rfl, HB.out⟩
end Go.Proofs.Ytilabfmnaegidaa.nt
