/- Nets of pipes: the program's ReachedBy and WidestWay. -/
import Derived.Test.YtilabfmnaegidaaNetB
import Derived.Test.YtilabfmnaegidaaSetM
import Derived.Carry
import Derived.WalkArith
namespace Go.Proofs.Ytilabfmnaegidaa.nt
open Go.RowKit Go.Proofs.Ytilabfmnaegidaa.kit Go.Proofs.Ytilabfmnaegidaa.lawi Go.Proofs.Ytilabfmnaegidaa.own Go.Proofs.Ytilabfmnaegidaa.rain Go.Proofs.Ytilabfmnaegidaa.yrl Go.Proofs.Ytilabfmnaegidaa.net Go.Proofs.Ytilabfmnaegidaa.setm
abbrev TI : TypeId := 3
abbrev TB : TypeId := 4
theorem zero_bool : ∀ w : World, (zeroValue TB).run Try.prog w = .ok (.bool false) w := fun w => by unfold TB; go_simp
theorem wf_small {x : Int} (h1 : 0 ≤ x) (h2 : x ≤ 1000000) : (Lit.int .i64 x).wf = true := WalkArith.wf_i64 ⟨by omega, by omega⟩
/-- What the program's search answers. -/
def Reached (w : World) (n : Nat) (zs : List Int) (a x : Int) (e : Ending) (w' : World) : Prop :=
  ∃ b m f, e = .returned (.map (some b)) ∧ w.heap.size ≤ b ∧ SetB Try.prog TI TB w' b m f ∧ m ≤ 200 ∧ (∀ u, (Lit.int .i64 u).wf = true → (f u = true ↔ Rch (pF zs) (pT zs) (pW zs) n x a u)) ∧ Below w.heap.size w w'
end Go.Proofs.Ytilabfmnaegidaa.nt
namespace Go.Proofs.Ytilabfmnaegidaa.nt
open Go.RowKit Go.Proofs.Ytilabfmnaegidaa.kit Go.Proofs.Ytilabfmnaegidaa.lawi Go.Proofs.Ytilabfmnaegidaa.own Go.Proofs.Ytilabfmnaegidaa.rain Go.Proofs.Ytilabfmnaegidaa.yrl Go.Proofs.Ytilabfmnaegidaa.net Go.Proofs.Ytilabfmnaegidaa.setm
theorem dy_ext {q : Nat → Bool} {N : Nat} (h : ∀ k, N ≤ k → q k = false) : ∀ M, N ≤ M → dy q M = dy q N
  | 0, hM => by obtain rfl : N = 0 := by omega
                rfl
  | M + 1, hM => by
    rcases (show N = M + 1 ∨ N ≤ M from by omega) with rfl | h'
    · rfl
    · rw [dy, dy_ext h M h', h M h']
      simp
theorem dy_succ (q : Nat → Bool) (k : Nat) : dy q (k + 1) = if q k = true then dy q k ++ [(k : Int)] else dy q k := rfl
theorem own_ne {w : World} {base e sz b : Nat} {v : Value} {n : Nat} {xs : List Value} (h : w.ownsRow base e sz v n xs) (hb : b < base) : some b ≠ v.ownBlock := fun e => by
  have := (h.lt b e.symm).1
  omega
/-- Two places of a net. -/
def Two (P : Int) (n : Nat) (zs : List Int) (a b : Int) : Prop := NO P n zs ∧ (0 ≤ a ∧ a < P) ∧ (0 ≤ b ∧ b < P) ∧ a ≠ b
set_option maxHeartbeats 1000000 in
theorem impl_two (w : World) (P : Int) (v : Value) (n : Nat) (zs : List Int) (hn : n ≤ 1048576) (hr : Row 3 w v n (IV zs)) (x y : Int) (b : Bool) (hb : b = true ↔ Two P n zs x y) :
    Calls Try.prog 43 #[Nv P v, .int .i64 x, .int .i64 y] w (Gives w (.bool b)) := by
  obtain ⟨a, ca, rfl⟩ := hr.shape
  have B0 : Below w.heap.size w (w.alloc (.cells #[.int .i64 P, .slice a n ca] TN)) := below_al (Below.refl _ _) _
  have HR := Lib.hid (hr.keep B0)
  have HB := Lib.hid B0
  have HX := Lib.hid (Blk.new w TN #[.int .i64 P, .slice a n ca])
  obtain ⟨p0, p1⟩ := stNet.blk_ HX.out
  have HBB := Lib.hid hb
  clear hr B0 hb
  by_cases ok : NO P n zs
  · have hQ := wrap_sub ok.1 ok.2.1
    have OK := Lib.hid ok
    have HQ := Lib.hid hQ
    clear ok hQ
    go_enter Try.func43, Try.ntmps43
    go_wp2_with fail
    refine (impl_nok _ _ _ n zs hn HR.out true ⟨fun _ => OK.out, fun _ => rfl⟩).mono ?_; rintro e w1 ⟨rfl, hb1⟩
    replace HX := Lib.hid (HX.out.step hb1)
    replace HB := Lib.hid (below_step HB.out hb1)
    clear p0 p1 hb1
    obtain ⟨e0, e1⟩ := stNet.blk_ HX.out
    by_cases hx : 0 ≤ x ∧ x ≤ P - 1
    · go_wp2_with fail
      refine (isp_yes _ _ _ _ _ HQ.out hx.1 hx.2).mono ?_; rintro e w2 ⟨rfl, hb2⟩
      replace HX := Lib.hid (HX.out.step hb2)
      replace HB := Lib.hid (below_step HB.out hb2)
      clear e0 e1 hb2
      obtain ⟨e0, e1⟩ := stNet.blk_ HX.out
      by_cases hy : 0 ≤ y ∧ y ≤ P - 1
      · go_wp2_with fail
        refine (isp_yes _ _ _ _ _ HQ.out hy.1 hy.2).mono ?_; rintro e w3 ⟨rfl, hb3⟩
        replace HB := Lib.hid (below_step HB.out hb3)
        clear e0 e1 hb3
        by_cases hxy : x = y
        · have e : b = false := by
            cases b
            · rfl
            · exact absurd hxy (HBB.out.1 rfl).2.2.2
          subst hxy
          clear hx hy
          go_wp2
          go_ret
          exact ⟨by rw [e]; simp, HB.out⟩
        · have e : b = true := HBB.out.2 ⟨OK.out, by omega, by omega, hxy⟩
          clear hx hy
          go_wp2
          go_ret
          exact ⟨by rw [e]; exact congrArg (fun z => Ending.returned (Value.bool z)) (by simpa using hxy), HB.out⟩
      · go_wp2_with fail
        refine (isp_no _ _ _ _ _ HQ.out hy).mono ?_; rintro e w3 ⟨rfl, hb3⟩
        replace HB := Lib.hid (below_step HB.out hb3)
        have e : b = false := by
          cases b
          · rfl
          · exact absurd (HBB.out.1 rfl).2.2.1 (by omega)
        clear e0 e1 hb3 hx hy
        go_wp2
        go_ret
        exact ⟨by rw [e]; rfl, HB.out⟩
    · go_wp2_with fail
      refine (isp_no _ _ _ _ _ HQ.out hx).mono ?_; rintro e w2 ⟨rfl, hb2⟩
      replace HB := Lib.hid (below_step HB.out hb2)
      have e : b = false := by
        cases b
        · rfl
        · exact absurd (HBB.out.1 rfl).2.1 (by omega)
      clear e0 e1 hb2 hx
      go_wp2
      go_ret
      exact ⟨by rw [e]; rfl, HB.out⟩
  · have e : b = false := by
      cases b
      · rfl
      · exact absurd (HBB.out.1 rfl).1 ok
    have OK := Lib.hid ok
    clear ok
    go_enter Try.func43, Try.ntmps43
    go_wp2_with fail
    refine (impl_nok _ _ _ n zs hn HR.out false ⟨fun h => (by cases h), fun h => absurd h OK.out⟩).mono ?_; rintro e w1 ⟨rfl, hb1⟩
    replace HB := Lib.hid (below_step HB.out hb1)
    clear hb1
    go_wp2
    go_ret
    exact ⟨by rw [e]; rfl, HB.out⟩
end Go.Proofs.Ytilabfmnaegidaa.nt
