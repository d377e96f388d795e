/- Flows: the specification's FindFlow at any input, GreatestFlow. -/
import Derived.Test.YtilabfmnaegidaaFlwS4
namespace Go.Proofs.Ytilabfmnaegidaa.fl_
open Go.RowKit Go.Proofs.Ytilabfmnaegidaa.kit Go.Proofs.Ytilabfmnaegidaa.lawi Go.Proofs.Ytilabfmnaegidaa.own Go.Proofs.Ytilabfmnaegidaa.rain Go.Proofs.Ytilabfmnaegidaa.yrl Go.Proofs.Ytilabfmnaegidaa.net Go.Proofs.Ytilabfmnaegidaa.nt Go.Proofs.Ytilabfmnaegidaa.flw
theorem Two.pl {P : Int} {n : Nat} {zs : List Int} {a b : Int} (h : Two P n zs a b) : Pl (pF zs) (pT zs) n P := fun j hj => by
  obtain ⟨⟨F0, F1⟩, ⟨T0, T1⟩, _⟩ := h.1.2.2.2 j hj
  exact ⟨⟨F0, by omega⟩, ⟨T0, by omega⟩⟩
theorem Two.wd {P : Int} {n : Nat} {zs : List Int} {a b : Int} (h : Two P n zs a b) : ∀ k, k < n → 0 ≤ pW zs k ∧ pW zs k ≤ 1000 := fun j hj => by
  obtain ⟨_, _, _, W0, W1⟩ := h.1.2.2.2 j hj
  omega
/-- A flow is found. -/
theorem Two.run {P : Int} {n : Nat} {zs : List Int} {a b : Int} (h : Two P n zs a b) : ∃ r, Run (pF zs) (pT zs) (pW zs) n P a b (fun _ => 0) r := by
  obtain ⟨r, h1, _⟩ := Run.ex h.2.1.1 h.2.1.2 (Two.pl h) h.2.2.2 (Two.wd h) (1000 * n + 1) (fun _ => 0) (.zero (fun k hk => (Two.wd h k hk).1)) (by rw [nt_zero]; omega)
  exact ⟨r, h1⟩
/-- It is a flow, and a greatest one. -/
theorem Two.great {P : Int} {n : Nat} {zs : List Int} {a b : Int} (h : Two P n zs a b) {r : Nat → Int} (hr : Run (pF zs) (pT zs) (pW zs) n P a b (fun _ => 0) r) :
    FO (pF zs) (pT zs) (pW zs) r n P a b ∧ MF (pF zs) (pT zs) (pW zs) n P a b (Go.Proofs.Ytilabfmnaegidaa.flw.nt (pF zs) (pT zs) r a n) := by
  obtain ⟨h1, h2⟩ := hr.flow h.2.1.1 h.2.1.2 (Two.pl h) h.2.2.2 (Two.wd h) (.zero (fun k hk => (Two.wd h k hk).1))
  exact ⟨h1, h1.max (Two.pl h) h.2.1.1 h.2.1.2 h2⟩
theorem spec_find (w : World) (P : Int) (v : Value) (n : Nat) (zs : List Int) (a b : Int) (hr : Row 3 w v n (IV zs)) (two : Two P n zs a b) (r : Nat → Int) (hrun : Run (pF zs) (pT zs) (pW zs) n P a b (fun _ => 0) r) :
    Calls Try.prog 13 #[Nv P v, .int .i64 a, .int .i64 b] w (Found w n r true) := by
  obtain ⟨R, rfl⟩ : ∃ R : Nat, P = (R : Int) := ⟨P.toNat, by have := two.1.1; omega⟩
  obtain ⟨A, rfl⟩ : ∃ A : Nat, a = (A : Int) := ⟨a.toNat, by have := two.2.1.1; omega⟩
  obtain ⟨B, rfl⟩ : ∃ B : Nat, b = (B : Int) := ⟨b.toNat, by have := two.2.2.1.1; omega⟩
  exact spec_find_in w R v n zs A B hr two r hrun
theorem spec_find_no (w : World) (P : Int) (v : Value) (n : Nat) (zs : List Int) (a b : Int) (hn : n ≤ 1048576) (hr : Row 3 w v n (IV zs)) (two : ¬ Two P n zs a b) :
    Calls Try.prog 13 #[Nv P v, .int .i64 a, .int .i64 b] w (Found w 0 (fun _ => 0) false) := by
  obtain ⟨av, ca, rfl⟩ := hr.shape
  obtain ⟨w0, hw0⟩ : ∃ w0, w.alloc (.cells #[.int .i64 P, .slice av n ca] TN) = w0 := ⟨_, rfl⟩
  have B0 : Below w.heap.size w w0 := hw0 ▸ below_al (Below.refl _ _) _
  have HX : Hid (Blk w0 w.heap.size TN #[.int .i64 P, .slice av n ca]) := Lib.hid (hw0 ▸ Blk.new w TN #[.int .i64 P, .slice av n ca])
  have HR := Lib.hid (hr.keep B0)
  have TW := Lib.hid two
  have HB := Lib.hid B0
  obtain ⟨p0, p1⟩ := stNet.blk_ HX.out
  clear hr two B0
  go_enter Try.func13, Try.ntmps13
  go_wp2_with fail
  refine (spec_two _ _ _ n zs (by omega) HR.out a b false ⟨fun h => (by cases h), fun h => absurd h TW.out⟩).mono ?_; rintro e w1 ⟨rfl, hb1⟩
  have HL := Lib.hid hb1
  clear hb1 p0 p1
  go_wp2
  refine bodyPost_ret (v := .tuple #[.slice (some ⟨w1.heap.size, 0, none⟩) 0 0, .bool false]) (by simp [*, results, Try.results13, go_sem]) rfl ⟨_, rfl, ?_, ?_⟩
  · have hg : Blk (w1.alloc (.cells #[] TI)) w1.heap.size TI #[] := Blk.new w1 TI #[]
    exact ⟨by simp [rw_, IV], .inr ⟨w1.heap.size, 0, #[], rfl, Nat.le_trans HB.out.size HL.out.size, hg, Nat.le_refl _, by unfold maxLen; omega, by simp, by simp [rw_, IV]⟩⟩
  · exact HB.out.trans ((below_al HL.out _).mono HB.out.size)
theorem spec_great (w : World) (P : Int) (v : Value) (n : Nat) (zs : List Int) (a b x : Int) (hr : Row 3 w v n (IV zs)) (two : Two P n zs a b) (hx : MF (pF zs) (pT zs) (pW zs) n P a b x) :
    Calls Try.prog 12 #[Nv P v, .int .i64 a, .int .i64 b] w (Gives w (.int .i64 x)) := by
  obtain ⟨r, hrun⟩ := Two.run two
  obtain ⟨hf, hm⟩ := Two.great two hrun
  have hx0 := hx.nonneg (fun k hk => (Two.wd two k hk).1)
  rw [← hx.uniq hm] at hm
  have hcg : ∀ k, k < n → r k = gd (rw_ r n) k := fun k hk => (rw_at r hk).symm
  have hsz : Hid (FSz P n zs n (rw_ r n) a b x) := Lib.hid ⟨fun _ => by
      rw [← nt_congr (f := r) (g := gd (rw_ r n)) n hcg, ← hx.uniq (Two.great two hrun).2, if_pos (by omega)], fun h => absurd ⟨two, rfl, hf.amounts hcg⟩ h⟩
  have hn := two.1.2.2.1
  obtain ⟨av, ca, rfl⟩ := hr.shape
  obtain ⟨w0, hw0⟩ : ∃ w0, w.alloc (.cells #[.int .i64 P, .slice av n ca] TN) = w0 := ⟨_, rfl⟩
  have B0 : Below w.heap.size w w0 := hw0 ▸ below_al (Below.refl _ _) _
  have HX : Hid (Blk w0 w.heap.size TN #[.int .i64 P, .slice av n ca]) := Lib.hid (hw0 ▸ Blk.new w TN #[.int .i64 P, .slice av n ca])
  have HR := Lib.hid (hr.keep B0)
  have TW := Lib.hid two
  have HB := Lib.hid B0
  have HRUN := Lib.hid hrun
  obtain ⟨p0, p1⟩ := stNet.blk_ HX.out
  clear hr two B0 hrun hf hm hx hcg
  go_enter Try.func12, Try.ntmps12
  go_wp2_with fail
  refine (spec_find _ _ _ n zs a b HR.out TW.out r HRUN.out).mono ?_; rintro e w1 ⟨fv, rfl, ho, hb1⟩
  obtain ⟨lf, cf, rfl⟩ := own_shape ho
  have hX1 := HX.out.step hb1
  have HO := Lib.hid ho
  have HL := Lib.hid hb1
  clear p0 p1 ho hb1 hw0
  obtain ⟨p0, p1⟩ := stNet.blk_ hX1
  clear hX1
  go_wp2_with fail
  refine (spec_fsz _ _ _ _ n n zs (rw_ r n) a b (by omega) (by omega) (HR.out.keep HL.out) (Row.of_own HO.out) x hsz.out).mono ?_; rintro e w2 ⟨rfl, hb2⟩
  go_wp2
  go_ret
  exact ⟨rfl, HB.out.trans ((below_step HL.out hb2).mono HB.out.size)⟩
theorem spec_great_no (w : World) (P : Int) (v : Value) (n : Nat) (zs : List Int) (a b : Int) (hn : n ≤ 1048576) (hr : Row 3 w v n (IV zs)) (two : ¬ Two P n zs a b) :
    Calls Try.prog 12 #[Nv P v, .int .i64 a, .int .i64 b] w (Gives w (.int .i64 (-1))) := by
  obtain ⟨av, ca, rfl⟩ := hr.shape
  obtain ⟨w0, hw0⟩ : ∃ w0, w.alloc (.cells #[.int .i64 P, .slice av n ca] TN) = w0 := ⟨_, rfl⟩
  have B0 : Below w.heap.size w w0 := hw0 ▸ below_al (Below.refl _ _) _
  have HX : Hid (Blk w0 w.heap.size TN #[.int .i64 P, .slice av n ca]) := Lib.hid (hw0 ▸ Blk.new w TN #[.int .i64 P, .slice av n ca])
  have HR := Lib.hid (hr.keep B0)
  have TW := Lib.hid two
  have HB := Lib.hid B0
  obtain ⟨p0, p1⟩ := stNet.blk_ HX.out
  clear hr two B0
  go_enter Try.func12, Try.ntmps12
  go_wp2_with fail
  refine (spec_find_no _ _ _ n zs a b (by omega) HR.out TW.out).mono ?_; rintro e w1 ⟨fv, rfl, _, hb1⟩
  go_wp2
  go_ret
  exact ⟨rfl, HB.out.trans (hb1.mono HB.out.size)⟩
end Go.Proofs.Ytilabfmnaegidaa.fl_
