/- Flows: what FnFlows asks, plain. -/
import Derived.Test.YtilabfmnaegidaaFlwS5
import Derived.Test.YtilabfmnaegidaaNetP
namespace Go.Proofs.Ytilabfmnaegidaa.fl_
open Go.RowKit Go.Proofs.Ytilabfmnaegidaa.kit Go.Proofs.Ytilabfmnaegidaa.yrl Go.Proofs.Ytilabfmnaegidaa.net Go.Proofs.Ytilabfmnaegidaa.nt Go.Proofs.Ytilabfmnaegidaa.flw
/-- A greatest flow of the turned net. -/
theorem mf_turned {P : Int} {n : Nat} {zs : List Int} {a b x : Int} (two : Two P n zs a b) (h : MF (pF zs) (pT zs) (pW zs) n P a b x) : MF (pF (turned zs n)) (pT (turned zs n)) (pW (turned zs n)) n P b a x :=
  (h.turn (Two.pl two) two.2.1.1 two.2.1.2 two.2.2.1.1 two.2.2.1.2 two.2.2.2).congr fun k hk => by
    obtain ⟨h1, h2, h3⟩ := turned_get zs hk
    exact ⟨h1.symm, h2.symm, h3.symm⟩
/-- No water at all. -/
theorem fsz_zero {P : Int} {n : Nat} {zs : List Int} {a b : Int} (two : Two P n zs a b) : FSz P n zs n (List.replicate n 0) a b 0 :=
  ⟨fun _ => by rw [gd_zero, nt_zero]; rfl, fun h => absurd ⟨two, rfl, by rw [gd_zero]; exact .zero (fun k hk => (Two.wd two k hk).1)⟩ h⟩
/-- The size of the flow that is found. -/
theorem fsz_run {P : Int} {n : Nat} {zs : List Int} {a b x : Int} (two : Two P n zs a b) {r : Nat → Int} (hr : Run (pF zs) (pT zs) (pW zs) n P a b (fun _ => 0) r) (hx : MF (pF zs) (pT zs) (pW zs) n P a b x) : FSz P n zs n (rw_ r n) a b x := by
  obtain ⟨hf, hm⟩ := Two.great two hr
  have hx0 := hx.nonneg (fun k hk => (Two.wd two k hk).1)
  have hcg : ∀ k, k < n → r k = gd (rw_ r n) k := fun k hk => (rw_at r hk).symm
  exact ⟨fun _ => by rw [← nt_congr (f := r) (g := gd (rw_ r n)) n hcg, ← hx.uniq hm, if_pos (by omega)], fun h => absurd ⟨two, rfl, hf.amounts hcg⟩ h⟩
theorem fk_run {P : Int} {n : Nat} {zs : List Int} {a b : Int} (two : Two P n zs a b) {r : Nat → Int} (hr : Run (pF zs) (pT zs) (pW zs) n P a b (fun _ => 0) r) : FK P n zs n (rw_ r n) a b :=
  ⟨two, rfl, (Two.great two hr).1.amounts fun _ hk => (rw_at r hk).symm⟩
theorem us_iff {n k : Nat} (fs : List Int) (h : k < n) : Us n n fs (k : Int) ↔ 0 < gd fs k := by
  unfold Us
  rw [Int.toNat_natCast]
  exact ⟨fun h => h.2.2.2, fun h1 => ⟨rfl, by omega, by omega, h1⟩⟩
/-- The law's own net: two pipes one behind the other. -/
def exN : List Int := [0, 1, 5, 1, 2, 3]
theorem ex_two : Two 3 2 exN 0 2 := by
  refine ⟨⟨by decide, by decide, by decide, fun j hj => ?_⟩, by decide, by decide, by decide⟩
  rcases j with _ | _ | j
  · exact ⟨by decide, by decide, by decide, by decide⟩
  · exact ⟨by decide, by decide, by decide, by decide⟩
  · omega
theorem ex_mf : MF (pF exN) (pT exN) (pW exN) 2 3 0 2 3 := by
  have hc : cw (pF exN) (pT exN) (pW exN) (fun v => decide (v < 2)) 2 = 3 := by decide
  refine ⟨⟨fun _ => 3, ⟨fun k hk => ?_, fun v h0 h1 h2 h3 => ?_⟩, by decide⟩, ⟨fun v => decide (v < 2), by decide, by decide, hc⟩, fun h hf => ?_⟩
  · rcases k with _ | _ | k
    · exact ⟨by decide, by decide⟩
    · exact ⟨by decide, by decide⟩
    · omega
  · obtain rfl : v = 1 := by omega
    decide
  · rw [← hc]
    exact hf.le_cut (Two.pl ex_two) (by decide) (by decide) (by decide) (by decide)
end Go.Proofs.Ytilabfmnaegidaa.fl_
