/- Cuts: what FnCutProofs asks, plain. -/
import Derived.Test.YtilabfmnaegidaaCutS2
import Derived.Test.YtilabfmnaegidaaFlwP
namespace Go.Proofs.Ytilabfmnaegidaa.cut
open Go.RowKit Go.Proofs.Ytilabfmnaegidaa.kit Go.Proofs.Ytilabfmnaegidaa.lawi Go.Proofs.Ytilabfmnaegidaa.rain Go.Proofs.Ytilabfmnaegidaa.yrl Go.Proofs.Ytilabfmnaegidaa.net Go.Proofs.Ytilabfmnaegidaa.nt Go.Proofs.Ytilabfmnaegidaa.flw Go.Proofs.Ytilabfmnaegidaa.fl_ Go.Proofs.Ytilabfmnaegidaa.bits_
theorem rr_congr {F T W f g : Nat → Int} {m : Nat} {a u : Int} (h : ∀ k, k < m → f k = g k) (hu : RR F T W f m a u) : RR F T W g m a u := by
  induction hu with
  | base => exact .base
  | fw k hk hlt _ ih => exact .fw k hk (by rw [← h k hk]; exact hlt) ih
  | bw k hk hlt _ ih => exact .bw k hk (by rw [← h k hk]; exact hlt) ih
theorem cut_facts {P a b x : Int} {n : Nat} {zs : List Int} {r : Nat → Int} (two : Two P n zs a b) (hr : Run (pF zs) (pT zs) (pW zs) n P a b (fun _ => 0) r) (hx : MF (pF zs) (pT zs) (pW zs) n P a b x) :
    ∃ s c : Int, Nc P n zs a b s ∧ CoA P n zs n (rw_ r n) a b c ∧ 0 ≤ s ∧ 0 ≤ c ∧ Cw P n zs s x ∧ Cw P n zs c x ∧ IsC P n zs s a b ∧ IsC P n zs c a b ∧ Pg P n zs n (rw_ r n) c a b ∧ Pg P n zs n (rw_ r n) s a b := by
  obtain ⟨hf, hno⟩ := hr.flow two.2.1.1 two.2.1.2 (Two.pl two) two.2.2.2 (Two.wd two) (.zero (fun k hk => (Two.wd two k hk).1))
  have hm := (Two.great two hr).2
  have hxe := hx.uniq hm
  have hcg : ∀ k, k < n → r k = gd (rw_ r n) k := fun k hk => (rw_at r hk).symm
  have hnt : Go.Proofs.Ytilabfmnaegidaa.flw.nt (pF zs) (pT zs) (gd (rw_ r n)) a n = x := by rw [← nt_congr (f := r) n hcg, hxe]
  have fk := fk_run two hr
  obtain ⟨s, hs⟩ := Nc.ex two
  obtain ⟨c, hc⟩ := Co.ex P n zs (rw_ r n) a
  obtain ⟨c1, c2⟩ := hc.cut two (hf.amounts hcg) (fun h => hno (rr_congr (fun k hk => (hcg k hk).symm) h))
  have hsw := hs.wide hx
  have hcw : cwo n zs c.toNat = x := c2.trans hnt
  refine ⟨s, c, hs, ⟨fun _ => hc, fun h => absurd fk h⟩, hs.1.1.1, c1.1.1, ?_, ?_, hs.1, c1, ⟨fk, c1, by rw [hnt, hcw]⟩, ⟨fk, hs.1, by rw [hnt, hsw]⟩⟩
  · have h := Cw.of two.1 hs.1.1
    rwa [hsw] at h
  · have h := Cw.of two.1 c1.1
    rwa [hcw] at h
theorem cw_empty {P : Int} {n : Nat} {zs : List Int} (ok : NO P n zs) : Cw P n zs 0 0 := by
  have h := Cw.of (set := 0) ok ⟨Int.le_refl _, by
    have := Nat.one_le_two_pow (n := P.toNat)
    have e : (2 : Int) ^ P.toNat = ((2 ^ P.toNat : Nat) : Int) := by push_cast; rfl
    rw [e]; omega⟩
  rwa [show (0 : Int).toNat = 0 from rfl, cwo_none] at h
/-- Whether a pipe is on the list of those that are needed. -/
theorem np_mem {q : Nat → Bool} {n k : Nat} (hk : k < n) : (∃ j, j < (dy q n).length ∧ (dy q n).getD j 0 = (k : Int)) ↔ q k = true := by
  constructor
  · rintro ⟨j, hj, e⟩
    obtain ⟨i, _, e', hq⟩ := dy_at q hj
    rw [e] at e'
    obtain rfl : k = i := by omega
    exact hq
  · intro hq
    have key : ∀ m, k < m → (k : Int) ∈ dy q m := by
      intro m
      induction m with
      | zero => exact fun h => by omega
      | succ m ih =>
        intro hm
        rw [dy]
        by_cases e : k = m
        · subst e
          rw [if_pos hq]
          simp
        · have := ih (by omega)
          split
          · exact List.mem_append_left _ this
          · exact this
    exact (mem_get (L := dy q n) (v := (k : Int))).1 (key n hk)
end Go.Proofs.Ytilabfmnaegidaa.cut
