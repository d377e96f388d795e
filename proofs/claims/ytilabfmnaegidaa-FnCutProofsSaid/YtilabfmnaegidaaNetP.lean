/- Nets of pipes: what FnPipes asks, as plain facts. -/
import Derived.Test.YtilabfmnaegidaaNetR2
import Derived.Test.YtilabfmnaegidaaNetI
namespace Go.Proofs.Ytilabfmnaegidaa.nt
open Go.RowKit Go.Proofs.Ytilabfmnaegidaa.kit Go.Proofs.Ytilabfmnaegidaa.lawi Go.Proofs.Ytilabfmnaegidaa.own Go.Proofs.Ytilabfmnaegidaa.rain Go.Proofs.Ytilabfmnaegidaa.yrl Go.Proofs.Ytilabfmnaegidaa.net
theorem turned_get (zs : List Int) {n k : Nat} (h : k < n) : pF (turned zs n) k = pT zs k ∧ pT (turned zs n) k = pF zs k ∧ pW (turned zs n) k = pW zs k := fl_get _ _ _ n h
theorem ok_turned {P : Int} {n : Nat} {zs : List Int} (ok : NO P n zs) : NO P n (turned zs n) :=
  ⟨ok.1, ok.2.1, ok.2.2.1, fun k hk => by
    obtain ⟨e1, e2, e3⟩ := turned_get zs hk
    obtain ⟨h1, h2, h3, h4⟩ := ok.2.2.2 k hk
    unfold pOk
    rw [e1, e2, e3]
    exact ⟨h2, h1, h3.symm, h4⟩⟩
theorem two_turned {P : Int} {n : Nat} {zs : List Int} {a b : Int} (h : Two P n zs a b) : Two P n (turned zs n) b a := ⟨ok_turned h.1, h.2.2.1, h.2.1, h.2.2.2.symm⟩
theorem wide_congr {F T W F' T' W' : Nat → Int} {m : Nat} {a b x : Int} (h : Wide F T W m a b x) (hF : ∀ k, k < m → F k = F' k) (hT : ∀ k, k < m → T k = T' k) (hW : ∀ k, k < m → W k = W' k) : Wide F' T' W' m a b x :=
  ⟨h.1, h.2.1.imp id (fun g => g.congr hF hT hW), fun y hy g => h.2.2 y hy (g.congr (fun k hk => (hF k hk).symm) (fun k hk => (hT k hk).symm) (fun k hk => (hW k hk).symm))⟩
theorem wide_turned {n : Nat} {zs : List Int} {a b x : Int} (h : Wide (pF zs) (pT zs) (pW zs) n a b x) : Wide (pF (turned zs n)) (pT (turned zs n)) (pW (turned zs n)) n b a x :=
  wide_congr h.turn (fun _ hk => (turned_get zs hk).1.symm) (fun _ hk => (turned_get zs hk).2.1.symm) (fun _ hk => (turned_get zs hk).2.2.symm)
theorem ok_less {P : Int} {n k : Nat} {zs : List Int} (ok : NO P n zs) (hl : zs.length = n * 3) (hk : k < n) : NO P (n - 1) (less zs k) := by
  obtain ⟨m, rfl⟩ : ∃ m, n = m + 1 := ⟨n - 1, by omega⟩
  refine ⟨ok.1, ok.2.1, by have := ok.2.2.1; omega, fun j hj => ?_⟩
  obtain ⟨e1, e2, e3⟩ := less_at (j := j) hl hk
  unfold pOk
  rw [e1, e2, e3]
  exact ok.2.2.2 _ (by split <;> omega)
theorem wide_less {n k : Nat} {zs : List Int} {a b x y : Int} (hl : zs.length = n * 3) (hk : k < n) (h : Wide (pF zs) (pT zs) (pW zs) n a b x) (h' : Wide (pF (less zs k)) (pT (less zs k)) (pW (less zs k)) (n - 1) a b y) : y ≤ x := by
  obtain ⟨m, rfl⟩ : ∃ m, n = m + 1 := ⟨n - 1, by omega⟩
  exact h.sub h' (less_sub hl hk)
/-- A number is on the list of those for which p holds. -/
theorem dy_has (p : Nat → Bool) : ∀ n k, k < n → p k = true → ∃ j, j < (dy p n).length ∧ (dy p n).getD j 0 = (k : Int)
  | n + 1, k, hk, hp => by
    rw [dy]
    by_cases e : k = n
    · subst e
      rw [if_pos hp]
      refine ⟨(dy p k).length, by simp, ?_⟩
      rw [List.getD_eq_getElem?_getD, List.getElem?_append_right (Nat.le_refl _)]
      simp
    · obtain ⟨j, hj, e2⟩ := dy_has p n k (by omega) hp
      split
      · refine ⟨j, by simp; omega, ?_⟩
        rw [List.getD_eq_getElem?_getD, List.getElem?_append_left hj, ← List.getD_eq_getElem?_getD]
        exact e2
      · exact ⟨j, hj, e2⟩
theorem dy_on {q : Nat → Bool} {u : Int} (h0 : 0 ≤ u) (h8 : u < 8) : (∃ j, j < (dy q 8).length ∧ (dy q 8).getD j 0 = u) ↔ q u.toNat = true := by
  constructor
  · rintro ⟨j, hj, e⟩
    obtain ⟨k, hk, e2, hp⟩ := dy_at q hj
    rw [e] at e2
    rw [e2]
    exact hp
  · intro h
    obtain ⟨j, hj, e⟩ := dy_has q 8 u.toNat (by omega) h
    exact ⟨j, hj, by rw [e]; omega⟩
/-- What leaves each of the first k places, added. -/
def OU (zs : List Int) (n : Nat) (p : Nat) : Int := outs (pF zs) (pW zs) (p : Int) n
def SO (zs : List Int) (n k : Nat) : Int := sm (OU zs n) k
def AW (zs : List Int) (k : Nat) : Int := sm (pW zs) k
theorem SO_succ (zs : List Int) (n k : Nat) : SO zs n (k + 1) = SO zs n k + OU zs n k := rfl
theorem AW_succ (zs : List Int) (k : Nat) : AW zs (k + 1) = AW zs k + pW zs k := rfl
theorem OU_bd {P : Int} {n : Nat} {zs : List Int} (ok : NO P n zs) (p : Nat) : 0 ≤ OU zs n p ∧ OU zs n p ≤ 20000 := by
  have := outs_bd (F := pF zs) (W := pW zs) (p := (p : Int)) n (fun j hj => by have := (ok.2.2.2 j hj).2.2.2; omega)
  have h := ok.2.2.1
  unfold OU
  omega
theorem SO_bd {P : Int} {n : Nat} {zs : List Int} (ok : NO P n zs) (k : Nat) : 0 ≤ SO zs n k ∧ SO zs n k ≤ 20000 * k := by
  have := sm_bd (f := OU zs n) (a := 0) (b := 20000) k (fun j _ => OU_bd ok j)
  unfold SO
  omega
theorem AW_bd {P : Int} {n : Nat} {zs : List Int} (ok : NO P n zs) (k : Nat) (hk : k ≤ n) : 0 ≤ AW zs k ∧ AW zs k ≤ 1000 * k := by
  have := sm_bd (f := pW zs) (a := 0) (b := 1000) k (fun j hj => by have := (ok.2.2.2 j (by omega)).2.2.2; omega)
  unfold AW
  omega
theorem SO_all {P : Nat} {n : Nat} {zs : List Int} (ok : NO (P : Int) n zs) : SO zs n P = AW zs n :=
  outs_all (F := pF zs) (W := pW zs) n (fun j hj => by have := (ok.2.2.2 j hj).1; omega)
theorem sm_ext {f g : Nat → Int} : ∀ n, (∀ k, k < n → f k = g k) → sm f n = sm g n
  | 0, _ => rfl
  | n + 1, h => by rw [sm, sm, sm_ext n fun k hk => h k (by omega), h n (by omega)]
theorem AW_turned (zs : List Int) (n : Nat) : AW (turned zs n) n = AW zs n := sm_ext n fun _ hk => (turned_get zs hk).2.2
theorem out_ge {P : Int} {n : Nat} {zs : List Int} {a b x : Int} (ok : NO P n zs) (hab : b ≠ a) (h : Wide (pF zs) (pT zs) (pW zs) n a b x) : x ≤ outs (pF zs) (pW zs) a n := by
  have hw : ∀ j, j < n → 0 ≤ pW zs j ∧ pW zs j ≤ 1000 := fun j hj => by have := (ok.2.2.2 j hj).2.2.2; omega
  rcases h.le_pipe hab with e | ⟨k, hk, e, hx⟩
  · have := (outs_bd (F := pF zs) (W := pW zs) (p := a) n hw).1
    omega
  · have := outs_ge (F := pF zs) (W := pW zs) (p := a) n hw k hk e
    omega
theorem rch_one {F T W : Nat → Int} {m : Nat} {a v : Int} (hW : ∀ k, k < m → 1 ≤ W k) : Rch F T W m 0 a v ↔ Rch F T W m 1 a v :=
  ⟨fun h => by
    induction h with
    | base => exact .base
    | step k hk _ _ ih => exact .step k hk (hW k hk) ih, fun h => h.mono (by omega)⟩
end Go.Proofs.Ytilabfmnaegidaa.nt
