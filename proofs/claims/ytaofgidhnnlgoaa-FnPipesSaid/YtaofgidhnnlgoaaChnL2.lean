/- Chains of overflows: what is poured along a way: plain lists. -/
import Derived.Test.YtaofgidhnnlgoaaChnL
namespace Go.Proofs.Ytaofgidhnnlgoaa.chl
open Go.Proofs.Ytaofgidhnnlgoaa.cis
theorem getD_set (l : List Int) (i j : Nat) (v : Int) : (l.set i v).getD j 0 = if i = j ∧ i < l.length then v else l.getD j 0 := by
  rw [List.getD_eq_getElem?_getD, List.getElem?_set, List.getD_eq_getElem?_getD]
  by_cases e : i = j
  · subst e
    by_cases h : i < l.length
    · simp [h]
    · simp [h]
  · simp [e]
theorem getD_set_ne {l : List Int} {i j : Nat} {v : Int} (h : i ≠ j) : (l.set i v).getD j 0 = l.getD j 0 := by
  rw [getD_set, if_neg (fun e => h e.1)]
theorem getD_set_eq {l : List Int} {i : Nat} {v : Int} (h : i < l.length) : (l.set i v).getD i 0 = v := by
  rw [getD_set, if_pos ⟨rfl, h⟩]
theorem tl_set {l : List Int} {j : Nat} {d : Int} : ∀ n, n * 2 ≤ l.length → tl (l.set (j * 2 + 1) (l.getD (j * 2 + 1) 0 + d)) n = tl l n + if j < n then d else 0
  | 0, _ => by simp [tl]
  | n + 1, h => by
    have ih := tl_set (l := l) (j := j) (d := d) n (by omega)
    show tl (l.set (j * 2 + 1) (l.getD (j * 2 + 1) 0 + d)) n + (l.set (j * 2 + 1) (l.getD (j * 2 + 1) 0 + d)).getD (n * 2 + 1) 0 = tl l n + l.getD (n * 2 + 1) 0 + if j < n + 1 then d else 0
    rw [ih]
    by_cases e : j = n
    · subst e
      have hq : (l.set (j * 2 + 1) (l.getD (j * 2 + 1) 0 + d)).getD (j * 2 + 1) 0 = l.getD (j * 2 + 1) 0 + d := getD_set_eq (by omega)
      rw [hq, if_neg (by omega), if_pos (by omega)]
      omega
    · rw [getD_set_ne (by omega)]
      by_cases h1 : j < n
      · rw [if_pos h1, if_pos (by omega)]; omega
      · rw [if_neg h1, if_neg (by omega)]; omega
/-- The water that is left after i places of the way. -/
def U (zs ns : List Int) (n : Nat) (k x : Int) (i : Nat) : Int := if room zs ns n k i ≤ x then x - room zs ns n k i else 0
section
variable {zs ns : List Int} {n m : Nat} {k x : Int} {M : Nat}
theorem pst_succ (i : Nat) : pst ns n k zs x (i + 1) =
    ((pst ns n k zs x i).1.set ((it ns n k i).toNat * 2 + 1) ((pst ns n k zs x i).1.getD ((it ns n k i).toNat * 2 + 1) 0 + mn (pst ns n k zs x i).2 (sp (pst ns n k zs x i).1 (it ns n k i))),
      (pst ns n k zs x i).2 - mn (pst ns n k zs x i).2 (sp (pst ns n k zs x i).1 (it ns n k i))) := rfl
theorem pst_len : ∀ i, (pst ns n k zs x i).1.length = zs.length
  | 0 => rfl
  | i + 1 => by rw [pst_succ]; simp [pst_len i]
theorem pst_room (j : Nat) : ∀ i, (pst ns n k zs x i).1.getD (j * 2) 0 = zs.getD (j * 2) 0
  | 0 => rfl
  | i + 1 => by rw [pst_succ]; exact (getD_set_ne (by omega)).trans (pst_room j i)
theorem pst_out (j : Nat) : ∀ i, (∀ a, a < i → (it ns n k a).toNat ≠ j) → (pst ns n k zs x i).1.getD (j * 2 + 1) 0 = zs.getD (j * 2 + 1) 0
  | 0, _ => rfl
  | i + 1, h => by
    rw [pst_succ]
    exact (getD_set_ne (by have := h i (by omega); omega)).trans (pst_out j i fun a ha => h a (by omega))
theorem Leads.nat (hE : Leads ns n k M) {a b : Nat} (hab : a < b) (hb : b < M) : (it ns n k a).toNat ≠ (it ns n k b).toNat := by
  have h1 := (hE.1 a (by omega)).1
  have h2 := (hE.1 b hb).1
  have := hE.apart hab hb
  omega
theorem pst_sp (hE : Leads ns n k M) {i : Nat} (hi : i < M) : sp (pst ns n k zs x i).1 (it ns n k i) = sp zs (it ns n k i) := by
  unfold sp
  rw [pst_room, pst_out _ _ fun a ha => hE.nat ha hi]
theorem U_zero (hx : 0 ≤ x) : U zs ns n k x 0 = x := by
  show (if (0 : Int) ≤ x then x - 0 else 0) = x
  rw [if_pos hx]; omega
theorem U_bd {i : Nat} (hx : 0 ≤ x) (hr : 0 ≤ room zs ns n k i) : 0 ≤ U zs ns n k x i ∧ U zs ns n k x i ≤ x := by
  unfold U; split <;> omega
theorem U_succ (i : Nat) (h0 : 0 ≤ sp zs (it ns n k i)) : U zs ns n k x (i + 1) = U zs ns n k x i - mn (U zs ns n k x i) (sp zs (it ns n k i)) := by
  have e : room zs ns n k (i + 1) = room zs ns n k i + sp zs (it ns n k i) := rfl
  unfold U mn
  rw [e]
  by_cases h1 : room zs ns n k i ≤ x
  · rw [if_pos h1]
    by_cases h2 : x - room zs ns n k i ≤ sp zs (it ns n k i)
    · rw [if_pos h2]
      split <;> omega
    · rw [if_neg h2, if_pos (by omega)]
      omega
  · rw [if_neg h1, if_pos h0, if_neg (by omega)]
    omega
theorem pst_water (hE : Leads ns n k M) (hV : Valid zs n) (hx : 0 ≤ x) : ∀ i, i ≤ M → (pst ns n k zs x i).2 = U zs ns n k x i
  | 0, _ => (U_zero hx).symm
  | i + 1, hi => by
    rw [pst_succ, U_succ i (sp_bd hV (hE.1 i (by omega))).1]
    show (pst ns n k zs x i).2 - _ = _
    rw [pst_sp hE (by omega), pst_water hE hV hx i (by omega)]
theorem U_le (hE : Leads ns n k M) (hV : Valid zs n) (hx : 0 ≤ x) {i : Nat} (hi : i ≤ M) : 0 ≤ U zs ns n k x i ∧ U zs ns n k x i ≤ x :=
  U_bd hx (room_bd hV (fun j hj => hE.1 j hj) i hi).1
theorem pst_in (hE : Leads ns n k M) (hV : Valid zs n) (hx : 0 ≤ x) (hl : zs.length = n * 2) {a : Nat} : ∀ i, a < i → i ≤ M →
    (pst ns n k zs x i).1.getD ((it ns n k a).toNat * 2 + 1) 0 = zs.getD ((it ns n k a).toNat * 2 + 1) 0 + (U zs ns n k x a - U zs ns n k x (a + 1))
  | 0, h, _ => by omega
  | i + 1, ha, hi => by
    rw [pst_succ]
    by_cases e : a = i
    · subst e
      have h1 := (hE.1 a (by omega)).1
      have h2 := (hE.1 a (by omega)).2
      have := getD_set_eq (l := (pst ns n k zs x a).1) (i := (it ns n k a).toNat * 2 + 1) (v := (pst ns n k zs x a).1.getD ((it ns n k a).toNat * 2 + 1) 0 + mn (pst ns n k zs x a).2 (sp (pst ns n k zs x a).1 (it ns n k a))) (by rw [pst_len, hl]; omega)
      refine this.trans ?_
      rw [pst_out _ _ fun b hb => hE.nat hb (by omega), pst_sp hE (by omega), pst_water hE hV hx a (by omega), U_succ a (sp_bd hV (hE.1 a (by omega))).1]
      omega
    · exact (getD_set_ne (by have := hE.nat (show a < i by omega) (by omega); omega)).trans (pst_in hE hV hx hl i (by omega) (by omega))
/-- What is poured into the cistern at place a of the way. -/
theorem U_diff (hE : Leads ns n k M) (hV : Valid zs n) (hx : 0 ≤ x) {a : Nat} (ha : a < M) : 0 ≤ U zs ns n k x a - U zs ns n k x (a + 1) ∧ U zs ns n k x a - U zs ns n k x (a + 1) ≤ sp zs (it ns n k a) := by
  have h0 := (sp_bd hV (hE.1 a ha)).1
  have h1 := U_le hE hV hx (show a ≤ M by omega)
  rw [U_succ a h0]
  unfold mn
  split <;> omega
theorem pst_lvl (hE : Leads ns n k M) (hV : Valid zs n) (hx : 0 ≤ x) (hl : zs.length = n * 2) (i : Nat) (hi : i ≤ M) (j : Nat) (hj : j < n) :
    zs.getD (j * 2 + 1) 0 ≤ (pst ns n k zs x i).1.getD (j * 2 + 1) 0 ∧ (pst ns n k zs x i).1.getD (j * 2 + 1) 0 ≤ zs.getD (j * 2) 0 := by
  obtain ⟨h1, h2, h3, h4⟩ := hV j hj
  by_cases h : ∃ a, a < i ∧ (it ns n k a).toNat = j
  · obtain ⟨a, ha, rfl⟩ := h
    rw [pst_in hE hV hx hl i ha hi]
    have hd := U_diff hE hV hx (show a < M by omega)
    unfold sp at hd
    omega
  · rw [pst_out _ _ fun a ha e => h ⟨a, ha, e⟩]
    omega
theorem pst_valid (hE : Leads ns n k M) (hV : Valid zs n) (hx : 0 ≤ x) (hl : zs.length = n * 2) (i : Nat) (hi : i ≤ M) : Valid (pst ns n k zs x i).1 n := fun j hj => by
  have h := pst_lvl hE hV hx hl i hi j hj
  obtain ⟨h1, h2, h3, h4⟩ := hV j hj
  rw [pst_room]
  exact ⟨h1, h2, by omega, h.2⟩
theorem pst_tl (hE : Leads ns n k M) (hl : zs.length = n * 2) : ∀ i, i ≤ M → tl (pst ns n k zs x i).1 n + (pst ns n k zs x i).2 = tl zs n + x
  | 0, _ => rfl
  | i + 1, hi => by
    have ih := pst_tl hE hl i (by omega)
    obtain ⟨h1, h2⟩ := hE.1 i (by omega)
    rw [pst_succ]
    show tl (List.set _ _ _) n + _ = _
    rw [tl_set n (by rw [pst_len]; omega), if_pos (by omega)]
    omega
/-- Where something is poured, the cistern before is full. -/
theorem pst_full (hE : Leads ns n k M) (hV : Valid zs n) (hx : 0 ≤ x) (hl : zs.length = n * 2) {a : Nat} (ha : a + 1 < M)
    (h : zs.getD ((it ns n k (a + 1)).toNat * 2 + 1) 0 < (pst ns n k zs x M).1.getD ((it ns n k (a + 1)).toNat * 2 + 1) 0) :
    (pst ns n k zs x M).1.getD ((it ns n k a).toNat * 2 + 1) 0 = (pst ns n k zs x M).1.getD ((it ns n k a).toNat * 2) 0 := by
  rw [pst_in hE hV hx hl M (by omega) (Nat.le_refl _)] at h
  rw [pst_in hE hV hx hl M (by omega) (Nat.le_refl _), pst_room]
  have h0 := (sp_bd hV (hE.1 a (by omega))).1
  have h1 := U_le hE hV hx (show a + 1 + 1 ≤ M by omega)
  have h2 := U_le hE hV hx (show a ≤ M by omega)
  have e := U_succ (x := x) a h0
  rw [e] at h ⊢
  have hs : sp zs (it ns n k a) = zs.getD ((it ns n k a).toNat * 2) 0 - zs.getD ((it ns n k a).toNat * 2 + 1) 0 := rfl
  unfold mn at h ⊢
  by_cases hc : U zs ns n k x a ≤ sp zs (it ns n k a)
  · rw [if_pos hc] at h; omega
  · rw [if_neg hc]; omega
theorem CO.poured (ok : CO zs n ns m) (hE : Leads ns n k M) (hx : 0 ≤ x) (hl : zs.length = n * 2) : CO (pst ns n k zs x M).1 n ns m :=
  ⟨ok.1, ok.2.1, ok.2.2.1, pst_valid hE ok.2.2.2.1 hx hl M (Nat.le_refl _), ok.2.2.2.2.1, ok.2.2.2.2.2⟩
end
end Go.Proofs.Ytaofgidhnnlgoaa.chl
