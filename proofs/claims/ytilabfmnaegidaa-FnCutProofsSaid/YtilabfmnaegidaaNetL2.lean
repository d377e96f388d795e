/- Nets of pipes as flat lists (From, To, Width, a pipe after the other): turned, with a pipe left out; what leaves each place. -/
import Derived.Test.YtilabfmnaegidaaNetL
namespace Go.Proofs.Ytilabfmnaegidaa.net
open Go.Proofs.Ytilabfmnaegidaa.yrl
def pF (zs : List Int) (k : Nat) : Int := zs.getD (k * 3) 0
def pT (zs : List Int) (k : Nat) : Int := zs.getD (k * 3 + 1) 0
def pW (zs : List Int) (k : Nat) : Int := zs.getD (k * 3 + 2) 0
/-- The flat list of m pipes. -/
def fl (F T W : Nat → Int) : Nat → List Int
  | 0 => []
  | m + 1 => fl F T W m ++ [F m, T m, W m]
section
variable {F T W F' T' W' : Nat → Int} {m : Nat}
theorem fl_len (F T W : Nat → Int) : ∀ m, (fl F T W m).length = m * 3
  | 0 => rfl
  | m + 1 => by rw [fl, List.length_append, fl_len F T W m]; simp; omega
theorem fl_congr : ∀ m, (∀ k, k < m → F k = F' k ∧ T k = T' k ∧ W k = W' k) → fl F T W m = fl F' T' W' m
  | 0, _ => rfl
  | m + 1, h => by
    obtain ⟨h1, h2, h3⟩ := h m (by omega)
    rw [fl, fl, fl_congr m fun k hk => h k (by omega), h1, h2, h3]
theorem fl_get (F T W : Nat → Int) : ∀ m {k : Nat}, k < m → pF (fl F T W m) k = F k ∧ pT (fl F T W m) k = T k ∧ pW (fl F T W m) k = W k
  | m + 1, k, hk => by
    have hl := fl_len F T W m
    rcases (show k < m ∨ k = m from by omega) with h | rfl
    · obtain ⟨h1, h2, h3⟩ := fl_get F T W m h
      unfold pF pT pW at *
      simp only [fl, List.getD_eq_getElem?_getD] at *
      rw [List.getElem?_append_left (by omega), List.getElem?_append_left (by omega), List.getElem?_append_left (by omega)]
      exact ⟨h1, h2, h3⟩
    · unfold pF pT pW
      simp only [fl, List.getD_eq_getElem?_getD]
      rw [List.getElem?_append_right (by omega), List.getElem?_append_right (by omega), List.getElem?_append_right (by omega), hl]
      refine ⟨?_, ?_, ?_⟩
      · rw [show k * 3 - k * 3 = 0 by omega]; rfl
      · rw [show k * 3 + 1 - k * 3 = 1 by omega]; rfl
      · rw [show k * 3 + 2 - k * 3 = 2 by omega]; rfl
/-- Every list of that length is such a list. -/
theorem fl_of : ∀ (m : Nat) (zs : List Int), zs.length = m * 3 → zs = fl (pF zs) (pT zs) (pW zs) m
  | 0, zs, h => List.eq_nil_of_length_eq_zero (by omega)
  | m + 1, zs, h => by
    have e0 : (zs.take (m * 3)).length = m * 3 := by rw [List.length_take]; omega
    have ih := fl_of m (zs.take (m * 3)) e0
    have hd : ∀ j, j < m * 3 → (zs.take (m * 3)).getD j 0 = zs.getD j 0 := fun j hj => by
      simp only [List.getD_eq_getElem?_getD]
      rw [List.getElem?_take_of_lt hj]
    have e1 : fl (pF (zs.take (m * 3))) (pT (zs.take (m * 3))) (pW (zs.take (m * 3))) m = fl (pF zs) (pT zs) (pW zs) m :=
      fl_congr m fun k hk => ⟨hd _ (by omega), hd _ (by omega), hd _ (by omega)⟩
    rw [fl, ← e1, ← ih]
    have e2 : zs.drop (m * 3) = [pF zs m, pT zs m, pW zs m] := by
      have hl : (zs.drop (m * 3)).length = 3 := by rw [List.length_drop]; omega
      refine List.ext_getElem (by simpa using hl) fun i h1 h2 => ?_
      simp only [List.getElem_drop]
      have hi : i < 3 := by simpa using h2
      rcases (show i = 0 ∨ i = 1 ∨ i = 2 from by omega) with rfl | rfl | rfl
      · show zs[m * 3 + 0] = zs.getD (m * 3) 0
        rw [List.getD_eq_getElem?_getD, List.getElem?_eq_getElem (by omega)]; rfl
      · show zs[m * 3 + 1] = zs.getD (m * 3 + 1) 0
        rw [List.getD_eq_getElem?_getD, List.getElem?_eq_getElem (by omega)]; rfl
      · show zs[m * 3 + 2] = zs.getD (m * 3 + 2) 0
        rw [List.getD_eq_getElem?_getD, List.getElem?_eq_getElem (by omega)]; rfl
    rw [← e2, List.take_append_drop]
theorem fl_ext {zs ys : List Int} (hz : zs.length = m * 3) (hy : ys.length = m * 3) (h : ∀ k, k < m → pF zs k = pF ys k ∧ pT zs k = pT ys k ∧ pW zs k = pW ys k) : zs = ys := by
  rw [fl_of m zs hz, fl_of m ys hy]
  exact fl_congr m h
/-- The first k pipes turned, the others as they are. -/
def half (zs : List Int) (m k : Nat) : List Int := fl (fun j => if j < k then pT zs j else pF zs j) (fun j => if j < k then pF zs j else pT zs j) (pW zs) m
/-- The net turned. -/
def turned (zs : List Int) (m : Nat) : List Int := fl (pT zs) (pF zs) (pW zs) m
theorem half_zero {zs : List Int} (h : zs.length = m * 3) : half zs m 0 = zs := by
  unfold half
  exact (fl_congr m fun k _ => by simp).trans (fl_of m zs h).symm
theorem half_full (zs : List Int) (m : Nat) : half zs m m = turned zs m := by
  unfold half turned
  exact fl_congr m fun k hk => by simp [hk]
theorem half_len (zs : List Int) (m k : Nat) : (half zs m k).length = m * 3 := fl_len _ _ _ m
theorem turned_len (zs : List Int) (m : Nat) : (turned zs m).length = m * 3 := fl_len _ _ _ m
theorem half_at (zs : List Int) {m k : Nat} (h : k < m) : pF (half zs m k) k = pF zs k ∧ pT (half zs m k) k = pT zs k ∧ pW (half zs m k) k = pW zs k := by
  have g := fl_get (fun j => if j < k then pT zs j else pF zs j) (fun j => if j < k then pF zs j else pT zs j) (pW zs) m h
  simpa [half] using g
/-- Two stores turn the next pipe. -/
theorem half_succ (zs : List Int) {m k : Nat} (h : k < m) : ((half zs m k).set (k * 3) (pT zs k)).set (k * 3 + 1) (pF zs k) = half zs m (k + 1) := by
  refine fl_ext (m := m) (by simp [half_len]) (half_len _ _ _) fun j hj => ?_
  have g1 := fl_get (fun j => if j < k then pT zs j else pF zs j) (fun j => if j < k then pF zs j else pT zs j) (pW zs) m hj
  have g2 := fl_get (fun j => if j < k + 1 then pT zs j else pF zs j) (fun j => if j < k + 1 then pF zs j else pT zs j) (pW zs) m hj
  have hl := half_len zs m k
  unfold half at hl ⊢
  rw [g2.1, g2.2.1, g2.2.2]
  unfold pF pT pW at *
  simp only [List.getD_eq_getElem?_getD, List.getElem?_set, List.length_set] at *
  rcases (show j < k ∨ j = k ∨ k < j from by omega) with e | rfl | e
  · simp only [show ¬ k * 3 + 1 = j * 3 by omega, show ¬ k * 3 = j * 3 by omega, show ¬ k * 3 + 1 = j * 3 + 1 by omega, show ¬ k * 3 = j * 3 + 1 by omega, show ¬ k * 3 + 1 = j * 3 + 2 by omega, show ¬ k * 3 = j * 3 + 2 by omega, show j < k + 1 by omega, ↓reduceIte]
    simpa [e] using g1
  · simp only [show ¬ j * 3 + 1 = j * 3 by omega, show ¬ j * 3 + 1 = j * 3 + 2 by omega, show ¬ j * 3 = j * 3 + 2 by omega, show j < j + 1 by omega, hl, show j * 3 < m * 3 by omega, show j * 3 + 1 < m * 3 by omega, ↓reduceIte]
    exact ⟨rfl, rfl, g1.2.2⟩
  · simp only [show ¬ k * 3 + 1 = j * 3 by omega, show ¬ k * 3 = j * 3 by omega, show ¬ k * 3 + 1 = j * 3 + 1 by omega, show ¬ k * 3 = j * 3 + 1 by omega, show ¬ k * 3 + 1 = j * 3 + 2 by omega, show ¬ k * 3 = j * 3 + 2 by omega, show ¬ j < k + 1 by omega, ↓reduceIte]
    simpa [show ¬ j < k by omega] using g1
/-- Without pipe i. -/
def less (zs : List Int) (i : Nat) : List Int := zs.take (i * 3) ++ zs.drop ((i + 1) * 3)
theorem less_len {zs : List Int} {i : Nat} (h : zs.length = (m + 1) * 3) (hi : i < m + 1) : (less zs i).length = m * 3 := by
  simp [less]
  omega
theorem less_at {zs : List Int} {i j : Nat} (h : zs.length = (m + 1) * 3) (hi : i < m + 1) :
    pF (less zs i) j = pF zs (if j < i then j else j + 1) ∧ pT (less zs i) j = pT zs (if j < i then j else j + 1) ∧ pW (less zs i) j = pW zs (if j < i then j else j + 1) := by
  have hl : (zs.take (i * 3)).length = i * 3 := by rw [List.length_take]; omega
  unfold pF pT pW less
  simp only [List.getD_eq_getElem?_getD]
  split
  · rw [List.getElem?_append_left (by omega), List.getElem?_append_left (by omega), List.getElem?_append_left (by omega), List.getElem?_take_of_lt (by omega), List.getElem?_take_of_lt (by omega), List.getElem?_take_of_lt (by omega)]
    exact ⟨rfl, rfl, rfl⟩
  · rw [List.getElem?_append_right (by omega), List.getElem?_append_right (by omega), List.getElem?_append_right (by omega), hl, List.getElem?_drop, List.getElem?_drop, List.getElem?_drop]
    rw [show (i + 1) * 3 + (j * 3 - i * 3) = (j + 1) * 3 by omega, show (i + 1) * 3 + (j * 3 + 1 - i * 3) = (j + 1) * 3 + 1 by omega, show (i + 1) * 3 + (j * 3 + 2 - i * 3) = (j + 1) * 3 + 2 by omega]
    exact ⟨rfl, rfl, rfl⟩
theorem less_sub {zs : List Int} {i : Nat} (h : zs.length = (m + 1) * 3) (hi : i < m + 1) : ∀ j, j < m → ∃ k, k < m + 1 ∧ pF zs k = pF (less zs i) j ∧ pT zs k = pT (less zs i) j ∧ pW (less zs i) j ≤ pW zs k := fun j hj => by
  obtain ⟨h1, h2, h3⟩ := less_at h hi (j := j)
  exact ⟨_, by split <;> omega, h1.symm, h2.symm, by rw [h3]; exact Int.le_refl _⟩
/-- What leaves a place, of the first k pipes. -/
def outs (F W : Nat → Int) (p : Int) : Nat → Int
  | 0 => 0
  | k + 1 => outs F W p k + if F k = p then W k else 0
theorem outs_bd {p : Int} : ∀ k, (∀ j, j < k → 0 ≤ W j ∧ W j ≤ 1000) → 0 ≤ outs F W p k ∧ outs F W p k ≤ 1000 * k
  | 0, _ => by simp [outs]
  | k + 1, h => by
    have ih := outs_bd k (p := p) fun j hj => h j (by omega)
    have := h k (by omega)
    rw [outs]
    split <;> omega
theorem outs_ge {p : Int} : ∀ k, (∀ j, j < k → 0 ≤ W j ∧ W j ≤ 1000) → ∀ j, j < k → F j = p → W j ≤ outs F W p k
  | k + 1, h, j, hj, e => by
    have hb := outs_bd (F := F) (p := p) k fun j hj => h j (by omega)
    have hw := h k (by omega)
    rw [outs]
    by_cases ej : j = k
    · subst ej
      rw [if_pos e]; omega
    · have ih := outs_ge k (fun j hj => h j (by omega)) j (by omega) e
      split <;> omega
theorem outs_congr {p : Int} : ∀ k, (∀ j, j < k → F j = F' j ∧ W j = W' j) → outs F W p k = outs F' W' p k
  | 0, _ => rfl
  | k + 1, h => by
    obtain ⟨h1, h2⟩ := h k (by omega)
    rw [outs, outs, outs_congr k fun j hj => h j (by omega), h1, h2]
theorem sm_add (f g : Nat → Int) : ∀ n, sm (fun j => f j + g j) n = sm f n + sm g n
  | 0 => rfl
  | n + 1 => by rw [sm, sm, sm, sm_add f g n]; omega
theorem sm_one (x : Int) {q : Nat} : ∀ n, sm (fun j : Nat => if (q : Int) = (j : Int) then x else 0) n = if q < n then x else 0
  | 0 => by simp [sm]
  | n + 1 => by
    rw [sm, sm_one x n]
    by_cases e : q = n
    · subst e; simp
    · rw [if_neg (show ¬ (q : Int) = (n : Int) by omega)]
      split <;> split <;> omega
/-- All that leaves all places together is all there is. -/
theorem outs_all {P : Nat} : ∀ k, (∀ j, j < k → 0 ≤ F j ∧ F j < P) → sm (fun p => outs F W (p : Int) k) P = sm W k
  | 0, _ => by
    have : ∀ n, sm (fun _ => (0 : Int)) n = 0 := fun n => by
      induction n with
      | zero => rfl
      | succ n ih => rw [sm, ih]; rfl
    simpa [outs, sm] using this P
  | k + 1, h => by
    have ih := outs_all k (P := P) fun j hj => h j (by omega)
    have hk := h k (by omega)
    have e : ∀ p : Nat, outs F W (p : Int) (k + 1) = outs F W (p : Int) k + (if ((F k).toNat : Int) = (p : Int) then W k else 0) := fun p => by
      rw [outs, show ((F k).toNat : Int) = F k by omega]
    rw [show (fun p : Nat => outs F W (p : Int) (k + 1)) = fun p : Nat => outs F W (p : Int) k + (if ((F k).toNat : Int) = (p : Int) then W k else 0) from funext e, sm_add, ih, sm_one, if_pos (by omega), sm]
end
end Go.Proofs.Ytilabfmnaegidaa.net
