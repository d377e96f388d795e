/- Nets of pipes: what water reaches, along pipes of at least a width; the widest way: plain functions. -/
import Derived.Test.YtilabfmnaegidaaBase
namespace Go.Proofs.Ytilabfmnaegidaa.net
/-- Water from a reaches a place along pipes that are all at least x wide. -/
inductive Rch (F T W : Nat → Int) (m : Nat) (x a : Int) : Int → Prop
  | base : Rch F T W m x a a
  | step (k : Nat) : k < m → x ≤ W k → Rch F T W m x a (F k) → Rch F T W m x a (T k)
section
variable {F T W F' T' W' : Nat → Int} {m m' : Nat} {x y a b u v : Int}
theorem Rch.mono (h : Rch F T W m y a v) (hx : x ≤ y) : Rch F T W m x a v := by
  induction h with
  | base => exact .base
  | step k hk hw _ ih => exact .step k hk (by omega) ih
/-- Every pipe of the one net is a pipe of the other. -/
theorem Rch.sub (h : Rch F' T' W' m' x a v) (hs : ∀ j, j < m' → ∃ i, i < m ∧ F i = F' j ∧ T i = T' j ∧ W' j ≤ W i) : Rch F T W m x a v := by
  induction h with
  | base => exact .base
  | step j hj hw _ ih =>
    obtain ⟨i, hi, e1, e2, e3⟩ := hs j hj
    rw [← e2]
    exact .step i hi (by omega) (by rw [e1]; exact ih)
theorem Rch.congr (h : Rch F T W m x a v) (hF : ∀ k, k < m → F k = F' k) (hT : ∀ k, k < m → T k = T' k) (hW : ∀ k, k < m → W k = W' k) : Rch F' T' W' m x a v :=
  h.sub fun j hj => ⟨j, hj, (hF j hj).symm, (hT j hj).symm, by rw [hW j hj]; exact Int.le_refl _⟩
theorem Rch.trans (h : Rch F T W m x a u) (g : Rch F T W m x u v) : Rch F T W m x a v := by
  induction g with
  | base => exact h
  | step k hk hw _ ih => exact .step k hk hw ih
/-- A net that is turned leads back. -/
theorem Rch.turn (h : Rch F T W m x a b) : Rch T F W m x b a := by
  induction h with
  | base => exact .base
  | step k hk hw _ ih => exact Rch.trans (.step k hk hw .base) ih
/-- A way is as wide as its narrowest pipe. -/
theorem Rch.wide (h : Rch F T W m x a v) : v = a ∨ ∃ k, k < m ∧ x ≤ W k ∧ Rch F T W m (W k) a v := by
  induction h with
  | base => exact .inl rfl
  | step k hk hw _ ih =>
    refine .inr ?_
    rcases ih with e | ⟨j, hj, hjw, hr⟩
    · exact ⟨k, hk, hw, .step k hk (Int.le_refl _) (by rw [e]; exact .base)⟩
    · by_cases hle : W j ≤ W k
      · exact ⟨j, hj, hjw, .step k hk hle hr⟩
      · exact ⟨k, hk, hw, .step k hk (Int.le_refl _) (hr.mono (by omega))⟩
/-- What is reached is the place itself or begins with a pipe from it. -/
theorem Rch.out (h : Rch F T W m x a v) : v = a ∨ ∃ k, k < m ∧ F k = a ∧ x ≤ W k := by
  induction h with
  | base => exact .inl rfl
  | step k hk hw _ ih =>
    rcases ih with e | h
    · exact .inr ⟨k, hk, e, hw⟩
    · exact .inr h
theorem Rch.place {P : Int} (h : Rch F T W m x a v) (ha : 0 ≤ a ∧ a < P) (hT : ∀ k, k < m → 0 ≤ T k ∧ T k < P) : 0 ≤ v ∧ v < P := by
  cases h with
  | base => exact ha
  | step k hk _ _ => exact hT k hk
/-- A set that is closed along the pipes and holds the start holds all that is reached. -/
theorem Rch.closed {p : Int → Prop} (h : Rch F T W m x a v) (ha : p a) (hs : ∀ k, k < m → x ≤ W k → p (F k) → p (T k)) : p v := by
  induction h with
  | base => exact ha
  | step k hk hw _ ih => exact hs k hk hw ih
/-- The widest way: the answer. -/
def Wide (F T W : Nat → Int) (m : Nat) (a b x : Int) : Prop := 0 ≤ x ∧ (x = 0 ∨ Rch F T W m x a b) ∧ ∀ y, x < y → ¬ Rch F T W m y a b
theorem Wide.uniq (h : Wide F T W m a b x) (h' : Wide F T W m a b y) : x = y := by
  rcases Int.lt_trichotomy x y with e | e | e
  · rcases h'.2.1 with h0 | h0
    · have := h.1; omega
    · exact (h.2.2 y e h0).elim
  · exact e
  · rcases h.2.1 with h0 | h0
    · have := h'.1; omega
    · exact (h'.2.2 x e h0).elim
/-- To look at the pipes' own widths is enough. -/
theorem Wide.of_pipes (hab : b ≠ a) (h0 : 0 ≤ x) (h1 : x = 0 ∨ Rch F T W m x a b) (h2 : ∀ k, k < m → Rch F T W m (W k) a b → W k ≤ x) : Wide F T W m a b x :=
  ⟨h0, h1, fun y hy h => by
    rcases h.wide with e | ⟨k, hk, hw, hr⟩
    · exact hab e
    · have := h2 k hk hr; omega⟩
theorem Wide.turn (h : Wide F T W m a b x) : Wide T F W m b a x := ⟨h.1, h.2.1.imp id Rch.turn, fun y hy g => h.2.2 y hy g.turn⟩
theorem Wide.pos (h : Wide F T W m a b x) (hw : ∀ k, k < m → 1 ≤ W k) (hab : b ≠ a) : 0 < x ↔ Rch F T W m 0 a b := by
  constructor
  · intro hx
    rcases h.2.1 with e | e
    · omega
    · exact e.mono (by omega)
  · intro g
    rcases g.wide with e | ⟨k, hk, _, hr⟩
    · exact absurd e hab
    · have h1 := hw k hk
      by_cases hx : 0 < x
      · exact hx
      · exact (h.2.2 (W k) (by have := h.1; omega) hr).elim
theorem Wide.sub (h : Wide F T W m a b x) (h' : Wide F' T' W' m' a b y) (hs : ∀ j, j < m' → ∃ i, i < m ∧ F i = F' j ∧ T i = T' j ∧ W' j ≤ W i) : y ≤ x := by
  by_cases hle : y ≤ x
  · exact hle
  · rcases h'.2.1 with e | e
    · have := h.1; omega
    · exact (h.2.2 y (by omega) (e.sub hs)).elim
theorem Wide.le_pipe (h : Wide F T W m a b x) (hab : b ≠ a) : x = 0 ∨ ∃ k, k < m ∧ F k = a ∧ x ≤ W k := by
  rcases h.2.1 with e | e
  · exact .inl e
  · rcases e.out with e | e
    · exact absurd e hab
    · exact .inr e
/-- There is a widest way: over the first pipes, the widest one whose width leads to the end. -/
theorem Wide.ex (hab : b ≠ a) : ∃ x, Wide F T W m a b x := by
  have key : ∀ n, n ≤ m → ∃ x, 0 ≤ x ∧ (x = 0 ∨ Rch F T W m x a b) ∧ ∀ k, k < n → Rch F T W m (W k) a b → W k ≤ x := by
    intro n
    induction n with
    | zero => exact fun _ => ⟨0, Int.le_refl _, .inl rfl, fun k hk => by omega⟩
    | succ n ih =>
      intro hn
      obtain ⟨x, h0, h1, h2⟩ := ih (by omega)
      by_cases hc : x < W n ∧ Rch F T W m (W n) a b
      · refine ⟨W n, by omega, .inr hc.2, fun k hk hr => ?_⟩
        by_cases e : k = n
        · exact e ▸ Int.le_refl _
        · have := h2 k (by omega) hr; omega
      · refine ⟨x, h0, h1, fun k hk hr => ?_⟩
        by_cases e : k = n
        · subst e
          by_cases hx : x < W k
          · exact absurd ⟨hx, hr⟩ hc
          · omega
        · exact h2 k (by omega) hr
  obtain ⟨x, h0, h1, h2⟩ := key m (Nat.le_refl _)
  exact ⟨x, .of_pipes hab h0 h1 h2⟩
end
/-! Searching by rounds: every pipe in order, as often as there are places. -/
open Classical in
/-- The set behind the first k pipes of a round. -/
noncomputable def sc (F T W : Nat → Int) (x : Int) (S : Int → Bool) : Nat → Int → Bool
  | 0 => S
  | k + 1 => if x ≤ W k ∧ sc F T W x S k (F k) = true then fun v => decide (v = T k) || sc F T W x S k v else sc F T W x S k
noncomputable def rnd (F T W : Nat → Int) (m : Nat) (x a : Int) : Nat → Int → Bool
  | 0 => fun v => decide (v = a)
  | r + 1 => sc F T W x (rnd F T W m x a r) m
section
variable {F T W : Nat → Int} {m : Nat} {x a : Int} {S : Int → Bool}
theorem sc_up : ∀ k v, S v = true → sc F T W x S k v = true
  | 0, v, h => h
  | k + 1, v, h => by
    have ih := sc_up k v h
    unfold sc
    split
    · simp [ih]
    · exact ih
theorem sc_le : ∀ k j v, k ≤ j → sc F T W x S k v = true → sc F T W x S j v = true := by
  intro k j v hkj h
  induction j with
  | zero => obtain rfl : k = 0 := by omega
            exact h
  | succ j ih =>
    by_cases e : k = j + 1
    · exact e ▸ h
    · have g := ih (by omega)
      rw [sc]
      split
      · simp [g]
      · exact g
theorem sc_sound (hS : ∀ v, S v = true → Rch F T W m x a v) : ∀ k, k ≤ m → ∀ v, sc F T W x S k v = true → Rch F T W m x a v
  | 0, _, v, h => hS v h
  | k + 1, hk, v, h => by
    have ih := sc_sound hS k (by omega)
    rw [sc] at h
    split at h
    · rename_i hc
      simp only [Bool.or_eq_true, decide_eq_true_eq] at h
      rcases h with rfl | h
      · exact .step k (by omega) hc.1 (ih _ hc.2)
      · exact ih v h
    · exact ih v h
theorem sc_take {k : Nat} (hk : k < m) (hw : x ≤ W k) (h : S (F k) = true) : sc F T W x S m (T k) = true := by
  refine sc_le (k + 1) m _ hk ?_
  rw [sc, if_pos ⟨hw, sc_up k _ h⟩]
  simp
theorem rnd_sound : ∀ r v, rnd F T W m x a r v = true → Rch F T W m x a v
  | 0, v, h => by
    have : v = a := by simpa [rnd] using h
    exact this ▸ .base
  | r + 1, v, h => sc_sound (rnd_sound r) m (Nat.le_refl _) v h
theorem rnd_up (r : Nat) (v : Int) (h : rnd F T W m x a r v = true) : rnd F T W m x a (r + 1) v = true := sc_up m v h
theorem rnd_le {r q : Nat} (h : r ≤ q) {v : Int} (hv : rnd F T W m x a r v = true) : rnd F T W m x a q v = true := by
  induction q with
  | zero => obtain rfl : r = 0 := by omega
            exact hv
  | succ q ih =>
    by_cases e : r = q + 1
    · exact e ▸ hv
    · exact rnd_up q v (ih (by omega))
/-- A round that adds nothing is the last. -/
theorem rnd_still {r : Nat} (hst : ∀ v, rnd F T W m x a (r + 1) v = true → rnd F T W m x a r v = true) {v : Int} (h : Rch F T W m x a v) : rnd F T W m x a r v = true :=
  h.closed (p := fun v => rnd F T W m x a r v = true) (rnd_le (Nat.zero_le _) (by simp [rnd])) fun k hk hw hp => hst _ (sc_take hk hw hp)
end
/-- How many of the places 0 .. n - 1 are in the set. -/
def cnt (S : Int → Bool) : Nat → Nat
  | 0 => 0
  | n + 1 => cnt S n + if S n = true then 1 else 0
theorem cnt_le (S : Int → Bool) : ∀ n, cnt S n ≤ n
  | 0 => Nat.le_refl _
  | n + 1 => by have := cnt_le S n; rw [cnt]; split <;> omega
theorem cnt_mono {S S' : Int → Bool} (h : ∀ v, S v = true → S' v = true) : ∀ n, cnt S n ≤ cnt S' n
  | 0 => Nat.le_refl _
  | n + 1 => by
    have ih := cnt_mono h n
    rw [cnt, cnt]
    by_cases e : S (n : Int) = true
    · rw [if_pos e, if_pos (h _ e)]; omega
    · rw [if_neg e]; split <;> omega
theorem cnt_lt {S S' : Int → Bool} (h : ∀ v, S v = true → S' v = true) {j : Nat} : ∀ n, j < n → S (j : Int) = false → S' (j : Int) = true → cnt S n < cnt S' n
  | n + 1, hj, h0, h1 => by
    rw [cnt, cnt]
    by_cases e : j = n
    · subst e
      have := cnt_mono h j
      rw [if_neg (by simp [h0]), if_pos h1]
      omega
    · have := cnt_lt h n (by omega) h0 h1
      by_cases e2 : S (n : Int) = true
      · rw [if_pos e2, if_pos (h _ e2)]; omega
      · rw [if_neg e2]; split <;> omega
section
variable {F T W : Nat → Int} {m : Nat} {x a : Int}
/-- As many rounds as there are places find all that is reached. -/
theorem rnd_full {P : Nat} (ha : 0 ≤ a ∧ a < P) (hT : ∀ k, k < m → 0 ≤ T k ∧ T k < P) {v : Int} (h : Rch F T W m x a v) : rnd F T W m x a P v = true := by
  by_cases hs : ∃ r, r < P ∧ ∀ v, rnd F T W m x a (r + 1) v = true → rnd F T W m x a r v = true
  · obtain ⟨r, hr, hst⟩ := hs
    exact rnd_le (Nat.le_of_lt hr) (rnd_still hst h)
  · exfalso
    have grow : ∀ r, r ≤ P → r + 1 ≤ cnt (rnd F T W m x a r) P := by
      intro r
      induction r with
      | zero =>
        intro _
        have h0 : cnt (fun _ => false) P < cnt (rnd F T W m x a 0) P := cnt_lt (j := a.toNat) (fun v h => by cases h) P (by omega) rfl (by simp [rnd]; omega)
        omega
      | succ r ih =>
        intro hr
        have g := ih (by omega)
        have hno : ¬ ∀ v, rnd F T W m x a (r + 1) v = true → rnd F T W m x a r v = true := fun h => hs ⟨r, by omega, h⟩
        obtain ⟨v, hv⟩ := Classical.not_forall.1 hno
        obtain ⟨hv1, hv2⟩ := Classical.not_imp.1 hv
        have hp := (rnd_sound (r + 1) v hv1).place ha hT
        have := cnt_lt (S := rnd F T W m x a r) (S' := rnd F T W m x a (r + 1)) (j := v.toNat) (rnd_up r) P (by omega) (by rw [show ((v.toNat : Nat) : Int) = v by omega]; simpa using hv2) (by rw [show ((v.toNat : Nat) : Int) = v by omega]; exact hv1)
        omega
    have h1 := grow P (Nat.le_refl _)
    have h2 := cnt_le (rnd F T W m x a P) P
    omega
theorem cnt_all {S : Int → Bool} : ∀ n, n ≤ cnt S n → ∀ j : Nat, j < n → S (j : Int) = true
  | n + 1, h, j, hj => by
    rw [cnt] at h
    have hle := cnt_le S n
    by_cases e : S (n : Int) = true
    · rw [if_pos e] at h
      rcases (show j < n ∨ j = n from by omega) with h' | rfl
      · exact cnt_all n (by omega) j h'
      · exact e
    · rw [if_neg e] at h
      omega
/-- One round less is enough: after it all places are reached, or one round added nothing. -/
theorem rnd_full1 {P : Nat} (ha : 0 ≤ a ∧ a < P + 1) (hT : ∀ k, k < m → 0 ≤ T k ∧ T k < P + 1) {v : Int} (h : Rch F T W m x a v) : rnd F T W m x a P v = true := by
  by_cases hs : ∃ r, r < P ∧ ∀ v, rnd F T W m x a (r + 1) v = true → rnd F T W m x a r v = true
  · obtain ⟨r, hr, hst⟩ := hs
    exact rnd_le (Nat.le_of_lt hr) (rnd_still hst h)
  · have grow : ∀ r, r ≤ P → r + 1 ≤ cnt (rnd F T W m x a r) (P + 1) := by
      intro r
      induction r with
      | zero =>
        intro _
        have h0 : cnt (fun _ => false) (P + 1) < cnt (rnd F T W m x a 0) (P + 1) := cnt_lt (j := a.toNat) (fun v h => by cases h) (P + 1) (by omega) rfl (by simp [rnd]; omega)
        omega
      | succ r ih =>
        intro hr
        have g := ih (by omega)
        have hno : ¬ ∀ v, rnd F T W m x a (r + 1) v = true → rnd F T W m x a r v = true := fun h => hs ⟨r, by omega, h⟩
        obtain ⟨v, hv⟩ := Classical.not_forall.1 hno
        obtain ⟨hv1, hv2⟩ := Classical.not_imp.1 hv
        have hp := (rnd_sound (r + 1) v hv1).place (P := (P : Int) + 1) (by omega) (fun k hk => by have := hT k hk; omega)
        have := cnt_lt (S := rnd F T W m x a r) (S' := rnd F T W m x a (r + 1)) (j := v.toNat) (rnd_up r) (P + 1) (by omega) (by rw [show ((v.toNat : Nat) : Int) = v by omega]; simpa using hv2) (by rw [show ((v.toNat : Nat) : Int) = v by omega]; exact hv1)
        omega
    have hp := h.place (P := (P : Int) + 1) (by omega) (fun k hk => by have := hT k hk; omega)
    have := cnt_all (P + 1) (grow P (Nat.le_refl _)) v.toNat (by omega)
    rwa [show ((v.toNat : Nat) : Int) = v by omega] at this
theorem rnd_iff1 {P : Nat} (ha : 0 ≤ a ∧ a < P + 1) (hT : ∀ k, k < m → 0 ≤ T k ∧ T k < P + 1) (v : Int) : rnd F T W m x a P v = true ↔ Rch F T W m x a v := ⟨rnd_sound P v, rnd_full1 ha hT⟩
theorem rnd_iff {P : Nat} (ha : 0 ≤ a ∧ a < P) (hT : ∀ k, k < m → 0 ≤ T k ∧ T k < P) (v : Int) : rnd F T W m x a P v = true ↔ Rch F T W m x a v := ⟨rnd_sound P v, rnd_full ha hT⟩
end
end Go.Proofs.Ytilabfmnaegidaa.net
