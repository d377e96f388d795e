/- Flows in nets of pipes: what goes out of a place, cuts, greatest flows: plain functions. -/
import Derived.Test.YtilabfmnaegidaaNetL2
namespace Go.Proofs.Ytilabfmnaegidaa.flw
open Go.Proofs.Ytilabfmnaegidaa.yrl Go.Proofs.Ytilabfmnaegidaa.net
/-- What goes out of a place minus what comes in, over the first k pipes. -/
def nt (F T f : Nat → Int) (v : Int) : Nat → Int
  | 0 => 0
  | k + 1 => nt F T f v k + (if F k = v then f k else 0) - (if T k = v then f k else 0)
/-- The same of a set of places. -/
def ns (F T f : Nat → Int) (S : Int → Bool) : Nat → Int
  | 0 => 0
  | k + 1 => ns F T f S k + (if S (F k) = true then f k else 0) - (if S (T k) = true then f k else 0)
/-- How wide the pipes are together that lead out of a set. -/
def cw (F T W : Nat → Int) (S : Int → Bool) : Nat → Int
  | 0 => 0
  | k + 1 => cw F T W S k + (if S (F k) = true ∧ S (T k) = false then W k else 0)
/-- All m pipes lie between the places 0 .. P - 1. -/
def Pl (F T : Nat → Int) (m : Nat) (P : Int) : Prop := ∀ k, k < m → (0 ≤ F k ∧ F k < P) ∧ (0 ≤ T k ∧ T k < P)
/-- A flow from a to b. -/
structure FO (F T W f : Nat → Int) (m : Nat) (P a b : Int) : Prop where
  bd : ∀ k, k < m → 0 ≤ f k ∧ f k ≤ W k
  kp : ∀ v, 0 ≤ v → v < P → v ≠ a → v ≠ b → nt F T f v m = 0
section
variable {F T W f g F' T' W' : Nat → Int} {m : Nat} {P a b v x : Int} {S : Int → Bool}
theorem nt_congr : ∀ k, (∀ j, j < k → f j = g j) → nt F T f v k = nt F T g v k
  | 0, _ => rfl
  | k + 1, h => by rw [nt, nt, nt_congr k fun j hj => h j (by omega), h k (by omega)]
theorem nt_pipes : ∀ k, (∀ j, j < k → F j = F' j ∧ T j = T' j) → nt F T f v k = nt F' T' f v k
  | 0, _ => rfl
  | k + 1, h => by
    obtain ⟨h1, h2⟩ := h k (by omega)
    rw [nt, nt, nt_pipes k fun j hj => h j (by omega), h1, h2]
theorem nt_turn : ∀ k, nt T F f v k = - nt F T f v k
  | 0 => rfl
  | k + 1 => by rw [nt, nt, nt_turn k]; omega
theorem nt_zero : ∀ k, nt F T (fun _ => 0) v k = 0
  | 0 => rfl
  | k + 1 => by rw [nt, nt_zero k]; simp
/-- One pipe's amount is changed. -/
def upd (f : Nat → Int) (k : Nat) (y : Int) : Nat → Int := fun j => if j = k then y else f j
theorem upd_same (f : Nat → Int) (k : Nat) (y : Int) : upd f k y k = y := if_pos rfl
theorem upd_other (f : Nat → Int) {k j : Nat} (y : Int) (h : j ≠ k) : upd f k y j = f j := if_neg h
theorem nt_upd {q : Nat} {d : Int} : ∀ k, q < k → nt F T (upd f q (f q + d)) v k = nt F T f v k + (if F q = v then d else 0) - (if T q = v then d else 0)
  | k + 1, h => by
    rw [nt, nt]
    rcases (show q < k ∨ q = k from by omega) with h' | rfl
    · rw [nt_upd k h', upd_other f _ (show k ≠ q by omega)]
      omega
    · rw [nt_congr q (g := f) fun j hj => upd_other f _ (by omega), upd_same]
      split <;> split <;> omega
theorem nt_sum {N : Nat} : ∀ k, (∀ j, j < k → (0 ≤ F j ∧ F j < N) ∧ (0 ≤ T j ∧ T j < N)) → sm (fun u : Nat => if S (u : Int) = true then nt F T f (u : Int) k else 0) N = ns F T f S k
  | 0, _ => by
    have : ∀ n, sm (fun u : Nat => if S (u : Int) = true then nt F T f (u : Int) 0 else 0) n = 0 := fun n => by
      induction n with
      | zero => rfl
      | succ n ih => rw [sm, ih, nt]; simp
    exact this N
  | k + 1, h => by
    have ih := nt_sum k fun j hj => h j (by omega)
    obtain ⟨⟨f1, f2⟩, t1, t2⟩ := h k (by omega)
    have e : (fun u : Nat => if S (u : Int) = true then nt F T f (u : Int) (k + 1) else 0) =
        fun u : Nat => ((if S (u : Int) = true then nt F T f (u : Int) k else 0) + (if ((F k).toNat : Int) = (u : Int) then (if S (F k) = true then f k else 0) else 0)) + (if ((T k).toNat : Int) = (u : Int) then -(if S (T k) = true then f k else 0) else 0) := by
      funext u
      have e1 : ((F k).toNat : Int) = F k := by omega
      have e2 : ((T k).toNat : Int) = T k := by omega
      rw [nt, e1, e2]
      by_cases hF : F k = (u : Int)
      · by_cases hT : T k = (u : Int)
        · rw [if_pos hF, if_pos hT, if_pos hF, if_pos hT, hF, hT]; split <;> omega
        · rw [if_pos hF, if_neg hT, if_pos hF, if_neg hT, hF]; split <;> omega
      · by_cases hT : T k = (u : Int)
        · rw [if_neg hF, if_pos hT, if_neg hF, if_pos hT, hT]; split <;> omega
        · rw [if_neg hF, if_neg hT, if_neg hF, if_neg hT]; split <;> omega
    rw [e, sm_add, sm_add, ih, sm_one, sm_one, if_pos (show (F k).toNat < N by omega), if_pos (show (T k).toNat < N by omega), ns]
    omega
/-- Of a set that holds a and not b, what goes out of it is what goes out of a. -/
theorem FO.ns (h : FO F T W f m P a b) (hp : Pl F T m P) (ha0 : 0 ≤ a) (ha1 : a < P) (hSa : S a = true) (hSb : S b = false) : ns F T f S m = nt F T f a m := by
  obtain ⟨N, rfl⟩ : ∃ N : Nat, P = (N : Int) := ⟨P.toNat, by omega⟩
  rw [← nt_sum (N := N) m hp]
  have e : ∀ n, n ≤ N → sm (fun u : Nat => if S (u : Int) = true then nt F T f (u : Int) m else 0) n = sm (fun u : Nat => if (a.toNat : Int) = (u : Int) then nt F T f a m else 0) n := by
    intro n hn
    induction n with
    | zero => rfl
    | succ n ih =>
      rw [sm, sm, ih (by omega)]
      congr 1
      have e1 : (a.toNat : Int) = a := by omega
      rw [e1]
      by_cases ha : a = (n : Int)
      · rw [if_pos ha, ← ha, if_pos hSa]
      · rw [if_neg ha]
        by_cases hS : S (n : Int) = true
        · rw [if_pos hS]
          refine h.kp _ (by omega) (by omega) (fun e => ha e.symm) (fun e => ?_)
          rw [e, hSb] at hS
          cases hS
        · rw [if_neg hS]
  rw [e N (Nat.le_refl _), sm_one, if_pos (by omega)]
theorem ns_all : ∀ k, ns F T f (fun _ => true) k = 0
  | 0 => rfl
  | k + 1 => by rw [ns, ns_all k]; simp
/-- What goes out of a comes in at b. -/
theorem FO.both (h : FO F T W f m P a b) (hp : Pl F T m P) (ha0 : 0 ≤ a) (ha1 : a < P) (hb0 : 0 ≤ b) (hb1 : b < P) (hab : a ≠ b) : nt F T f b m = - nt F T f a m := by
  obtain ⟨N, rfl⟩ : ∃ N : Nat, P = (N : Int) := ⟨P.toNat, by omega⟩
  have h0 := nt_sum (S := fun _ => true) (f := f) (N := N) m hp
  rw [ns_all] at h0
  have e : ∀ n, n ≤ N → sm (fun u : Nat => if (fun _ : Int => true) (u : Int) = true then nt F T f (u : Int) m else 0) n = sm (fun u : Nat => (if (a.toNat : Int) = (u : Int) then nt F T f a m else 0) + (if (b.toNat : Int) = (u : Int) then nt F T f b m else 0)) n := by
    intro n hn
    induction n with
    | zero => rfl
    | succ n ih =>
      rw [sm, sm, ih (by omega)]
      congr 1
      have e1 : (a.toNat : Int) = a := by omega
      have e2 : (b.toNat : Int) = b := by omega
      rw [e1, e2, if_pos rfl]
      by_cases ha : a = (n : Int)
      · rw [if_pos ha, if_neg (fun e => hab (by omega)), ← ha]; omega
      · by_cases hb : b = (n : Int)
        · rw [if_neg ha, if_pos hb, ← hb]; omega
        · rw [if_neg ha, if_neg hb, h.kp _ (by omega) (by omega) (fun e => ha e.symm) (fun e => hb e.symm)]; rfl
  rw [e N (Nat.le_refl _), sm_add, sm_one, sm_one, if_pos (by omega), if_pos (by omega)] at h0
  omega
theorem FO.turn (h : FO F T W f m P a b) : FO T F W f m P b a := ⟨h.bd, fun v h0 h1 h2 h3 => by rw [nt_turn, h.kp v h0 h1 h3 h2]; rfl⟩
theorem FO.zero (hW : ∀ k, k < m → 0 ≤ W k) : FO F T W (fun _ => 0) m P a b := ⟨fun k hk => ⟨Int.le_refl _, hW k hk⟩, fun _ _ _ _ _ => nt_zero m⟩
theorem FO.congr (h : FO F T W f m P a b) (hF : ∀ k, k < m → F k = F' k ∧ T k = T' k ∧ W k = W' k) : FO F' T' W' f m P a b :=
  ⟨fun k hk => by rw [← (hF k hk).2.2]; exact h.bd k hk, fun v h0 h1 h2 h3 => by rw [← nt_pipes m fun j hj => ⟨(hF j hj).1, (hF j hj).2.1⟩]; exact h.kp v h0 h1 h2 h3⟩
theorem FO.amounts (h : FO F T W f m P a b) (hf : ∀ k, k < m → f k = g k) : FO F T W g m P a b :=
  ⟨fun k hk => by rw [← hf k hk]; exact h.bd k hk, fun v h0 h1 h2 h3 => by rw [← nt_congr m hf]; exact h.kp v h0 h1 h2 h3⟩
theorem ns_le : ∀ k, (∀ j, j < k → 0 ≤ f j ∧ f j ≤ W j) → ns F T f S k ≤ cw F T W S k
  | 0, _ => Int.le_refl _
  | k + 1, h => by
    have ih := ns_le k fun j hj => h j (by omega)
    have hk := h k (by omega)
    rw [Go.Proofs.Ytilabfmnaegidaa.flw.ns, cw]
    by_cases h1 : S (F k) = true
    · by_cases h2 : S (T k) = true
      · rw [if_pos h1, if_pos h2, if_neg (by rw [h2]; simp)]; omega
      · rw [if_pos h1, if_neg h2, if_pos ⟨h1, by simpa using h2⟩]; omega
    · by_cases h2 : S (T k) = true
      · rw [if_neg h1, if_pos h2, if_neg (fun e => h1 e.1)]; omega
      · rw [if_neg h1, if_neg h2, if_neg (fun e => h1 e.1)]; omega
theorem ns_eq : ∀ k, (∀ j, j < k → (S (F j) = true → S (T j) = false → f j = W j) ∧ (S (F j) = false → S (T j) = true → f j = 0)) → ns F T f S k = cw F T W S k
  | 0, _ => rfl
  | k + 1, h => by
    have ih := ns_eq k fun j hj => h j (by omega)
    obtain ⟨g1, g2⟩ := h k (by omega)
    rw [Go.Proofs.Ytilabfmnaegidaa.flw.ns, cw]
    by_cases h1 : S (F k) = true
    · by_cases h2 : S (T k) = true
      · rw [if_pos h1, if_pos h2, if_neg (by rw [h2]; simp)]; omega
      · have := g1 h1 (by simpa using h2)
        rw [if_pos h1, if_neg h2, if_pos ⟨h1, by simpa using h2⟩]; omega
    · by_cases h2 : S (T k) = true
      · have := g2 (by simpa using h1) h2
        rw [if_neg h1, if_pos h2, if_neg (fun e => h1 e.1)]; omega
      · rw [if_neg h1, if_neg h2, if_neg (fun e => h1 e.1)]; omega
/-- No flow is greater than what a line around a lets through. -/
theorem FO.le_cut (h : FO F T W f m P a b) (hp : Pl F T m P) (ha0 : 0 ≤ a) (ha1 : a < P) (hSa : S a = true) (hSb : S b = false) : nt F T f a m ≤ cw F T W S m := by
  rw [← h.ns hp ha0 ha1 hSa hSb]
  exact ns_le m h.bd
theorem cw_bd : ∀ k, (∀ j, j < k → 0 ≤ W j ∧ W j ≤ 1000) → 0 ≤ cw F T W S k ∧ cw F T W S k ≤ 1000 * k
  | 0, _ => by simp [cw]
  | k + 1, h => by
    have ih := cw_bd k fun j hj => h j (by omega)
    have := h k (by omega)
    rw [cw]
    split <;> omega
theorem cw_ge {q : Nat} : ∀ k, (∀ j, j < k → 0 ≤ W j) → q < k → S (F q) = true → S (T q) = false → W q ≤ cw F T W S k
  | k + 1, h, hq, h1, h2 => by
    have h0 : ∀ n, n ≤ k → 0 ≤ cw F T W S n := fun n hn => by
      induction n with
      | zero => exact Int.le_refl _
      | succ n ih => have := ih (by omega); have := h n (by omega); rw [cw]; split <;> omega
    have hk := h k (by omega)
    rw [cw]
    rcases (show q < k ∨ q = k from by omega) with h' | rfl
    · have := cw_ge k (fun j hj => h j (by omega)) h' h1 h2
      split <;> omega
    · have := h0 q (Nat.le_refl _)
      rw [if_pos ⟨h1, h2⟩]
      omega
theorem cw_none : ∀ k, (∀ j, j < k → S (F j) = true → S (T j) = true) → cw F T W S k = 0
  | 0, _ => rfl
  | k + 1, h => by
    have := h k (by omega)
    rw [cw, cw_none k fun j hj => h j (by omega), if_neg (fun e => by rw [this e.1] at e; cases e.2)]
    rfl
/-- What can be reached from a along pipes with room, and backward along pipes with water. -/
inductive RR (F T W f : Nat → Int) (m : Nat) (a : Int) : Int → Prop
  | base : RR F T W f m a a
  | fw (k : Nat) : k < m → f k < W k → RR F T W f m a (F k) → RR F T W f m a (T k)
  | bw (k : Nat) : k < m → 0 < f k → RR F T W f m a (T k) → RR F T W f m a (F k)
/-- The greatest flow is g, and a line around a lets no more through. -/
def MF (F T W : Nat → Int) (m : Nat) (P a b g : Int) : Prop :=
  (∃ f, FO F T W f m P a b ∧ nt F T f a m = g) ∧ (∃ S : Int → Bool, S a = true ∧ S b = false ∧ cw F T W S m = g) ∧ ∀ h, FO F T W h m P a b → nt F T h a m ≤ g
open Classical in
/-- A flow after which b can't be reached is a greatest one. -/
theorem FO.max (h : FO F T W f m P a b) (hp : Pl F T m P) (ha0 : 0 ≤ a) (ha1 : a < P) (hb : ¬ RR F T W f m a b) : MF F T W m P a b (nt F T f a m) := by
  have hSa : (fun u => decide (RR F T W f m a u)) a = true := decide_eq_true .base
  have hSb : (fun u => decide (RR F T W f m a u)) b = false := decide_eq_false hb
  have e : nt F T f a m = cw F T W (fun u => decide (RR F T W f m a u)) m := by
    rw [← h.ns (S := fun u => decide (RR F T W f m a u)) hp ha0 ha1 hSa hSb]
    refine ns_eq m fun j hj => ⟨fun h1 h2 => ?_, fun h1 h2 => ?_⟩
    · have hbd := h.bd j hj
      have : ¬ f j < W j := fun hlt => of_decide_eq_false h2 (.fw j hj hlt (of_decide_eq_true h1))
      omega
    · have hbd := h.bd j hj
      have : ¬ 0 < f j := fun hlt => of_decide_eq_false h1 (.bw j hj hlt (of_decide_eq_true h2))
      omega
  exact ⟨⟨f, h, rfl⟩, ⟨_, hSa, hSb, e.symm⟩, fun g hg => by rw [e]; exact hg.le_cut hp ha0 ha1 hSa hSb⟩
theorem MF.uniq {x y : Int} (h : MF F T W m P a b x) (h' : MF F T W m P a b y) : x = y := by
  obtain ⟨f, hf, e⟩ := h.1
  obtain ⟨g, hg, e'⟩ := h'.1
  have := h.2.2 g hg
  have := h'.2.2 f hf
  omega
theorem MF.nonneg (h : MF F T W m P a b x) (hW : ∀ k, k < m → 0 ≤ W k) : 0 ≤ x := by
  have := h.2.2 _ (FO.zero hW)
  rwa [nt_zero] at this
theorem cw_turn : ∀ k, cw T F W S k = cw F T W (fun u => !S u) k
  | 0 => rfl
  | k + 1 => by
    rw [cw, cw, cw_turn k]
    congr 1
    cases S (F k) <;> cases S (T k) <;> simp
theorem MF.turn (h : MF F T W m P a b x) (hp : Pl F T m P) (ha0 : 0 ≤ a) (ha1 : a < P) (hb0 : 0 ≤ b) (hb1 : b < P) (hab : a ≠ b) : MF T F W m P b a x := by
  obtain ⟨⟨f, hf, e⟩, ⟨S, s1, s2, s3⟩, h3⟩ := h
  refine ⟨⟨f, hf.turn, ?_⟩, ⟨fun u => !S u, by simp [s2], by simp [s1], ?_⟩, fun g hg => ?_⟩
  · rw [nt_turn, hf.both hp ha0 ha1 hb0 hb1 hab, e]; omega
  · rw [cw_turn, ← s3]; simp
  · have h4 := h3 g hg.turn
    have h5 := hg.turn.both hp ha0 ha1 hb0 hb1 hab
    rw [nt_turn]
    omega
theorem MF.congr (h : MF F T W m P a b x) (hF : ∀ k, k < m → F k = F' k ∧ T k = T' k ∧ W k = W' k) : MF F' T' W' m P a b x := by
  obtain ⟨⟨f, hf, e⟩, ⟨S, s1, s2, s3⟩, h3⟩ := h
  have hF' : ∀ k, k < m → F' k = F k ∧ T' k = T k ∧ W' k = W k := fun k hk => ⟨(hF k hk).1.symm, (hF k hk).2.1.symm, (hF k hk).2.2.symm⟩
  have ec : ∀ k, k ≤ m → cw F' T' W' S k = cw F T W S k := fun k hk => by
    induction k with
    | zero => rfl
    | succ k ih =>
      obtain ⟨e1, e2, e3⟩ := hF k (by omega)
      rw [cw, cw, ih (by omega), e1, e2, e3]
  refine ⟨⟨f, hf.congr hF, ?_⟩, ⟨S, s1, s2, by rw [ec m (Nat.le_refl _), s3]⟩, fun g hg => ?_⟩
  · rw [← e]
    exact (nt_pipes m fun j hj => ⟨(hF j hj).1, (hF j hj).2.1⟩).symm
  · rw [nt_pipes m fun j hj => ⟨(hF' j hj).1, (hF' j hj).2.1⟩]
    exact h3 g (hg.congr hF')
/-- It is as wide as the widest way at least. -/
theorem MF.ge_wide {y : Int} (h : MF F T W m P a b x) (hW : ∀ k, k < m → 0 ≤ W k) (hy : Wide F T W m a b y) : y ≤ x := by
  rcases hy.2.1 with e | e
  · have := h.nonneg hW; omega
  · obtain ⟨_, ⟨S, s1, s2, s3⟩, _⟩ := h
    by_cases hc : ∃ k, k < m ∧ y ≤ W k ∧ S (F k) = true ∧ S (T k) = false
    · obtain ⟨k, hk, h1, h2, h3⟩ := hc
      have := cw_ge (F := F) (T := T) (W := W) m hW hk h2 h3
      omega
    · exfalso
      have := e.closed (p := fun u => S u = true) s1 fun k hk hw hS => by
        cases hT : S (T k)
        · exact absurd ⟨k, hk, hw, hS, hT⟩ hc
        · rfl
      rw [s2] at this
      cases this
open Classical in
theorem MF.pos {y : Int} (h : MF F T W m P a b x) (hp : Pl F T m P) (ha0 : 0 ≤ a) (ha1 : a < P) (hab : b ≠ a) (hW : ∀ k, k < m → 1 ≤ W k) (hy : Wide F T W m a b y) : 0 < x ↔ 0 < y := by
  constructor
  · intro hx
    refine (hy.pos hW hab).2 (Classical.byContradiction fun hno => ?_)
    obtain ⟨f, hf, e⟩ := h.1
    have h1 := hf.le_cut (S := fun u => decide (Rch F T W m 0 a u)) hp ha0 ha1 (decide_eq_true .base) (decide_eq_false hno)
    rw [cw_none m fun j hj hS => decide_eq_true (.step j hj (by have := hW j hj; omega) (of_decide_eq_true hS))] at h1
    omega
  · intro hy0
    have := h.ge_wide (fun k hk => by have := hW k hk; omega) hy
    omega
theorem nt_le_outs : ∀ k, (∀ j, j < k → 0 ≤ f j ∧ f j ≤ W j) → nt F T f v k ≤ outs F W v k
  | 0, _ => Int.le_refl _
  | k + 1, h => by
    have ih := nt_le_outs k fun j hj => h j (by omega)
    have hk := h k (by omega)
    rw [nt, outs]
    split <;> split <;> omega
theorem MF.le_out (h : MF F T W m P a b x) : x ≤ outs F W a m := by
  obtain ⟨f, hf, e⟩ := h.1
  rw [← e]
  exact nt_le_outs m hf.bd
theorem nt_bd : ∀ k, (∀ j, j < k → 0 ≤ f j ∧ f j ≤ 1000) → -1000 * (k : Int) ≤ nt F T f v k ∧ nt F T f v k ≤ 1000 * k
  | 0, _ => by simp [nt]
  | k + 1, h => by
    have ih := nt_bd k fun j hj => h j (by omega)
    have hk := h k (by omega)
    rw [nt]
    split <;> split <;> omega
end
end Go.Proofs.Ytilabfmnaegidaa.flw
