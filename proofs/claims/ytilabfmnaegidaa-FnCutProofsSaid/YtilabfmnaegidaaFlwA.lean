/- The way back, the flow changed along it, and the flow that is found: plain functions. -/
import Derived.Test.YtilabfmnaegidaaFlwL
namespace Go.Proofs.Ytilabfmnaegidaa.flw
open Go.Proofs.Ytilabfmnaegidaa.yrl Go.Proofs.Ytilabfmnaegidaa.net
/-- A place is put on the list, with the step by which it is reached, if it is not on it. -/
def one (c : Bool) (v x : Int) (s : List Int × (Int → Int)) : List Int × (Int → Int) :=
  if c = true ∧ v ∉ s.1 then (s.1 ++ [v], fun u => if u = v then x else s.2 u) else s
/-- Pipe k is looked at from place t, first forward and then backward. -/
def fwd (F W f : Nat → Int) (t : Int) (k : Nat) : Bool := decide (F k = t ∧ f k < W k)
def bwd (T f : Nat → Int) (t : Int) (k : Nat) : Bool := decide (T k = t ∧ 0 < f k)
def stp (F T W f : Nat → Int) (t : Int) (k : Nat) (s : List Int × (Int → Int)) : List Int × (Int → Int) :=
  one (bwd T f t k) (F k) (2 * k + 1) (one (fwd F W f t k) (T k) (2 * k) s)
/-- The first k pipes are looked at. -/
def scn (F T W f : Nat → Int) (t : Int) (s : List Int × (Int → Int)) : Nat → List Int × (Int → Int)
  | 0 => s
  | k + 1 => stp F T W f t k (scn F T W f t s k)
/-- Behind the first i places of the list. -/
def bfs (F T W f : Nat → Int) (m : Nat) (a : Int) : Nat → List Int × (Int → Int)
  | 0 => ([a], fun _ => -1)
  | i + 1 => if i < (bfs F T W f m a i).1.length then scn F T W f ((bfs F T W f m a i).1.getD i 0) (bfs F T W f m a i) m else bfs F T W f m a i
/-- What the list and the steps are like while they grow. -/
structure BI (F T W f : Nat → Int) (m : Nat) (P a : Int) (s : List Int × (Int → Int)) : Prop where
  hd : 0 < s.1.length ∧ s.1.getD 0 0 = a
  nd : ∀ i j, i < s.1.length → j < s.1.length → s.1.getD i 0 = s.1.getD j 0 → i = j
  rg : ∀ i, i < s.1.length → 0 ≤ s.1.getD i 0 ∧ s.1.getD i 0 < P
  st : ∀ i, 0 < i → i < s.1.length → ∃ j k, j < i ∧ k < m ∧
    ((s.2 (s.1.getD i 0) = 2 * (k : Int) ∧ F k = s.1.getD j 0 ∧ T k = s.1.getD i 0 ∧ f k < W k) ∨ (s.2 (s.1.getD i 0) = 2 * (k : Int) + 1 ∧ T k = s.1.getD j 0 ∧ F k = s.1.getD i 0 ∧ 0 < f k))
  no : ∀ v, v ∉ s.1 ∨ v = a → s.2 v = -1
  ct : s.1.length = cnt (fun v => decide (v ∈ s.1)) P.toNat
theorem mem_get {L : List Int} {v : Int} : v ∈ L ↔ ∃ i, i < L.length ∧ L.getD i 0 = v := by
  constructor
  · intro h
    obtain ⟨i, hi, e⟩ := List.getElem_of_mem h
    exact ⟨i, hi, by rw [List.getD_eq_getElem?_getD, List.getElem?_eq_getElem hi]; exact e⟩
  · rintro ⟨i, hi, e⟩
    rw [← e, List.getD_eq_getElem?_getD, List.getElem?_eq_getElem hi]
    exact List.getElem_mem hi
theorem get_app1 {L l : List Int} {i : Nat} (h : i < L.length) : (L ++ l).getD i 0 = L.getD i 0 := by
  rw [List.getD_eq_getElem?_getD, List.getElem?_append_left h, ← List.getD_eq_getElem?_getD]
theorem get_app2 {L : List Int} {v : Int} : (L ++ [v]).getD L.length 0 = v := by
  rw [List.getD_eq_getElem?_getD, List.getElem?_append_right (Nat.le_refl _)]; simp
theorem cnt_add {S S' : Int → Bool} {v : Int} (hS : ∀ u, S' u = (decide (u = v) || S u)) (hv : S v = false) : ∀ n : Nat, 0 ≤ v → v < n → cnt S' n = cnt S n + 1
  | 0, h0, h1 => by omega
  | n + 1, h0, h1 => by
    rw [cnt, cnt]
    by_cases e : v = (n : Int)
    · have : ∀ k : Nat, k ≤ n → cnt S' k = cnt S k := fun k hk => by
        induction k with
        | zero => rfl
        | succ k ih =>
          rw [cnt, cnt, ih (by omega), hS, show decide ((k : Int) = v) = false from decide_eq_false (by omega)]
          rfl
      rw [this n (Nat.le_refl _), ← e, hS v, hv]
      simp
    · rw [cnt_add hS hv n h0 (by omega), hS (n : Int), show decide ((n : Int) = v) = false from decide_eq_false (fun h => e h.symm)]
      simp only [Bool.false_or]
      omega
section
variable {F T W f : Nat → Int} {m : Nat} {P a b t v x : Int} {s : List Int × (Int → Int)}
theorem one_no {c : Bool} (h : c = false ∨ v ∈ s.1) : one c v x s = s := by
  unfold one
  rw [if_neg]
  rintro ⟨h1, h2⟩
  rcases h with h | h
  · rw [h] at h1; cases h1
  · exact h2 h
theorem one_yes {c : Bool} (h1 : c = true) (h2 : v ∉ s.1) : one c v x s = (s.1 ++ [v], fun u => if u = v then x else s.2 u) := if_pos ⟨h1, h2⟩
/-- The list only grows. -/
theorem one_grow (c : Bool) (v x : Int) (s : List Int × (Int → Int)) : s.1.length ≤ (one c v x s).1.length ∧ (∀ i, i < s.1.length → (one c v x s).1.getD i 0 = s.1.getD i 0) ∧ (∀ u, u ∈ s.1 → u ∈ (one c v x s).1) ∧ ∀ u, u ∈ s.1 → (one c v x s).2 u = s.2 u := by
  unfold one
  split
  · rename_i h
    exact ⟨by simp, fun i hi => get_app1 hi, fun u hu => List.mem_append_left _ hu, fun u hu => by
      show (if u = v then x else s.2 u) = s.2 u
      exact if_neg (fun e : u = v => h.2 (by rw [← e]; exact hu))⟩
  · exact ⟨Nat.le_refl _, fun _ _ => rfl, fun _ h => h, fun _ _ => rfl⟩
theorem stp_grow (k : Nat) (s : List Int × (Int → Int)) : s.1.length ≤ (stp F T W f t k s).1.length ∧ (∀ i, i < s.1.length → (stp F T W f t k s).1.getD i 0 = s.1.getD i 0) ∧ (∀ u, u ∈ s.1 → u ∈ (stp F T W f t k s).1) ∧ ∀ u, u ∈ s.1 → (stp F T W f t k s).2 u = s.2 u := by
  obtain ⟨a1, a2, a3, a4⟩ := one_grow (fwd F W f t k) (T k) (2 * k) s
  obtain ⟨b1, b2, b3, b4⟩ := one_grow (bwd T f t k) (F k) (2 * k + 1) (one (fwd F W f t k) (T k) (2 * k) s)
  exact ⟨Nat.le_trans a1 b1, fun i hi => (b2 i (by omega)).trans (a2 i hi), fun u hu => b3 u (a3 u hu), fun u hu => (b4 u (a3 u hu)).trans (a4 u hu)⟩
theorem scn_grow (s : List Int × (Int → Int)) : ∀ k, s.1.length ≤ (scn F T W f t s k).1.length ∧ (∀ i, i < s.1.length → (scn F T W f t s k).1.getD i 0 = s.1.getD i 0) ∧ (∀ u, u ∈ s.1 → u ∈ (scn F T W f t s k).1) ∧ ∀ u, u ∈ s.1 → (scn F T W f t s k).2 u = s.2 u
  | 0 => ⟨Nat.le_refl _, fun _ _ => rfl, fun _ h => h, fun _ _ => rfl⟩
  | k + 1 => by
    obtain ⟨a1, a2, a3, a4⟩ := scn_grow s k
    obtain ⟨b1, b2, b3, b4⟩ := stp_grow (F := F) (T := T) (W := W) (f := f) (t := t) k (scn F T W f t s k)
    exact ⟨Nat.le_trans a1 b1, fun i hi => (b2 i (by omega)).trans (a2 i hi), fun u hu => b3 u (a3 u hu), fun u hu => (b4 u (a3 u hu)).trans (a4 u hu)⟩
theorem bfs_succ (i : Nat) (h : i < (bfs F T W f m a i).1.length) : bfs F T W f m a (i + 1) = scn F T W f ((bfs F T W f m a i).1.getD i 0) (bfs F T W f m a i) m := if_pos h
theorem bfs_stop {i : Nat} (h : (bfs F T W f m a i).1.length ≤ i) : ∀ d, bfs F T W f m a (i + d) = bfs F T W f m a i
  | 0 => rfl
  | d + 1 => by
    have ih := bfs_stop h d
    show bfs F T W f m a (i + d + 1) = _
    rw [bfs, if_neg (by rw [ih]; omega), ih]
theorem bfs_grow : ∀ d i, (bfs F T W f m a i).1.length ≤ (bfs F T W f m a (i + d)).1.length ∧ (∀ j, j < (bfs F T W f m a i).1.length → (bfs F T W f m a (i + d)).1.getD j 0 = (bfs F T W f m a i).1.getD j 0) ∧ (∀ u, u ∈ (bfs F T W f m a i).1 → u ∈ (bfs F T W f m a (i + d)).1) ∧ ∀ u, u ∈ (bfs F T W f m a i).1 → (bfs F T W f m a (i + d)).2 u = (bfs F T W f m a i).2 u
  | 0, i => ⟨Nat.le_refl _, fun _ _ => rfl, fun _ h => h, fun _ _ => rfl⟩
  | d + 1, i => by
    obtain ⟨a1, a2, a3, a4⟩ := bfs_grow d i
    by_cases h : i + d < (bfs F T W f m a (i + d)).1.length
    · obtain ⟨b1, b2, b3, b4⟩ := scn_grow (F := F) (T := T) (W := W) (f := f) (t := (bfs F T W f m a (i + d)).1.getD (i + d) 0) (bfs F T W f m a (i + d)) m
      rw [show i + (d + 1) = (i + d) + 1 from rfl, bfs_succ _ h]
      exact ⟨Nat.le_trans a1 b1, fun i hi => (b2 i (by omega)).trans (a2 i hi), fun u hu => b3 u (a3 u hu), fun u hu => (b4 u (a3 u hu)).trans (a4 u hu)⟩
    · rw [show i + (d + 1) = (i + d) + 1 from rfl, bfs, if_neg h]
      exact ⟨a1, a2, a3, a4⟩
theorem BI.start (ha0 : 0 ≤ a) (ha1 : a < P) : BI F T W f m P a ([a], fun _ => -1) := by
  refine ⟨⟨by simp, rfl⟩, fun i j hi hj _ => ?_, fun i hi => ?_, fun i h0 hi => ?_, fun _ _ => rfl, ?_⟩
  · simp at hi hj; omega
  · obtain rfl : i = 0 := by simpa using hi
    exact ⟨ha0, ha1⟩
  · simp at hi; omega
  · have h0 : ∀ n, cnt (fun _ => false) n = 0 := fun n => by
      induction n with
      | zero => rfl
      | succ n ih => rw [cnt, ih]; rfl
    rw [cnt_add (S := fun _ => false) (v := a) (fun u => by simp) rfl P.toNat ha0 (by omega), h0]
    rfl
/-- A place more. -/
theorem BI.one {c : Bool} (h : BI F T W f m P a s) {j k : Nat} (hj : j < s.1.length) (hk : k < m) (hv0 : 0 ≤ v) (hv1 : v < P)
    (hc : c = true → (x = 2 * (k : Int) ∧ F k = s.1.getD j 0 ∧ T k = v ∧ f k < W k) ∨ (x = 2 * (k : Int) + 1 ∧ T k = s.1.getD j 0 ∧ F k = v ∧ 0 < f k)) : BI F T W f m P a (flw.one c v x s) := by
  by_cases hcc : c = true ∧ v ∉ s.1
  · obtain ⟨h1, h2⟩ := hcc
    have e : flw.one c v x s = (s.1 ++ [v], fun u => if u = v then x else s.2 u) := one_yes h1 h2
    rw [e]
    have hl : (s.1 ++ [v]).length = s.1.length + 1 := by simp
    have hnv : ∀ i, i < s.1.length → s.1.getD i 0 ≠ v := fun i hi e => h2 (mem_get.2 ⟨i, hi, e⟩)
    refine ⟨⟨by simp, ?_⟩, fun i i' hi hi' he => ?_, fun i hi => ?_, fun i h0 hi => ?_, fun u hu => ?_, ?_⟩
    · show (s.1 ++ [v]).getD 0 0 = a
      rw [get_app1 h.hd.1]; exact h.hd.2
    · simp only [hl] at hi hi'
      simp only at he
      rcases (show i < s.1.length ∨ i = s.1.length from by omega) with q | rfl
      · rcases (show i' < s.1.length ∨ i' = s.1.length from by omega) with q' | rfl
        · rw [get_app1 q, get_app1 q'] at he
          exact h.nd i i' q q' he
        · rw [get_app1 q, get_app2] at he
          exact absurd he (hnv i q)
      · rcases (show i' < s.1.length ∨ i' = s.1.length from by omega) with q' | rfl
        · rw [get_app2, get_app1 q'] at he
          exact absurd he.symm (hnv i' q')
        · rfl
    · simp only [hl] at hi
      show 0 ≤ (s.1 ++ [v]).getD i 0 ∧ (s.1 ++ [v]).getD i 0 < P
      rcases (show i < s.1.length ∨ i = s.1.length from by omega) with q | rfl
      · rw [get_app1 q]; exact h.rg i q
      · rw [get_app2]; exact ⟨hv0, hv1⟩
    · simp only [hl] at hi
      show ∃ j k, j < i ∧ k < m ∧ (((if (s.1 ++ [v]).getD i 0 = v then x else s.2 ((s.1 ++ [v]).getD i 0)) = 2 * (k : Int) ∧ F k = (s.1 ++ [v]).getD j 0 ∧ T k = (s.1 ++ [v]).getD i 0 ∧ f k < W k) ∨
        ((if (s.1 ++ [v]).getD i 0 = v then x else s.2 ((s.1 ++ [v]).getD i 0)) = 2 * (k : Int) + 1 ∧ T k = (s.1 ++ [v]).getD j 0 ∧ F k = (s.1 ++ [v]).getD i 0 ∧ 0 < f k))
      rcases (show i < s.1.length ∨ i = s.1.length from by omega) with q | rfl
      · obtain ⟨j', k', hj', hk', hd⟩ := h.st i h0 q
        refine ⟨j', k', hj', hk', ?_⟩
        rw [get_app1 q, get_app1 (show j' < s.1.length by omega), if_neg (hnv i q)]
        exact hd
      · refine ⟨j, k, hj, hk, ?_⟩
        rw [get_app2, get_app1 hj, if_pos rfl]
        exact hc h1
    · show (if u = v then x else s.2 u) = -1
      have huv : u ≠ v := by
        rcases hu with hu | hu
        · intro e
          subst e
          exact hu (by simp)
        · intro e
          subst e
          subst hu
          exact h2 (mem_get.2 ⟨0, h.hd.1, h.hd.2⟩)
      rw [if_neg huv]
      refine h.no u ?_
      rcases hu with hu | hu
      · exact .inl fun e => hu (List.mem_append_left _ e)
      · exact .inr hu
    · rw [hl, h.ct]
      refine (cnt_add (S := fun u => decide (u ∈ s.1)) (v := v) (fun u => ?_) (decide_eq_false h2) P.toNat hv0 (by omega)).symm
      simp [or_comm]
  · have e : flw.one c v x s = s := by unfold flw.one; exact if_neg hcc
    rw [e]
    exact h
theorem BI.stp (h : BI F T W f m P a s) (hp : Pl F T m P) {j k : Nat} (hj : j < s.1.length) (hk : k < m) : BI F T W f m P a (flw.stp F T W f (s.1.getD j 0) k s) := by
  obtain ⟨⟨f0, f1⟩, t0, t1⟩ := hp k hk
  have h1 := h.one (c := fwd F W f (s.1.getD j 0) k) (v := T k) (x := 2 * k) hj hk t0 t1 (fun hc => by
    have := of_decide_eq_true hc
    exact .inl ⟨rfl, this.1, rfl, this.2⟩)
  obtain ⟨g1, g2, _⟩ := one_grow (fwd F W f (s.1.getD j 0) k) (T k) (2 * k) s
  exact h1.one (j := j) (by omega) hk f0 f1 (fun hc => by
    have := of_decide_eq_true hc
    exact .inr ⟨rfl, by rw [g2 j hj]; exact this.1, rfl, this.2⟩)
theorem BI.scn (h : BI F T W f m P a s) (hp : Pl F T m P) {j : Nat} (hj : j < s.1.length) : ∀ k, k ≤ m → BI F T W f m P a (flw.scn F T W f (s.1.getD j 0) s k)
  | 0, _ => h
  | k + 1, hk => by
    have ih := BI.scn h hp hj k (by omega)
    obtain ⟨g1, g2, _⟩ := scn_grow (F := F) (T := T) (W := W) (f := f) (t := s.1.getD j 0) s k
    have := ih.stp hp (j := j) (k := k) (by omega) (by omega)
    rwa [g2 j hj] at this
theorem BI.bfs (ha0 : 0 ≤ a) (ha1 : a < P) (hp : Pl F T m P) : ∀ i, BI F T W f m P a (flw.bfs F T W f m a i)
  | 0 => .start ha0 ha1
  | i + 1 => by
    have ih := BI.bfs ha0 ha1 hp i
    rw [flw.bfs]
    split
    · rename_i hi
      exact ih.scn hp hi m (Nat.le_refl _)
    · exact ih
theorem BI.len (h : BI F T W f m P a s) : s.1.length ≤ P.toNat := by
  rw [h.ct]
  exact cnt_le _ _
/-- What is looked at from a place is put on the list. -/
theorem scn_all {j : Nat} : ∀ k, j < k → (F j = t → f j < W j → T j ∈ (scn F T W f t s k).1) ∧ (T j = t → 0 < f j → F j ∈ (scn F T W f t s k).1)
  | k + 1, hj => by
    have hg := stp_grow (F := F) (T := T) (W := W) (f := f) (t := t) k (scn F T W f t s k)
    rcases (show j < k ∨ j = k from by omega) with h | rfl
    · obtain ⟨h1, h2⟩ := scn_all k h
      exact ⟨fun a b => hg.2.2.1 _ (h1 a b), fun a b => hg.2.2.1 _ (h2 a b)⟩
    · refine ⟨fun h1 h2 => ?_, fun h1 h2 => ?_⟩
      · obtain ⟨_, _, g3, _⟩ := one_grow (bwd T f t j) (F j) (2 * j + 1) (one (fwd F W f t j) (T j) (2 * j) (scn F T W f t s j))
        refine g3 _ ?_
        by_cases hm : T j ∈ (scn F T W f t s j).1
        · exact (one_grow _ _ _ _).2.2.1 _ hm
        · rw [one_yes (show fwd F W f t j = true from decide_eq_true ⟨h1, h2⟩) hm]
          simp
      · show F j ∈ (one (bwd T f t j) (F j) (2 * j + 1) (one (fwd F W f t j) (T j) (2 * j) (scn F T W f t s j))).1
        by_cases hm : F j ∈ (one (fwd F W f t j) (T j) (2 * j) (scn F T W f t s j)).1
        · exact (one_grow _ _ _ _).2.2.1 _ hm
        · rw [one_yes (show bwd T f t j = true from decide_eq_true ⟨h1, h2⟩) hm]
          simp
theorem bfs_closed : ∀ i, ∀ q, q < i → q < (bfs F T W f m a i).1.length → ∀ k, k < m → (F k = (bfs F T W f m a i).1.getD q 0 → f k < W k → T k ∈ (bfs F T W f m a i).1) ∧ (T k = (bfs F T W f m a i).1.getD q 0 → 0 < f k → F k ∈ (bfs F T W f m a i).1)
  | i + 1, q, hq, hl, k, hk => by
    by_cases h : i < (bfs F T W f m a i).1.length
    · have hg := scn_grow (F := F) (T := T) (W := W) (f := f) (t := (bfs F T W f m a i).1.getD i 0) (bfs F T W f m a i) m
      rw [bfs_succ i h] at hl ⊢
      rcases (show q < i ∨ q = i from by omega) with h' | rfl
      · have ih := bfs_closed i q h' (by omega) k hk
        rw [hg.2.1 q (by omega)]
        exact ⟨fun a b => hg.2.2.1 _ (ih.1 a b), fun a b => hg.2.2.1 _ (ih.2 a b)⟩
      · rw [hg.2.1 q h]
        exact scn_all m hk
    · have e : bfs F T W f m a (i + 1) = bfs F T W f m a i := by rw [bfs, if_neg h]
      rw [e] at hl ⊢
      exact bfs_closed i q (by omega) hl k hk
/-- All of the list has been looked at: it holds what can be reached. -/
theorem bfs_iff (ha0 : 0 ≤ a) (ha1 : a < P) (hp : Pl F T m P) {i : Nat} (h : (bfs F T W f m a i).1.length ≤ i) (u : Int) : u ∈ (bfs F T W f m a i).1 ↔ RR F T W f m a u := by
  have hb := BI.bfs (W := W) (f := f) ha0 ha1 hp i
  constructor
  · intro hu
    obtain ⟨q, hq, e⟩ := mem_get.1 hu
    have key : ∀ n q, q < n → q < (bfs F T W f m a i).1.length → RR F T W f m a ((bfs F T W f m a i).1.getD q 0) := by
      intro n
      induction n with
      | zero => exact fun q h => by omega
      | succ n ih =>
        intro q hqn hq
        by_cases h0 : q = 0
        · subst h0; rw [hb.hd.2]; exact .base
        · obtain ⟨j, k, hj, hk, hd⟩ := hb.st q (by omega) hq
          have := ih j (by omega) (by omega)
          rcases hd with ⟨_, e1, e2, e3⟩ | ⟨_, e1, e2, e3⟩
          · rw [← e1] at this
            rw [← e2]; exact .fw k hk e3 this
          · rw [← e1] at this
            rw [← e2]; exact .bw k hk e3 this
    rw [← e]
    exact key (q + 1) q (by omega) hq
  · intro hu
    induction hu with
    | base => exact mem_get.2 ⟨0, hb.hd.1, hb.hd.2⟩
    | fw k hk hlt _ ih =>
      obtain ⟨q, hq, e⟩ := mem_get.1 ih
      exact (bfs_closed i q (by omega) hq k hk).1 e.symm hlt
    | bw k hk hlt _ ih =>
      obtain ⟨q, hq, e⟩ := mem_get.1 ih
      exact (bfs_closed i q (by omega) hq k hk).2 e.symm hlt
end
end Go.Proofs.Ytilabfmnaegidaa.flw
namespace Go.Proofs.Ytilabfmnaegidaa.flw
open Go.Proofs.Ytilabfmnaegidaa.yrl Go.Proofs.Ytilabfmnaegidaa.net
/-- The way from a place back to a: each pipe with its direction. -/
inductive Pth (F T : Nat → Int) (m : Nat) (a : Int) (by_ : Int → Int) : Int → List (Nat × Bool) → Prop
  | nil : Pth F T m a by_ a []
  | fw (v : Int) (k : Nat) (r : List (Nat × Bool)) : v ≠ a → k < m → by_ v = 2 * (k : Int) → T k = v → Pth F T m a by_ (F k) r → Pth F T m a by_ v ((k, true) :: r)
  | bw (v : Int) (k : Nat) (r : List (Nat × Bool)) : v ≠ a → k < m → by_ v = 2 * (k : Int) + 1 → F k = v → Pth F T m a by_ (T k) r → Pth F T m a by_ v ((k, false) :: r)
/-- How much more a step bears. -/
def room (W f : Nat → Int) (e : Nat × Bool) : Int := if e.2 = true then W e.1 - f e.1 else f e.1
def mst (W f : Nat → Int) : List (Nat × Bool) → Int → Int
  | [], x => x
  | e :: r, x => mst W f r (if x ≤ room W f e then x else room W f e)
/-- The flow changed along a way. -/
def aug (x : Int) : List (Nat × Bool) → (Nat → Int) → Nat → Int
  | [], f => f
  | e :: r, f => aug x r (upd f e.1 (if e.2 = true then f e.1 + x else f e.1 - x))
section
variable {F T W f g : Nat → Int} {m : Nat} {P a b t v x : Int} {s : List Int × (Int → Int)}
theorem mst_le : ∀ (r : List (Nat × Bool)) (x : Int), mst W f r x ≤ x ∧ (∀ e, e ∈ r → mst W f r x ≤ room W f e) ∧ ((∀ e, e ∈ r → 1 ≤ room W f e) → 1 ≤ x → 1 ≤ mst W f r x)
  | [], x => ⟨Int.le_refl _, fun e h => (by cases h), fun _ h => h⟩
  | e :: r, x => by
    obtain ⟨h1, h2, h3⟩ := mst_le r (if x ≤ room W f e then x else room W f e)
    rw [mst]
    refine ⟨by split at h1 <;> split <;> omega, fun e' he => ?_, fun hr hx => h3 (fun e' he => hr e' (List.mem_cons_of_mem _ he)) ?_⟩
    · rcases List.mem_cons.1 he with rfl | he
      · split at h1 <;> split <;> omega
      · exact h2 e' he
    · have := hr e (List.mem_cons_self ..)
      split <;> omega
/-- One of the first q + 1 places of the list. -/
def At (L : List Int) (q : Nat) (u : Int) : Prop := ∃ i, i ≤ q ∧ i < L.length ∧ L.getD i 0 = u
/-- From each place of the list a way leads back; of its steps each bears at least 1; and along it the flow can be changed. -/
theorem BI.back (h : BI F T W f m P a s) : ∀ n q, q < n → q < s.1.length → ∃ r, Pth F T m a s.2 (s.1.getD q 0) r ∧ (∀ e, e ∈ r → 1 ≤ room W f e) ∧
    ∀ (x : Int) (g : Nat → Int), (∀ e, e ∈ r → x ≤ room W f e) → 0 ≤ x → (∀ k, k < m → 0 ≤ g k ∧ g k ≤ W k) → (∀ k, k < m → At s.1 q (F k) → At s.1 q (T k) → g k = f k) →
      (∀ k, k < m → 0 ≤ aug x r g k ∧ aug x r g k ≤ W k) ∧ ∀ u, nt F T (aug x r g) u m = nt F T g u m + (if a = u then x else 0) - (if s.1.getD q 0 = u then x else 0) := by
  intro n
  induction n with
  | zero => exact fun q hq => by omega
  | succ n ih =>
    intro q hqn hq
    by_cases h0 : q = 0
    · subst h0
      rw [h.hd.2]
      exact ⟨[], .nil, fun e he => (by cases he), fun x g _ _ hg _ => ⟨hg, fun u => by rw [aug]; omega⟩⟩
    · obtain ⟨j, k, hj, hk, hd⟩ := h.st q (by omega) hq
      obtain ⟨r, h1, h2, h3⟩ := ih j (by omega) (by omega)
      have hne : s.1.getD q 0 ≠ a := fun e => by
        have := h.nd q 0 hq h.hd.1 (by rw [h.hd.2]; exact e)
        omega
      have hfar : ¬ At s.1 j (s.1.getD q 0) := by
        rintro ⟨i, hi, hil, e⟩
        have := h.nd i q hil hq e
        omega
      have hqq : At s.1 q (s.1.getD q 0) := ⟨q, Nat.le_refl _, hq, rfl⟩
      have hjq : At s.1 q (s.1.getD j 0) := ⟨j, by omega, by omega, rfl⟩
      have hup : ∀ u, At s.1 j u → At s.1 q u := fun u ⟨i, hi, hil, e⟩ => ⟨i, by omega, hil, e⟩
      rcases hd with ⟨e0, e1, e2, e3⟩ | ⟨e0, e1, e2, e3⟩
      · refine ⟨(k, true) :: r, .fw _ k r hne hk e0 e2 (by rw [e1]; exact h1), fun e he => ?_, fun x g hx hx0 hg hu => ?_⟩
        · rcases List.mem_cons.1 he with rfl | he
          · unfold room; simp only [if_true]; omega
          · exact h2 e he
        · have hgk : g k = f k := hu k hk (by rw [e1]; exact hjq) (by rw [e2]; exact hqq)
          have hrm : x ≤ W k - f k := by
            have := hx (k, true) (List.mem_cons_self ..)
            simpa [room] using this
          have hb := hg k hk
          obtain ⟨i1, i2⟩ := h3 x (upd g k (g k + x)) (fun e he => hx e (List.mem_cons_of_mem _ he)) hx0 (fun i hi => by
            by_cases e : i = k
            · subst e; rw [upd_same]; omega
            · rw [upd_other _ _ e]; exact hg i hi) (fun i hi a1 a2 => by
            by_cases e : i = k
            · subst e
              rw [e2] at a2
              exact absurd a2 hfar
            · rw [upd_other _ _ e]; exact hu i hi (hup _ a1) (hup _ a2))
          have ea : aug x ((k, true) :: r) g = aug x r (upd g k (g k + x)) := rfl
          rw [ea]
          refine ⟨i1, fun u => ?_⟩
          rw [i2 u, nt_upd m hk, e1, e2]
          omega
      · refine ⟨(k, false) :: r, .bw _ k r hne hk e0 e2 (by rw [e1]; exact h1), fun e he => ?_, fun x g hx hx0 hg hu => ?_⟩
        · rcases List.mem_cons.1 he with rfl | he
          · unfold room; simp only [Bool.false_eq_true, if_false]; omega
          · exact h2 e he
        · have hgk : g k = f k := hu k hk (by rw [e2]; exact hqq) (by rw [e1]; exact hjq)
          have hrm : x ≤ f k := by
            have := hx (k, false) (List.mem_cons_self ..)
            simpa [room] using this
          have hb := hg k hk
          obtain ⟨i1, i2⟩ := h3 x (upd g k (g k + -x)) (fun e he => hx e (List.mem_cons_of_mem _ he)) hx0 (fun i hi => by
            by_cases e : i = k
            · subst e; rw [upd_same]; omega
            · rw [upd_other _ _ e]; exact hg i hi) (fun i hi a1 a2 => by
            by_cases e : i = k
            · subst e
              rw [e2] at a1
              exact absurd a1 hfar
            · rw [upd_other _ _ e]; exact hu i hi (hup _ a1) (hup _ a2))
          have ea : aug x ((k, false) :: r) g = aug x r (upd g k (g k + -x)) := rfl
          rw [ea]
          refine ⟨i1, fun u => ?_⟩
          rw [i2 u, nt_upd m hk, e1, e2]
          split <;> split <;> split <;> omega
theorem BI.back_len (h : BI F T W f m P a s) : ∀ n q, q < n → q < s.1.length → ∃ r, Pth F T m a s.2 (s.1.getD q 0) r ∧ r.length ≤ q := by
  intro n
  induction n with
  | zero => exact fun q hq => by omega
  | succ n ih =>
    intro q hqn hq
    by_cases h0 : q = 0
    · subst h0
      rw [h.hd.2]
      exact ⟨[], .nil, Nat.le_refl _⟩
    · obtain ⟨j, k, hj, hk, hd⟩ := h.st q (by omega) hq
      obtain ⟨r, h1, h2⟩ := ih j (by omega) (by omega)
      have hne : s.1.getD q 0 ≠ a := fun e => by
        have := h.nd q 0 hq h.hd.1 (by rw [h.hd.2]; exact e)
        omega
      rcases hd with ⟨e0, e1, e2, _⟩ | ⟨e0, e1, e2, _⟩
      · exact ⟨(k, true) :: r, .fw _ k r hne hk e0 e2 (by rw [e1]; exact h1), by simp; omega⟩
      · exact ⟨(k, false) :: r, .bw _ k r hne hk e0 e2 (by rw [e1]; exact h1), by simp; omega⟩
/-- What a way back is like. -/
theorem Pth.inv {by_ : Int → Int} {r : List (Nat × Bool)} (h : Pth F T m a by_ v r) : (v = a ∧ r = []) ∨ (∃ k r', v ≠ a ∧ k < m ∧ by_ v = 2 * (k : Int) ∧ T k = v ∧ r = (k, true) :: r' ∧ Pth F T m a by_ (F k) r') ∨
    ∃ k r', v ≠ a ∧ k < m ∧ by_ v = 2 * (k : Int) + 1 ∧ F k = v ∧ r = (k, false) :: r' ∧ Pth F T m a by_ (T k) r' :=
  match h with
  | .nil => .inl ⟨rfl, rfl⟩
  | .fw _ k r' h1 h2 h3 h4 h5 => .inr (.inl ⟨k, r', h1, h2, h3, h4, rfl, h5⟩)
  | .bw _ k r' h1 h2 h3 h4 h5 => .inr (.inr ⟨k, r', h1, h2, h3, h4, rfl, h5⟩)
/-- A way back is the only one. -/
theorem Pth.uniq {by_ : Int → Int} {r r' : List (Nat × Bool)} (h : Pth F T m a by_ v r) : Pth F T m a by_ v r' → r = r' := by
  induction h generalizing r' with
  | nil =>
    intro h'
    rcases h'.inv with ⟨_, e⟩ | ⟨k, q, h1, _⟩ | ⟨k, q, h1, _⟩
    · exact e.symm
    · exact absurd rfl h1
    · exact absurd rfl h1
  | fw v k r hne hk e0 e2 _ ih =>
    intro h'
    rcases h'.inv with ⟨e, _⟩ | ⟨k', q, _, _, e3, _, e4, h5⟩ | ⟨k', q, _, _, e3, _, _, _⟩
    · exact absurd e hne
    · obtain rfl : k = k' := by omega
      rw [e4, ih h5]
    · omega
  | bw v k r hne hk e0 e2 _ ih =>
    intro h'
    rcases h'.inv with ⟨e, _⟩ | ⟨k', q, _, _, e3, _, _, _⟩ | ⟨k', q, _, _, e3, _, e4, h5⟩
    · exact absurd e hne
    · omega
    · obtain rfl : k = k' := by omega
      rw [e4, ih h5]
/-- The list and the steps once all that can be reached has been looked at. -/
def fin_ (F T W f : Nat → Int) (m : Nat) (P a : Int) : List Int × (Int → Int) := bfs F T W f m a P.toNat
theorem fin_of (ha0 : 0 ≤ a) (ha1 : a < P) (hp : Pl F T m P) {i : Nat} (h : (bfs F T W f m a i).1.length ≤ i) : bfs F T W f m a i = fin_ F T W f m P a := by
  have hb := (BI.bfs (W := W) (f := f) ha0 ha1 hp i).len
  unfold fin_
  rcases Nat.le_total i P.toNat with hi | hi
  · have := bfs_stop h (P.toNat - i)
    rw [show i + (P.toNat - i) = P.toNat by omega] at this
    exact this.symm
  · have hl := (BI.bfs (W := W) (f := f) ha0 ha1 hp P.toNat).len
    have := bfs_stop (F := F) (T := T) (W := W) (f := f) (m := m) (a := a) hl (i - P.toNat)
    rwa [show P.toNat + (i - P.toNat) = i by omega] at this
theorem fin_iff (ha0 : 0 ≤ a) (ha1 : a < P) (hp : Pl F T m P) (u : Int) : u ∈ (fin_ F T W f m P a).1 ↔ RR F T W f m a u :=
  bfs_iff ha0 ha1 hp (BI.bfs (W := W) (f := f) ha0 ha1 hp P.toNat).len u
/-- The search finds a way to b, and the flow is changed along it by as much as possible. -/
def Nxt (F T W f : Nat → Int) (m : Nat) (P a b : Int) (f' : Nat → Int) : Prop := RR F T W f m a b ∧ ∃ r, Pth F T m a (fin_ F T W f m P a).2 b r ∧ f' = aug (mst W f r 1000) r f
theorem Nxt.uniq {g' : Nat → Int} (h : Nxt F T W f m P a b g) (h' : Nxt F T W f m P a b g') : g = g' := by
  obtain ⟨_, r, h1, rfl⟩ := h
  obtain ⟨_, r', h1', rfl⟩ := h'
  rw [h1.uniq h1']
theorem Nxt.ex (ha0 : 0 ≤ a) (ha1 : a < P) (hp : Pl F T m P) (hab : a ≠ b) (ho : FO F T W f m P a b) (hr : RR F T W f m a b) :
    ∃ r, Pth F T m a (fin_ F T W f m P a).2 b r ∧ 1 ≤ mst W f r 1000 ∧ mst W f r 1000 ≤ 1000 ∧ FO F T W (aug (mst W f r 1000) r f) m P a b ∧ nt F T (aug (mst W f r 1000) r f) a m = nt F T f a m + mst W f r 1000 := by
  have hb : BI F T W f m P a (fin_ F T W f m P a) := BI.bfs ha0 ha1 hp _
  obtain ⟨q, hq, e⟩ := mem_get.1 ((fin_iff ha0 ha1 hp b).2 hr)
  obtain ⟨r, h1, h2, h3⟩ := hb.back (q + 1) q (by omega) hq
  rw [e] at h1 h3
  obtain ⟨m1, m2, m3⟩ := mst_le (W := W) (f := f) r 1000
  have hm1 := m3 h2 (by decide)
  obtain ⟨i1, i2⟩ := h3 (mst W f r 1000) f m2 (by omega) ho.bd (fun _ _ _ _ => rfl)
  refine ⟨r, h1, hm1, m1, ⟨i1, fun v h0 h4 h5 h6 => ?_⟩, ?_⟩
  · rw [i2 v, ho.kp v h0 h4 h5 h6, if_neg (fun e => h5 e.symm), if_neg (fun e => h6 e.symm)]
    omega
  · rw [i2 a, if_pos rfl, if_neg (fun e => hab e.symm)]
    omega
theorem fin_short (ha0 : 0 ≤ a) (ha1 : a < P) (hp : Pl F T m P) {r : List (Nat × Bool)} (hr : RR F T W f m a v) (h : Pth F T m a (fin_ F T W f m P a).2 v r) : r.length < P.toNat := by
  have hb : BI F T W f m P a (fin_ F T W f m P a) := BI.bfs ha0 ha1 hp _
  obtain ⟨q, hq, e⟩ := mem_get.1 ((fin_iff ha0 ha1 hp v).2 hr)
  obtain ⟨r', h1, h2⟩ := hb.back_len (q + 1) q (by omega) hq
  have hl := hb.len
  rw [e] at h1
  rw [h.uniq h1]
  omega
/-- A place that is not reached has no step. -/
theorem fin_no (ha0 : 0 ≤ a) (ha1 : a < P) (hp : Pl F T m P) (hr : ¬ RR F T W f m a v) : (fin_ F T W f m P a).2 v = -1 := by
  have hb : BI F T W f m P a (fin_ F T W f m P a) := BI.bfs ha0 ha1 hp _
  exact hb.no v (.inl (fun h => hr ((fin_iff ha0 ha1 hp v).1 h)))
/-- The flow that is found from f on. -/
inductive Run (F T W : Nat → Int) (m : Nat) (P a b : Int) : (Nat → Int) → (Nat → Int) → Prop
  | done (f : Nat → Int) : ¬ RR F T W f m a b → Run F T W m P a b f f
  | next (f g r : Nat → Int) : Nxt F T W f m P a b g → Run F T W m P a b g r → Run F T W m P a b f r
theorem Run.stop {r : Nat → Int} (h : Run F T W m P a b f r) (hn : ¬ RR F T W f m a b) : r = f := by
  match h with
  | .done _ _ => rfl
  | .next _ g _ h1 _ => exact absurd h1.1 hn
theorem Run.go {r : Nat → Int} (h : Run F T W m P a b f r) (hn : Nxt F T W f m P a b g) : Run F T W m P a b g r := by
  match h with
  | .done _ h1 => exact absurd hn.1 h1
  | .next _ g' _ h1 h2 => rw [hn.uniq h1]; exact h2
theorem Run.uniq {r r' : Nat → Int} (h : Run F T W m P a b f r) : Run F T W m P a b f r' → r = r' := by
  induction h with
  | done f hn => exact fun h' => (h'.stop hn).symm
  | next f g r hn _ ih => exact fun h' => ih (h'.go hn)
/-- A flow is found, and it is a greatest one. -/
theorem Run.ex (ha0 : 0 ≤ a) (ha1 : a < P) (hp : Pl F T m P) (hab : a ≠ b) (hW : ∀ k, k < m → 0 ≤ W k ∧ W k ≤ 1000) : ∀ (n : Nat) (f : Nat → Int), FO F T W f m P a b → 1000 * (m : Int) - nt F T f a m < n → ∃ r, Run F T W m P a b f r ∧ FO F T W r m P a b ∧ ¬ RR F T W r m a b
  | 0, f, ho, hn => by
    have := nt_bd (F := F) (T := T) (f := f) (v := a) m fun j hj => by have := ho.bd j hj; have := hW j hj; omega
    omega
  | n + 1, f, ho, hn => by
    by_cases hr : RR F T W f m a b
    · obtain ⟨r, h1, h2, h3, h4, h5⟩ := Nxt.ex ha0 ha1 hp hab ho hr
      obtain ⟨q, q1, q2, q3⟩ := Run.ex ha0 ha1 hp hab hW n _ h4 (by omega)
      exact ⟨q, .next f _ q ⟨hr, r, h1, rfl⟩ q1, q2, q3⟩
    · exact ⟨f, .done f hr, ho, hr⟩
theorem Run.flow {r : Nat → Int} (h : Run F T W m P a b f r) (ha0 : 0 ≤ a) (ha1 : a < P) (hp : Pl F T m P) (hab : a ≠ b) (hW : ∀ k, k < m → 0 ≤ W k ∧ W k ≤ 1000) (ho : FO F T W f m P a b) : FO F T W r m P a b ∧ ¬ RR F T W r m a b := by
  obtain ⟨r', h1, h2, h3⟩ := Run.ex ha0 ha1 hp hab hW (1000 * (m : Int) - nt F T f a m + 1).toNat f ho (by omega)
  rw [h.uniq h1]
  exact ⟨h2, h3⟩
end
end Go.Proofs.Ytilabfmnaegidaa.flw
