/- The way back, the flow changed along it, and the flow that is found: plain functions. -/
import Derived.Test.YtilabfmnaegidaaFlwB
namespace Go.Proofs.Ytilabfmnaegidaa.flw
open Go.Proofs.Ytilabfmnaegidaa.yrl Go.Proofs.Ytilabfmnaegidaa.net
/-- The way from a place back to a: each pipe with its direction. -/
inductive Pth (F T : Nat → Int) (m : Nat) (a : Int) (by_ : Int → Int) : Int → List (Nat × Bool) → Prop
  | nil : Pth F T m a by_ a []
  | fw (v : Int) (k : Nat) (r : List (Nat × Bool)) : v ≠ a → k < m → by_ v = 2 * (k : Int) → T k = v → Pth F T m a by_ (F k) r → Pth F T m a by_ v ((k, true) :: r)
  | bw (v : Int) (k : Nat) (r : List (Nat × Bool)) : v ≠ a → k < m → by_ v = 2 * (k : Int) + 1 → F k = v → Pth F T m a by_ (T k) r → Pth F T m a by_ v ((k, false) :: r)
/-- How much more a step bears. -/
def room (W f : Nat → Int) (e : Nat × Bool) : Int := if e.2 = true then W e.1 - f e.1 else f e.1
def mst (W f : Nat → Int) : List (Nat × Bool) → Int → Int
  | [], x => x
  | e :: r, x => mst W f r (if x ≤ room W f e then x else room W f e)
/-- The flow changed along a way. -/
def aug (x : Int) : List (Nat × Bool) → (Nat → Int) → Nat → Int
  | [], f => f
  | e :: r, f => aug x r (upd f e.1 (if e.2 = true then f e.1 + x else f e.1 - x))
section
variable {F T W f g : Nat → Int} {m : Nat} {P a b t v x : Int} {s : List Int × (Int → Int)}
theorem mst_le : ∀ (r : List (Nat × Bool)) (x : Int), mst W f r x ≤ x ∧ (∀ e, e ∈ r → mst W f r x ≤ room W f e) ∧ ((∀ e, e ∈ r → 1 ≤ room W f e) → 1 ≤ x → 1 ≤ mst W f r x)
  | [], x => ⟨Int.le_refl _, fun e h => (by cases h), fun _ h => h⟩
  | e :: r, x => by
    obtain ⟨h1, h2, h3⟩ := mst_le r (if x ≤ room W f e then x else room W f e)
    rw [mst]
    refine ⟨by split at h1 <;> split <;> omega, fun e' he => ?_, fun hr hx => h3 (fun e' he => hr e' (List.mem_cons_of_mem _ he)) ?_⟩
    · rcases List.mem_cons.1 he with rfl | he
      · split at h1 <;> split <;> omega
      · exact h2 e' he
    · have := hr e (List.mem_cons_self ..)
      split <;> omega
/-- One of the first q + 1 places of the list. -/
def At (L : List Int) (q : Nat) (u : Int) : Prop := ∃ i, i ≤ q ∧ i < L.length ∧ L.getD i 0 = u
/-- From each place of the list a way leads back; of its steps each bears at least 1; and along it the flow can be changed. -/
theorem BI.back (h : BI F T W f m P a s) : ∀ n q, q < n → q < s.1.length → ∃ r, Pth F T m a s.2 (s.1.getD q 0) r ∧ (∀ e, e ∈ r → 1 ≤ room W f e) ∧
    ∀ (x : Int) (g : Nat → Int), (∀ e, e ∈ r → x ≤ room W f e) → 0 ≤ x → (∀ k, k < m → 0 ≤ g k ∧ g k ≤ W k) → (∀ k, k < m → At s.1 q (F k) → At s.1 q (T k) → g k = f k) →
      (∀ k, k < m → 0 ≤ aug x r g k ∧ aug x r g k ≤ W k) ∧ ∀ u, nt F T (aug x r g) u m = nt F T g u m + (if a = u then x else 0) - (if s.1.getD q 0 = u then x else 0) := by
  intro n
  induction n with
  | zero => exact fun q hq => by omega
  | succ n ih =>
    intro q hqn hq
    by_cases h0 : q = 0
    · subst h0
      rw [h.hd.2]
      exact ⟨[], .nil, fun e he => (by cases he), fun x g _ _ hg _ => ⟨hg, fun u => by rw [aug]; omega⟩⟩
    · obtain ⟨j, k, hj, hk, hd⟩ := h.st q (by omega) hq
      obtain ⟨r, h1, h2, h3⟩ := ih j (by omega) (by omega)
      have hne : s.1.getD q 0 ≠ a := fun e => by
        have := h.nd q 0 hq h.hd.1 (by rw [h.hd.2]; exact e)
        omega
      have hfar : ¬ At s.1 j (s.1.getD q 0) := by
        rintro ⟨i, hi, hil, e⟩
        have := h.nd i q hil hq e
        omega
      have hqq : At s.1 q (s.1.getD q 0) := ⟨q, Nat.le_refl _, hq, rfl⟩
      have hjq : At s.1 q (s.1.getD j 0) := ⟨j, by omega, by omega, rfl⟩
      have hup : ∀ u, At s.1 j u → At s.1 q u := fun u ⟨i, hi, hil, e⟩ => ⟨i, by omega, hil, e⟩
      rcases hd with ⟨e0, e1, e2, e3⟩ | ⟨e0, e1, e2, e3⟩
      · refine ⟨(k, true) :: r, .fw _ k r hne hk e0 e2 (by rw [e1]; exact h1), fun e he => ?_, fun x g hx hx0 hg hu => ?_⟩
        · rcases List.mem_cons.1 he with rfl | he
          · unfold room; simp only [if_true]; omega
          · exact h2 e he
        · have hgk : g k = f k := hu k hk (by rw [e1]; exact hjq) (by rw [e2]; exact hqq)
          have hrm : x ≤ W k - f k := by
            have := hx (k, true) (List.mem_cons_self ..)
            simpa [room] using this
          have hb := hg k hk
          obtain ⟨i1, i2⟩ := h3 x (upd g k (g k + x)) (fun e he => hx e (List.mem_cons_of_mem _ he)) hx0 (fun i hi => by
            by_cases e : i = k
            · subst e; rw [upd_same]; omega
            · rw [upd_other _ _ e]; exact hg i hi) (fun i hi a1 a2 => by
            by_cases e : i = k
            · subst e
              rw [e2] at a2
              exact absurd a2 hfar
            · rw [upd_other _ _ e]; exact hu i hi (hup _ a1) (hup _ a2))
          have ea : aug x ((k, true) :: r) g = aug x r (upd g k (g k + x)) := rfl
          rw [ea]
          refine ⟨i1, fun u => ?_⟩
          rw [i2 u, nt_upd m hk, e1, e2]
          omega
      · refine ⟨(k, false) :: r, .bw _ k r hne hk e0 e2 (by rw [e1]; exact h1), fun e he => ?_, fun x g hx hx0 hg hu => ?_⟩
        · rcases List.mem_cons.1 he with rfl | he
          · unfold room; simp only [Bool.false_eq_true, if_false]; omega
          · exact h2 e he
        · have hgk : g k = f k := hu k hk (by rw [e2]; exact hqq) (by rw [e1]; exact hjq)
          have hrm : x ≤ f k := by
            have := hx (k, false) (List.mem_cons_self ..)
            simpa [room] using this
          have hb := hg k hk
          obtain ⟨i1, i2⟩ := h3 x (upd g k (g k + -x)) (fun e he => hx e (List.mem_cons_of_mem _ he)) hx0 (fun i hi => by
            by_cases e : i = k
            · subst e; rw [upd_same]; omega
            · rw [upd_other _ _ e]; exact hg i hi) (fun i hi a1 a2 => by
            by_cases e : i = k
            · subst e
              rw [e2] at a1
              exact absurd a1 hfar
            · rw [upd_other _ _ e]; exact hu i hi (hup _ a1) (hup _ a2))
          have ea : aug x ((k, false) :: r) g = aug x r (upd g k (g k + -x)) := rfl
          rw [ea]
          refine ⟨i1, fun u => ?_⟩
          rw [i2 u, nt_upd m hk, e1, e2]
          split <;> split <;> split <;> omega
theorem BI.back_len (h : BI F T W f m P a s) : ∀ n q, q < n → q < s.1.length → ∃ r, Pth F T m a s.2 (s.1.getD q 0) r ∧ r.length ≤ q := by
  intro n
  induction n with
  | zero => exact fun q hq => by omega
  | succ n ih =>
    intro q hqn hq
    by_cases h0 : q = 0
    · subst h0
      rw [h.hd.2]
      exact ⟨[], .nil, Nat.le_refl _⟩
    · obtain ⟨j, k, hj, hk, hd⟩ := h.st q (by omega) hq
      obtain ⟨r, h1, h2⟩ := ih j (by omega) (by omega)
      have hne : s.1.getD q 0 ≠ a := fun e => by
        have := h.nd q 0 hq h.hd.1 (by rw [h.hd.2]; exact e)
        omega
      rcases hd with ⟨e0, e1, e2, _⟩ | ⟨e0, e1, e2, _⟩
      · exact ⟨(k, true) :: r, .fw _ k r hne hk e0 e2 (by rw [e1]; exact h1), by simp; omega⟩
      · exact ⟨(k, false) :: r, .bw _ k r hne hk e0 e2 (by rw [e1]; exact h1), by simp; omega⟩
/-- What a way back is like. -/
theorem Pth.inv {by_ : Int → Int} {r : List (Nat × Bool)} (h : Pth F T m a by_ v r) : (v = a ∧ r = []) ∨ (∃ k r', v ≠ a ∧ k < m ∧ by_ v = 2 * (k : Int) ∧ T k = v ∧ r = (k, true) :: r' ∧ Pth F T m a by_ (F k) r') ∨
    ∃ k r', v ≠ a ∧ k < m ∧ by_ v = 2 * (k : Int) + 1 ∧ F k = v ∧ r = (k, false) :: r' ∧ Pth F T m a by_ (T k) r' :=
  match h with
  | .nil => .inl ⟨rfl, rfl⟩
  | .fw _ k r' h1 h2 h3 h4 h5 => .inr (.inl ⟨k, r', h1, h2, h3, h4, rfl, h5⟩)
  | .bw _ k r' h1 h2 h3 h4 h5 => .inr (.inr ⟨k, r', h1, h2, h3, h4, rfl, h5⟩)
/-- A way back is the only one. -/
theorem Pth.uniq {by_ : Int → Int} {r r' : List (Nat × Bool)} (h : Pth F T m a by_ v r) : Pth F T m a by_ v r' → r = r' := by
  induction h generalizing r' with
  | nil =>
    intro h'
    rcases h'.inv with ⟨_, e⟩ | ⟨k, q, h1, _⟩ | ⟨k, q, h1, _⟩
    · exact e.symm
    · exact absurd rfl h1
    · exact absurd rfl h1
  | fw v k r hne hk e0 e2 _ ih =>
    intro h'
    rcases h'.inv with ⟨e, _⟩ | ⟨k', q, _, _, e3, _, e4, h5⟩ | ⟨k', q, _, _, e3, _, _, _⟩
    · exact absurd e hne
    · obtain rfl : k = k' := by omega
      rw [e4, ih h5]
    · omega
  | bw v k r hne hk e0 e2 _ ih =>
    intro h'
    rcases h'.inv with ⟨e, _⟩ | ⟨k', q, _, _, e3, _, _, _⟩ | ⟨k', q, _, _, e3, _, e4, h5⟩
    · exact absurd e hne
    · omega
    · obtain rfl : k = k' := by omega
      rw [e4, ih h5]
/-- The list and the steps once all that can be reached has been looked at. -/
def fin_ (F T W f : Nat → Int) (m : Nat) (P a : Int) : List Int × (Int → Int) := bfs F T W f m a P.toNat
theorem fin_of (ha0 : 0 ≤ a) (ha1 : a < P) (hp : Pl F T m P) {i : Nat} (h : (bfs F T W f m a i).1.length ≤ i) : bfs F T W f m a i = fin_ F T W f m P a := by
  have hb := (BI.bfs (W := W) (f := f) ha0 ha1 hp i).len
  unfold fin_
  rcases Nat.le_total i P.toNat with hi | hi
  · have := bfs_stop h (P.toNat - i)
    rw [show i + (P.toNat - i) = P.toNat by omega] at this
    exact this.symm
  · have hl := (BI.bfs (W := W) (f := f) ha0 ha1 hp P.toNat).len
    have := bfs_stop (F := F) (T := T) (W := W) (f := f) (m := m) (a := a) hl (i - P.toNat)
    rwa [show P.toNat + (i - P.toNat) = i by omega] at this
theorem fin_iff (ha0 : 0 ≤ a) (ha1 : a < P) (hp : Pl F T m P) (u : Int) : u ∈ (fin_ F T W f m P a).1 ↔ RR F T W f m a u :=
  bfs_iff ha0 ha1 hp (BI.bfs (W := W) (f := f) ha0 ha1 hp P.toNat).len u
/-- The search finds a way to b, and the flow is changed along it by as much as possible. -/
def Nxt (F T W f : Nat → Int) (m : Nat) (P a b : Int) (f' : Nat → Int) : Prop := RR F T W f m a b ∧ ∃ r, Pth F T m a (fin_ F T W f m P a).2 b r ∧ f' = aug (mst W f r 1000) r f
theorem Nxt.uniq {g' : Nat → Int} (h : Nxt F T W f m P a b g) (h' : Nxt F T W f m P a b g') : g = g' := by
  obtain ⟨_, r, h1, rfl⟩ := h
  obtain ⟨_, r', h1', rfl⟩ := h'
  rw [h1.uniq h1']
theorem Nxt.ex (ha0 : 0 ≤ a) (ha1 : a < P) (hp : Pl F T m P) (hab : a ≠ b) (ho : FO F T W f m P a b) (hr : RR F T W f m a b) :
    ∃ r, Pth F T m a (fin_ F T W f m P a).2 b r ∧ 1 ≤ mst W f r 1000 ∧ mst W f r 1000 ≤ 1000 ∧ FO F T W (aug (mst W f r 1000) r f) m P a b ∧ nt F T (aug (mst W f r 1000) r f) a m = nt F T f a m + mst W f r 1000 := by
  have hb : BI F T W f m P a (fin_ F T W f m P a) := BI.bfs ha0 ha1 hp _
  obtain ⟨q, hq, e⟩ := mem_get.1 ((fin_iff ha0 ha1 hp b).2 hr)
  obtain ⟨r, h1, h2, h3⟩ := hb.back (q + 1) q (by omega) hq
  rw [e] at h1 h3
  obtain ⟨m1, m2, m3⟩ := mst_le (W := W) (f := f) r 1000
  have hm1 := m3 h2 (by decide)
  obtain ⟨i1, i2⟩ := h3 (mst W f r 1000) f m2 (by omega) ho.bd (fun _ _ _ _ => rfl)
  refine ⟨r, h1, hm1, m1, ⟨i1, fun v h0 h4 h5 h6 => ?_⟩, ?_⟩
  · rw [i2 v, ho.kp v h0 h4 h5 h6, if_neg (fun e => h5 e.symm), if_neg (fun e => h6 e.symm)]
    omega
  · rw [i2 a, if_pos rfl, if_neg (fun e => hab e.symm)]
    omega
theorem fin_short (ha0 : 0 ≤ a) (ha1 : a < P) (hp : Pl F T m P) {r : List (Nat × Bool)} (hr : RR F T W f m a v) (h : Pth F T m a (fin_ F T W f m P a).2 v r) : r.length < P.toNat := by
  have hb : BI F T W f m P a (fin_ F T W f m P a) := BI.bfs ha0 ha1 hp _
  obtain ⟨q, hq, e⟩ := mem_get.1 ((fin_iff ha0 ha1 hp v).2 hr)
  obtain ⟨r', h1, h2⟩ := hb.back_len (q + 1) q (by omega) hq
  have hl := hb.len
  rw [e] at h1
  rw [h.uniq h1]
  omega
/-- A place that is not reached has no step. -/
theorem fin_no (ha0 : 0 ≤ a) (ha1 : a < P) (hp : Pl F T m P) (hr : ¬ RR F T W f m a v) : (fin_ F T W f m P a).2 v = -1 := by
  have hb : BI F T W f m P a (fin_ F T W f m P a) := BI.bfs ha0 ha1 hp _
  exact hb.no v (.inl (fun h => hr ((fin_iff ha0 ha1 hp v).1 h)))
/-- The flow that is found from f on. -/
inductive Run (F T W : Nat → Int) (m : Nat) (P a b : Int) : (Nat → Int) → (Nat → Int) → Prop
  | done (f : Nat → Int) : ¬ RR F T W f m a b → Run F T W m P a b f f
  | next (f g r : Nat → Int) : Nxt F T W f m P a b g → Run F T W m P a b g r → Run F T W m P a b f r
theorem Run.stop {r : Nat → Int} (h : Run F T W m P a b f r) (hn : ¬ RR F T W f m a b) : r = f := by
  match h with
  | .done _ _ => rfl
  | .next _ g _ h1 _ => exact absurd h1.1 hn
theorem Run.go {r : Nat → Int} (h : Run F T W m P a b f r) (hn : Nxt F T W f m P a b g) : Run F T W m P a b g r := by
  match h with
  | .done _ h1 => exact absurd hn.1 h1
  | .next _ g' _ h1 h2 => rw [hn.uniq h1]; exact h2
theorem Run.uniq {r r' : Nat → Int} (h : Run F T W m P a b f r) : Run F T W m P a b f r' → r = r' := by
  induction h with
  | done f hn => exact fun h' => (h'.stop hn).symm
  | next f g r hn _ ih => exact fun h' => ih (h'.go hn)
/-- A flow is found, and it is a greatest one. -/
theorem Run.ex (ha0 : 0 ≤ a) (ha1 : a < P) (hp : Pl F T m P) (hab : a ≠ b) (hW : ∀ k, k < m → 0 ≤ W k ∧ W k ≤ 1000) : ∀ (n : Nat) (f : Nat → Int), FO F T W f m P a b → 1000 * (m : Int) - nt F T f a m < n → ∃ r, Run F T W m P a b f r ∧ FO F T W r m P a b ∧ ¬ RR F T W r m a b
  | 0, f, ho, hn => by
    have := nt_bd (F := F) (T := T) (f := f) (v := a) m fun j hj => by have := ho.bd j hj; have := hW j hj; omega
    omega
  | n + 1, f, ho, hn => by
    by_cases hr : RR F T W f m a b
    · obtain ⟨r, h1, h2, h3, h4, h5⟩ := Nxt.ex ha0 ha1 hp hab ho hr
      obtain ⟨q, q1, q2, q3⟩ := Run.ex ha0 ha1 hp hab hW n _ h4 (by omega)
      exact ⟨q, .next f _ q ⟨hr, r, h1, rfl⟩ q1, q2, q3⟩
    · exact ⟨f, .done f hr, ho, hr⟩
theorem Run.flow {r : Nat → Int} (h : Run F T W m P a b f r) (ha0 : 0 ≤ a) (ha1 : a < P) (hp : Pl F T m P) (hab : a ≠ b) (hW : ∀ k, k < m → 0 ≤ W k ∧ W k ≤ 1000) (ho : FO F T W f m P a b) : FO F T W r m P a b ∧ ¬ RR F T W r m a b := by
  obtain ⟨r', h1, h2, h3⟩ := Run.ex ha0 ha1 hp hab hW (1000 * (m : Int) - nt F T f a m + 1).toNat f ho (by omega)
  rw [h.uniq h1]
  exact ⟨h2, h3⟩
end
end Go.Proofs.Ytilabfmnaegidaa.flw
