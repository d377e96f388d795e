/- How large a cistern must be: more room, more at first and less need never make a day short; least and greatest: plain lists. -/
import Derived.Test.YtojahddamdlcpaaYrL
namespace Go.Proofs.Ytojahddamdlcpaa.szl
open Go.Proofs.Ytojahddamdlcpaa.cis Go.Proofs.Ytojahddamdlcpaa.chl Go.Proofs.Ytojahddamdlcpaa.yrl
/-- The least number from lo to hi with a property. -/
def Least (p : Int → Prop) (lo hi m : Int) : Prop := lo ≤ m ∧ m ≤ hi ∧ p m ∧ ∀ j, lo ≤ j → j < m → ¬ p j
/-- The greatest one. -/
def Most (p : Int → Prop) (lo hi m : Int) : Prop := lo ≤ m ∧ m ≤ hi ∧ p m ∧ ∀ j, m < j → j ≤ hi → ¬ p j
section
variable {p : Int → Prop} {lo hi m m' : Int}
theorem Least.uniq (h : Least p lo hi m) (h' : Least p lo hi m') : m = m' := by
  rcases Int.lt_trichotomy m m' with e | e | e
  · exact (h'.2.2.2 m h.1 e h.2.2.1).elim
  · exact e
  · exact (h.2.2.2 m' h'.1 e h'.2.2.1).elim
theorem Most.uniq (h : Most p lo hi m) (h' : Most p lo hi m') : m = m' := by
  rcases Int.lt_trichotomy m m' with e | e | e
  · exact (h.2.2.2 m' e h'.2.1 h'.2.2.1).elim
  · exact e
  · exact (h'.2.2.2 m e h.2.1 h.2.2.1).elim
theorem Least.ex_aux : ∀ (n : Nat) (lo hi : Int), hi - lo = n → p hi → ∃ m, Least p lo hi m
  | 0, lo, hi, e, h => ⟨hi, by omega, Int.le_refl _, h, fun j h1 h2 => by omega⟩
  | n + 1, lo, hi, e, h => by
    by_cases hlo : p lo
    · exact ⟨lo, Int.le_refl _, by omega, hlo, fun j h1 h2 => by omega⟩
    · obtain ⟨m, h1, h2, h3, h4⟩ := Least.ex_aux n (lo + 1) hi (by omega) h
      refine ⟨m, by omega, h2, h3, fun j j1 j2 => ?_⟩
      by_cases e : j = lo
      · exact e ▸ hlo
      · exact h4 j (by omega) j2
theorem Least.ex (hl : lo ≤ hi) (h : p hi) : ∃ m, Least p lo hi m := Least.ex_aux (hi - lo).toNat lo hi (by omega) h
theorem Most.ex_aux : ∀ (n : Nat) (lo hi : Int), hi - lo = n → p lo → ∃ m, Most p lo hi m
  | 0, lo, hi, e, h => ⟨lo, Int.le_refl _, by omega, h, fun j h1 h2 => by omega⟩
  | n + 1, lo, hi, e, h => by
    by_cases hhi : p hi
    · exact ⟨hi, by omega, Int.le_refl _, hhi, fun j h1 h2 => by omega⟩
    · obtain ⟨m, h1, h2, h3, h4⟩ := Most.ex_aux n lo (hi - 1) (by omega) h
      refine ⟨m, h1, by omega, h3, fun j j1 j2 => ?_⟩
      by_cases e : j = hi
      · exact e ▸ hhi
      · exact h4 j j1 (by omega)
theorem Most.ex (hl : lo ≤ hi) (h : p lo) : ∃ m, Most p lo hi m := Most.ex_aux (hi - lo).toNat lo hi (by omega) h
/-- Halving: one try tells on which side the least one lies. -/
theorem Least.le (h : Least p lo hi m) {x : Int} (hx : lo ≤ x) (hp : p x) : m ≤ x := by
  by_cases e : m ≤ x
  · exact e
  · exact (h.2.2.2 x hx (by omega) hp).elim
theorem Least.lt (h : Least p lo hi m) (up : ∀ a b, lo ≤ a → a ≤ b → b ≤ hi → p a → p b) {x : Int} (hx : x ≤ hi) (hp : ¬ p x) : x < m := by
  by_cases e : m ≤ x
  · exact (hp (up m x h.1 e hx h.2.2.1)).elim
  · omega
theorem Most.ge (h : Most p lo hi m) {x : Int} (hx : x ≤ hi) (hp : p x) : x ≤ m := by
  by_cases e : x ≤ m
  · exact e
  · exact (h.2.2.2 x (by omega) hx hp).elim
theorem Most.gt (h : Most p lo hi m) (down : ∀ a b, lo ≤ a → a ≤ b → b ≤ hi → p b → p a) {x : Int} (hx : lo ≤ x) (hp : ¬ p x) : m < x := by
  by_cases e : x ≤ m
  · exact (hp (down x m hx e h.2.1 h.2.2.1)).elim
  · omega
end
/-- The year is valid and no day is short. -/
def En (r s d : Int) (n : Nat) (cs : List Int) : Prop := YOk r s d n cs ∧ ∀ k, k < n → tk r d s cs k = d
section
variable {r s d r' s' d' : Int} {n : Nat} {cs : List Int}
theorem full (c r l : Int) : l + mn c (r - l) = if l + c ≤ r then l + c else r := by
  unfold mn
  split <;> split <;> omega
/-- More room, more at first, less need: never less in the cistern. -/
theorem lv_mono (h : YOk r s d n cs) (h' : YOk r' s' d' n cs) (hr : r ≤ r') (hs : s ≤ s') (hd : d' ≤ d) : ∀ k, k ≤ n → lv r d s cs k ≤ lv r' d' s' cs k
  | 0, _ => hs
  | k + 1, hk => by
    have ih := lv_mono h h' hr hs hd k (by omega)
    have b1 := lv_bd h k (by omega)
    have b2 := lv_bd h' k (by omega)
    have c1 := h.2.2.2.2 k (by omega)
    rw [lv, lv, full, full]
    unfold mn
    repeat' split
    all_goals omega
theorem there_mono (h : YOk r s d n cs) (h' : YOk r' s' d' n cs) (hr : r ≤ r') (hs : s ≤ s') (hd : d' ≤ d) {k : Nat} (hk : k < n) : lv r d s cs k + pr r d s cs k ≤ lv r' d' s' cs k + pr r' d' s' cs k := by
  have ih := lv_mono h h' hr hs hd k (by omega)
  have b1 := lv_bd h k (by omega)
  have b2 := lv_bd h' k (by omega)
  have c1 := h.2.2.2.2 k hk
  unfold pr
  rw [full, full]
  repeat' split
  all_goals omega
theorem En.mono (h : En r s d n cs) (h' : YOk r' s' d' n cs) (hr : r ≤ r') (hs : s ≤ s') (hd : d' ≤ d) : En r' s' d' n cs :=
  ⟨h', fun k hk => by
    have e := h.2 k hk
    have t := there_mono h.1 h' hr hs hd hk
    have b := (tk_bd h.1 hk).2.2.1
    have b' := (tk_bd h' hk).2.2.2
    unfold Mn at b'
    omega⟩
/-- With this room; what was there at first is lowered to it. -/
def EnR (s d : Int) (n : Nat) (cs : List Int) (x : Int) : Prop := En x (mn s x) d n cs
theorem YOk.room (h : YOk r s d n cs) {x : Int} (h1 : 1 ≤ x) (h2 : x ≤ 1000000) : YOk x (mn s x) d n cs := by
  refine ⟨⟨h1, h2⟩, ?_, h.2.2.1, h.2.2.2.1, h.2.2.2.2⟩
  have := h.2.1
  unfold mn
  split <;> omega
theorem YOk.need (h : YOk r s d n cs) {x : Int} (h1 : 0 ≤ x) (h2 : x ≤ 1000000) : YOk r s x n cs := ⟨h.1, h.2.1, h.2.2.1, ⟨h1, h2⟩, h.2.2.2.2⟩
theorem YOk.start (h : YOk r s d n cs) {x : Int} (h1 : 0 ≤ x) (h2 : x ≤ r) : YOk r x d n cs := ⟨h.1, ⟨h1, h2⟩, h.2.2.1, h.2.2.2.1, h.2.2.2.2⟩
theorem EnR.up (h : YOk r s d n cs) (a b : Int) (ha : 1 ≤ a) (hab : a ≤ b) (hb : b ≤ 1000000) (he : EnR s d n cs a) : EnR s d n cs b :=
  En.mono he (YOk.room h (by omega) hb) hab (by unfold mn; split <;> split <;> omega) (Int.le_refl _)
theorem need_down (h : YOk r s d n cs) (a b : Int) (ha : 0 ≤ a) (hab : a ≤ b) (hb : b ≤ 1000000) (he : En r s b n cs) : En r s a n cs :=
  En.mono he (YOk.need h ha (by omega)) (Int.le_refl _) (Int.le_refl _) hab
theorem start_up (h : YOk r s d n cs) (a b : Int) (ha : 0 ≤ a) (hab : a ≤ b) (hb : b ≤ r) (he : En r a d n cs) : En r b d n cs :=
  En.mono he (YOk.start h (by omega) hb) (Int.le_refl _) hab (Int.le_refl _)
theorem need_zero (h : YOk r s d n cs) : En r s 0 n cs :=
  have h0 := YOk.need h (x := 0) (by omega) (by omega)
  ⟨h0, fun k hk => by have := tk_bd h0 hk; omega⟩
/-- No short day in the list: enough. -/
theorem en_iff (h : YOk r s d n cs) : En r s d n cs ↔ dy (fun k => decide (tk r d s cs k < d)) n = [] := by
  constructor
  · exact fun e => dy_nil _ n fun k hk => decide_eq_false (by rw [e.2 k hk]; omega)
  · exact fun e => ⟨h, fun k hk => by
      have h1 := of_decide_eq_false (dy_none _ n e k hk)
      have := (tk_bd h hk).2.1
      omega⟩
/-- Over many years nobody can draw more. -/
theorem En.sum (h : En r s d n cs) : d * n ≤ sm (fun j => cs.getD j 0) n + s := by
  have h1 := (sm_full (f := tk r d s cs) (b := d) n fun j hj => (tk_bd h.1 hj).2.1).2 h.2
  have h2 := balance (r := r) (s := s) (d := d) (cs := cs) n
  have h3 := (lv_bd h.1 n (Nat.le_refl _)).1
  have h4 := (sm_bd (f := ov r d s cs) (a := 0) (b := 300000) n fun j hj => ov_bd h.1 hj).1
  omega
/-- What is enough fits. -/
theorem En.fits (h : En r s d n cs) : d ≤ r := by
  have hn := h.1.2.2.1.1
  have e := h.2 0 (by omega)
  have b := (tk_bd h.1 (show 0 < n by omega)).2.2.1
  have c := (pr_bd h.1 (show 0 < n by omega)).2.2.1
  omega
end
end Go.Proofs.Ytojahddamdlcpaa.szl
