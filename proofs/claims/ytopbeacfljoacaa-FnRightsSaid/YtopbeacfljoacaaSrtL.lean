/- A row of the numbers below n, sorted by insertion by whatever order: plain functions. -/
import Derived.Test.YtopbeacfljoacaaBase
namespace Go.Proofs.Ytopbeacfljoacaa.srt
/-- The first i places hold the numbers below i, in order; what follows is as it was. -/
def Srt (L : Nat → Nat → Prop) (f : Nat → Nat) (i : Nat) : Prop := (∀ k, i ≤ k → f k = k) ∧ (∀ k, k < i → f k < i) ∧ (∀ k, k < i → ∃ a, a < i ∧ f a = k) ∧ ∀ a b, a < b → b < i → L (f a) (f b)
/-- While number i is put in: it stands at place j. -/
def Sin (L : Nat → Nat → Prop) (f : Nat → Nat) (i j : Nat) : Prop := j ≤ i ∧ (∀ k, i < k → f k = k) ∧ f j = i ∧ (∀ k, k ≤ i → k ≠ j → f k < i) ∧ (∀ k, k < i → ∃ a, a ≤ i ∧ a ≠ j ∧ f a = k) ∧ (∀ a b, a < b → b ≤ i → a ≠ j → b ≠ j → L (f a) (f b)) ∧ ∀ b, j < b → b ≤ i → L i (f b)
/-- Places j and j + 1 changed. -/
def swf (f : Nat → Nat) (j : Nat) : Nat → Nat := fun v => if v = j then f (j + 1) else if v = j + 1 then f j else f v
section
variable {L : Nat → Nat → Prop} {f : Nat → Nat} {i j n : Nat}
theorem Srt.one : Srt L (fun k => k) 1 := ⟨fun _ _ => rfl, fun k hk => hk, fun k hk => ⟨k, hk, rfl⟩, fun a b h1 h2 => by omega⟩
theorem Srt.start (h : Srt L f i) : Sin L f i i := by
  obtain ⟨h1, h2, h3, h4⟩ := h
  refine ⟨Nat.le_refl _, fun k hk => h1 k (by omega), h1 i (Nat.le_refl _), fun k hk hn => h2 k (by omega), fun k hk => ?_, fun a b hab hb ha hb' => h4 a b hab (by omega), fun b hb hb' => by omega⟩
  obtain ⟨a, ha, e⟩ := h3 k hk
  exact ⟨a, by omega, by omega, e⟩
theorem Sin.at_ (h : Sin L f i j) : f j = i := h.2.2.1
theorem Sin.step (h : Sin L f i (j + 1)) (hl : L i (f j)) : Sin L (swf f j) i j := by
  obtain ⟨h1, h2, h3, h4, h5, h6, h7⟩ := h
  refine ⟨by omega, fun k hk => ?_, ?_, fun k hk hn => ?_, fun k hk => ?_, fun a b hab hb ha hb' => ?_, fun b hb hb' => ?_⟩
  · unfold swf; rw [if_neg (by omega), if_neg (by omega)]; exact h2 k hk
  · unfold swf; rw [if_pos rfl]; exact h3
  · unfold swf
    rw [if_neg hn]
    by_cases e : k = j + 1
    · rw [if_pos e]; exact h4 j (by omega) (by omega)
    · rw [if_neg e]; exact h4 k hk e
  · obtain ⟨a, ha, hn, e⟩ := h5 k hk
    by_cases e1 : a = j
    · exact ⟨j + 1, by omega, by omega, by unfold swf; rw [if_neg (by omega), if_pos rfl, ← e1]; exact e⟩
    · exact ⟨a, ha, e1, by unfold swf; rw [if_neg e1, if_neg hn]; exact e⟩
  · unfold swf
    rw [if_neg ha, if_neg hb']
    by_cases e1 : a = j + 1
    · rw [if_pos e1, if_neg (by omega)]
      exact h6 j b (by omega) hb (by omega) (by omega)
    · rw [if_neg e1]
      by_cases e2 : b = j + 1
      · rw [if_pos e2]
        exact h6 a j (by omega) (by omega) e1 (by omega)
      · rw [if_neg e2]
        exact h6 a b hab hb e1 e2
  · unfold swf
    rw [if_neg (by omega)]
    by_cases e2 : b = j + 1
    · rw [if_pos e2]; exact hl
    · rw [if_neg e2]; exact h7 b (by omega) hb'
theorem Sin.done (h : Sin L f i j) (hb : ∀ a, a < j → L (f a) i) : Srt L f (i + 1) := by
  obtain ⟨h1, h2, h3, h4, h5, h6, h7⟩ := h
  refine ⟨fun k hk => h2 k (by omega), fun k hk => ?_, fun k hk => ?_, fun a b hab hb' => ?_⟩
  · by_cases e : k = j
    · rw [e, h3]; omega
    · have := h4 k (by omega) e; omega
  · by_cases e : k = i
    · exact ⟨j, by omega, by rw [h3, e]⟩
    · obtain ⟨a, ha, _, e'⟩ := h5 k (by omega)
      exact ⟨a, by omega, e'⟩
  · by_cases e1 : a = j
    · rw [e1, h3]; exact h7 b (by omega) (by omega)
    · by_cases e2 : b = j
      · rw [e2, h3]; exact hb a (by omega)
      · exact h6 a b hab (by omega) e1 e2
theorem Sin.first (h : Sin L f i 0) : Srt L f (i + 1) := h.done fun a ha => by omega
theorem Sin.stop (h : Sin L f i (j + 1)) (hto : ∀ a b, a ≠ b → L a b ∨ L b a) (htr : ∀ a b c, a < n → b < n → c < n → L a b → L b c → L a c) (hi : i < n) (hl : ¬ L i (f j)) : Srt L f (i + 1) := by
  have hj := h.1
  have hfj := h.2.2.2.1 j (by omega) (by omega)
  have k1 : L (f j) i := (hto (f j) i (by omega)).resolve_right hl
  refine h.done fun a ha => ?_
  by_cases e : a = j
  · rw [e]; exact k1
  · have hfa := h.2.2.2.1 a (by omega) (by omega)
    exact htr _ _ _ (by omega) (by omega) hi (h.2.2.2.2.2.1 a j (by omega) (by omega) (by omega) (by omega)) k1
end
end Go.Proofs.Ytopbeacfljoacaa.srt
