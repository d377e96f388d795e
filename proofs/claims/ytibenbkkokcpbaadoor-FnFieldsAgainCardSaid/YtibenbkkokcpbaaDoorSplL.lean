/- The fields of a line, as a plain function of its bytes. -/
import Derived.WalkKit
namespace Go.Proofs.YtibenbkkokcpbaaDoor.spll
def by_ (s : ByteArray) (j : Nat) : Nat := (s.data.toList.getD j 0).toNat
theorem by_at (s : ByteArray) (j : Nat) (h : j < s.size) : s[j].toNat = by_ s j := by
  have : s.data.toList.getD j 0 = s[j] := by
    rw [List.getD_eq_getElem?_getD, List.getElem?_eq_getElem (by simpa using h)]; rfl
  unfold by_; rw [this]
/-- The fields that end before place m, and where the next one begins. -/
def st (s : ByteArray) : Nat → List ByteArray × Nat
  | 0 => ([], 0)
  | m + 1 => if m < s.size ∧ by_ s m ≠ 32 then st s m else (if (st s m).2 < m then (st s m).1 ++ [s.extract (st s m).2 m] else (st s m).1, m + 1)
def fields (s : ByteArray) : List ByteArray := (st s (s.size + 1)).1
theorem st_go {s : ByteArray} {m : Nat} (h : m < s.size ∧ by_ s m ≠ 32) : st s (m + 1) = st s m := by rw [st, if_pos h]
theorem st_end {s : ByteArray} {m : Nat} (h : ¬ (m < s.size ∧ by_ s m ≠ 32)) : st s (m + 1) = (if (st s m).2 < m then (st s m).1 ++ [s.extract (st s m).2 m] else (st s m).1, m + 1) := by rw [st, if_neg h]
theorem st_bd (s : ByteArray) : ∀ m, (st s m).2 ≤ m ∧ (st s m).1.length ≤ m
  | 0 => by simp [st]
  | m + 1 => by
    have ih := st_bd s m
    rw [st]
    split
    · omega
    · simp only
      split
      · simp; omega
      · omega
/-- All bytes before m are from 32 to 126. -/
def Good (s : ByteArray) (m : Nat) : Prop := ∀ j, j < m → 32 ≤ by_ s j ∧ by_ s j ≤ 126
theorem Good.succ {s : ByteArray} {m : Nat} (h : Good s m) (h1 : 32 ≤ by_ s m) (h2 : by_ s m ≤ 126) : Good s (m + 1) := fun j hj => by
  rcases (show j < m ∨ j = m from by omega) with h' | rfl
  · exact h j h'
  · exact ⟨h1, h2⟩
/-- The fields as the second program has them at place p: the open one counts as ended there. -/
def cl (s : ByteArray) (p : Nat) : List ByteArray := if (st s p).2 < p then (st s p).1 ++ [s.extract (st s p).2 p] else (st s p).1
theorem cl_all (s : ByteArray) : cl s s.size = fields s := by
  unfold fields; rw [st_end (by omega)]; rfl
/-- Place p lies at a field's end, or no field is open there. -/
def Edge (s : ByteArray) (p : Nat) : Prop := (st s p).2 = p ∨ ¬ (p < s.size ∧ 33 ≤ by_ s p ∧ by_ s p ≤ 126)
theorem cl_blank {s : ByteArray} {p : Nat} (hb : by_ s p = 32) : cl s (p + 1) = cl s p ∧ Edge s (p + 1) := by
  have e := st_end (s := s) (m := p) (by omega)
  refine ⟨?_, .inl (by rw [e])⟩
  unfold cl
  rw [e]
  simp
theorem st_run {s : ByteArray} {p : Nat} : ∀ k, (∀ j, p ≤ j → j < p + k → j < s.size ∧ 33 ≤ by_ s j ∧ by_ s j ≤ 126) → st s (p + k) = st s p
  | 0, _ => rfl
  | k + 1, h => by
    have hk := h (p + k) (by omega) (by omega)
    rw [show p + (k + 1) = (p + k) + 1 from rfl, st_go ⟨hk.1, by omega⟩]
    exact st_run k fun j h1 h2 => h j h1 (by omega)
theorem cl_field {s : ByteArray} {p e : Nat} (hE : Edge s p) (hpe : p < e) (hr : ∀ j, p ≤ j → j < e → j < s.size ∧ 33 ≤ by_ s j ∧ by_ s j ≤ 126)
    (hend : ¬ (e < s.size ∧ 33 ≤ by_ s e ∧ by_ s e ≤ 126)) : cl s e = cl s p ++ [s.extract p e] ∧ Edge s e := by
  have h0 : (st s p).2 = p := hE.resolve_right fun h => h (hr p (Nat.le_refl _) hpe)
  obtain ⟨k, rfl⟩ := Nat.exists_eq_add_of_le (Nat.le_of_lt hpe)
  have hs := st_run (s := s) (p := p) k fun j h1 h2 => hr j h1 h2
  refine ⟨?_, .inr hend⟩
  unfold cl
  rw [hs, h0, if_pos hpe, if_neg (Nat.lt_irrefl p)]
theorem Good.run {s : ByteArray} {p e : Nat} (h : Good s p) (hr : ∀ j, p ≤ j → j < e → j < s.size ∧ 33 ≤ by_ s j ∧ by_ s j ≤ 126) : Good s e := fun j hj => by
  by_cases hjp : j < p
  · exact h j hjp
  · have := hr j (by omega) hj; omega
end Go.Proofs.YtibenbkkokcpbaaDoor.spll
