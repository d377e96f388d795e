/- The fields of the joined fields: plain lists. -/
import Derived.Test.YtibenbkkokcpbaaDoorSplL
namespace Go.Proofs.YtibenbkkokcpbaaDoor.again
open Go.Proofs.YtibenbkkokcpbaaDoor.spll
def sp : List UInt8 → List UInt8 → List (List UInt8)
  | [], cur => if cur = [] then [] else [cur]
  | b :: r, cur => if b = 32 then (if cur = [] then sp r [] else cur :: sp r []) else sp r (cur ++ [b])
def L (s : ByteArray) : List UInt8 := s.data.toList
theorem size_L (s : ByteArray) : (L s).length = s.size := Array.length_toList
theorem ext_L (s : ByteArray) (g m : Nat) : L (s.extract g m) = ((L s).take m).drop g := by
  unfold L
  rw [ByteArray.data_extract, Array.toList_extract, List.extract_eq_take_drop, List.drop_take]
theorem at_L {s : ByteArray} {m : Nat} (h : m < s.size) : (L s).drop m = (L s)[m]'(by rw [size_L]; exact h) :: (L s).drop (m + 1) := List.drop_eq_getElem_cons (by rw [size_L]; exact h)
theorem by_L {s : ByteArray} {m : Nat} (h : m < s.size) : by_ s m = ((L s)[m]'(by rw [size_L]; exact h)).toNat := by
  unfold by_
  rw [List.getD_eq_getElem?_getD, List.getElem?_eq_getElem (by show _ < (L s).length; rw [size_L]; exact h)]; rfl
theorem take_L {s : ByteArray} {m : Nat} (h : m < s.size) : (L s).take (m + 1) = (L s).take m ++ [(L s)[m]'(by rw [size_L]; exact h)] := List.take_succ_eq_append_getElem (by rw [size_L]; exact h)
theorem st_sp (s : ByteArray) : ∀ m, m ≤ s.size → (st s m).1.map L ++ sp ((L s).drop m) (((L s).take m).drop (st s m).2) = sp (L s) []
  | 0, _ => by simp [st]
  | m + 1, hm => by
    have ih := st_sp s m (by omega)
    have hbd := st_bd s m
    have hlt : m < s.size := by omega
    rw [at_L hlt] at ih
    have hb := by_L hlt
    generalize hc : (L s)[m]'(by rw [size_L]; exact hlt) = c at *
    have htl : ((L s).take m).length = m := by rw [List.length_take, size_L]; omega
    by_cases h32 : c = 32
    · have e := st_end (s := s) (m := m) (by rw [hb, h32]; simp)
      have hz : ((L s).take (m + 1)).drop (m + 1) = [] := by simp
      rw [e]
      simp only [hz]
      rw [← ih, sp, if_pos h32]
      by_cases hg : (st s m).2 < m
      · rw [if_pos hg, if_neg (by rw [List.drop_eq_nil_iff]; omega)]
        simp [ext_L]
      · rw [if_neg hg, if_pos (by rw [List.drop_eq_nil_iff]; omega)]
    · have hne : by_ s m ≠ 32 := by
        rw [hb]; intro h; apply h32
        exact UInt8.toNat_inj.1 (by simpa using h)
      rw [st_go ⟨hlt, hne⟩, ← ih, sp, if_neg h32, take_L hlt, hc, List.drop_append_of_le_length (by omega)]
theorem fields_sp (s : ByteArray) : (fields s).map L = sp (L s) [] := by
  have h := st_sp s s.size (Nat.le_refl _)
  rw [← cl_all]
  unfold cl
  have h1 : (L s).drop s.size = [] := by rw [List.drop_eq_nil_iff, size_L]; exact Nat.le_refl _
  have h2 : (L s).take s.size = L s := List.take_of_length_le (by rw [size_L]; exact Nat.le_refl _)
  have hbd := st_bd s s.size
  rw [h1, h2, sp] at h
  rw [← h]
  by_cases hg : (st s s.size).2 < s.size
  · rw [if_pos hg, if_neg (by rw [List.drop_eq_nil_iff, size_L]; omega)]
    simp [ext_L, h2]
  · rw [if_neg hg, if_pos (by rw [List.drop_eq_nil_iff, size_L]; omega)]; simp
theorem sp_mem : ∀ (l cur : List UInt8) (p : List UInt8), (∀ b ∈ cur, b ≠ 32) → p ∈ sp l cur → p ≠ [] ∧ ∀ b ∈ p, b ≠ 32 ∧ (b ∈ cur ∨ b ∈ l)
  | [], cur, p, hc, h => by
    rw [sp] at h
    split at h
    · simp at h
    · rename_i hne; simp at h; subst h; exact ⟨hne, fun b hb => ⟨hc b hb, .inl hb⟩⟩
  | b :: r, cur, p, hc, h => by
    rw [sp] at h
    split at h
    · split at h
      · obtain ⟨h1, h2⟩ := sp_mem r [] p (by simp) h
        exact ⟨h1, fun x hx => ⟨(h2 x hx).1, .inr (List.mem_cons_of_mem _ ((h2 x hx).2.resolve_left (by simp)))⟩⟩
      · rename_i hne
        rcases List.mem_cons.1 h with rfl | h
        · exact ⟨hne, fun x hx => ⟨hc x hx, .inl hx⟩⟩
        · obtain ⟨h1, h2⟩ := sp_mem r [] p (by simp) h
          exact ⟨h1, fun x hx => ⟨(h2 x hx).1, .inr (List.mem_cons_of_mem _ ((h2 x hx).2.resolve_left (by simp)))⟩⟩
    · rename_i hb
      obtain ⟨h1, h2⟩ := sp_mem r (cur ++ [b]) p (fun x hx => (List.mem_append.1 hx).elim (hc x) (fun h => by simp at h; subst h; exact hb)) h
      refine ⟨h1, fun x hx => ⟨(h2 x hx).1, ?_⟩⟩
      rcases (h2 x hx).2 with h | h
      · rcases List.mem_append.1 h with h | h
        · exact .inl h
        · simp at h; subst h; exact .inr (by simp)
      · exact .inr (by simp [h])
theorem sp_run : ∀ (p R cur : List UInt8), (∀ b ∈ p, b ≠ 32) → sp (p ++ R) cur = sp R (cur ++ p)
  | [], R, cur, _ => by simp
  | b :: r, R, cur, h => by
    rw [List.cons_append, sp, if_neg (h b (by simp)), sp_run r R (cur ++ [b]) (fun x hx => h x (by simp [hx]))]
    simp
theorem sp_join : ∀ (xs : List (List UInt8)), (∀ p ∈ xs, p ≠ [] ∧ ∀ b ∈ p, b ≠ 32) → sp (xs.flatMap fun p => p ++ [32]) [] = xs
  | [], _ => by simp [sp]
  | p :: r, h => by
    have hp := h p (by simp)
    rw [List.flatMap_cons, List.append_assoc, sp_run p _ [] hp.2, List.nil_append, List.singleton_append, sp, if_pos rfl, if_neg hp.1, sp_join r (fun q hq => h q (by simp [hq]))]
/-- The joined text. -/
def join (xs : List ByteArray) : ByteArray := xs.foldl (fun a p => (a ++ p) ++ ⟨#[32]⟩) ⟨#[]⟩
theorem join_snoc (xs : List ByteArray) (p : ByteArray) : join (xs ++ [p]) = (join xs ++ p) ++ ⟨#[32]⟩ := by simp [join]
theorem L_add (a b : ByteArray) : L (a ++ b) = L a ++ L b := by unfold L; simp [ByteArray.data_append]
theorem foldl_L (xs : List ByteArray) (a : ByteArray) : L (xs.foldl (fun a p => (a ++ p) ++ ⟨#[32]⟩) a) = L a ++ (xs.map L).flatMap fun p => p ++ [32] := by
  induction xs generalizing a with
  | nil => simp
  | cons p r ih => rw [List.foldl_cons, ih, L_add, L_add]; simp [L]
theorem join_L (xs : List ByteArray) : L (join xs) = (xs.map L).flatMap fun p => p ++ [32] := by
  rw [join, foldl_L]; simp [L]
theorem list_inj : ∀ {a b : List ByteArray}, a.map L = b.map L → a = b
  | [], [], _ => rfl
  | [], _ :: _, h => by simp at h
  | _ :: _, [], h => by simp at h
  | x :: r, y :: t, h => by
    simp only [List.map_cons, List.cons.injEq] at h
    have hx : x = y := by cases x; cases y; have := h.1; simp [L] at this; rw [this]
    rw [hx, list_inj h.2]
theorem fields_mem {s : ByteArray} {p : List UInt8} (h : p ∈ (fields s).map L) : p ≠ [] ∧ ∀ b ∈ p, b ≠ 32 ∧ b ∈ L s := by
  rw [fields_sp] at h
  obtain ⟨h1, h2⟩ := sp_mem _ _ _ (by simp) h
  exact ⟨h1, fun b hb => ⟨(h2 b hb).1, (h2 b hb).2.resolve_left (by simp)⟩⟩
theorem fields_again (s : ByteArray) : fields (join (fields s)) = fields s := by
  apply list_inj
  rw [fields_sp, join_L]
  exact sp_join _ fun p hp => ⟨(fields_mem hp).1, fun b hb => ((fields_mem hp).2 b hb).1⟩
theorem good_again {s : ByteArray} (h : spll.Good s s.size) : spll.Good (join (fields s)) (join (fields s)).size := by
  intro j hj
  rw [by_L hj]
  have hm : (L (join (fields s)))[j]'(by rw [size_L]; exact hj) ∈ L (join (fields s)) := List.getElem_mem _
  generalize (L (join (fields s)))[j]'(by rw [size_L]; exact hj) = b at hm
  rw [join_L, List.mem_flatMap] at hm
  obtain ⟨p, hp, hb⟩ := hm
  rcases List.mem_append.1 hb with hb | hb
  · have := ((fields_mem hp).2 b hb).2
    obtain ⟨i, hi, rfl⟩ := List.getElem_of_mem this
    rw [size_L] at hi
    have := h i hi
    rw [by_L hi] at this
    exact this
  · simp at hb; subst hb; decide
end Go.Proofs.YtibenbkkokcpbaaDoor.again
