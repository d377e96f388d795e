/- Chains of overflows: where following the indices leads, circles, ways, water poured along a way: plain lists. -/
import Derived.Test.YtaofgidhnnlgoaaCis
namespace Go.Proofs.Ytaofgidhnnlgoaa.chl
open Go.Proofs.Ytaofgidhnnlgoaa.cis
/-- A function that takes n values takes one of them twice in more than n places. -/
theorem nodup_le : ∀ (n : Nat) (l : List Nat), l.Nodup → (∀ x ∈ l, x < n) → l.length ≤ n
  | 0, [], _, _ => Nat.le_refl _
  | 0, x :: l, _, h => absurd (h x (by simp)) (by omega)
  | n + 1, l, hd, h => by
    by_cases hm : n ∈ l
    · have h1 := nodup_le n (l.erase n) (hd.erase n) (fun x hx => by
        have := (hd.mem_erase_iff).1 hx
        have := h x this.2
        omega)
      rw [List.length_erase_of_mem hm] at h1
      omega
    · have := nodup_le n l hd (fun x hx => by
        have := h x hx
        have : x ≠ n := fun e => hm (e ▸ hx)
        omega)
      omega
theorem pig (f : Nat → Int) (n m : Nat) (hm : n < m) (h : ∀ i, i < m → 0 ≤ f i ∧ f i < n) : ∃ a b, a < b ∧ b < m ∧ f a = f b := by
  refine Classical.byContradiction fun hc => ?_
  have hd : ((List.range m).map fun i => (f i).toNat).Nodup := by
    unfold List.Nodup
    rw [List.pairwise_iff_getElem]
    intro i j hi hj hij
    simp at hi hj ⊢
    intro e
    have h1 := h i hi
    have h2 := h j hj
    exact hc ⟨i, j, hij, hj, by omega⟩
  have := nodup_le n _ hd (fun x hx => by
    obtain ⟨i, hi, rfl⟩ := List.mem_map.1 hx
    have := h i (by simpa using hi)
    omega)
  simp at this
  omega
/-- The first place below N with p, or none. -/
theorem first_or (p : Nat → Prop) : ∀ N, (∀ j, j < N → ¬ p j) ∨ ∃ m, m < N ∧ p m ∧ ∀ j, j < m → ¬ p j
  | 0 => .inl fun j hj => by omega
  | N + 1 => by
    rcases first_or p N with h | ⟨m, hm, hp, hl⟩
    · by_cases hN : p N
      · exact .inr ⟨N, by omega, hN, h⟩
      · refine .inl fun j hj => ?_
        by_cases e : j = N
        · exact e ▸ hN
        · exact h j (by omega)
    · exact .inr ⟨m, by omega, hp, hl⟩
def In (n : Nat) (x : Int) : Prop := 0 ≤ x ∧ x < n
instance (n : Nat) (x : Int) : Decidable (In n x) := inferInstanceAs (Decidable (_ ∧ _))
/-- The next index; what is no index stays. -/
def nx (ns : List Int) (n : Nat) (x : Int) : Int := if In n x then ns.getD x.toNat 0 else x
/-- The index after j steps. -/
def it (ns : List Int) (n : Nat) (x : Int) : Nat → Int
  | 0 => x
  | j + 1 => nx ns n (it ns n x j)
section
variable {ns : List Int} {n : Nat}
theorem it_succ (x : Int) (j : Nat) : it ns n x (j + 1) = nx ns n (it ns n x j) := rfl
theorem it_add (x : Int) (a : Nat) : ∀ b, it ns n x (a + b) = it ns n (it ns n x a) b
  | 0 => rfl
  | b + 1 => by rw [← Nat.add_assoc, it_succ, it_succ, it_add x a b]
theorem it_step {x : Int} {j : Nat} (h : In n (it ns n x j)) : it ns n x (j + 1) = ns.getD (it ns n x j).toNat 0 := by rw [it_succ, nx, if_pos h]
theorem it_out {x : Int} {j : Nat} (h : ¬ In n (it ns n x j)) : ∀ d, it ns n x (j + d) = it ns n x j
  | 0 => rfl
  | d + 1 => by rw [← Nat.add_assoc, it_succ, it_out h d, nx, if_neg h]
/-- k lies on a circle. -/
def OnC (ns : List Int) (n : Nat) (k : Int) : Prop := ∃ j, it ns n k (j + 1) = k
theorem onC_bd {k : Int} (hk : In n k) : ∀ N j, j < N → it ns n k (j + 1) = k → ∃ i, i < n ∧ it ns n k (i + 1) = k
  | 0, _, h, _ => by omega
  | N + 1, j, hj, h => by
    by_cases hjn : j < n
    · exact ⟨j, hjn, h⟩
    · have hin : ∀ i, i < j + 1 → In n (it ns n k i) := fun i hi => by
        refine Classical.byContradiction fun ho => ?_
        have := it_out ho (j + 1 - i)
        rw [show i + (j + 1 - i) = j + 1 by omega, h] at this
        exact ho (this ▸ hk)
      obtain ⟨a, b, hab, hb, he⟩ := pig (it ns n k) n (j + 1) (by omega) hin
      refine onC_bd hk N (a + (j - b)) (by omega) ?_
      have h1 := it_add (ns := ns) (n := n) k b (j + 1 - b)
      rw [show b + (j + 1 - b) = j + 1 by omega, h] at h1
      rw [show a + (j - b) + 1 = a + (j + 1 - b) by omega, it_add, he]
      exact h1.symm
theorem not_onC {k : Int} (hk : In n k) (h : ∀ i, i < n → it ns n k (i + 1) ≠ k) : ¬ OnC ns n k := fun ⟨j, hj⟩ => by
  obtain ⟨i, hi, he⟩ := onC_bd hk (j + 1) j (by omega) hj
  exact h i hi he
theorem not_onC_out {k : Int} {s : Nat} (hk : In n k) (h : ∀ i, i < s → it ns n k (i + 1) ≠ k) (ho : ¬ In n (it ns n k s)) : ¬ OnC ns n k := fun ⟨j, hj⟩ => by
  by_cases hjs : j < s
  · exact h j hjs hj
  · have := it_out ho (j + 1 - s)
    rw [show s + (j + 1 - s) = j + 1 by omega, hj] at this
    exact ho (this ▸ hk)
open Classical in
/-- The indices below m that lie on a circle, in ascending order. -/
noncomputable def circ (ns : List Int) (n : Nat) : Nat → List Int
  | 0 => []
  | m + 1 => if OnC ns n (m : Int) then circ ns n m ++ [(m : Int)] else circ ns n m
theorem circ_yes {m : Nat} (h : OnC ns n (m : Int)) : circ ns n (m + 1) = circ ns n m ++ [(m : Int)] := by rw [circ, if_pos h]
theorem circ_no {m : Nat} (h : ¬ OnC ns n (m : Int)) : circ ns n (m + 1) = circ ns n m := by rw [circ, if_neg h]
theorem circ_len : ∀ m, (circ ns n m).length ≤ m
  | 0 => by simp [circ]
  | m + 1 => by
    have := circ_len m
    by_cases h : OnC ns n (m : Int)
    · rw [circ_yes h]; simp; omega
    · rw [circ_no h]; omega
theorem circ_nil : ∀ m, circ ns n m = [] ↔ ∀ k, k < m → ¬ OnC ns n ((k : Nat) : Int)
  | 0 => by simp [circ]
  | m + 1 => by
    by_cases h : OnC ns n (m : Int)
    · rw [circ_yes h]
      constructor
      · intro e; simp at e
      · intro e; exact absurd h (e m (by omega))
    · rw [circ_no h, circ_nil m]
      constructor
      · intro e k hk
        by_cases ek : k = m
        · exact ek ▸ h
        · exact e k (by omega)
      · exact fun e k hk => e k (by omega)
/-- Every next index is -1 or an index. -/
def Val (ns : List Int) (n : Nat) : Prop := ∀ i, i < n → -1 ≤ ns.getD i 0 ∧ ns.getD i 0 ≤ (n : Int) - 1
/-- From k, m steps lead to a cistern whose overflow is lost. -/
def Leads (ns : List Int) (n : Nat) (k : Int) (m : Nat) : Prop := (∀ j, j < m → In n (it ns n k j)) ∧ it ns n k m = -1
theorem Leads.uniq {k : Int} {m m' : Nat} (h : Leads ns n k m) (h' : Leads ns n k m') : m = m' := by
  by_cases e : m < m'
  · have := (h'.1 m e).1; rw [h.2] at this; omega
  · by_cases e' : m' < m
    · have := (h.1 m' e').1; rw [h'.2] at this; omega
    · omega
theorem it_val {k : Int} (hv : Val ns n) (hk : In n k) : ∀ j, In n (it ns n k j) ∨ it ns n k j = -1
  | 0 => .inl hk
  | j + 1 => by
    rcases it_val hv hk j with h | h
    · rw [it_step h]
      have := hv (it ns n k j).toNat (by obtain ⟨h1, h2⟩ := h; omega)
      unfold In
      omega
    · right
      rw [it_succ, h, nx, if_neg (by unfold In; omega)]
theorem Leads.ex {k : Int} (hv : Val ns n) (hn : ∀ i, i < n → ¬ OnC ns n ((i : Nat) : Int)) (hk : In n k) : ∃ m, 1 ≤ m ∧ m ≤ n ∧ Leads ns n k m := by
  rcases first_or (fun j => it ns n k j = -1) (n + 1) with h | ⟨m, hm, hp, hl⟩
  · have hin : ∀ i, i < n + 1 → In n (it ns n k i) := fun i hi => (it_val hv hk i).resolve_right (h i hi)
    obtain ⟨a, b, hab, hb, he⟩ := pig (it ns n k) n (n + 1) (by omega) hin
    have h1 := it_add (ns := ns) (n := n) k a (b - a)
    rw [show a + (b - a) = b by omega, ← he] at h1
    have ha := hin a (by omega)
    obtain ⟨h2, h3⟩ := ha
    refine absurd ⟨b - a - 1, ?_⟩ (hn (it ns n k a).toNat (by omega))
    rw [show ((it ns n k a).toNat : Int) = it ns n k a by omega, show b - a - 1 + 1 = b - a by omega]
    exact h1.symm
  · refine ⟨m, ?_, by omega, fun j hj => (it_val hv hk j).resolve_right (hl j hj), hp⟩
    by_cases e : m = 0
    · subst e; have h2 := hk.1; have : it ns n k 0 = k := rfl; rw [this] at hp; omega
    · omega
theorem Leads.apart {k : Int} {m : Nat} (h : Leads ns n k m) {a b : Nat} (hab : a < b) (hb : b < m) : it ns n k a ≠ it ns n k b := fun e => by
  -- then the way never ends
  have h1 := it_add (ns := ns) (n := n) k a (m - b)
  have h2 := it_add (ns := ns) (n := n) k b (m - b)
  rw [e, ← h2, show b + (m - b) = m by omega, h.2] at h1
  have := (h.1 (a + (m - b)) (by omega)).1
  omega
/-- The first m indices of the way from k on. -/
def wy (ns : List Int) (n : Nat) (k : Int) (m : Nat) : List Int := (List.range m).map (it ns n k)
theorem wy_len (k : Int) (m : Nat) : (wy ns n k m).length = m := by simp [wy]
theorem wy_at (k : Int) {m j : Nat} (h : j < m) : (wy ns n k m).getD j 0 = it ns n k j := by simp [wy, List.getD_eq_getElem?_getD, h]
theorem wy_succ (k : Int) (m : Nat) : wy ns n k (m + 1) = wy ns n k m ++ [it ns n k m] := by simp [wy, List.range_succ]
end
/-- The chain is valid: zs are Room and Level of each cistern, ns the Nexts. -/
def Valid (zs : List Int) (n : Nat) : Prop := ∀ k, k < n → COk (zs.getD (k * 2) 0) (zs.getD (k * 2 + 1) 0)
def CO (zs : List Int) (n : Nat) (ns : List Int) (m : Nat) : Prop :=
  1 ≤ n ∧ n ≤ 10 ∧ m = n ∧ Valid zs n ∧ Val ns n ∧ ∀ i, i < n → ¬ OnC ns n ((i : Nat) : Int)
/-- The sum of the first k levels. -/
def tl (zs : List Int) : Nat → Int
  | 0 => 0
  | k + 1 => tl zs k + zs.getD (k * 2 + 1) 0
theorem tl_bd {zs : List Int} {n : Nat} (h : Valid zs n) : ∀ k, k ≤ n → 0 ≤ tl zs k ∧ tl zs k ≤ 1000000 * k
  | 0, _ => by simp [tl]
  | k + 1, hk => by
    have h1 := tl_bd h k (by omega)
    obtain ⟨a, b, c, d⟩ := h k (by omega)
    show 0 ≤ tl zs k + zs.getD (k * 2 + 1) 0 ∧ tl zs k + zs.getD (k * 2 + 1) 0 ≤ 1000000 * ((k + 1 : Nat) : Int)
    omega
/-- The space of the cistern at an index. -/
def sp (zs : List Int) (x : Int) : Int := zs.getD (x.toNat * 2) 0 - zs.getD (x.toNat * 2 + 1) 0
theorem sp_bd {zs : List Int} {n : Nat} (h : Valid zs n) {x : Int} (hx : In n x) : 0 ≤ sp zs x ∧ sp zs x ≤ 1000000 := by
  obtain ⟨h1, h2⟩ := hx
  obtain ⟨a, b, c, d⟩ := h x.toNat (by omega)
  unfold sp
  omega
/-- The space along the first i places of the way. -/
def room (zs ns : List Int) (n : Nat) (k : Int) : Nat → Int
  | 0 => 0
  | i + 1 => room zs ns n k i + sp zs (it ns n k i)
theorem room_bd {zs ns : List Int} {n : Nat} (h : Valid zs n) {k : Int} {m : Nat} (he : ∀ j, j < m → In n (it ns n k j)) : ∀ i, i ≤ m → 0 ≤ room zs ns n k i ∧ room zs ns n k i ≤ 1000000 * i
  | 0, _ => by simp [room]
  | i + 1, hi => by
    have h1 := room_bd h he i (by omega)
    have h2 := sp_bd h (he i (by omega))
    show 0 ≤ room zs ns n k i + sp zs (it ns n k i) ∧ room zs ns n k i + sp zs (it ns n k i) ≤ 1000000 * ((i + 1 : Nat) : Int)
    omega
def mn (x y : Int) : Int := if x ≤ y then x else y
theorem mn_Mn (x y : Int) : Mn (mn x y) x y := by unfold mn Mn; split <;> omega
/-- The cisterns and the water after i places of the way. -/
def pst (ns : List Int) (n : Nat) (k : Int) (zs : List Int) (x : Int) : Nat → List Int × Int
  | 0 => (zs, x)
  | i + 1 =>
    let p := pst ns n k zs x i
    let j := (it ns n k i).toNat
    let d := mn p.2 (sp p.1 (it ns n k i))
    (p.1.set (j * 2 + 1) (p.1.getD (j * 2 + 1) 0 + d), p.2 - d)
end Go.Proofs.Ytaofgidhnnlgoaa.chl
