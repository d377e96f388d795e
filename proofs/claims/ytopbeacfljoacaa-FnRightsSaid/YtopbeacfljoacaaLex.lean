/- A cheap test that a drawn region may be walked in the text's order. -/
import Derived.Test.YtopbeacfljoacaaKit
import Derived.BigQuiet
namespace Go.Proofs.Ytopbeacfljoacaa.lex
open Go.RowKit
def nmem (d : Nat) : List Nat → Bool
  | [] => false
  | a :: r => match Nat.beq a d with | true => true | false => nmem d r
theorem nmem_iff {d : Nat} : ∀ {l : List Nat}, nmem d l = true ↔ d ∈ l
  | [] => by simp [nmem]
  | a :: r => by
    by_cases h : a = d
    · subst h; simp [nmem]
    · have hb : Nat.beq a d = false := by
        cases hc : Nat.beq a d with
        | false => rfl
        | true => exact absurd (Nat.eq_of_beq_eq_true hc) h
      simp only [nmem, hb, List.mem_cons]
      rw [nmem_iff (l := r)]
      constructor
      · exact .inr
      · rintro (e | e)
        · exact absurd e.symm h
        · exact e
def bindsOn (o : Oper) : List Nat := o.after.toList.filterMap fun e => match Region.binds .any e with | true => some e.on | false => none
theorem mem_bindsOn {o : Oper} {n : Nat} : n ∈ bindsOn o ↔ ∃ e ∈ o.after, Region.binds .any e = true ∧ e.on = n := by
  unfold bindsOn
  rw [List.mem_filterMap]
  constructor
  · rintro ⟨e, he, h⟩
    cases hb : Region.binds .any e with
    | true => rw [hb] at h; exact ⟨e, by simpa using he, hb, by simpa using h⟩
    | false => rw [hb] at h; simp at h
  · rintro ⟨e, he, hb, rfl⟩
    exact ⟨e, by simpa using he, by rw [hb]⟩
def lookN (ops : Array Oper) (x y : Oper) : Bool :=
  match x.dst with
  | some d => match nmem d (y.looksAt ops) with | true => false | false => true
  | none => true
def dstN (x y : Oper) : Bool :=
  match x.dst, y.dst with
  | some d, some e => match Nat.beq d e with | true => false | false => true
  | _, _ => true
def apartN (ops : Array Oper) (x y : Oper) : Bool :=
  match lookN ops x y with
  | true => match dstN x y with | true => lookN ops y x | false => false
  | false => false
theorem look_spec {ops : Array Oper} {x y : Oper} (h : lookN ops x y = true) : ∀ d, x.dst = some d → d ∉ y.looksAt ops := by
  intro d hd hm
  unfold lookN at h
  rw [hd] at h
  simp only [nmem_iff.2 hm] at h
  exact absurd h (by simp)
theorem dst_spec {x y : Oper} (h : dstN x y = true) : ∀ d, x.dst = some d → y.dst ≠ some d := by
  intro d hd he
  unfold dstN at h
  rw [hd, he] at h
  simp at h
theorem apart_of {ops : Array Oper} {x y : Oper} (h : apartN ops x y = true) : x.apart ops y = true := by
  unfold apartN at h
  cases h1 : lookN ops x y with
  | false => rw [h1] at h; simp at h
  | true =>
    rw [h1] at h
    cases h2 : dstN x y with
    | false => rw [h2] at h; simp at h
    | true =>
      rw [h2] at h
      have a1 := look_spec h1
      have a2 := dst_spec h2
      have a3 := look_spec (x := y) (y := x) h
      unfold Oper.apart
      cases hx : x.dst with
      | none =>
        cases hy : y.dst with
        | none => simp
        | some e => simpa using a3 e hy
      | some d =>
        have b1 := a1 d hx
        have b2 := a2 d hx
        cases hy : y.dst with
        | none => simpa using b1
        | some e =>
          have b3 := a3 e hy
          rw [hy] at b2
          simp at b2
          simp [b1, b2, b3]
def allB (p : Oper → Bool) : List Oper → Bool
  | [] => true
  | o :: r => match p o with | true => allB p r | false => false
theorem allB_iff {p : Oper → Bool} : ∀ {l : List Oper}, allB p l = true → ∀ o ∈ l, p o = true
  | [], _, o, ho => by simp at ho
  | a :: r, h, o, ho => by
    unfold allB at h
    cases hp : p a with
    | false => rw [hp] at h; simp at h
    | true =>
      rw [hp] at h
      rcases List.mem_cons.1 ho with rfl | ho
      · exact hp
      · exact allB_iff h o ho
def below (k : Nat) : List Nat → Bool
  | [] => true
  | a :: r => match Nat.blt a k with | true => below k r | false => false
theorem below_iff {k : Nat} : ∀ {l : List Nat}, below k l = true → ∀ n ∈ l, n < k
  | [], _, n, hn => by simp at hn
  | a :: r, h, n, hn => by
    unfold below at h
    cases hp : Nat.blt a k with
    | false => rw [hp] at h; simp at h
    | true =>
      rw [hp] at h
      rcases List.mem_cons.1 hn with rfl | hn
      · exact Nat.blt_eq.mp hp
      · exact below_iff h n hn
def one (ops : Array Oper) (k : Nat) (o : Oper) (rest : List Oper) : Bool :=
  match below k (bindsOn o) with
  | true => allB (fun oj => match nmem k (bindsOn oj) with | true => true | false => apartN ops o oj) rest
  | false => false
/-- n operations from number k on. -/
def chk (ops : Array Oper) : Nat → List Oper → Nat → Bool
  | 0, _, _ => true
  | _, [], _ => true
  | n + 1, o :: rest, k => match one ops k o rest with | true => chk ops n rest (k + 1) | false => false
theorem one_spec {ops : Array Oper} {k : Nat} {o : Oper} {rest : List Oper} (h : one ops k o rest = true) :
    (∀ n ∈ bindsOn o, n < k) ∧ ∀ oj ∈ rest, k ∈ bindsOn oj ∨ o.apart ops oj = true := by
  unfold one at h
  cases hb : below k (bindsOn o) with
  | false => rw [hb] at h; simp at h
  | true =>
    rw [hb] at h
    refine ⟨below_iff hb, fun oj hoj => ?_⟩
    have := allB_iff h oj hoj
    cases hm : nmem k (bindsOn oj) with
    | true => exact .inl (nmem_iff.1 hm)
    | false => simp only [hm] at this; exact .inr (apart_of this)
def All (ops : Array Oper) (l : List Oper) (k : Nat) : Prop := ∀ i o, l[i]? = some o → one ops (k + i) o (l.drop (i + 1)) = true
theorem all_nil (ops : Array Oper) (k : Nat) : All ops [] k := by intro i o h; simp at h
/-- In pieces: the first n by the kernel, the rest elsewhere. -/
theorem all_of {ops : Array Oper} : ∀ {n : Nat} {l : List Oper} {k : Nat}, chk ops n l k = true → All ops (l.drop n) (k + n) → All ops l k
  | 0, l, k, _, h => by simpa using h
  | n + 1, [], k, _, _ => all_nil _ _
  | n + 1, o :: rest, k, hc, h => by
    unfold chk at hc
    cases h1 : one ops k o rest with
    | false => rw [h1] at hc; simp at hc
    | true =>
      rw [h1] at hc
      have ih := all_of (n := n) (l := rest) (k := k + 1) hc (by simpa [Nat.add_assoc, Nat.add_comm 1 n] using h)
      intro i oi hi
      cases i with
      | zero => simp at hi; subst hi; simpa using h1
      | succ i =>
        have := ih i oi (by simpa using hi)
        simpa [Nat.add_assoc, Nat.add_comm 1 i] using this
theorem lexFrom_of {ops : Array Oper} : ∀ (l : List Oper) (k : Nat) (listed : Array Bool), (∀ j, l[j]? = ops[k + j]?) → k + l.length = ops.size → listed.size = ops.size →
    (∀ j, j < ops.size → listed[j]? = some (decide (j < k))) → All ops l k → Region.lexFrom .any ops l.length k listed = true
  | [], k, listed, hl, hn, hs, hd, _ => by
    simp only [List.length_nil, Region.lexFrom, List.isEmpty_iff]
    refine List.eq_nil_iff_forall_not_mem.2 fun j hj => ?_
    obtain ⟨h1, o, ho, _⟩ := mem_ready.1 hj
    have hlt := (Array.getElem?_eq_some_iff.1 ho).1
    have := hd j hlt
    rw [Array.getD_eq_getD_getElem?, this] at h1
    simp at h1 hn
    omega
  | o :: l, k, listed, hl, hn, hs, hd, hA => by
    have h0 : ops[k]? = some o := by simpa using (hl 0).symm
    have hk : k < ops.size := (Array.getElem?_eq_some_iff.1 h0).1
    obtain ⟨s1, s2⟩ := one_spec (by simpa using hA 0 o (by simp) : one ops k o l = true)
    simp only [List.length_cons, Region.lexFrom, Bool.and_eq_true]
    refine ⟨⟨?_, ?_⟩, ?_⟩
    · rw [List.contains_iff_mem]
      refine mem_ready.2 ⟨?_, o, h0, fun e he hb => ?_⟩
      · rw [Array.getD_eq_getD_getElem?, hd k hk]; simp
      · have hlt := s1 e.on (mem_bindsOn.2 ⟨e, he, hb, rfl⟩)
        rw [Array.getD_eq_getD_getElem?, hd e.on (by omega)]; simpa using hlt
    · unfold Region.free
      simp only [h0, List.all_eq_true, List.mem_range]
      intro j hj
      by_cases hjk : j < k
      · have : listed.getD j true = true := by rw [Array.getD_eq_getD_getElem?, hd j hj]; simpa using hjk
        rw [this]; simp
      · by_cases he : j = k
        · simp [he]
        · obtain ⟨oj, hoj⟩ : ∃ oj, ops[j]? = some oj := ⟨_, Array.getElem?_eq_getElem hj⟩
          have hm : oj ∈ l := by
            have e1 := hl (j - k)
            rw [show k + (j - k) = j by omega, hoj, show j - k = (j - k - 1) + 1 by omega] at e1
            simp at e1
            exact List.mem_of_getElem? e1
          simp only [hoj]
          rcases s2 oj hm with h | h
          · obtain ⟨e, he, hb, hon⟩ := mem_bindsOn.1 h
            have : (oj.after.any fun e => Region.binds .any e && e.on == k) = true := by
              rw [Array.any_eq_true']
              exact ⟨e, he, by simp [hb, hon]⟩
            rw [this]; simp
          · rw [h]; simp
    · refine lexFrom_of l (k + 1) _ (fun j => ?_) (by simp at hn; omega) (by simpa using hs) (fun j hj => ?_) (fun i oi hi => ?_)
      · have := hl (j + 1); simpa [Nat.add_assoc, Nat.add_comm 1 j] using this
      · rw [Array.getElem?_setIfInBounds]
        by_cases e : k = j
        · subst e; simp [hs, hk]
        · rw [if_neg e, hd j hj]
          congr 1
          rw [decide_eq_decide]
          omega
      · have := hA (i + 1) oi (by simpa using hi)
        simpa [Nat.add_assoc, Nat.add_comm 1 i] using this
theorem all_whole {ops : Array Oper} {l : List Oper} (h : chk ops l.length l 0 = true) : All ops l 0 := all_of h (by rw [List.drop_length]; exact all_nil _ _)
theorem lexB_of {l : List Oper} (hs : Region.noSelect l.toArray = true) (h : All l.toArray l 0) : Region.lexB .any l.toArray = true := by
  unfold Region.lexB
  rw [hs, Bool.true_and]
  have := lexFrom_of (ops := l.toArray) l 0 (Array.replicate l.toArray.size false) (by simp) (by simp) (by simp) (fun j hj => by rw [Array.getElem?_replicate]; simp at hj ⊢; exact hj) h
  simpa using this
end Go.Proofs.Ytopbeacfljoacaa.lex
