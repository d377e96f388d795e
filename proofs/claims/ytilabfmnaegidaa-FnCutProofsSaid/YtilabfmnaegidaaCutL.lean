/- Cuts: sets of places as bits, the narrowest cut, the pipes that are needed: plain functions. -/
import Derived.Test.YtilabfmnaegidaaFlwS5
import Derived.Test.YtilabfmnaegidaaBits
import Derived.Test.YtilabfmnaegidaaNetP
namespace Go.Proofs.Ytilabfmnaegidaa.cut
open Go.RowKit Go.Proofs.Ytilabfmnaegidaa.kit Go.Proofs.Ytilabfmnaegidaa.lawi Go.Proofs.Ytilabfmnaegidaa.yrl Go.Proofs.Ytilabfmnaegidaa.net Go.Proofs.Ytilabfmnaegidaa.nt Go.Proofs.Ytilabfmnaegidaa.flw Go.Proofs.Ytilabfmnaegidaa.fl_ Go.Proofs.Ytilabfmnaegidaa.bits_
/-- The places of a set. -/
def bs (s : Nat) : Int → Bool := fun u => s.testBit u.toNat
/-- How wide a set is. -/
def cwo (n : Nat) (zs : List Int) (s : Nat) : Int := cw (pF zs) (pT zs) (pW zs) (bs s) n
/-- A number that is a set of places. -/
def InS (P x : Int) : Prop := 0 ≤ x ∧ x < 2 ^ P.toNat
theorem cw_congr {F T W : Nat → Int} {S S' : Int → Bool} : ∀ k, (∀ j, j < k → S (F j) = S' (F j) ∧ S (T j) = S' (T j)) → cw F T W S k = cw F T W S' k
  | 0, _ => rfl
  | k + 1, h => by
    obtain ⟨h1, h2⟩ := h k (by omega)
    rw [cw, cw, cw_congr k fun j hj => h j (by omega), h1, h2]
/-- Each set of places is a number. -/
theorem set_ex (S : Int → Bool) : ∀ N : Nat, ∃ s : Nat, s < 2 ^ N ∧ ∀ u : Nat, u < N → s.testBit u = S (u : Int)
  | 0 => ⟨0, by simp, fun u hu => by omega⟩
  | N + 1 => by
    obtain ⟨s, h1, h2⟩ := set_ex S N
    have h3 : s < 2 ^ (N + 1) := Nat.lt_of_lt_of_le h1 (Nat.pow_le_pow_right (by decide) (by omega))
    cases hS : S (N : Int) with
    | true =>
      refine ⟨s ||| 1 <<< N, set_lt h3 (by omega), fun u hu => ?_⟩
      rw [bit_add]
      by_cases e : u = N
      · subst e; simp [hS]
      · rw [h2 u (by omega)]; simp [e]
    | false =>
      refine ⟨s, h3, fun u hu => ?_⟩
      by_cases e : u = N
      · subst e; rw [hS]; exact Nat.testBit_lt_two_pow h1
      · exact h2 u (by omega)
/-- A set is told by its places. -/
theorem set_uniq {N s t : Nat} (hs : s < 2 ^ N) (ht : t < 2 ^ N) (h : ∀ u, u < N → s.testBit u = t.testBit u) : s = t := by
  refine Nat.eq_of_testBit_eq fun u => ?_
  by_cases hu : u < N
  · exact h u hu
  · have e : 2 ^ N ≤ 2 ^ u := Nat.pow_le_pow_right (by decide) (by omega)
    rw [Nat.testBit_lt_two_pow (Nat.lt_of_lt_of_le hs e), Nat.testBit_lt_two_pow (Nat.lt_of_lt_of_le ht e)]
theorem two_pow_le {N : Nat} (h : N ≤ 8) : 2 ^ N ≤ 256 := Nat.pow_le_pow_right (n := 2) (by decide) h
theorem InS.small {P x : Int} (h : InS P x) (hP : P ≤ 8) : x < 256 := by
  obtain ⟨h0, h1⟩ := h
  have := two_pow_le (N := P.toNat) (by omega)
  have e : (2 : Int) ^ P.toNat = ((2 ^ P.toNat : Nat) : Int) := by push_cast; rfl
  rw [e] at h1
  omega
theorem InS.nat {P : Int} {s : Nat} : InS P (s : Int) ↔ s < 2 ^ P.toNat := by
  have e : (2 : Int) ^ P.toNat = ((2 ^ P.toNat : Nat) : Int) := by push_cast; rfl
  unfold InS
  rw [e]
  omega
/-- The answer of CutWidth. -/
def Cw (P : Int) (n : Nat) (zs : List Int) (set x : Int) : Prop := (NO P n zs ∧ InS P set → x = cwo n zs set.toNat) ∧ (¬ (NO P n zs ∧ InS P set) → x = -1)
/-- A cut between a and b. -/
def IsC (P : Int) (n : Nat) (zs : List Int) (set a b : Int) : Prop := InS P set ∧ Two P n zs a b ∧ bs set.toNat a = true ∧ bs set.toNat b = false
/-- The least of the narrowest cuts. -/
def Nc (P : Int) (n : Nat) (zs : List Int) (a b x : Int) : Prop := IsC P n zs x a b ∧ ∀ s, IsC P n zs s a b → cwo n zs x.toNat ≤ cwo n zs s.toNat ∧ (cwo n zs s.toNat = cwo n zs x.toNat → x ≤ s)
/-- The best set of the first k ones; -1: none. -/
def Bst (P : Int) (n : Nat) (zs : List Int) (a b : Int) (k : Nat) (y : Int) : Prop := (y = -1 ∧ ∀ s, IsC P n zs s a b → (k : Int) ≤ s) ∨ (y < k ∧ IsC P n zs y a b ∧ ∀ s, IsC P n zs s a b → s < k → cwo n zs y.toNat ≤ cwo n zs s.toNat ∧ (cwo n zs s.toNat = cwo n zs y.toNat → y ≤ s))
/-- The places that can be reached. -/
def Co (P : Int) (n : Nat) (zs : List Int) (fs : List Int) (a x : Int) : Prop := InS P x ∧ ∀ u : Nat, u < P.toNat → (x.toNat.testBit u = true ↔ RR (pF zs) (pT zs) (pW zs) (gd fs) n a (u : Int))
/-- A flow and a cut that prove each other. -/
def Pg (P : Int) (n : Nat) (zs : List Int) (m : Nat) (fs : List Int) (set a b : Int) : Prop := FK P n zs m fs a b ∧ IsC P n zs set a b ∧ Go.Proofs.Ytilabfmnaegidaa.flw.nt (pF zs) (pT zs) (gd fs) a n = cwo n zs set.toNat
/-- The pipes without which the greatest flow is less than g. -/
def Np (P : Int) (n : Nat) (zs : List Int) (a b g : Int) (q : Nat → Bool) : Prop := ∀ k, k < n → ∃ y, MF (pF (less zs k)) (pT (less zs k)) (pW (less zs k)) (n - 1) P a b y ∧ (q k = true ↔ y < g)
section
variable {P a b x y g set : Int} {n k : Nat} {zs fs : List Int}
theorem Cw.ex (P : Int) (n : Nat) (zs : List Int) (set : Int) : ∃ x, Cw P n zs set x := by
  by_cases h : NO P n zs ∧ InS P set
  · exact ⟨_, fun _ => rfl, fun g => absurd h g⟩
  · exact ⟨_, fun g => absurd g h, fun _ => rfl⟩
theorem Cw.of (h : NO P n zs) (hs : InS P set) : Cw P n zs set (cwo n zs set.toNat) := ⟨fun _ => rfl, fun g => absurd ⟨h, hs⟩ g⟩
theorem cwo_bd (ok : NO P n zs) (s : Nat) : 0 ≤ cwo n zs s ∧ cwo n zs s ≤ 1000 * n := cw_bd n fun j hj => by
  have := (ok.2.2.2 j hj).2.2.2
  omega
theorem Cw.sign (h : Cw P n zs set x) : 0 ≤ x ↔ NO P n zs ∧ InS P set := by
  constructor
  · intro h0
    by_cases hc : NO P n zs ∧ InS P set
    · exact hc
    · have := h.2 hc; omega
  · intro hc
    rw [h.1 hc]
    exact (cwo_bd hc.1 _).1
theorem Bst.zero : Bst P n zs a b 0 (-1) := .inl ⟨rfl, fun _ hs => hs.1.1⟩
theorem Bst.bad (h : Bst P n zs a b k y) (hk : ¬ IsC P n zs (k : Int) a b) : Bst P n zs a b (k + 1) y := by
  rcases h with ⟨h1, h2⟩ | ⟨h1, h2, h3⟩
  · refine .inl ⟨h1, fun s hs => ?_⟩
    have := h2 s hs
    have : s ≠ (k : Int) := fun e => hk (e ▸ hs)
    omega
  · refine .inr ⟨by omega, h2, fun s hs hlt => h3 s hs ?_⟩
    have : s ≠ (k : Int) := fun e => hk (e ▸ hs)
    omega
theorem Bst.good (h : Bst P n zs a b k y) (hk : IsC P n zs (k : Int) a b) (hy : y < 0 ∨ cwo n zs k < cwo n zs y.toNat) : Bst P n zs a b (k + 1) (k : Int) := by
  refine .inr ⟨by omega, hk, fun s hs hlt => ?_⟩
  rw [Int.toNat_natCast]
  by_cases e : s = (k : Int)
  · subst e
    rw [Int.toNat_natCast]
    exact ⟨Int.le_refl _, fun _ => Int.le_refl _⟩
  · have hs0 := hs.1.1
    rcases h with ⟨_, h2⟩ | ⟨h1, h2, h3⟩
    · have := h2 s hs; omega
    · have := h2.1.1
      have h4 := (h3 s hs (by omega)).1
      exact ⟨by omega, fun e => by omega⟩
theorem Bst.worse (h : Bst P n zs a b k y) (hy0 : 0 ≤ y) (hy : ¬ cwo n zs k < cwo n zs y.toNat) : Bst P n zs a b (k + 1) y := by
  rcases h with ⟨h1, _⟩ | ⟨h1, h2, h3⟩
  · omega
  · refine .inr ⟨by omega, h2, fun s hs hlt => ?_⟩
    by_cases e : s = (k : Int)
    · subst e
      rw [Int.toNat_natCast]
      exact ⟨by omega, fun _ => by omega⟩
    · exact h3 s hs (by omega)
theorem Bst.rg (h : Bst P n zs a b k y) : -1 ≤ y ∧ (y < k ∨ y = -1) ∧ (0 ≤ y → IsC P n zs y a b) := by
  rcases h with ⟨h1, _⟩ | ⟨h1, h2, _⟩
  · exact ⟨by omega, .inr h1, fun h => by omega⟩
  · have := h2.1.1
    exact ⟨by omega, .inl h1, fun _ => h2⟩
theorem Nc.uniq (h : Nc P n zs a b x) (h' : Nc P n zs a b y) : x = y := by
  obtain ⟨h1, h2⟩ := h.2 y h'.1
  obtain ⟨h3, h4⟩ := h'.2 x h.1
  have := h2 (by omega)
  have := h4 (by omega)
  omega
theorem one_cut (two : Two P n zs a b) : IsC P n zs ((1 <<< a.toNat : Nat) : Int) a b := by
  obtain ⟨ok, ha, hb, hab⟩ := two
  refine ⟨InS.nat.2 ?_, ⟨ok, ha, hb, hab⟩, ?_, ?_⟩
  · rw [Nat.one_shiftLeft]; exact Nat.pow_lt_pow_right (by decide) (by omega)
  · unfold bs
    rw [Int.toNat_natCast, bit_one]
    exact decide_eq_true rfl
  · unfold bs
    rw [Int.toNat_natCast, bit_one]
    exact decide_eq_false (by omega)
/-- The best set of all is the narrowest cut. -/
theorem Bst.all (h : Bst P n zs a b (2 ^ P.toNat) y) (two : Two P n zs a b) : Nc P n zs a b y := by
  have e : ((2 ^ P.toNat : Nat) : Int) = (2 : Int) ^ P.toNat := by push_cast; rfl
  rcases h with ⟨_, h2⟩ | ⟨_, h2, h3⟩
  · have hc := one_cut two
    have := h2 _ hc
    have := hc.1.2
    omega
  · refine ⟨h2, fun s hs => h3 s hs ?_⟩
    rw [e]
    exact hs.1.2
theorem Nc.ex (two : Two P n zs a b) : ∃ x, Nc P n zs a b x := by
  classical
  have key : ∀ k, ∃ y, Bst P n zs a b k y := fun k => by
    induction k with
    | zero => exact ⟨-1, Bst.zero⟩
    | succ k ih =>
      obtain ⟨y, h⟩ := ih
      by_cases hk : IsC P n zs (k : Int) a b
      · by_cases hy : y < 0 ∨ cwo n zs k < cwo n zs y.toNat
        · exact ⟨k, h.good hk hy⟩
        · exact ⟨y, h.worse (by omega) (by omega)⟩
      · exact ⟨y, h.bad hk⟩
  obtain ⟨y, h⟩ := key (2 ^ P.toNat)
  exact ⟨y, h.all two⟩
/-- A set that can be taken for a line: between flows and cuts. -/
theorem IsC.ge (h : IsC P n zs set a b) (hg : MF (pF zs) (pT zs) (pW zs) n P a b g) : g ≤ cwo n zs set.toNat := by
  obtain ⟨f, hf, e⟩ := hg.1
  rw [← e]
  exact hf.le_cut (Two.pl h.2.1) h.2.1.2.1.1 h.2.1.2.1.2 h.2.2.1 h.2.2.2
theorem cwo_of (ok : NO P n zs) {S : Int → Bool} {s : Nat} (h : ∀ u : Nat, u < P.toNat → s.testBit u = S (u : Int)) : cwo n zs s = cw (pF zs) (pT zs) (pW zs) S n := by
  refine cw_congr n fun j hj => ?_
  obtain ⟨⟨F0, F1⟩, ⟨T0, T1⟩, _⟩ := ok.2.2.2 j hj
  have e1 := h (pF zs j).toNat (by omega)
  have e2 := h (pT zs j).toNat (by omega)
  rw [show ((pF zs j).toNat : Int) = pF zs j by omega] at e1
  rw [show ((pT zs j).toNat : Int) = pT zs j by omega] at e2
  exact ⟨e1, e2⟩
/-- Some cut is as narrow as the greatest flow is great. -/
theorem cut_ex (two : Two P n zs a b) (hg : MF (pF zs) (pT zs) (pW zs) n P a b g) : ∃ s : Nat, IsC P n zs (s : Int) a b ∧ cwo n zs s = g := by
  obtain ⟨S, s1, s2, s3⟩ := hg.2.1
  obtain ⟨s, h1, h2⟩ := set_ex S P.toNat
  have ha := two.2.1
  have hb := two.2.2.1
  have ea := h2 a.toNat (by omega)
  have eb := h2 b.toNat (by omega)
  rw [show (a.toNat : Int) = a by omega] at ea
  rw [show (b.toNat : Int) = b by omega] at eb
  exact ⟨s, ⟨InS.nat.2 h1, two, by rw [Int.toNat_natCast]; exact ea.trans s1, by rw [Int.toNat_natCast]; exact eb.trans s2⟩, by rw [cwo_of two.1 h2, s3]⟩
/-- The narrowest cut is as wide as the greatest flow is great. -/
theorem Nc.wide (h : Nc P n zs a b x) (hg : MF (pF zs) (pT zs) (pW zs) n P a b g) : cwo n zs x.toNat = g := by
  obtain ⟨s, h1, h2⟩ := cut_ex h.1.2.1 hg
  have h3 := (h.2 _ h1).1
  rw [Int.toNat_natCast, h2] at h3
  have := h.1.ge hg
  omega
open Classical in
theorem Co.ex (P : Int) (n : Nat) (zs fs : List Int) (a : Int) : ∃ x, Co P n zs fs a x := by
  obtain ⟨s, h1, h2⟩ := set_ex (fun u => decide (RR (pF zs) (pT zs) (pW zs) (gd fs) n a u)) P.toNat
  exact ⟨(s : Int), InS.nat.2 h1, fun u hu => by rw [Int.toNat_natCast, h2 u hu, decide_eq_true_iff]⟩
theorem Co.uniq (h : Co P n zs fs a x) (h' : Co P n zs fs a y) : x = y := by
  obtain ⟨⟨x0, x1⟩, h1⟩ := h
  obtain ⟨⟨y0, y1⟩, h2⟩ := h'
  obtain ⟨s, rfl⟩ : ∃ s : Nat, x = (s : Int) := ⟨x.toNat, by omega⟩
  obtain ⟨t, rfl⟩ : ∃ t : Nat, y = (t : Int) := ⟨y.toNat, by omega⟩
  simp only [Int.toNat_natCast] at h1 h2
  rw [set_uniq (InS.nat.1 ⟨x0, x1⟩) (InS.nat.1 ⟨y0, y1⟩) fun u hu => by rw [Bool.eq_iff_iff, h1 u hu, h2 u hu]]
open Classical in
/-- Of a greatest flow, the places that can be reached are a narrowest cut. -/
theorem Co.cut (h : Co P n zs fs a x) (two : Two P n zs a b) (ho : FO (pF zs) (pT zs) (pW zs) (gd fs) n P a b) (hb : ¬ RR (pF zs) (pT zs) (pW zs) (gd fs) n a b) : IsC P n zs x a b ∧ cwo n zs x.toNat = Go.Proofs.Ytilabfmnaegidaa.flw.nt (pF zs) (pT zs) (gd fs) a n := by
  have ha := two.2.1
  have hbb := two.2.2.1
  have key : ∀ u : Nat, u < P.toNat → x.toNat.testBit u = decide (RR (pF zs) (pT zs) (pW zs) (gd fs) n a (u : Int)) := fun u hu => by
    rw [Bool.eq_iff_iff, h.2 u hu, decide_eq_true_iff]
  have ea := key a.toNat (by omega)
  have eb := key b.toNat (by omega)
  rw [show (a.toNat : Int) = a by omega] at ea
  rw [show (b.toNat : Int) = b by omega] at eb
  have hSa : decide (RR (pF zs) (pT zs) (pW zs) (gd fs) n a a) = true := decide_eq_true .base
  have hSb : decide (RR (pF zs) (pT zs) (pW zs) (gd fs) n a b) = false := decide_eq_false hb
  refine ⟨⟨h.1, two, ea.trans hSa, eb.trans hSb⟩, ?_⟩
  rw [cwo_of two.1 (S := fun u => decide (RR (pF zs) (pT zs) (pW zs) (gd fs) n a u)) key, ← ho.ns (S := fun u => decide (RR (pF zs) (pT zs) (pW zs) (gd fs) n a u)) (Two.pl two) ha.1 ha.2 hSa hSb]
  refine (ns_eq n fun j hj => ⟨fun h1 h2 => ?_, fun h1 h2 => ?_⟩).symm
  · have hbd := ho.bd j hj
    have : ¬ gd fs j < pW zs j := fun hlt => of_decide_eq_false h2 (.fw j hj hlt (of_decide_eq_true h1))
    omega
  · have hbd := ho.bd j hj
    have : ¬ 0 < gd fs j := fun hlt => of_decide_eq_false h1 (.bw j hj hlt (of_decide_eq_true h2))
    omega
/-- No pipe leads out of no place. -/
theorem cwo_none : cwo n zs 0 = 0 := cw_none n fun j _ h => by
  unfold bs at h
  simp at h
theorem two_less (two : Two P n zs a b) (hl : zs.length = n * 3) (hk : k < n) : Two P (n - 1) (less zs k) a b := ⟨ok_less two.1 hl hk, two.2⟩
open Classical in
theorem Np.ex (two : Two P n zs a b) (hl : zs.length = n * 3) (g : Int) : ∃ q, Np P n zs a b g q := by
  have key : ∀ k, k < n → ∃ y, MF (pF (less zs k)) (pT (less zs k)) (pW (less zs k)) (n - 1) P a b y := fun k hk => by
    obtain ⟨r, hr⟩ := Two.run (two_less two hl hk)
    exact ⟨_, (Two.great (two_less two hl hk) hr).2⟩
  refine ⟨fun k => decide (∃ y, MF (pF (less zs k)) (pT (less zs k)) (pW (less zs k)) (n - 1) P a b y ∧ y < g), fun k hk => ?_⟩
  obtain ⟨y, hy⟩ := key k hk
  refine ⟨y, hy, ?_⟩
  rw [decide_eq_true_iff]
  exact ⟨fun ⟨z, h1, h2⟩ => by rw [hy.uniq h1]; exact h2, fun h => ⟨y, hy, h⟩⟩
end
end Go.Proofs.Ytilabfmnaegidaa.cut
