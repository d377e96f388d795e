/- Rights: the order of the remainders, sorted: plain functions. -/
import Derived.Test.YtopbeacfljoacaaRgtL2
import Derived.Test.YtopbeacfljoacaaSrtL
import Derived.Test.YtopbeacfljoacaaApart
namespace Go.Proofs.Ytopbeacfljoacaa.rgt
open Go.Proofs.Ytopbeacfljoacaa.kit Go.Proofs.Ytopbeacfljoacaa.frc Go.Proofs.Ytopbeacfljoacaa.rain Go.Proofs.Ytopbeacfljoacaa.yrl Go.Proofs.Ytopbeacfljoacaa.srt Go.Proofs.Ytopbeacfljoacaa.apart
/-- What remains of a division, reduced. -/
def RT (zs : List Int) (m : Int) (k : Nat) : Int := (rT (fm zs m k).toNat (wB zs k).toNat : Nat)
def RB (zs : List Int) (m : Int) (k : Nat) : Int := (rB (fm zs m k).toNat (wB zs k).toNat : Nat)
/-- The cells of the remainders; the first k of them. -/
def rmc (zs : List Int) (m : Int) (c : Nat) : Int := if c % 2 = 0 then RT zs m (c / 2) else RB zs m (c / 2)
def rmp (zs : List Int) (m : Int) (k : Nat) : Nat → Int := fun c => if c < k * 2 then rmc zs m c else 0
/-- The numbers below k, and zeros. -/
def upto (k : Nat) : Nat → Int := fun v => if v < k then (v : Int) else 0
/-- The numbers at the first m places of an order, as a set. -/
def uf (f : Nat → Nat) : Nat → Nat → Bool
  | 0 => fun _ => false
  | m + 1 => put1 (uf f m) (f m)
section
variable {R B : Nat → Int} {n k m i j : Nat} {f : Nat → Nat} {zs : List Int} {w : Int}
theorem rm_red (fk : Fk (wT zs k) (wB zs k)) : Red (fm zs w k).toNat (wB zs k).toNat (RT zs w k) (RB zs w k) true := by
  refine ⟨fun _ => ⟨rfl, rfl, rfl⟩, fun g => absurd ?_ g⟩
  have h1 := Int.emod_lt_of_pos (w * wT zs k) (show 0 < wB zs k by have := fk.1.1; omega)
  have h2 := fk.1.2
  have h3 := rT_le (fm zs w k).toNat (wB zs k).toNat
  have h4 := rB_le (fm zs w k).toNat (wB zs k).toNat
  unfold fm at *
  omega
theorem rm_fk (fk : Fk (wT zs k) (wB zs k)) : Fk (RT zs w k) (RB zs w k) := ((rm_red (w := w) fk).ok (by have := fk.1.1; omega)).1
theorem rm_scale (fk : Fk (wT zs k) (wB zs k)) : ∃ g : Int, 0 < g ∧ fm zs w k = RT zs w k * g ∧ wB zs k = RB zs w k * g := by
  have hb : 0 < (wB zs k).toNat := by have := fk.1.1; omega
  have h0 := Int.emod_nonneg (w * wT zs k) (show wB zs k ≠ 0 by have := fk.1.1; omega)
  refine ⟨(Nat.gcd (fm zs w k).toNat (wB zs k).toNat : Nat), by have := (gcd_lo (t := (fm zs w k).toNat) hb).1; omega, ?_, ?_⟩
  · have h1 := Nat.div_mul_cancel (Nat.gcd_dvd_left (fm zs w k).toNat (wB zs k).toNat)
    have h2 : ((fm zs w k).toNat : Int) = fm zs w k := Int.toNat_of_nonneg h0
    conv => lhs; rw [← h2]
    unfold RT rT
    exact_mod_cast h1.symm
  · have h1 := Nat.div_mul_cancel (Nat.gcd_dvd_right (fm zs w k).toNat (wB zs k).toNat)
    have h2 : ((wB zs k).toNat : Int) = wB zs k := Int.toNat_of_nonneg (by have := fk.1.1; omega)
    conv => lhs; rw [← h2]
    unfold RB rB
    exact_mod_cast h1.symm
/-- The reduced remainders are compared as the remainders. -/
theorem rm_less (fi : Fk (wT zs i) (wB zs i)) (fj : Fk (wT zs j) (wB zs j)) (h : j < i) : sg (RT zs w j * RB zs w i) (RT zs w i * RB zs w j) < 0 ↔ Ah (fm zs w) (wB zs) i j := by
  obtain ⟨p, hp, a1, a2⟩ := rm_scale (w := w) fi
  obtain ⟨q, hq, b1, b2⟩ := rm_scale (w := w) fj
  have hpq : 0 < q * p := Int.mul_pos hq hp
  have e1 : fm zs w j * wB zs i = RT zs w j * RB zs w i * (q * p) := by rw [b1, a2]; ac_rfl
  have e2 : fm zs w i * wB zs j = RT zs w i * RB zs w j * (q * p) := by rw [a1, b2]; ac_rfl
  unfold Ah
  rw [e1, e2]
  have key : RT zs w j * RB zs w i * (q * p) < RT zs w i * RB zs w j * (q * p) ↔ RT zs w j * RB zs w i < RT zs w i * RB zs w j :=
    ⟨fun h => Int.lt_of_mul_lt_mul_right h (Int.le_of_lt hpq), fun h => Int.mul_lt_mul_of_pos_right h hpq⟩
  rw [key]
  unfold sg
  constructor
  · intro h1
    split at h1
    · exact .inl ‹_›
    · split at h1 <;> omega
  · rintro (h1 | ⟨_, h1⟩)
    · rw [if_pos h1]; decide
    · omega
theorem Ah.asym (h : Ah R B i j) : ¬ Ah R B j i := by
  unfold Ah at *
  omega
theorem Ah.trans (hB : ∀ j, j < n → 0 < B j) : ∀ a b c, a < n → b < n → c < n → Ah R B a b → Ah R B b c → Ah R B a c := by
  intro a b c ha hb hc h1 h2
  have pa := hB a ha
  have pb := hB b hb
  have pc := hB c hc
  rcases h1 with h1 | ⟨h1, l1⟩
  · rcases h2 with h2 | ⟨h2, l2⟩
    · exact .inl (fl_fe pb pc pa h2 (Int.le_of_lt h1))
    · exact .inl (fe_fl pb pc pa (Int.le_of_eq h2) h1)
  · rcases h2 with h2 | ⟨h2, l2⟩
    · exact .inl (fl_fe pb pc pa h2 (Int.le_of_eq h1))
    · refine .inr ⟨?_, by omega⟩
      have k1 := fe_fe pb pc pa (show fe (R c) (B c) (R b) (B b) from Int.le_of_eq h2) (show fe (R b) (B b) (R a) (B a) from Int.le_of_eq h1)
      have k2 := fe_fe pb pa pc (show fe (R a) (B a) (R b) (B b) from Int.le_of_eq h1.symm) (show fe (R b) (B b) (R c) (B c) from Int.le_of_eq h2.symm)
      unfold fe at k1 k2
      omega
theorem uf_iff : ∀ m k, uf f m k = true ↔ ∃ i, i < m ∧ f i = k
  | 0, k => by simp [uf]
  | m + 1, k => by
    rw [uf]
    unfold put1
    rw [Bool.or_eq_true, uf_iff m k, decide_eq_true_iff]
    constructor
    · rintro (⟨i, hi, e⟩ | e)
      · exact ⟨i, by omega, e⟩
      · exact ⟨m, by omega, e.symm⟩
    · rintro ⟨i, hi, e⟩
      by_cases h : i = m
      · subst h; exact .inr e.symm
      · exact .inl ⟨i, by omega, e⟩
theorem srt_ne {L : Nat → Nat → Prop} (h : Srt L f n) (hirr : ∀ a, ¬ L a a) (hi : i < n) (hj : j < n) (e : f i = f j) : i = j := by
  rcases Nat.lt_trichotomy i j with h1 | h1 | h1
  · have := h.2.2.2 i j h1 hj
    rw [e] at this
    exact absurd this (hirr _)
  · exact h1
  · have := h.2.2.2 j i h1 hi
    rw [e] at this
    exact absurd this (hirr _)
theorem uf_fresh {L : Nat → Nat → Prop} (h : Srt L f n) (hirr : ∀ a, ¬ L a a) (hm : m < n) : uf f m (f m) = false := by
  cases hc : uf f m (f m) with
  | false => rfl
  | true =>
    obtain ⟨i, hi, e⟩ := (uf_iff m _).1 hc
    have := srt_ne h hirr (by omega) hm e
    omega
theorem uf_fr (h : Srt (Ah R B) f n) : ∀ m, m ≤ n → Fr R B n (uf f m) ∧ ct (uf f m) n = m
  | 0, _ => ⟨.none, by
      have : ∀ k, ct (fun _ => false) k = 0 := fun k => by induction k with
        | zero => rfl
        | succ k ih => rw [ct]; simpa using ih
      exact this n⟩
  | m + 1, hm => by
    obtain ⟨h1, h2⟩ := uf_fr h m (by omega)
    obtain ⟨a1, a2⟩ := h1.put (h.2.1 m (by omega)) (uf_fresh h (fun a => Ah.irr) (by omega)) (fun j hj hv hA => by
      obtain ⟨a, ha, rfl⟩ := h.2.2.1 j hj
      have hma : m ≤ a := by
        refine Classical.byContradiction fun hn => ?_
        rw [(uf_iff m (f a)).2 ⟨a, by omega, rfl⟩] at hv
        cases hv
      by_cases e : a = m
      · subst e; exact Ah.irr hA
      · exact Ah.asym hA (h.2.2.2 m a (by omega) ha))
    exact ⟨a1, by rw [uf, a2, h2]⟩
/-- One more in the rows. -/
theorem upto_set (hk : k < n) : (rw_ (upto k) n).set k (k : Int) = rw_ (upto (k + 1)) n := by
  rw [rwset]
  refine rwcongr fun v _ => ?_
  unfold upto
  by_cases e : v = k
  · subst e; rw [if_pos rfl, if_pos (by omega)]
  · rw [if_neg e]
    by_cases e2 : v < k
    · rw [if_pos e2, if_pos (by omega)]
    · rw [if_neg e2, if_neg (by omega)]
theorem upto_all : rw_ (upto n) n = rw_ (fun k => (k : Int)) n := rwcongr fun _ hv => if_pos hv
theorem rmp_set : ((rw_ (rmp zs w k) (n * 2)).set (k * 2) (RT zs w k)).set (k * 2 + 1) (RB zs w k) = rw_ (rmp zs w (k + 1)) (n * 2) := by
  rw [rwset, rwset]
  refine rwcongr fun v _ => ?_
  unfold rmp
  by_cases e : v = k * 2 + 1
  · subst e
    rw [if_pos rfl, if_pos (by omega)]
    unfold rmc
    rw [if_neg (by omega), show (k * 2 + 1) / 2 = k by omega]
  · rw [if_neg e]
    by_cases e1 : v = k * 2
    · subst e1
      rw [if_pos rfl, if_pos (by omega)]
      unfold rmc
      rw [if_pos (by omega), show k * 2 / 2 = k by omega]
    · rw [if_neg e1]
      by_cases e2 : v < k * 2
      · rw [if_pos e2, if_pos (by omega)]
      · rw [if_neg e2, if_neg (by omega)]
theorem rmp_at (hk : k < n) : (rw_ (rmp zs w n) (n * 2)).getD (k * 2) 0 = RT zs w k ∧ (rw_ (rmp zs w n) (n * 2)).getD (k * 2 + 1) 0 = RB zs w k := by
  refine ⟨?_, ?_⟩
  · rw [rw_at _ (by omega)]
    unfold rmp rmc
    rw [if_pos (by omega), if_pos (by omega), show k * 2 / 2 = k by omega]
  · rw [rw_at _ (by omega)]
    unfold rmp rmc
    rw [if_pos (by omega), if_neg (by omega), show (k * 2 + 1) / 2 = k by omega]
theorem dv_step {V : Nat → Bool} {b : Nat} (hv : V b = false) : (rw_ (fun v => fd zs w v + if V v = true then 1 else 0) n).set b (fd zs w b + 1) = rw_ (fun v => fd zs w v + if put1 V b v = true then 1 else 0) n := by
  rw [rwset]
  refine rwcongr fun u _ => ?_
  unfold put1
  by_cases e : u = b
  · subst e; simp
  · simp [e]
theorem fd_set {k : Nat} : (rw_ (fun v => if v < k then fd zs w v else 0) n).set k (fd zs w k) = rw_ (fun v => if v < k + 1 then fd zs w v else 0) n := by
  rw [rwset]
  refine rwcongr fun v _ => ?_
  by_cases e : v = k
  · subst e; rw [if_pos rfl, if_pos (by omega)]
  · rw [if_neg e]
    by_cases e2 : v < k
    · rw [if_pos e2, if_pos (by omega)]
    · rw [if_neg e2, if_neg (by omega)]
end
end Go.Proofs.Ytopbeacfljoacaa.rgt
