/- Rights: sums of shares, their order, the division of water: plain functions. -/
import Derived.Test.YtopbeacfljoacaaFrcL
import Derived.Test.YtopbeacfljoacaaBase
namespace Go.Proofs.Ytopbeacfljoacaa.rgt
open Go.Proofs.Ytopbeacfljoacaa.kit Go.Proofs.Ytopbeacfljoacaa.frc Go.Proofs.Ytopbeacfljoacaa.rain Go.Proofs.Ytopbeacfljoacaa.yrl
/-- The numbers of a right: its owner and its share. -/
def wO (zs : List Int) (k : Nat) : Int := zs.getD (k * 3) 0
def wT (zs : List Int) (k : Nat) : Int := zs.getD (k * 3 + 1) 0
def wB (zs : List Int) (k : Nat) : Int := zs.getD (k * 3 + 2) 0
/-- The sum of the first k shares, added one after the other. -/
inductive Sm (T B : Nat → Int) : Nat → Int → Int → Prop
  | zero : Sm T B 0 0 1
  | step (k : Nat) (x y x' y' : Int) : Sm T B k x y → Ad x y (T k) (B k) x' y' true → Sm T B (k + 1) x' y'
/-- The answer of SumOfShares. -/
def Su (n : Nat) (zs : List Int) (x y : Int) (r : Bool) : Prop := (n ≤ 12 ∧ Sm (wT zs) (wB zs) n x y ∧ r = true) ∨ ((n ≤ 12 → ∀ p q, ¬ Sm (wT zs) (wB zs) n p q) ∧ x = 0 ∧ y = 0 ∧ r = false)
/-- Valid rights. -/
def Own1 (zs : List Int) (k : Nat) : Prop := (1 ≤ wO zs k ∧ wO zs k ≤ 999) ∧ 1 ≤ wT zs k ∧ (0 < k → wO zs (k - 1) < wO zs k)
def Ro (n : Nat) (zs : List Int) : Prop := (1 ≤ n ∧ n ≤ 12) ∧ (∀ k, k < n → Own1 zs k) ∧ Sm (wT zs) (wB zs) n 1 1
/-- One fraction is less than, or at most, another one. -/
def fl_ (t b t' b' : Int) : Prop := t * b' < t' * b
def fe (t b t' b' : Int) : Prop := t * b' ≤ t' * b
/-- b is the first of the greatest of the first k shares. -/
def Fg (T B : Nat → Int) (k b : Nat) : Prop := b < k ∧ (∀ j, j < k → fe (T j) (B j) (T b) (B b)) ∧ (∀ j, j < b → fl_ (T j) (B j) (T b) (B b))
/-- The answer of LargestOwner. -/
def Lo (n : Nat) (zs : List Int) (x : Int) : Prop := (Ro n zs → ∃ b, Fg (wT zs) (wB zs) n b ∧ x = wO zs b) ∧ (¬ Ro n zs → x = -1)
/-- What each right gets at least of the water, and what remains of its division. -/
def fd (zs : List Int) (w : Int) (k : Nat) : Int := w * wT zs k / wB zs k
def fm (zs : List Int) (w : Int) (k : Nat) : Int := w * wT zs k % wB zs k
/-- j comes ahead of k when what is left is given. -/
def Ah (R B : Nat → Int) (j k : Nat) : Prop := R k * B j < R j * B k ∨ (R k * B j = R j * B k ∧ j < k)
/-- A set from the front of that order. -/
def Fr (R B : Nat → Int) (n : Nat) (U : Nat → Bool) : Prop := ∀ j k, j < n → k < n → Ah R B j k → U k = true → U j = true
/-- Who gets a liter more. -/
def Dv (n : Nat) (zs : List Int) (w : Int) (U : Nat → Bool) : Prop := Fr (fm zs w) (wB zs) n U ∧ (ct U n : Int) = w - sm (fd zs w) n
section
variable {T B R : Nat → Int} {n k b : Nat} {zs : List Int} {x y x' y' w : Int} {r r' : Bool}
theorem ad_uniq {t s t' s' : Int} (h : Ad t s t' s' x y r) (h' : Ad t s t' s' x' y' r') : x = x' ∧ y = y' ∧ r = r' := by
  by_cases hc : Fk t s ∧ Fk t' s'
  · exact (h.1 hc).uniq (h'.1 hc)
  · obtain ⟨a1, a2, a3⟩ := h.2 hc
    obtain ⟨b1, b2, b3⟩ := h'.2 hc
    exact ⟨a1.trans b1.symm, a2.trans b2.symm, a3.trans b3.symm⟩
theorem ad_fk {t s t' s' : Int} (h : Ad t s t' s' x y true) : Fk t s ∧ Fk t' s' := Classical.byContradiction fun hc => by cases (h.2 hc).2.2
theorem ad_red {t s t' s' : Int} (h : Ad t s t' s' x y true) : Red (t * s' + t' * s).toNat (s * s').toNat x y true := h.1 (ad_fk h)
theorem Sm.inv (h : Sm T B (k + 1) x' y') : ∃ x y, Sm T B k x y ∧ Ad x y (T k) (B k) x' y' true := by
  cases h with
  | step _ x y _ _ h1 h2 => exact ⟨x, y, h1, h2⟩
theorem Sm.uniq : ∀ {k : Nat} {x y x' y' : Int}, Sm T B k x y → Sm T B k x' y' → x = x' ∧ y = y'
  | 0, _, _, _, _, h, h' => by cases h; cases h'; exact ⟨rfl, rfl⟩
  | k + 1, _, _, _, _, h, h' => by
    obtain ⟨x1, y1, h1, h2⟩ := h.inv
    obtain ⟨x2, y2, h3, h4⟩ := h'.inv
    obtain ⟨rfl, rfl⟩ := Sm.uniq h1 h3
    exact ⟨(ad_uniq h2 h4).1, (ad_uniq h2 h4).2.1⟩
theorem Sm.low : ∀ {n : Nat} {x y : Int}, Sm T B n x y → ∀ {k : Nat}, k ≤ n → ∃ p q, Sm T B k p q
  | 0, _, _, h, k, hk => by obtain rfl : k = 0 := by omega
                            exact ⟨_, _, h⟩
  | n + 1, _, _, h, k, hk => by
    by_cases e : k = n + 1
    · subst e; exact ⟨_, _, h⟩
    · obtain ⟨x1, y1, h1, _⟩ := h.inv
      exact h1.low (by omega)
theorem Sm.fk (h : Sm T B n x y) (hk : k < n) : Fk (T k) (B k) := by
  obtain ⟨p, q, h1⟩ := h.low (k := k + 1) hk
  obtain ⟨_, _, _, h2⟩ := h1.inv
  exact (ad_fk h2).2
theorem Sm.ok (h : Sm T B n x y) : Fk x y := by
  cases h with
  | zero => exact ⟨by decide, by decide, by decide⟩
  | step k x y _ _ h1 h2 =>
    obtain ⟨⟨a1, _⟩, ⟨a2, _⟩, _⟩ := (ad_fk h2).1
    obtain ⟨⟨b1, _⟩, ⟨b2, _⟩, _⟩ := (ad_fk h2).2
    have hp := Int.mul_pos (show 0 < y by omega) (show 0 < B k by omega)
    exact ((ad_red h2).ok (by omega)).1
/-- A step that fails leaves no sum. -/
theorem Sm.stop (h : Sm T B k x y) (ha : Ad x y (T k) (B k) x' y' false) (hk : k < n) : ∀ p q, ¬ Sm T B n p q := fun p q hs => by
  obtain ⟨_, _, h1⟩ := hs.low (k := k + 1) hk
  obtain ⟨x1, y1, h2, h3⟩ := h1.inv
  obtain ⟨rfl, rfl⟩ := h.uniq h2
  cases (ad_uniq ha h3).2.2
theorem Su.ex (n : Nat) (zs : List Int) : ∃ x y r, Su n zs x y r := by
  by_cases h : n ≤ 12 ∧ ∃ p q, Sm (wT zs) (wB zs) n p q
  · obtain ⟨h1, p, q, h2⟩ := h
    exact ⟨p, q, true, .inl ⟨h1, h2, rfl⟩⟩
  · exact ⟨0, 0, false, .inr ⟨fun h1 p q h2 => h ⟨h1, p, q, h2⟩, rfl, rfl, rfl⟩⟩
theorem Ro.fk (h : Ro n zs) (hk : k < n) : Fk (wT zs k) (wB zs k) := h.2.2.fk hk
theorem Ro.pos (h : Ro n zs) (hk : k < n) : 0 < wB zs k := by have := (h.fk hk).1.1; omega
-- the order of fractions
theorem fe_fl {t1 b1 t2 b2 t3 b3 : Int} (h2 : 0 < b2) (h1 : 0 < b1) (h3 : 0 < b3) (h : fe t1 b1 t2 b2) (h' : fl_ t2 b2 t3 b3) : fl_ t1 b1 t3 b3 := by
  unfold fe at h
  unfold fl_ at h' ⊢
  have e1 : t1 * b2 * b3 ≤ t2 * b1 * b3 := Int.mul_le_mul_of_nonneg_right h (by omega)
  have e2 : t2 * b3 * b1 < t3 * b2 * b1 := Int.mul_lt_mul_of_pos_right h' h1
  refine Int.lt_of_mul_lt_mul_right (a := b2) ?_ (by omega)
  have a1 : t1 * b3 * b2 = t1 * b2 * b3 := by rw [Int.mul_assoc, Int.mul_comm b3, ← Int.mul_assoc]
  have a2 : t2 * b1 * b3 = t2 * b3 * b1 := by rw [Int.mul_assoc, Int.mul_comm b1, ← Int.mul_assoc]
  have a3 : t3 * b1 * b2 = t3 * b2 * b1 := by rw [Int.mul_assoc, Int.mul_comm b1, ← Int.mul_assoc]
  omega
theorem fe_fe {t1 b1 t2 b2 t3 b3 : Int} (h2 : 0 < b2) (h1 : 0 < b1) (h3 : 0 < b3) (h : fe t1 b1 t2 b2) (h' : fe t2 b2 t3 b3) : fe t1 b1 t3 b3 := by
  unfold fe at h h' ⊢
  have e1 : t1 * b2 * b3 ≤ t2 * b1 * b3 := Int.mul_le_mul_of_nonneg_right h (by omega)
  have e2 : t2 * b3 * b1 ≤ t3 * b2 * b1 := Int.mul_le_mul_of_nonneg_right h' (by omega)
  refine Int.le_of_mul_le_mul_right (a := b2) ?_ (by omega)
  have a1 : t1 * b3 * b2 = t1 * b2 * b3 := by rw [Int.mul_assoc, Int.mul_comm b3, ← Int.mul_assoc]
  have a2 : t2 * b1 * b3 = t2 * b3 * b1 := by rw [Int.mul_assoc, Int.mul_comm b1, ← Int.mul_assoc]
  have a3 : t3 * b1 * b2 = t3 * b2 * b1 := by rw [Int.mul_assoc, Int.mul_comm b1, ← Int.mul_assoc]
  omega
theorem Fg.one : Fg T B 1 0 := ⟨by decide, fun j hj => by obtain rfl : j = 0 := by omega
                                                          exact Int.le_refl _, fun j hj => by omega⟩
theorem Fg.new (h : Fg T B k b) (hB : ∀ j, j < k + 1 → 0 < B j) (hl : fl_ (T b) (B b) (T k) (B k)) : Fg T B (k + 1) k := by
  have hb := h.1
  have key : ∀ j, j < k → fl_ (T j) (B j) (T k) (B k) := fun j hj => fe_fl (hB b (by omega)) (hB j (by omega)) (hB k (by omega)) (h.2.1 j hj) hl
  refine ⟨by omega, fun j hj => ?_, key⟩
  by_cases e : j = k
  · subst e; exact Int.le_refl _
  · exact Int.le_of_lt (key j (by omega))
theorem Fg.old (h : Fg T B k b) (hl : ¬ fl_ (T b) (B b) (T k) (B k)) : Fg T B (k + 1) b := by
  have hb := h.1
  refine ⟨by omega, fun j hj => ?_, h.2.2⟩
  by_cases e : j = k
  · subst e
    unfold fl_ at hl
    unfold fe
    omega
  · exact h.2.1 j (by omega)
theorem Fg.uniq {b' : Nat} (h : Fg T B k b) (h' : Fg T B k b') : b = b' := by
  rcases Nat.lt_trichotomy b b' with hl | e | hl
  · have h1 := h'.2.2 b hl
    have h2 := h.2.1 b' h'.1
    unfold fl_ at h1
    unfold fe at h2
    omega
  · exact e
  · have h1 := h.2.2 b' hl
    have h2 := h'.2.1 b h.1
    unfold fl_ at h1
    unfold fe at h2
    omega
theorem Fg.ex (hB : ∀ j, j < n → 0 < B j) : ∀ k, 1 ≤ k → k ≤ n → ∃ b, Fg T B k b
  | 0, h, _ => by omega
  | 1, _, _ => ⟨0, .one⟩
  | k + 2, _, hk => by
    obtain ⟨b, hb⟩ := Fg.ex hB (k + 1) (by omega) (by omega)
    by_cases hl : fl_ (T b) (B b) (T (k + 1)) (B (k + 1))
    · exact ⟨_, hb.new (fun j hj => hB j (by omega)) hl⟩
    · exact ⟨_, hb.old hl⟩
theorem Lo.ex (n : Nat) (zs : List Int) : ∃ x, Lo n zs x := by
  by_cases h : Ro n zs
  · obtain ⟨b, hb⟩ := Fg.ex (T := wT zs) (B := wB zs) (n := n) (fun j hj => h.pos hj) n h.1.1 (Nat.le_refl _)
    exact ⟨_, fun _ => ⟨b, hb, rfl⟩, fun g => absurd h g⟩
  · exact ⟨_, fun g => absurd g h, fun _ => rfl⟩
/-- What is given first is no more than the water, and less than a liter a right is left. -/
theorem floors (w : Int) (hw : 0 ≤ w) : ∀ {k : Nat} {x y : Int}, Sm T B k x y → (sm (fun j => w * T j / B j) k) * y ≤ w * x ∧ w * x ≤ (sm (fun j => w * T j / B j) k + k) * y ∧ (0 < k → w * x < (sm (fun j => w * T j / B j) k + k) * y)
  | 0, _, _, h => by
    cases h
    simp [sm]
  | k + 1, x', y', h => by
    obtain ⟨x, y, h1, h2⟩ := h.inv
    obtain ⟨i1, i2, _⟩ := floors w hw h1
    obtain ⟨f1, f2⟩ := ad_fk h2
    obtain ⟨⟨y1, _⟩, ⟨x1, _⟩, _⟩ := f1
    obtain ⟨⟨b1, _⟩, ⟨t1, _⟩, _⟩ := f2
    have hb : 0 < B k := by omega
    have hM := Int.mul_pos (show 0 < y by omega) hb
    have hS : 0 ≤ x * B k + T k * y := Int.add_nonneg (Int.mul_nonneg x1 (by omega)) (Int.mul_nonneg t1 (by omega))
    obtain ⟨_, e1, e2⟩ := (ad_red h2).ok (t := (x * B k + T k * y).toNat) (b := (y * B k).toNat) (by omega)
    have hc := red_cross (x * B k + T k * y).toNat (y * B k).toNat
    have hy' : 0 < y' := by rw [e2]; have := rB_pos (t := (x * B k + T k * y).toNat) (b := (y * B k).toNat) (by omega); omega
    have hc2 : x' * (y * B k) = (x * B k + T k * y) * y' := by
      rw [e1, e2]
      have h3 : ((x * B k + T k * y).toNat : Int) = x * B k + T k * y := Int.toNat_of_nonneg hS
      have h4 : ((y * B k).toNat : Int) = y * B k := Int.toNat_of_nonneg (by omega)
      rw [← h3, ← h4]
      exact_mod_cast hc
    have d1 := Int.ediv_mul_le (w * T k) (show B k ≠ 0 by omega)
    have d2 := Int.lt_ediv_add_one_mul_self (w * T k) hb
    rw [sm]
    generalize sm (fun j => w * T j / B j) k = F at i1 i2 ⊢
    show (F + w * T k / B k) * y' ≤ w * x' ∧ w * x' ≤ (F + w * T k / B k + (k + 1 : Nat)) * y' ∧ (0 < k + 1 → w * x' < (F + w * T k / B k + (k + 1 : Nat)) * y')
    generalize w * T k / B k = f at d1 d2 ⊢
    -- all in parts of y * B k
    have key : w * x' * (y * B k) = (w * x * B k + w * T k * y) * y' := by
      rw [Int.mul_assoc, hc2, ← Int.mul_assoc, Int.mul_add, ← Int.mul_assoc, ← Int.mul_assoc]
    have lo : (F + f) * (y * B k) ≤ w * x * B k + w * T k * y := by
      have a1 : F * y * B k ≤ w * x * B k := Int.mul_le_mul_of_nonneg_right i1 (by omega)
      have a2 : f * B k * y ≤ w * T k * y := Int.mul_le_mul_of_nonneg_right d1 (by omega)
      have a3 : (F + f) * (y * B k) = F * y * B k + f * B k * y := by
        rw [Int.add_mul, ← Int.mul_assoc, Int.mul_comm y (B k), ← Int.mul_assoc]
      omega
    have hi : w * x * B k + w * T k * y < (F + f + (k + 1 : Nat)) * (y * B k) := by
      have a1 : w * x * B k ≤ (F + k) * y * B k := Int.mul_le_mul_of_nonneg_right i2 (by omega)
      have a2 : w * T k * y < (f + 1) * B k * y := Int.mul_lt_mul_of_pos_right d2 (by omega)
      have a3 : (F + f + (k + 1 : Nat)) * (y * B k) = (F + k) * y * B k + (f + 1) * B k * y := by
        rw [show F + f + ((k + 1 : Nat) : Int) = (F + k) + (f + 1) by push_cast; omega, Int.add_mul, ← Int.mul_assoc, Int.mul_comm y (B k), ← Int.mul_assoc]
      omega
    have lo2 : (F + f) * y' ≤ w * x' := by
      refine Int.le_of_mul_le_mul_right (a := y * B k) ?_ hM
      rw [key]
      have a1 := Int.mul_le_mul_of_nonneg_right lo (show 0 ≤ y' by omega)
      have a2 : (F + f) * y' * (y * B k) = (F + f) * (y * B k) * y' := by rw [Int.mul_assoc, Int.mul_comm y', ← Int.mul_assoc]
      omega
    have hi2 : w * x' < (F + f + (k + 1 : Nat)) * y' := by
      refine Int.lt_of_mul_lt_mul_right (a := y * B k) ?_ (by omega)
      rw [key]
      have a1 := Int.mul_lt_mul_of_pos_right hi hy'
      have a2 : (F + f + (k + 1 : Nat)) * y' * (y * B k) = (F + f + (k + 1 : Nat)) * (y * B k) * y' := by rw [Int.mul_assoc, Int.mul_comm y', ← Int.mul_assoc]
      omega
    exact ⟨lo2, by omega, fun _ => hi2⟩
theorem Ro.left (h : Ro n zs) (hw : 0 ≤ w) : 0 ≤ w - sm (fd zs w) n ∧ w - sm (fd zs w) n < n := by
  obtain ⟨h1, _, h3⟩ := floors w hw h.2.2
  have h4 := h3 h.1.1
  rw [Int.mul_one, Int.mul_one] at h1 h4
  show 0 ≤ w - sm (fun j => w * wT zs j / wB zs j) n ∧ w - sm (fun j => w * wT zs j / wB zs j) n < n
  omega
end
end Go.Proofs.Ytopbeacfljoacaa.rgt
