/- Rights as a map from owners to shares: plain functions. -/
import Derived.Test.YtopbeacfljoacaaRgtL3
import Derived.Test.YtopbeacfljoacaaRgtP2
namespace Go.Proofs.Ytopbeacfljoacaa.rgt
open Go.Proofs.Ytopbeacfljoacaa.kit Go.Proofs.Ytopbeacfljoacaa.frc Go.Proofs.Ytopbeacfljoacaa.rain Go.Proofs.Ytopbeacfljoacaa.yrl
/-- The share of an owner among the first k rights of a row. -/
def lk (l : List Int) : Nat → Int → Option (Int × Int)
  | 0, _ => none
  | k + 1, x => if x = wO l k then some (wT l k, wB l k) else lk l k x
/-- A share that is set; 0: it is taken away. -/
def setS (g : Int → Option (Int × Int)) (o t b : Int) : Int → Option (Int × Int) := fun x => if x = o then (if t = 0 then none else some (t, b)) else g x
/-- Rights with ascending owners. -/
def Asc (m : Nat) (l : List Int) : Prop := l.length = m * 3 ∧ (∀ k, k < m → 1 ≤ wO l k ∧ wO l k ≤ 999) ∧ ∀ j k, j < k → k < m → wO l j < wO l k
/-- A map holds just these rights. -/
def Mp (g : Int → Option (Int × Int)) (m : Nat) (l : List Int) : Prop := Asc m l ∧ ∀ x, g x = lk l m x
/-- What an owner has ahead of a sale. -/
def Had (g : Int → Option (Int × Int)) (to bt bb : Int) : Prop := g to = some (bt, bb) ∨ (g to = none ∧ bt = 0 ∧ bb = 1)
section
variable {l r zs ys : List Int} {n m k f i j : Nat} {x y z to bt bb mt mb rt rb xt xb : Int} {s : Bool}
theorem lk_none : ∀ {k : Nat}, (∀ j, j < k → wO l j ≠ x) → lk l k x = none
  | 0, _ => rfl
  | k + 1, h => by rw [lk, if_neg (fun e => h k (by omega) e.symm)]; exact lk_none fun j hj => h j (by omega)
theorem lk_at (h : ∀ j k, j < k → k < m → wO l j < wO l k) : ∀ {k j : Nat}, k ≤ m → j < k → lk l k (wO l j) = some (wT l j, wB l j)
  | 0, j, _, hj => by omega
  | k + 1, j, hk, hj => by
    rw [lk]
    by_cases e : j = k
    · subst e; rw [if_pos rfl]
    · have := h j k (by omega) (by omega)
      rw [if_neg (by omega)]
      exact lk_at h (by omega) (by omega)
theorem lk_some {p : Int × Int} : ∀ {k : Nat}, lk l k x = some p → ∃ j, j < k ∧ wO l j = x ∧ p = (wT l j, wB l j)
  | 0, h => by cases h
  | k + 1, h => by
    rw [lk] at h
    by_cases e : x = wO l k
    · rw [if_pos e] at h
      exact ⟨k, by omega, e.symm, (Option.some.inj h).symm⟩
    · rw [if_neg e] at h
      obtain ⟨j, hj, h1⟩ := lk_some h
      exact ⟨j, by omega, h1⟩
theorem lk_isSome : (lk l k x).isSome = true ↔ ∃ j, j < k ∧ wO l j = x := by
  constructor
  · intro h
    obtain ⟨p, hp⟩ := Option.isSome_iff_exists.1 h
    obtain ⟨j, hj, e, _⟩ := lk_some hp
    exact ⟨j, hj, e⟩
  · rintro ⟨j, hj, e⟩
    cases hc : lk l k x with
    | some p => rfl
    | none =>
      exfalso
      induction k with
      | zero => omega
      | succ k ih =>
        rw [lk] at hc
        by_cases e2 : x = wO l k
        · rw [if_pos e2] at hc; cases hc
        · rw [if_neg e2] at hc
          have : j ≠ k := fun e3 => e2 (by rw [← e, e3])
          exact ih (by omega) hc
theorem lk_congr {l r : List Int} : ∀ {k : Nat}, (∀ j, j < k → Rt l j (wO r j) (wT r j) (wB r j)) → lk l k x = lk r k x
  | 0, _ => rfl
  | k + 1, h => by
    obtain ⟨a1, a2, a3⟩ := h k (by omega)
    rw [lk, lk, a1, a2, a3, lk_congr fun j hj => h j (by omega)]
theorem lk_left (h : k * 3 ≤ l.length) : lk (l ++ r) k x = lk l k x := lk_congr fun j hj => Rt.left (by omega)
theorem lk_last (h : l.length = k * 3) : lk (l ++ [y, z, to]) (k + 1) x = if x = y then some (z, to) else lk l k x := by
  obtain ⟨a1, a2, a3⟩ := Rt.last (x := y) (y := z) (z := to) h
  rw [lk, a1, a2, a3, lk_left (by omega)]
theorem Asc.of_ro (h : Ro n zs) (hl : zs.length = n * 3) : Asc n zs := ⟨hl, fun k hk => (h.2.1 k hk).1, fun j k hj hk => h.lt k hk j hj⟩
theorem Mp.self (h : Asc n zs) : Mp (lk zs n) n zs := ⟨h, fun _ => rfl⟩
/-- The rights behind the part that is taken. -/
theorem so_all (h : Asc n zs) (hf : f < n) : ∀ k, k ≤ n → Asc (sn f rt k) (so zs f rt rb k) ∧ (∀ j, j < sn f rt k → ∃ i, i < k ∧ wO (so zs f rt rb k) j = wO zs i) ∧ ∀ x, lk (so zs f rt rb k) (sn f rt k) x = if f < k ∧ x = wO zs f then (if 0 < rt then some (rt, rb) else none) else lk zs k x
  | 0, _ => ⟨⟨rfl, fun k hk => by simp [sn] at hk, fun j k _ hk => by simp [sn] at hk⟩, fun j hj => by simp [sn] at hj, fun x => by simp [sn, so, lk]⟩
  | k + 1, hk => by
    obtain ⟨⟨a1, a2, a3⟩, b, c⟩ := so_all h hf k (by omega)
    have hasc := h.2.2
    have grow : ∀ p q : Int, (so zs f rt rb k ++ [wO zs k, p, q]).length = (sn f rt k + 1) * 3 ∧ Asc (sn f rt k + 1) (so zs f rt rb k ++ [wO zs k, p, q]) ∧ (∀ j, j < sn f rt k + 1 → ∃ i, i < k + 1 ∧ wO (so zs f rt rb k ++ [wO zs k, p, q]) j = wO zs i) := fun p q => by
      have hl : (so zs f rt rb k ++ [wO zs k, p, q]).length = (sn f rt k + 1) * 3 := by simp; omega
      have last := (Rt.last (x := wO zs k) (y := p) (z := q) a1).1
      have left : ∀ j, j < sn f rt k → wO (so zs f rt rb k ++ [wO zs k, p, q]) j = wO (so zs f rt rb k) j := fun j hj => (Rt.left (by omega)).1
      refine ⟨hl, ⟨hl, fun j hj => ?_, fun i j hij hj => ?_⟩, fun j hj => ?_⟩
      · by_cases e : j = sn f rt k
        · rw [e, last]; exact h.2.1 k (by omega)
        · rw [left j (by omega)]; exact a2 j (by omega)
      · by_cases e : j = sn f rt k
        · rw [e, last, left i (by omega)]
          obtain ⟨u, hu, e2⟩ := b i (by omega)
          rw [e2]
          exact hasc u k hu (by omega)
        · rw [left i (by omega), left j (by omega)]
          exact a3 i j hij (by omega)
      · by_cases e : j = sn f rt k
        · exact ⟨k, by omega, by rw [e, last]⟩
        · obtain ⟨u, hu, e2⟩ := b j (by omega)
          exact ⟨u, by omega, by rw [left j (by omega), e2]⟩
    rw [so]
    by_cases e : k = f
    · subst e
      have e1 : sn k rt k = k := by unfold sn; rw [if_neg (by omega)]
      rw [e1] at grow a1 a2 a3 b c
      by_cases h0 : 0 < rt
      · have e2 : sn k rt (k + 1) = k + 1 := by unfold sn; rw [if_neg (by omega)]
        obtain ⟨g1, g2, g3⟩ := grow rt rb
        rw [if_pos rfl, if_pos h0, e2]
        refine ⟨g2, g3, fun x => ?_⟩
        rw [lk_last a1, c x, if_neg (show ¬ (k < k ∧ x = wO zs k) from fun h => by omega), lk]
        by_cases ex : x = wO zs k
        · rw [if_pos ex, if_pos (show k < k + 1 ∧ x = wO zs k from ⟨by omega, ex⟩), if_pos h0]
        · rw [if_neg ex, if_neg (show ¬ (k < k + 1 ∧ x = wO zs k) from fun h => ex h.2), if_neg ex]
      · have e2 : sn k rt (k + 1) = k := by unfold sn; rw [if_pos (by omega)]; rfl
        rw [if_pos rfl, if_neg h0, e2, List.append_nil]
        refine ⟨⟨a1, a2, a3⟩, fun j hj => ?_, fun x => ?_⟩
        · obtain ⟨u, hu, e3⟩ := b j hj
          exact ⟨u, by omega, e3⟩
        · rw [c x, if_neg (show ¬ (k < k ∧ x = wO zs k) from fun h => by omega), lk]
          by_cases ex : x = wO zs k
          · rw [if_pos (show k < k + 1 ∧ x = wO zs k from ⟨by omega, ex⟩), if_neg h0]
            exact lk_none fun j hj e3 => by have := hasc j k hj (by omega); omega
          · rw [if_neg (show ¬ (k < k + 1 ∧ x = wO zs k) from fun h => ex h.2), if_neg ex]
    · have e2 : sn f rt (k + 1) = sn f rt k + 1 := by
        unfold sn
        by_cases h1 : f < k ∧ ¬ 0 < rt
        · rw [if_pos h1, if_pos (by omega)]; omega
        · rw [if_neg h1, if_neg (by omega)]
      obtain ⟨g1, g2, g3⟩ := grow (wT zs k) (wB zs k)
      rw [if_neg e, e2]
      refine ⟨g2, g3, fun x => ?_⟩
      rw [lk_last a1, c x, lk]
      by_cases ex : x = wO zs k
      · rw [if_pos ex, if_pos ex]
        by_cases hfk : f < k + 1 ∧ x = wO zs f
        · have := hasc f k (by omega) (by omega)
          omega
        · rw [if_neg hfk]
      · rw [if_neg ex, if_neg ex]
        by_cases hfk : f < k ∧ x = wO zs f
        · rw [if_pos hfk, if_pos (show f < k + 1 ∧ x = wO zs f from ⟨by omega, hfk.2⟩)]
        · rw [if_neg hfk, if_neg (show ¬ (f < k + 1 ∧ x = wO zs f) from fun h => hfk ⟨by omega, h.2⟩)]
theorem At.ex (l : List Int) (to : Int) : ∀ n, ∃ i, At n l to i
  | 0 => ⟨0, Nat.le_refl _, fun j hj => by omega, fun h => by omega⟩
  | n + 1 => by
    obtain ⟨i, h1, h2, h3⟩ := At.ex l to n
    by_cases e : i = n
    · subst e
      by_cases h : wO l i < to
      · exact ⟨i + 1, Nat.le_refl _, fun j hj => by
          by_cases e : j = i
          · subst e; exact h
          · exact h2 j (by omega), fun h => by omega⟩
      · exact ⟨i, by omega, h2, fun _ => h⟩
    · exact ⟨i, by omega, h2, fun _ => h3 (by omega)⟩
theorem At.some (h : At m l to i) (ha : Asc m l) {p : Int × Int} (hp : lk l m to = some p) : i < m ∧ wO l i = to ∧ p = (wT l i, wB l i) := by
  obtain ⟨j, hj, e, ep⟩ := lk_some hp
  obtain ⟨h1, h2, h3⟩ := h
  have : i = j := by
    rcases Nat.lt_trichotomy i j with hl | e' | hl
    · have a := ha.2.2 i j hl hj
      have b := h3 (by omega)
      omega
    · exact e'
    · have := h2 j hl
      omega
  subst this
  exact ⟨hj, e, ep⟩
theorem At.none (hp : lk l m to = none) : ¬ (i < m ∧ wO l i = to) := fun ⟨h1, h2⟩ => by
  have := lk_isSome.2 ⟨i, h1, h2⟩
  rw [hp] at this
  cases this
/-- The share of one owner is changed. -/
theorem set_mp (h : Asc m l) (hi : i < m) (e : wO l i = to) : Mp (fun x => if x = to then some (xt, xb) else lk l m x) m ((l.set (i * 3 + 1) xt).set (i * 3 + 2) xb) := by
  obtain ⟨a1, a2, a3⟩ := h
  have hr : ∀ k, Rt ((l.set (i * 3 + 1) xt).set (i * 3 + 2) xb) k (wO l k) (if k = i then xt else wT l k) (if k = i then xb else wB l k) := fun k => Rt.set2 (by omega)
  refine ⟨⟨by simp; omega, fun k hk => by rw [(hr k).1]; exact a2 k hk, fun j k hj hk => by rw [(hr j).1, (hr k).1]; exact a3 j k hj hk⟩, fun x => ?_⟩
  have key : ∀ k, k ≤ m → lk ((l.set (i * 3 + 1) xt).set (i * 3 + 2) xb) k x = if i < k ∧ x = to then some (xt, xb) else lk l k x := fun k => by
    induction k with
    | zero => intro _; rw [if_neg (by omega)]; rfl
    | succ k ih =>
      intro hk
      obtain ⟨r1, r2, r3⟩ := hr k
      rw [lk, r1, r2, r3, lk, ih (by omega)]
      by_cases ex : x = wO l k
      · rw [if_pos ex, if_pos ex]
        by_cases ek : k = i
        · subst ek; rw [if_pos rfl, if_pos rfl, if_pos ⟨by omega, ex.trans e⟩]
        · rw [if_neg ek, if_neg ek, if_neg]
          rintro ⟨h1, h2⟩
          have := a3 i k (by omega) (by omega)
          omega
      · rw [if_neg ex, if_neg ex]
        by_cases h1 : i < k ∧ x = to
        · rw [if_pos h1, if_pos ⟨by omega, h1.2⟩]
        · rw [if_neg h1, if_neg]
          rintro ⟨h2, h3⟩
          have : i = k := by omega
          subst this
          exact ex (h3.trans e.symm)
  show (if x = to then some (xt, xb) else lk l m x) = _
  rw [key m (Nat.le_refl _)]
  by_cases h1 : x = to
  · rw [if_pos h1, if_pos ⟨hi, h1⟩]
  · rw [if_neg h1, if_neg (fun h => h1 h.2)]
/-- A new right is put in. -/
theorem ins_mp (h : Asc m l) (hat : At m l to i) (hn : ¬ (i < m ∧ wO l i = to)) (h1 : 1 ≤ to) (h2 : to ≤ 999) : Mp (fun x => if x = to then some (xt, xb) else lk l m x) (m + 1) (l.take (i * 3) ++ [to, xt, xb] ++ l.drop (i * 3)) := by
  obtain ⟨a1, a2, a3⟩ := h
  obtain ⟨b1, b2, b3⟩ := hat
  have ins := fun k => Rt.ins (l := l) (i := i) (k := k) (x := to) (y := xt) (z := xb) (by omega)
  have hgt : ∀ k, i ≤ k → k < m → to < wO l k := fun k hk hkm => by
    have c1 := b3 (by omega)
    have c2 : wO l i ≠ to := fun e => hn ⟨by omega, e⟩
    by_cases e : k = i
    · subst e; omega
    · have := a3 i k (by omega) hkm; omega
  refine ⟨⟨by simp; omega, fun k hk => ?_, fun j k hj hk => ?_⟩, fun x => ?_⟩
  · rcases Nat.lt_trichotomy k i with g | g | g
    · rw [((ins k).1 g).1]; exact a2 k (by omega)
    · subst g; rw [(ins k).2.1.1]; exact ⟨h1, h2⟩
    · rw [((ins k).2.2 g).1]; exact a2 (k - 1) (by omega)
  · rcases Nat.lt_trichotomy k i with g | g | g
    · rw [((ins k).1 g).1, ((ins j).1 (by omega)).1]; exact a3 j k hj (by omega)
    · subst g; rw [(ins k).2.1.1, ((ins j).1 (by omega)).1]; exact b2 j (by omega)
    · rw [((ins k).2.2 g).1]
      rcases Nat.lt_trichotomy j i with g' | g' | g'
      · rw [((ins j).1 g').1]; exact a3 j (k - 1) (by omega) (by omega)
      · subst g'; rw [(ins j).2.1.1]; exact hgt (k - 1) (by omega) (by omega)
      · rw [((ins j).2.2 g').1]; exact a3 (j - 1) (k - 1) (by omega) (by omega)
  · have low : ∀ k, k ≤ i → lk (l.take (i * 3) ++ [to, xt, xb] ++ l.drop (i * 3)) k x = lk l k x := fun k hk => lk_congr fun j hj => (ins j).1 (by omega)
    have key : ∀ d, i + d ≤ m → lk (l.take (i * 3) ++ [to, xt, xb] ++ l.drop (i * 3)) (i + d + 1) x = if x = to then some (xt, xb) else lk l (i + d) x := fun d => by
      induction d with
      | zero =>
        intro _
        obtain ⟨c1, c2, c3⟩ := (ins i).2.1
        rw [Nat.add_zero, lk, c1, c2, c3, low i (Nat.le_refl _)]
        rfl
      | succ d ih =>
        intro hd
        obtain ⟨c1, c2, c3⟩ := (ins (i + (d + 1))).2.2 (by omega)
        rw [show i + (d + 1) - 1 = i + d by omega] at c1 c2 c3
        rw [lk, c1, c2, c3, show i + (d + 1) = i + d + 1 by omega, ih (by omega), lk]
        have := hgt (i + d) (by omega) (by omega)
        by_cases ex : x = wO l (i + d)
        · rw [if_pos ex, if_neg (by omega), if_pos ex]
        · rw [if_neg ex, if_neg ex]
    have := key (m - i) (by omega)
    rw [show i + (m - i) = m by omega] at this
    exact this.symm
theorem ad_zero (h : Fk mt mb) : Ad 0 1 mt mb mt mb true := by
  refine ⟨fun _ => ?_, fun hn => absurd ⟨⟨by decide, by decide, by decide⟩, h⟩ hn⟩
  obtain ⟨T, B, rfl, rfl, h1, h2, h3, h4⟩ := h.nat
  rw [Int.zero_mul, Int.zero_add, Int.mul_one, Int.one_mul, Int.toNat_natCast, Int.toNat_natCast]
  obtain ⟨r1, r2⟩ := red_self h4
  exact ⟨fun _ => ⟨by rw [r1], by rw [r2], rfl⟩, fun hn => absurd ⟨by omega, by omega⟩ hn⟩
theorem ad_pos (h : Ad bt bb mt mb xt xb true) (hb : 1 ≤ bt) : 0 < xt := by
  obtain ⟨f1, f2⟩ := ad_fk h
  have hbb := f1.1.1
  have hmb := f2.1.1
  have hmt := f2.2.1.1
  have hp := Int.mul_pos (show 0 < bb by omega) (show 0 < mb by omega)
  obtain ⟨_, e1, _⟩ := (ad_red h).ok (by omega)
  have hs : 0 < bt * mb + mt * bb := by
    have a := Int.mul_pos (show 0 < bt by omega) (show 0 < mb by omega)
    have b := Int.mul_nonneg hmt (show 0 ≤ bb by omega)
    omega
  have hd : 0 < rT (bt * mb + mt * bb).toNat (bb * mb).toNat := Nat.div_pos (Nat.le_of_dvd (by omega) (Nat.gcd_dvd_left _ _)) (Nat.gcd_pos_of_pos_right _ (by omega))
  omega
/-- A sale: the new row is what the map holds. -/
theorem sold_mp (ok : Ro n zs) (hl : zs.length = n * 3) (hf : f < n) (hne : wO zs f ≠ to) (h1 : 1 ≤ to) (h2 : to ≤ 999) (hm : Fk mt mb) (hr : 0 ≤ rt) (hh : Had (lk zs n) to bt bb) (ha : Ad bt bb mt mb xt xb true) :
    ∃ m ys, m ≤ n + 1 ∧ Put (sn f rt n) (so zs f rt rb n) to mt mb m ys ∧ Mp (setS (setS (lk zs n) (wO zs f) rt rb) to xt xb) m ys := by
  have hasc := Asc.of_ro ok hl
  obtain ⟨S1, _, S3⟩ := so_all (rt := rt) (rb := rb) hasc hf n (Nat.le_refl _)
  have hsn : sn f rt n ≤ n := by unfold sn; split <;> omega
  have hbase : ∀ x, setS (lk zs n) (wO zs f) rt rb x = lk (so zs f rt rb n) (sn f rt n) x := fun x => by
    rw [S3 x]
    unfold setS
    by_cases e : x = wO zs f
    · rw [if_pos e, if_pos (show f < n ∧ x = wO zs f from ⟨hf, e⟩)]
      by_cases e0 : rt = 0
      · rw [if_pos e0, if_neg (by omega)]
      · rw [if_neg e0, if_pos (by omega)]
    · rw [if_neg e, if_neg (fun h => e h.2)]
  have hto : lk (so zs f rt rb n) (sn f rt n) to = lk zs n to := by
    rw [S3 to, if_neg (fun h => hne h.2.symm)]
  have fin : ∀ {m : Nat} {ys : List Int}, 0 < xt → Mp (fun x => if x = to then some (xt, xb) else lk (so zs f rt rb n) (sn f rt n) x) m ys → Mp (setS (setS (lk zs n) (wO zs f) rt rb) to xt xb) m ys := fun h0 h => ⟨h.1, fun x => by
    rw [← h.2 x]
    show (if x = to then (if xt = 0 then none else some (xt, xb)) else setS (lk zs n) (wO zs f) rt rb x) = if x = to then some (xt, xb) else lk (so zs f rt rb n) (sn f rt n) x
    rw [hbase x]
    by_cases e : x = to
    · rw [if_pos e, if_pos e, if_neg (by omega)]
    · rw [if_neg e, if_neg e]⟩
  obtain ⟨i, hat⟩ := At.ex (so zs f rt rb n) to (sn f rt n)
  rcases hh with hh | ⟨hh, rfl, rfl⟩
  · obtain ⟨c1, c2, c3⟩ := hat.some S1 (hto.trans hh)
    obtain ⟨j, hj, _, e⟩ := lk_some hh
    have hb1 : 1 ≤ bt := by
      have := (ok.2.1 j hj).2.1
      have e' := congrArg Prod.fst e
      simp only at e'
      omega
    have e1 := congrArg Prod.fst c3
    have e2 := congrArg Prod.snd c3
    simp only at e1 e2
    exact ⟨sn f rt n, _, by omega, ⟨i, hat, .inl ⟨c1, c2, rfl, xt, xb, by rw [← e1, ← e2]; exact ha, rfl⟩⟩, fin (ad_pos ha hb1) (set_mp S1 c1 c2)⟩
  · obtain ⟨rfl, rfl, _⟩ := ad_uniq ha (ad_zero hm)
    have hnn := At.none (i := i) (hto.trans hh)
    by_cases h0 : 0 < xt
    · exact ⟨sn f rt n + 1, _, by omega, ⟨i, hat, .inr (.inl ⟨hnn, h0, rfl, rfl⟩)⟩, fin h0 (ins_mp S1 hat hnn h1 h2)⟩
    · refine ⟨sn f rt n, _, by omega, ⟨i, hat, .inr (.inr ⟨hnn, h0, rfl, rfl⟩)⟩, S1, fun x => ?_⟩
      have h0' : xt = 0 := by have := hm.2.1.1; omega
      show (if x = to then (if xt = 0 then none else some (xt, xb)) else setS (lk zs n) (wO zs f) rt rb x) = _
      rw [hbase x, if_pos h0']
      by_cases e : x = to
      · rw [if_pos e, e, hto, hh]
      · rw [if_neg e]
/-- What cannot be added cannot be put. -/
theorem no_put (ok : Ro n zs) (hl : zs.length = n * 3) (hf : f < n) (hne : wO zs f ≠ to) (hm : Fk mt mb) (hh : Had (lk zs n) to bt bb) (ha : Ad bt bb mt mb xt xb false) : ¬ Put (sn f rt n) (so zs f rt rb n) to mt mb m ys := by
  obtain ⟨S1, _, S3⟩ := so_all (rt := rt) (rb := rb) (Asc.of_ro ok hl) hf n (Nat.le_refl _)
  have hto : lk (so zs f rt rb n) (sn f rt n) to = lk zs n to := by
    rw [S3 to, if_neg (fun h => hne h.2.symm)]
  rintro ⟨i, hat, h⟩
  rcases hh with hh | ⟨_, rfl, rfl⟩
  · obtain ⟨c1, c2, c3⟩ := hat.some S1 (hto.trans hh)
    have e1 := congrArg Prod.fst c3
    have e2 := congrArg Prod.snd c3
    simp only at e1 e2
    rcases h with ⟨_, _, _, st, sb, had, _⟩ | ⟨h, _⟩ | ⟨h, _⟩
    · rw [← e1, ← e2] at had
      cases (ad_uniq ha had).2.2
    · exact h ⟨c1, c2⟩
    · exact h ⟨c1, c2⟩
  · cases (ad_uniq ha (ad_zero hm)).2.2
theorem Had.ex (g : Int → Option (Int × Int)) (to : Int) : ∃ bt bb, Had g to bt bb := by
  cases h : g to with
  | some p => exact ⟨p.1, p.2, .inl h⟩
  | none => exact ⟨0, 1, .inr ⟨h, rfl, rfl⟩⟩
end
end Go.Proofs.Ytopbeacfljoacaa.rgt
