/- Rights that are drawn, a half that is sold and sold back: plain functions. -/
import Derived.Test.YtopbeacfljoacaaRgtP
namespace Go.Proofs.Ytopbeacfljoacaa.rgt
open Go.Proofs.Ytopbeacfljoacaa.kit Go.Proofs.Ytopbeacfljoacaa.frc Go.Proofs.Ytopbeacfljoacaa.rain Go.Proofs.Ytopbeacfljoacaa.yrl
section
variable {l r zs ys : List Int} {n m k f i j : Nat} {x y z fr to pt pb mt mb rt rb : Int}
theorem gd_l (h : i < l.length) : (l ++ r).getD i 0 = l.getD i 0 := by
  rw [List.getD_eq_getElem?_getD, List.getD_eq_getElem?_getD, List.getElem?_append_left h]
theorem gd_r (h : l.length ≤ i) : (l ++ r).getD i 0 = r.getD (i - l.length) 0 := by
  rw [List.getD_eq_getElem?_getD, List.getD_eq_getElem?_getD, List.getElem?_append_right h]
theorem gd_take (h : i < j) : (l.take j).getD i 0 = l.getD i 0 := by
  rw [List.getD_eq_getElem?_getD, List.getD_eq_getElem?_getD, List.getElem?_take_of_lt h]
theorem gd_drop : (l.drop j).getD i 0 = l.getD (j + i) 0 := by
  rw [List.getD_eq_getElem?_getD, List.getD_eq_getElem?_getD, List.getElem?_drop]
theorem gd_set {a : Int} (h : i ≠ j) : (l.set i a).getD j 0 = l.getD j 0 := by
  rw [List.getD_eq_getElem?_getD, List.getD_eq_getElem?_getD, List.getElem?_set_ne h]
theorem gd_set_self {a : Int} (h : i < l.length) : (l.set i a).getD i 0 = a := by
  rw [List.getD_eq_getElem?_getD, List.getElem?_set_self h]
  rfl
/-- The numbers of a right of a row. -/
def Rt (l : List Int) (k : Nat) (x y z : Int) : Prop := wO l k = x ∧ wT l k = y ∧ wB l k = z
theorem Rt.self (l : List Int) (k : Nat) : Rt l k (wO l k) (wT l k) (wB l k) := ⟨rfl, rfl, rfl⟩
theorem Rt.left (h : k * 3 + 2 < l.length) : Rt (l ++ r) k (wO l k) (wT l k) (wB l k) := ⟨gd_l (by omega), gd_l (by omega), gd_l (by omega)⟩
theorem Rt.last (h : l.length = n * 3) : Rt (l ++ [x, y, z]) n x y z := by
  unfold Rt wO wT wB
  rw [gd_r (by omega), gd_r (by omega), gd_r (by omega), h, Nat.sub_self, Nat.add_sub_cancel_left, Nat.add_sub_cancel_left]
  exact ⟨rfl, rfl, rfl⟩
theorem Rt.ins (h : i * 3 ≤ l.length) : (k < i → Rt (l.take (i * 3) ++ [x, y, z] ++ l.drop (i * 3)) k (wO l k) (wT l k) (wB l k)) ∧ Rt (l.take (i * 3) ++ [x, y, z] ++ l.drop (i * 3)) i x y z ∧
    (i < k → Rt (l.take (i * 3) ++ [x, y, z] ++ l.drop (i * 3)) k (wO l (k - 1)) (wT l (k - 1)) (wB l (k - 1))) := by
  have hl : (l.take (i * 3)).length = i * 3 := by simp; omega
  have hl2 : (l.take (i * 3) ++ [x, y, z]).length = i * 3 + 3 := by simp; omega
  refine ⟨fun hk => ?_, ?_, fun hk => ?_⟩
  · unfold Rt wO wT wB
    rw [gd_l (by omega), gd_l (by omega), gd_l (by omega), gd_l (by omega), gd_l (by omega), gd_l (by omega), gd_take (by omega), gd_take (by omega), gd_take (by omega)]
    exact ⟨rfl, rfl, rfl⟩
  · have h3 := Rt.last (x := x) (y := y) (z := z) hl
    unfold Rt wO wT wB at h3 ⊢
    exact ⟨(gd_l (by omega)).trans h3.1, (gd_l (by omega)).trans h3.2.1, (gd_l (by omega)).trans h3.2.2⟩
  · unfold Rt wO wT wB
    rw [gd_r (by omega), gd_r (by omega), gd_r (by omega), hl2, gd_drop, gd_drop, gd_drop]
    refine ⟨?_, ?_, ?_⟩ <;> congr 1 <;> omega
theorem Rt.set2 (h : i * 3 + 2 < l.length) : Rt ((l.set (i * 3 + 1) y).set (i * 3 + 2) z) k (wO l k) (if k = i then y else wT l k) (if k = i then z else wB l k) := by
  unfold Rt wO wT wB
  refine ⟨by rw [gd_set (by omega), gd_set (by omega)], ?_, ?_⟩
  · rw [gd_set (by omega)]
    by_cases e : k = i
    · subst e; rw [if_pos rfl, gd_set_self (by omega)]
    · rw [if_neg e, gd_set (by omega)]
  · by_cases e : k = i
    · subst e; rw [if_pos rfl, gd_set_self (by simp; omega)]
    · rw [if_neg e, gd_set (by omega), gd_set (by omega)]
theorem rows_ext (h1 : l.length = n * 3) (h2 : r.length = n * 3) (h : ∀ k, k < n → Rt l k (wO r k) (wT r k) (wB r k)) : l = r := by
  refine List.ext_getElem (by omega) fun j hj1 hj2 => ?_
  obtain ⟨a1, a2, a3⟩ := h (j / 3) (by omega)
  unfold wO at a1
  unfold wT at a2
  unfold wB at a3
  have key : l.getD j 0 = r.getD j 0 := by
    rcases (show j % 3 = 0 ∨ j % 3 = 1 ∨ j % 3 = 2 by omega) with e | e | e
    · rw [show j / 3 * 3 = j by omega] at a1; exact a1
    · rw [show j / 3 * 3 + 1 = j by omega] at a2; exact a2
    · rw [show j / 3 * 3 + 2 = j by omega] at a3; exact a3
  rw [List.getD_eq_getElem?_getD, List.getD_eq_getElem?_getD, List.getElem?_eq_getElem hj1, List.getElem?_eq_getElem hj2] at key
  exact key
theorem so_at (hrt : 0 < rt) : ∀ n k, k < n → Rt (so zs f rt rb n) k (wO zs k) (if k = f then rt else wT zs k) (if k = f then rb else wB zs k)
  | 0, k, hk => by omega
  | n + 1, k, hk => by
    have hl : (so zs f rt rb n).length = n * 3 := by rw [so_len, show sn f rt n = n by unfold sn; rw [if_neg (by omega)]]
    rw [so]
    by_cases e : k = n
    · subst e
      by_cases e2 : k = f
      · subst e2
        rw [if_pos rfl, if_pos hrt, if_pos rfl, if_pos rfl]
        exact Rt.last hl
      · rw [if_neg e2, if_neg e2, if_neg e2]
        exact Rt.last hl
    · have ih := so_at hrt n k (by omega)
      obtain ⟨a1, a2, a3⟩ := Rt.left (l := so zs f rt rb n) (r := if n = f then (if 0 < rt then [wO zs n, rt, rb] else []) else [wO zs n, wT zs n, wB zs n]) (k := k) (by omega)
      exact ⟨a1.trans ih.1, a2.trans ih.2.1, a3.trans ih.2.2⟩
theorem so_id : ∀ n, n ≤ f → n * 3 ≤ zs.length → so zs f rt rb n = zs.take (n * 3)
  | 0, _, _ => by simp [so]
  | n + 1, hf, hl => by
    rw [so, if_neg (by omega), so_id n (by omega) (by omega)]
    refine rows_ext (n := n + 1) (by simp; omega) (by simp; omega) fun k hk => ?_
    have ht : (zs.take (n * 3)).length = n * 3 := by simp; omega
    have hw : Rt (zs.take ((n + 1) * 3)) k (wO zs k) (wT zs k) (wB zs k) := ⟨gd_take (by omega), gd_take (by omega), gd_take (by omega)⟩
    obtain ⟨w1, w2, w3⟩ := hw
    rw [w1, w2, w3]
    by_cases e : k = n
    · subst e
      exact Rt.last ht
    · obtain ⟨a1, a2, a3⟩ := Rt.left (l := zs.take (n * 3)) (r := [wO zs n, wT zs n, wB zs n]) (k := k) (by omega)
      exact ⟨a1.trans (gd_take (by omega)), a2.trans (gd_take (by omega)), a3.trans (gd_take (by omega))⟩
theorem ti_pos {t b p q : Int} (h : Ti t b p q x y true) (ht : 1 ≤ t) (hp : 1 ≤ p) : 1 ≤ x := by
  obtain ⟨hc, hk, hy⟩ := ti_cross h
  obtain ⟨f1, f2⟩ := ti_fk h
  have h0 := hk.2.1.1
  have h1 := Int.mul_pos (Int.mul_pos (show 0 < t by omega) (show 0 < p by omega)) hy
  refine Classical.byContradiction fun hn => ?_
  obtain rfl : x = 0 := by omega
  rw [Int.zero_mul] at hc
  omega
/-- Rights as they are drawn. -/
def FairR (n : Nat) (zs : List Int) : Prop := zs.length = n * 3 ∧ Ro n zs ∧ ∀ k, k < n → wO zs k ≤ 12 ∧ Dy (wB zs k)
/-- They stay so when a part is sold. -/
theorem FairR.sell {r : Bool} (hF : FairR n zs) (hk : f < n) (hto : to ≤ 12) (hp : pt < pb) (hq : ∃ e, pb * e = 4) (h : Sla n zs (wO zs f) to pt pb m ys r) : FairR m ys ∧ m ≤ n + 1 := by
  obtain ⟨hl, hro, hfa⟩ := hF
  rcases h with ⟨_, hs⟩ | ⟨_, rfl, rfl, _⟩
  · obtain ⟨hfn, mt, mb, rt, rb, h1, h2, hput, hro'⟩ := hs.parts (f := f) fun k' hk' => ⟨fun e => hro.inj hk' hk e, fun e => e ▸ rfl⟩
    have hrt : 0 < rt := by have := ti_pos h2 (hro.2.1 f hk).2.1 (by omega); omega
    have d1 := ti_dy h1 (hfa f hk).2 hq
    have d2 := ti_dy h2 (hfa f hk).2 hq
    have hsn : sn f rt n = n := by unfold sn; rw [if_neg (by omega)]
    have hso := so_len zs f rt rb n
    rw [hsn] at hso hput
    have hat := fun k hk => so_at (zs := zs) (f := f) (rb := rb) hrt n k hk
    have hall : ∀ k, k < n → wO (so zs f rt rb n) k ≤ 12 ∧ Dy (wB (so zs f rt rb n) k) := fun k hk => by
      obtain ⟨a1, a2, a3⟩ := hat k hk
      rw [a1, a3]
      refine ⟨(hfa k hk).1, ?_⟩
      split
      · exact d2
      · exact (hfa k hk).2
    generalize so zs f rt rb n = L at hso hput hat hall
    obtain ⟨i, ⟨hi, _, _⟩, hc⟩ := hput
    rcases hc with ⟨c1, c2, rfl, st, sb, c3, rfl⟩ | ⟨c1, c2, rfl, rfl⟩ | ⟨c1, c2, rfl, rfl⟩
    · refine ⟨⟨by simp; omega, hro', fun k hk => ?_⟩, by omega⟩
      obtain ⟨a1, a2, a3⟩ := Rt.set2 (l := L) (i := i) (k := k) (y := st) (z := sb) (by omega)
      rw [a1, a3]
      refine ⟨(hall k hk).1, ?_⟩
      split
      · exact ad_dy c3 (hall i c1).2 d1
      · exact (hall k hk).2
    · refine ⟨⟨by simp; omega, hro', fun k hk => ?_⟩, by omega⟩
      obtain ⟨b1, b2, b3⟩ := Rt.ins (l := L) (i := i) (k := k) (x := to) (y := mt) (z := mb) (by omega)
      rcases Nat.lt_trichotomy k i with e | e | e
      · obtain ⟨a1, a2, a3⟩ := b1 e
        rw [a1, a3]
        exact hall k (by omega)
      · subst e
        rw [b2.1, b2.2.2]
        exact ⟨hto, d1⟩
      · obtain ⟨a1, a2, a3⟩ := b3 e
        rw [a1, a3]
        exact hall (k - 1) (by omega)
    · exact ⟨⟨by omega, hro', hall⟩, by omega⟩
  · exact ⟨⟨hl, hro, hfa⟩, by omega⟩
theorem sm_same {g h : Nat → Int} : ∀ n, (∀ k, k < n → g k = h k) → sm g n = sm h n
  | 0, _ => rfl
  | n + 1, e => by rw [sm, sm, sm_same n fun k hk => e k (by omega), e n (by omega)]
theorem sm_change {g h : Nat → Int} {f : Nat} : ∀ n, (∀ k, k < n → k ≠ f → g k = h k) → sm g n = sm h n + (if f < n then g f - h f else 0)
  | 0, _ => by simp [sm]
  | n + 1, e => by
    rw [sm, sm]
    by_cases hf : n = f
    · subst hf
      rw [sm_same n fun k hk => e k (by omega) (by omega), if_pos (by omega)]
      omega
    · rw [sm_change n (fun k hk => e k (by omega)), e n (by omega) hf]
      by_cases h2 : f < n
      · rw [if_pos h2, if_pos (by omega)]; omega
      · rw [if_neg h2, if_neg (by omega)]; omega
/-- A half of a share, in parts of 8192. -/
theorem half_val {t b d e : Int} (h : Ti t b 1 2 x y true) (hd : b * d = 8192) (he : y * e = 8192) : x * e + x * e = t * d := by
  obtain ⟨hc, hk, hy⟩ := ti_cross h
  have hb := (ti_fk h).1.1.1
  rw [Int.mul_one] at hc
  refine Int.eq_of_mul_eq_mul_left (a := b * y) (by have := Int.mul_pos (show 0 < b by omega) hy; omega) ?_
  have a1 : b * y * (x * e + x * e) = x * (b * 2) * (y * e) := by
    rw [← Int.two_mul]
    ac_rfl
  have a2 : b * y * (t * d) = t * y * (b * d) := by ac_rfl
  rw [a1, a2, hc, he, hd]
theorem fk12 : Fk 1 2 := ⟨by decide, by decide, by decide⟩
theorem fk11 : Fk 1 1 := ⟨by decide, by decide, by decide⟩
/-- What is there when the first half of a share is sold to 500. -/
structure Half (n f : Nat) (zs ys : List Int) (x y : Int) : Prop where
  len : ys.length = (n + 1) * 3
  own : ∀ k, k < n → wO ys k = wO zs k ∧ wO ys k ≤ 12
  rest : wT ys f = x ∧ wB ys f = y
  half : Rt ys n 500 x y
  same : ∀ k, k < n → k ≠ f → wT ys k = wT zs k ∧ wB ys k = wB zs k
  ti : Ti (wT zs f) (wB zs f) 1 2 x y true
theorem FairR.half (hF : FairR n zs) (hf : f < n) (h1 : Ti (wT zs f) (wB zs f) 1 2 x y true) : Half n f zs (so zs f x y n ++ [500, x, y]) x y ∧ (so zs f x y n).length = n * 3 ∧ sn f x n = n := by
  obtain ⟨hl, hro, hfa⟩ := hF
  have hx : 0 < x := by have := ti_pos h1 (hro.2.1 f hf).2.1 (by omega); omega
  have hsn : sn f x n = n := by unfold sn; rw [if_neg (by omega)]
  have hso := so_len zs f x y n
  rw [hsn] at hso
  have hat := fun k hk => so_at (zs := zs) (f := f) (rb := y) hx n k hk
  have hle := fun k (hk : k < n) => Rt.left (l := so zs f x y n) (r := [500, x, y]) (k := k) (by omega)
  refine ⟨⟨by simp; omega, fun k hk => ?_, ?_, Rt.last hso, fun k hk e => ?_, h1⟩, hso, hsn⟩
  · have e1 := (hle k hk).1.trans (hat k hk).1
    exact ⟨e1, by rw [e1]; exact (hfa k hk).1⟩
  · have e2 := (hle f hf).2.1.trans (hat f hf).2.1
    have e3 := (hle f hf).2.2.trans (hat f hf).2.2
    rw [if_pos rfl] at e2 e3
    exact ⟨e2, e3⟩
  · have e2 := (hle k hk).2.1.trans (hat k hk).2.1
    have e3 := (hle k hk).2.2.trans (hat k hk).2.2
    rw [if_neg e] at e2 e3
    exact ⟨e2, e3⟩
/-- The rights with a half sold are valid. -/
theorem Half.ro (hF : FairR n zs) (hf : f < n) (hn : n ≤ 11) (h : Half n f zs ys x y) : Ro (n + 1) ys := by
  obtain ⟨hl, hro, hfa⟩ := hF
  have hx : 1 ≤ x := ti_pos h.ti (hro.2.1 f hf).2.1 (by omega)
  have hk1 := (ti_cross h.ti).2.1
  have hdy := ti_dy h.ti (hfa f hf).2 ⟨2, rfl⟩
  have all : ∀ k, k < n + 1 → Fk (wT ys k) (wB ys k) ∧ Dy (wB ys k) := fun k hk => by
    by_cases e : k = n
    · subst e; rw [h.half.2.1, h.half.2.2]; exact ⟨hk1, hdy⟩
    · by_cases e2 : k = f
      · subst e2; rw [h.rest.1, h.rest.2]; exact ⟨hk1, hdy⟩
      · obtain ⟨a1, a2⟩ := h.same k (by omega) e2
        rw [a1, a2]
        exact ⟨hro.fk (by omega), (hfa k (by omega)).2⟩
  refine ⟨⟨by omega, by omega⟩, fun k hk => ?_, Sm.whole all ?_⟩
  · by_cases e : k = n
    · subst e
      unfold Own1
      rw [h.half.1, h.half.2.1]
      refine ⟨⟨by decide, by decide⟩, hx, fun h0 => ?_⟩
      have := (h.own (k - 1) (by omega)).2
      omega
    · obtain ⟨o1, o2, o3⟩ := hro.2.1 k (by omega)
      unfold Own1
      rw [(h.own k (by omega)).1]
      refine ⟨o1, ?_, fun h0 => ?_⟩
      · by_cases e2 : k = f
        · subst e2; rw [h.rest.1]; exact hx
        · rw [(h.same k (by omega) e2).1]; exact o2
      · rw [(h.own (k - 1) (by omega)).1]; exact o3 h0
  · obtain ⟨d, _, hd⟩ := (hfa f hf).2
    obtain ⟨e, _, he⟩ := hdy
    have hv := half_val h.ti hd he
    have hy := (ti_cross h.ti).2.2
    have p1 : pv (wT ys) (wB ys) n = x * e := by rw [pv_of (d := e) (by rw [h.half.2.2]; omega) (by rw [h.half.2.2]; exact he), h.half.2.1]
    have p2 : pv (wT ys) (wB ys) f = x * e := by rw [pv_of (d := e) (by rw [h.rest.2]; omega) (by rw [h.rest.2]; exact he), h.rest.1]
    have p3 : pv (wT zs) (wB zs) f = wT zs f * d := pv_of (hro.pos hf) hd
    rw [sm, sm_change (g := pv (wT ys) (wB ys)) (h := pv (wT zs) (wB zs)) (f := f) n (fun k hk e => by unfold pv; rw [(h.same k hk e).1, (h.same k hk e).2]), if_pos hf, p1, p2, p3]
    have hs := hro.2.2.val fun k hk => (hfa k hk).2
    omega
/-- A half that is sold: what the rights are then. -/
theorem FairR.sold (hF : FairR n zs) (hf : f < n) (h : Sla n zs (wO zs f) 500 1 2 m ys true) : m = n + 1 ∧ Ro (n + 1) ys ∧ ∃ x y, Half n f zs ys x y ∧ ys = so zs f x y n ++ [500, x, y] := by
  rcases h with ⟨_, hs⟩ | ⟨h, _⟩
  · have hro := hF.2.1
    obtain ⟨hfn, mt, mb, rt, rb, h1, h2, hput, hro'⟩ := hs.parts (f := f) fun k' hk' => ⟨fun e => hro.inj hk' hf e, fun e => e ▸ rfl⟩
    rw [show (2 : Int) - 1 = 1 from rfl] at h2
    obtain ⟨rfl, rfl, _⟩ := ti_uniq h1 h2
    obtain ⟨hh, hso, hsn⟩ := hF.half hf h1
    have hx : 0 < mt := by have := ti_pos h1 (hro.2.1 f hf).2.1 (by omega); omega
    rw [hsn] at hput
    obtain ⟨i, ⟨hi, hlo, hge⟩, hc⟩ := hput
    have hown := fun k (hk : k < n) => (Rt.left (l := so zs f mt mb n) (r := [500, mt, mb]) (k := k) (by omega)).1
    have hin : i = n := by
      refine Classical.byContradiction fun hn => hge (by omega) ?_
      have := (hh.own i (by omega)).2
      rw [hown i (by omega)] at this
      omega
    subst hin
    rcases hc with ⟨c1, _⟩ | ⟨_, _, rfl, rfl⟩ | ⟨_, c2, _⟩
    · omega
    · have e : (so zs f mt mb i).take (i * 3) ++ [500, mt, mb] ++ (so zs f mt mb i).drop (i * 3) = so zs f mt mb i ++ [500, mt, mb] := by
        rw [List.take_of_length_le (by omega), List.drop_of_length_le (by omega), List.append_nil]
      rw [e] at hro' ⊢
      exact ⟨rfl, hro', mt, mb, hh, rfl⟩
    · exact absurd hx c2
  · cases h
/-- A half that is not sold has too great a bottom. -/
theorem FairR.kept (hF : FairR n zs) (hf : f < n) (hn : n ≤ 11) (h : Sla n zs (wO zs f) 500 1 2 m ys false) : 5000 < wB zs f := by
  refine Classical.byContradiction fun hb => ?_
  rcases h with ⟨h, _⟩ | ⟨_, _, _, hno⟩
  · cases h
  · have hro := hF.2.1
    have hfk := hro.fk hf
    obtain ⟨x, y, r, h1⟩ := Ti.ex (wT zs f) (wB zs f) 1 2
    have hred := h1.1 ⟨hfk, fk12⟩
    obtain ⟨rfl, _, _⟩ := hred.small (by have := hfk.2.1; omega) (by have := hfk.1; omega)
    obtain ⟨hh, hso, hsn⟩ := hF.half hf h1
    have hr' := hh.ro hF hf hn
    have ho := hro.2.1 f hf
    have h12 := (hF.2.2 f hf).1
    have hx : 0 < x := by have := ti_pos h1 ho.2.1 (by omega); omega
    refine hno (n + 1) _ ⟨⟨hro, fk12, by decide, by omega, by decide, by decide⟩, f, x, y, x, y, hf, rfl, h1, h1, ?_, hr'⟩
    rw [hsn]
    have hown := fun k (hk : k < n) => (Rt.left (l := so zs f x y n) (r := [500, x, y]) (k := k) (by omega)).1
    refine ⟨n, ⟨Nat.le_refl _, fun j hj => ?_, fun hc => by omega⟩, .inr (.inl ⟨fun hc => by omega, hx, rfl, ?_⟩)⟩
    · have := (hh.own j hj).2
      rw [hown j hj] at this
      omega
    · rw [List.take_of_length_le (by omega), List.drop_of_length_le (by omega), List.append_nil]
/-- Sold back, all is as it was. -/
theorem FairR.back (hF : FairR n zs) (hf : f < n) (h : Half n f zs ys x y) (hys : ys = so zs f x y n ++ [500, x, y]) (hr : Ro (n + 1) ys) : Sla (n + 1) ys 500 (wO zs f) 1 1 n zs true := by
  obtain ⟨hl, hro, hfa⟩ := hF
  have ho := hro.2.1 f hf
  obtain ⟨hc, hk, hy⟩ := ti_cross h.ti
  obtain ⟨X, Y, hX, hY, q1, q2, q3, q4⟩ := hk.nat
  have t1 : Ti x y 1 1 x y true := by
    refine ⟨fun _ => ?_, fun g => absurd ⟨hk, fk11⟩ g⟩
    rw [Int.mul_one, Int.mul_one, hX, hY, Int.toNat_natCast, Int.toNat_natCast]
    obtain ⟨e1, e2⟩ := red_self q4
    unfold Red
    rw [e1, e2]
    exact ⟨fun _ => ⟨rfl, rfl, rfl⟩, fun g => absurd ⟨q1, q3⟩ g⟩
  have t2 : Ti x y (1 - 1) 1 0 1 true := by
    refine ⟨fun _ => ?_, fun g => absurd ⟨hk, by decide, by decide, by decide⟩ g⟩
    rw [show (1 : Int) - 1 = 0 from rfl, Int.mul_zero, Int.mul_one, hY, Int.toNat_natCast]
    have e1 : rT (Int.toNat 0) Y = 0 := by unfold rT; simp
    have e2 : rB (Int.toNat 0) Y = 1 := by unfold rB; rw [Int.toNat_zero, Nat.gcd_zero_left, Nat.div_self (by omega)]
    unfold Red
    rw [e1, e2]
    exact ⟨fun _ => ⟨rfl, rfl, rfl⟩, fun g => absurd ⟨by omega, by omega⟩ g⟩
  have hsn : sn n 0 (n + 1) = n := by unfold sn; rw [if_pos (by omega)]; omega
  have hx : 0 < x := by have := ti_pos h.ti ho.2.1 (by omega); omega
  have hso := so_len zs f x y n
  rw [show sn f x n = n by unfold sn; rw [if_neg (by omega)]] at hso
  have hsoE : so ys n 0 1 (n + 1) = so zs f x y n := by
    rw [so, if_pos rfl, if_neg (by omega), List.append_nil, so_id n (Nat.le_refl _) (by rw [h.len]; omega), hys, List.take_append_of_le_length (by omega), List.take_of_length_le (by omega)]
  have hat := fun k hk => so_at (zs := zs) (f := f) (rb := y) hx n k hk
  obtain ⟨a1, a2, a3⟩ := hat f hf
  rw [if_pos rfl] at a2 a3
  have had : Ad x y x y (wT zs f) (wB zs f) true := by
    refine ⟨fun _ => ?_, fun g => absurd ⟨hk, hk⟩ g⟩
    obtain ⟨T, B, hT, hB, p1, p2, p3, p4⟩ := (hro.fk hf).nat
    have hM : 0 < Y * Y := Nat.mul_pos (by omega) (by omega)
    have hcr := red_cross (X * Y + X * Y) (Y * Y)
    rw [hX, hY, hT, hB] at hc
    have hc' : X * (B * 2) = T * 1 * Y := by exact_mod_cast hc
    have key : rT (X * Y + X * Y) (Y * Y) * B = T * rB (X * Y + X * Y) (Y * Y) := by
      refine Nat.eq_of_mul_eq_mul_left hM ?_
      have b1 : Y * Y * (rT (X * Y + X * Y) (Y * Y) * B) = rT (X * Y + X * Y) (Y * Y) * (Y * Y) * B := by ac_rfl
      have b2 : (X * Y + X * Y) * rB (X * Y + X * Y) (Y * Y) * B = X * (B * 2) * (Y * rB (X * Y + X * Y) (Y * Y)) := by
        rw [show X * Y + X * Y = X * Y * 2 by omega]
        ac_rfl
      rw [b1, hcr, b2, hc', Nat.mul_one]
      ac_rfl
    obtain ⟨e1, e2⟩ := red_uniq (rB_pos (t := X * Y + X * Y) hM) (red_one hM) p4 key
    rw [hX, hY]
    have g1 : ((X : Int) * Y + X * Y).toNat = X * Y + X * Y := by
      have : ((X : Int) * Y + X * Y) = ((X * Y + X * Y : Nat) : Int) := by push_cast; rfl
      rw [this, Int.toNat_natCast]
    have g2 : ((Y : Int) * Y).toNat = Y * Y := by
      have : ((Y : Int) * Y) = ((Y * Y : Nat) : Int) := by push_cast; rfl
      rw [this, Int.toNat_natCast]
    rw [g1, g2]
    unfold Red
    rw [e1, e2, hT, hB]
    exact ⟨fun _ => ⟨rfl, rfl, rfl⟩, fun g => absurd ⟨p1, p3⟩ g⟩
  refine .inl ⟨rfl, ⟨hr, fk11, by decide, by have := (hfa f hf).1; omega, ho.1.1, ho.1.2⟩, n, x, y, 0, 1, by omega, h.half.1, ?_, ?_, ?_, hro⟩
  · rw [h.half.2.1, h.half.2.2]; exact t1
  · rw [h.half.2.1, h.half.2.2]; exact t2
  · rw [hsn, hsoE]
    refine ⟨f, ⟨by omega, fun j hj => ?_, fun _ => by rw [a1]; omega⟩, .inl ⟨hf, a1, rfl, wT zs f, wB zs f, by rw [a2, a3]; exact had, ?_⟩⟩
    · rw [(hat j (by omega)).1]
      exact hro.lt f hf j hj
    · refine rows_ext hl (by simp; omega) fun k hk => ?_
      obtain ⟨c1, c2, c3⟩ := Rt.set2 (l := so zs f x y n) (i := f) (k := k) (y := wT zs f) (z := wB zs f) (by omega)
      obtain ⟨d1, d2, d3⟩ := hat k hk
      rw [c1, c2, c3, d1, d2, d3]
      by_cases e : k = f
      · subst e; simp only [if_pos]; exact Rt.self _ _
      · simp only [if_neg e]; exact Rt.self _ _
end
end Go.Proofs.Ytopbeacfljoacaa.rgt
