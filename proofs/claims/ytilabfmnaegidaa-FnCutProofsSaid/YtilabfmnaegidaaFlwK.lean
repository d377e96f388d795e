/- Flows: the program's search keeps the way to each place: plain functions, and the memory while it searches. -/
import Derived.Test.YtilabfmnaegidaaFlwS4
import Derived.Test.YtilabfmnaegidaaMapV
namespace Go.Proofs.Ytilabfmnaegidaa.fl_
open Go.RowKit Go.Proofs.Ytilabfmnaegidaa.kit Go.Proofs.Ytilabfmnaegidaa.lawi Go.Proofs.Ytilabfmnaegidaa.own Go.Proofs.Ytilabfmnaegidaa.rain Go.Proofs.Ytilabfmnaegidaa.yrl Go.Proofs.Ytilabfmnaegidaa.net Go.Proofs.Ytilabfmnaegidaa.nt Go.Proofs.Ytilabfmnaegidaa.flw Go.Proofs.Ytilabfmnaegidaa.take Go.Proofs.Ytilabfmnaegidaa.mapv
/-- A way from a to a place, all of whose places are on the list: its steps, the last one first. -/
inductive Wy (F T : Nat → Int) (m : Nat) (a : Int) (s : List Int × (Int → Int)) : Int → List (Nat × Bool) → Prop
  | nil : Wy F T m a s a []
  | fw (v : Int) (k : Nat) (r : List (Nat × Bool)) : v ≠ a → v ∈ s.1 → k < m → s.2 v = 2 * (k : Int) → T k = v → Wy F T m a s (F k) r → Wy F T m a s v ((k, true) :: r)
  | bw (v : Int) (k : Nat) (r : List (Nat × Bool)) : v ≠ a → v ∈ s.1 → k < m → s.2 v = 2 * (k : Int) + 1 → F k = v → Wy F T m a s (T k) r → Wy F T m a s v ((k, false) :: r)
section
variable {F T W f : Nat → Int} {m : Nat} {a v x : Int} {s s' : List Int × (Int → Int)} {r : List (Nat × Bool)}
theorem Wy.pth (h : Wy F T m a s v r) : Pth F T m a s.2 v r := by
  induction h with
  | nil => exact .nil
  | fw v k r h1 _ h2 h3 h4 _ ih => exact .fw v k r h1 h2 h3 h4 ih
  | bw v k r h1 _ h2 h3 h4 _ ih => exact .bw v k r h1 h2 h3 h4 ih
theorem Wy.more (h : Wy F T m a s v r) (hs : ∀ u, u ∈ s.1 → u ∈ s'.1 ∧ s'.2 u = s.2 u) : Wy F T m a s' v r := by
  induction h with
  | nil => exact .nil
  | fw v k r h1 hm h2 h3 h4 _ ih => exact .fw v k r h1 (hs v hm).1 h2 ((hs v hm).2.trans h3) h4 ih
  | bw v k r h1 hm h2 h3 h4 _ ih => exact .bw v k r h1 (hs v hm).1 h2 ((hs v hm).2.trans h3) h4 ih
/-- A place is put behind the list. -/
def ext (s : List Int × (Int → Int)) (v x : Int) : List Int × (Int → Int) := (s.1 ++ [v], fun u => if u = v then x else s.2 u)
theorem ext_old (hv : v ∉ s.1) : ∀ u, u ∈ s.1 → u ∈ (ext s v x).1 ∧ (ext s v x).2 u = s.2 u := fun u hu =>
  ⟨List.mem_append_left _ hu, if_neg fun e : u = v => hv (e ▸ hu)⟩
/-- The step that the list's new place is reached by. -/
def stepx (k : Nat) (d : Bool) : Int := if d = true then 2 * (k : Int) else 2 * (k : Int) + 1
theorem Wy.step {t : Int} {k : Nat} {d : Bool} (h : Wy F T m a s t r) (ha : a ∈ s.1) (hk : k < m) (hv : v ∉ s.1) (hd : if d = true then F k = t ∧ T k = v else T k = t ∧ F k = v) :
    Wy F T m a (ext s v (stepx k d)) v ((k, d) :: r) := by
  have hva : v ≠ a := fun e => hv (e ▸ ha)
  have h2 : (ext s v (stepx k d)).2 v = stepx k d := if_pos rfl
  have h3 : v ∈ (ext s v (stepx k d)).1 := List.mem_append_right _ (List.mem_singleton.2 rfl)
  have h1 := h.more (s' := ext s v (stepx k d)) (ext_old hv)
  cases d with
  | true =>
    obtain ⟨e1, e2⟩ := hd
    exact .fw v k r hva h3 hk h2 e2 (by rw [e1]; exact h1)
  | false =>
    obtain ⟨e1, e2⟩ := hd
    exact .bw v k r hva h3 hk h2 e2 (by rw [e1]; exact h1)
/-- A way as a row of ints. -/
def enc : List (Nat × Bool) → List Int
  | [] => []
  | e :: r => (e.1 : Int) :: (if e.2 = true then 1 else -1) :: enc r
theorem enc_app : ∀ q q' : List (Nat × Bool), enc (q ++ q') = enc q ++ enc q'
  | [], _ => rfl
  | e :: q, q' => by simp [enc, enc_app q q']
theorem enc_len : ∀ q : List (Nat × Bool), (enc q).length = q.length * 2
  | [] => rfl
  | e :: q => by simp [enc, enc_len q]; omega
theorem enc_at : ∀ (q : List (Nat × Bool)) (i : Nat) (e : Nat × Bool), q[i]? = some e → (enc q).getD (i * 2) 0 = (e.1 : Int) ∧ (enc q).getD (i * 2 + 1) 0 = if e.2 = true then 1 else -1
  | [], i, e, h => by simp at h
  | e0 :: q, 0, e, h => by
    obtain rfl : e0 = e := by simpa using h
    simp [enc]
  | e0 :: q, i + 1, e, h => by
    have ih := enc_at q i e (by simpa using h)
    rw [show (i + 1) * 2 = i * 2 + 2 by omega, show i * 2 + 2 + 1 = i * 2 + 1 + 2 by omega]
    simpa [enc] using ih
/-- By how much a way changes pipe j. -/
def sgn : List (Nat × Bool) → Nat → Int
  | [], _ => 0
  | e :: r, j => (if e.1 = j then (if e.2 = true then 1 else -1) else 0) + sgn r j
theorem sgn_app : ∀ (q q' : List (Nat × Bool)) (j : Nat), sgn (q ++ q') j = sgn q j + sgn q' j
  | [], _, _ => by simp [sgn]
  | e :: q, q', j => by simp only [List.cons_append, sgn, sgn_app q q' j]; omega
theorem sgn_rev : ∀ (q : List (Nat × Bool)) (j : Nat), sgn q.reverse j = sgn q j
  | [], _ => rfl
  | e :: q, j => by rw [List.reverse_cons, sgn_app, sgn_rev q j]; simp only [sgn]; omega
theorem sgn_bd : ∀ (q : List (Nat × Bool)) (j : Nat), -(q.length : Int) ≤ sgn q j ∧ sgn q j ≤ q.length
  | [], _ => by simp [sgn]
  | e :: q, j => by
    have ih := sgn_bd q j
    rw [sgn, List.length_cons]
    split
    · split <;> omega
    · omega
theorem aug_sgn : ∀ (q : List (Nat × Bool)) (f : Nat → Int) (j : Nat), aug x q f j = f j + x * sgn q j
  | [], f, j => by simp [aug, sgn]
  | e :: q, f, j => by
    rw [aug, aug_sgn q, sgn]
    unfold upd
    by_cases h : e.1 = j
    · rw [if_pos h.symm, if_pos h, h]
      split
      · rw [Int.mul_add]; omega
      · rw [Int.mul_add]; omega
    · rw [if_neg (fun e => h e.symm), if_neg h]
      simp
/-- What bears no less than each of a way's steps and than x. -/
theorem mst_ge : ∀ (q : List (Nat × Bool)) (x y : Int), y ≤ x → (∀ e, e ∈ q → y ≤ room W f e) → y ≤ mst W f q x
  | [], _, _, h, _ => h
  | e :: q, x, y, h, he => by
    rw [mst]
    refine mst_ge q _ y ?_ fun e' h' => he e' (List.mem_cons_of_mem _ h')
    have := he e (List.mem_cons_self ..)
    split <;> omega
theorem mst_rev (q : List (Nat × Bool)) (x : Int) : mst W f q.reverse x = mst W f q x := by
  obtain ⟨a1, a2, _⟩ := mst_le (W := W) (f := f) q x
  obtain ⟨b1, b2, _⟩ := mst_le (W := W) (f := f) q.reverse x
  have h1 := mst_ge (W := W) (f := f) q x _ b1 fun e he => b2 e (List.mem_reverse.2 he)
  have h2 := mst_ge (W := W) (f := f) q.reverse x _ a1 fun e he => a2 e (List.mem_reverse.1 he)
  omega
theorem mst_take {q : List (Nat × Bool)} {i : Nat} {e : Nat × Bool} (x : Int) (h : q[i]? = some e) : mst W f (q.take (i + 1)) x = if mst W f (q.take i) x ≤ room W f e then mst W f (q.take i) x else room W f e := by
  have key : ∀ (l : List (Nat × Bool)) (x : Int), mst W f (l ++ [e]) x = if mst W f l x ≤ room W f e then mst W f l x else room W f e := by
    intro l
    induction l with
    | nil => exact fun x => rfl
    | cons e' l ih => exact fun x => ih _
  rw [List.take_add_one, h]
  exact key _ _
theorem sgn_take {q : List (Nat × Bool)} {i : Nat} {e : Nat × Bool} (h : q[i]? = some e) (j : Nat) : sgn (q.take (i + 1)) j = sgn (q.take i) j + if e.1 = j then (if e.2 = true then 1 else -1) else 0 := by
  rw [List.take_add_one, h, Option.toList_some, sgn_app]
  simp [sgn]
end
abbrev TS : TypeId := 84
abbrev TW : TypeId := 66
abbrev TR : TypeId := 30
/-- While the program searches: the map of ways (block mb, its variable's block wb), the row of places (block g, its variable's block pb). -/
structure SW (w0 W : World) (F T : Nat → Int) (m : Nat) (a : Int) (wb mb pb g : Nat) (s : List Int × (Int → Int)) (f : Int → Option Value) : Prop where
  bw : Below w0.heap.size w0 W
  wv : Blk W wb TW #[.map (some mb)]
  pv : ∃ ca, Blk W pb TR #[.slice (some ⟨g, 0, none⟩) s.1.length ca] ∧ W.ownsRow w0.heap.size TI 1 (.slice (some ⟨g, 0, none⟩) s.1.length ca) s.1.length (IV s.1)
  mp : MapV Try.prog TI W mb s.1.length f
  ys : ∀ u, u ∈ s.1 → ∃ r rv, f u = some rv ∧ Wy F T m a s u r ∧ r.length < s.1.length ∧ W.ownsRow w0.heap.size TS 2 rv r.length (IV (enc r.reverse)) ∧ ∀ b, rv.ownBlock = some b → b ≠ mb ∧ b ≠ wb ∧ b ≠ pb ∧ b ≠ g
  no : ∀ u, u ∉ s.1 → f u = none
  lo : w0.heap.size ≤ wb ∧ w0.heap.size ≤ mb ∧ w0.heap.size ≤ pb
  ne : wb ≠ mb ∧ wb ≠ pb ∧ mb ≠ pb ∧ g ≠ wb ∧ g ≠ mb ∧ g ≠ pb
/-- Only the map, the row of places and its variable have changed. -/
def Kpt (mb pb g : Nat) (W W' : World) : Prop := W.heap.size ≤ W'.heap.size ∧ ∀ k, k < W.heap.size → k ≠ mb → k ≠ pb → k ≠ g → W'.heap[k]? = W.heap[k]?
section
variable {w0 W W' : World} {F T : Nat → Int} {m : Nat} {a : Int} {wb mb pb g : Nat} {s : List Int × (Int → Int)} {f : Int → Option Value}
theorem SW.keep (h : SW w0 W F T m a wb mb pb g s f) (hb : Below W.heap.size W W') : SW w0 W' F T m a wb mb pb g s f := by
  obtain ⟨ca, p1, p2⟩ := h.pv
  refine ⟨below_step h.bw hb, h.wv.step hb, ⟨ca, p1.step hb, own_below p2 hb⟩, h.mp.keep hb, fun u hu => ?_, h.no, h.lo, h.ne⟩
  obtain ⟨r, rv, h1, h2, h3, h4, h5⟩ := h.ys u hu
  exact ⟨r, rv, h1, h2, h3, own_below h4 hb, h5⟩
theorem Kpt.keep (h : Below W.heap.size W W') : Kpt mb pb g W W' := ⟨h.size, fun k hk _ _ _ => h.block k hk⟩
theorem Kpt.blk (h : Kpt mb pb g W W') {b : Nat} {t : TypeId} {cs : Array Value} (hb : Blk W b t cs) (h1 : b ≠ mb) (h2 : b ≠ pb) (h3 : b ≠ g) : Blk W' b t cs := hb.same (h.2 b hb.lt h1 h2 h3)
/-- A place is put on the list. -/
theorem SW.add {W5 W6 W8 : World} {v x : Int} {k : Nat} {d : Bool} {r : List (Nat × Bool)} {rv : Value} {g' ca' : Nat} (h : SW w0 W F T m a wb mb pb g s f) (h5 : Below W.heap.size W W5) (h6 : W5.grownBy W6 (some mb)) (h8 : W6.grownBy W8 (some g))
    (hm : MapV Try.prog TI W6 mb (s.1.length + 1) (fun y => if y = v then some rv else f y)) (hrow : W5.ownsRow W.heap.size TS 2 rv (r.length + 1) (IV (enc (r.reverse ++ [(k, d)]))))
    (hp : W8.ownsRow w0.heap.size TI 1 (.slice (some ⟨g', 0, none⟩) (s.1.length + 1) ca') (s.1.length + 1) (IV (s.1 ++ [v]))) (hg' : g' = g ∨ W6.heap.size ≤ g')
    (hv : v ∉ s.1) (hwy : Wy F T m a (ext s v x) v ((k, d) :: r)) (hrl : r.length < s.1.length) :
    SW w0 (W8.setCell ⟨pb, 0, none⟩ (.slice (some ⟨g', 0, none⟩) (s.1.length + 1) ca')) F T m a wb mb pb g' (ext s v x) (fun y => if y = v then some rv else f y) ∧
      Kpt mb pb g W (W8.setCell ⟨pb, 0, none⟩ (.slice (some ⟨g', 0, none⟩) (s.1.length + 1) ca')) ∧ (g' = g ∨ W.heap.size ≤ g') := by
  obtain ⟨ca, p1, p2⟩ := h.pv
  obtain ⟨n1, n2, n3, n4, n5, n6⟩ := h.ne
  obtain ⟨l1, l2, l3⟩ := h.lo
  have lw := h.wv.lt
  have lm := h.mp.lt
  have lp := p1.lt
  obtain ⟨lg0, lg⟩ := p2.lt g rfl
  have z5 := h5.size
  have z6 := h6.size
  have z8 := h8.size
  have hgW : g' = g ∨ W.heap.size ≤ g' := by omega
  have h9 : W8.grownBy (W8.setCell ⟨pb, 0, none⟩ (.slice (some ⟨g', 0, none⟩) (s.1.length + 1) ca')) (some pb) := grown_setCell (grown_refl W8 (some pb)) 0 none _
  have hl : (ext s v x).1.length = s.1.length + 1 := by simp [ext]
  have key : Kpt mb pb g W (W8.setCell ⟨pb, 0, none⟩ (.slice (some ⟨g', 0, none⟩) (s.1.length + 1) ca')) := by
    refine ⟨by have := h9.size; omega, fun k hk k1 k2 k3 => ?_⟩
    rw [h9.block k (by omega) (fun e => k2 (Option.some.inj e)), h8.block k (by omega) (fun e => k3 (Option.some.inj e)), h6.block k (by omega) (fun e => k1 (Option.some.inj e)), h5.block k hk]
  have rowk : ∀ {rv : Value} {n : Nat} {xs : List Value}, W.ownsRow w0.heap.size TS 2 rv n xs → (∀ b, rv.ownBlock = some b → b ≠ mb ∧ b ≠ wb ∧ b ≠ pb ∧ b ≠ g) → (W8.setCell ⟨pb, 0, none⟩ (.slice (some ⟨g', 0, none⟩) (s.1.length + 1) ca')).ownsRow w0.heap.size TS 2 rv n xs := by
    intro rv n xs ho hb
    refine (((own_below ho h5).kept h6 (.inr ?_)).kept h8 (.inr ?_)).kept h9 (.inr ?_)
    · exact fun e => (hb mb e).1 rfl
    · exact fun e => (hb g e).2.2.2 rfl
    · exact fun e => (hb pb e).2.2.1 rfl
  refine ⟨⟨?_, key.blk h.wv n1 n2 (fun e => n4 e.symm), ⟨ca', ?_, ?_⟩, ?_, fun u hu => ?_, fun u hu => ?_, h.lo, ⟨n1, n2, n3, ?_, ?_, ?_⟩⟩, key, hgW⟩
  · have b5 := h.bw.trans (h5.mono h.bw.size)
    have b6 := b5.grown h6 (by have := h.bw.size; omega) (fun q hq => by cases hq; omega)
    have b8 := b6.grown h8 (by have := h.bw.size; omega) (fun q hq => by cases hq; omega)
    exact b8.setCell l3 _
  · have q := ((p1.step h5).grown h6 (fun e => n3 (Option.some.inj e).symm)).grown h8 (fun e => n6 (Option.some.inj e).symm)
    rw [hl]
    simpa using q.set_ 0 (.slice (some ⟨g', 0, none⟩) (s.1.length + 1) ca')
  · rw [hl]
    exact hp.kept h9 (.inr (fun e => by
      have e : g' = pb := Option.some.inj e
      rcases hg' with e' | e'
      · exact n6 (by omega)
      · omega))
  · rw [hl]
    exact (hm.kept h8 (fun e => n5 (Option.some.inj e).symm)).kept h9 (fun e => n3 (Option.some.inj e))
  · rcases List.mem_append.1 hu with hu | hu
    · obtain ⟨r', rv', a1, a2, a3, a4, a5⟩ := h.ys u hu
      refine ⟨r', rv', ?_, a2.more (ext_old hv), by rw [hl]; omega, rowk a4 a5, fun b hb => ?_⟩
      · rw [if_neg (fun e : u = v => hv (e ▸ hu))]; exact a1
      · obtain ⟨c1, c2, c3, c4⟩ := a5 b hb
        have := (a4.lt b hb).2
        exact ⟨c1, c2, c3, by omega⟩
    · obtain rfl : u = v := List.mem_singleton.1 hu
      refine ⟨(k, d) :: r, rv, if_pos rfl, hwy, by rw [hl, List.length_cons]; omega, ?_, fun b hb => ?_⟩
      · rw [List.reverse_cons, List.length_cons]
        refine ((own_mono hrow h.bw.size).kept h6 (.inr ?_)).kept h8 (.inr ?_) |>.kept h9 (.inr ?_)
        · exact fun e => by have := (hrow.lt mb e).1; omega
        · exact fun e => by have := (hrow.lt g e).1; omega
        · exact fun e => by have := (hrow.lt pb e).1; omega
      · obtain ⟨c1, c2⟩ := hrow.lt b hb
        exact ⟨by omega, by omega, by omega, by omega⟩
  · have h1 : u ≠ v := fun e => hu (e ▸ List.mem_append_right _ (List.mem_singleton.2 rfl))
    rw [if_neg h1]
    exact h.no u (fun e => hu (List.mem_append_left _ e))
  · omega
  · omega
  · omega
end
end Go.Proofs.Ytilabfmnaegidaa.fl_
