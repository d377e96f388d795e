/- Cells of a block set one after the other: an element taken out of a row of the call's own, what follows moved up. -/
import Derived.Test.YtopbeacfljoacaaCpy
import Derived.Laws.IdiomCopy
namespace Go.Proofs.Ytopbeacfljoacaa.del
open Go.RowKit Go.Proofs.Ytopbeacfljoacaa.kit Go.Proofs.Ytopbeacfljoacaa.lawi Go.Proofs.Ytopbeacfljoacaa.own Go.Proofs.Ytopbeacfljoacaa.cpy
/-- A list whose cells from o on are set. -/
def setL (l : List Value) (o : Nat) : List Value → List Value
  | [] => l
  | v :: r => setL (l.set o v) (o + 1) r
theorem setL_len : ∀ (vs l : List Value) (o : Nat), (setL l o vs).length = l.length
  | [], _, _ => rfl
  | v :: r, l, o => by rw [setL, setL_len r]; simp
theorem setL_get : ∀ (vs l : List Value) (o : Nat), o + vs.length ≤ l.length → ∀ i, (setL l o vs)[i]? = if o ≤ i ∧ i < o + vs.length then vs[i - o]? else l[i]?
  | [], l, o, _, i => by
    rw [setL, if_neg (by simp)]
  | v :: r, l, o, h, i => by
    simp only [List.length_cons] at h ⊢
    rw [setL, setL_get r _ (o + 1) (by simp; omega) i, List.getElem?_set]
    by_cases e : o = i
    · subst e
      rw [if_neg (by omega), if_pos rfl, if_pos (by omega), if_pos (by omega)]
      simp
    · by_cases g : o + 1 ≤ i ∧ i < o + 1 + r.length
      · rw [if_pos g, if_pos (by omega), show i - o = (i - (o + 1)) + 1 by omega]
        simp
      · rw [if_neg g, if_neg e, if_neg (by omega)]
theorem blk_setCells {g : Nat} {t : TypeId} : ∀ (vs : List Value) (o : Nat) {w : World} {cs : Array Value}, Blk w g t cs → ∃ cs', Blk (w.setCells g o vs) g t cs' ∧ cs'.toList = setL cs.toList o vs
  | [], _, _, cs, h => ⟨cs, h, rfl⟩
  | v :: r, o, w, cs, h => by
    obtain ⟨cs', h1, h2⟩ := blk_setCells r (o + 1) (h.set_ o v)
    exact ⟨cs', h1, by rw [h2, setL]; simp⟩
theorem chg_setCells {lo hi g : Nat} (h1 : lo ≤ g) (h2 : g < hi) : ∀ (vs : List Value) (o : Nat) {w : World}, Chg lo hi w (w.setCells g o vs)
  | [], _, _ => .refl
  | v :: r, o, _ => (Chg.set g o v h1 h2).trans (chg_setCells h1 h2 r (o + 1))
theorem size_setCells {g : Nat} : ∀ (vs : List Value) (o : Nat) {w : World}, (w.setCells g o vs).heap.size = w.heap.size
  | [], _, _ => rfl
  | v :: r, o, _ => by rw [World.setCells, size_setCells r]; simp
/-- Element k taken out: what follows is moved up, the last element's cells are set to whatever. -/
theorem own_del {w : World} {lo hi sz g n cu k : Nat} {e : TypeId} {xs : List Value} (h : OwnR w lo hi e sz (.slice (some ⟨g, 0, none⟩) n cu) n xs) (hk : k < n) (zz : List Value) (hz : zz.length = sz) :
    OwnR ((w.setCells g (k * sz) (xs.drop ((k + 1) * sz))).setCells g ((n - 1) * sz) zz) lo hi e sz (.slice (some ⟨g, 0, none⟩) (n - 1) cu) (n - 1) (xs.take (k * sz) ++ xs.drop ((k + 1) * sz)) := by
  obtain ⟨⟨hl, h1⟩, h2, h3⟩ := h
  rcases h1 with ⟨h1, _⟩ | ⟨g', cap, cur, e1, hb, hg, hc, hm, hs, ht⟩
  · cases h1
  · cases e1
    have E1 : (k + 1) * sz = k * sz + sz := Nat.succ_mul k sz
    have E2 : n * sz = (n - 1) * sz + sz := by rw [← Nat.succ_mul]; congr 1; omega
    have E3 : k * sz + ((n - 1) - k) * sz = (n - 1) * sz := by rw [← Nat.add_mul]; congr 1; omega
    have E4 : n * sz ≤ cu * sz := Nat.mul_le_mul_right sz hc
    have hlen : cur.toList.length = cu * sz := by simpa using hs
    obtain ⟨c1, b1, l1⟩ := blk_setCells (xs.drop ((k + 1) * sz)) (k * sz) (show Blk w g e cur from hg)
    obtain ⟨c2, b2, l2⟩ := blk_setCells zz ((n - 1) * sz) b1
    have hdl : (xs.drop ((k + 1) * sz)).length = ((n - 1) - k) * sz := by
      rw [List.length_drop]; omega
    have hc2 : c2.size = cu * sz := by
      have := congrArg List.length l2
      rw [setL_len, l1, setL_len, hlen] at this
      simpa using this
    refine ⟨⟨?_, .inr ⟨g, cu, c2, rfl, hb, b2, by omega, hm, hc2, ?_⟩⟩, h2, by rw [size_setCells, size_setCells]; exact h3⟩
    · rw [List.length_append, hdl, List.length_take]; omega
    · rw [l2, l1]
      refine List.ext_getElem? fun i => ?_
      by_cases hi : i < (n - 1) * sz
      · rw [List.getElem?_take_of_lt hi, setL_get _ _ _ (by rw [setL_len, hz]; omega), if_neg (by omega), setL_get _ _ _ (by rw [hdl]; omega)]
        by_cases hik : i < k * sz
        · rw [if_neg (by omega), List.getElem?_append_left (by rw [List.length_take]; omega), ← ht, List.getElem?_take_of_lt (by omega), List.getElem?_take_of_lt (by omega)]
        · rw [if_pos (by rw [hdl]; omega), List.getElem?_append_right (by rw [List.length_take]; omega)]
          congr 1
          rw [List.length_take]
          omega
      · rw [List.getElem?_eq_none (by rw [List.length_take]; omega), List.getElem?_eq_none (by rw [List.length_append, hdl, List.length_take]; omega)]
theorem own_at {w : World} {lo hi sz g n cu : Nat} {e : TypeId} {xs : List Value} (h : OwnR w lo hi e sz (.slice (some ⟨g, 0, none⟩) n cu) n xs) (vs : List Value) (o j : Nat) (hj : j < n * sz) :
    ((w.setCells g o vs).cell? ⟨g, j, none⟩).isSome = true ∧ (w.setCells g o vs).frozen? ⟨g, j, none⟩ = false := by
  obtain ⟨⟨hl, h1⟩, h2, h3⟩ := h
  rcases h1 with ⟨h1, _⟩ | ⟨g', cap, cur, e1, hb, hg, hc, hm, hs, ht⟩
  · cases h1
  · cases e1
    obtain ⟨c1, b1, l1⟩ := blk_setCells vs o (show Blk w g e cur from hg)
    have E4 : n * sz ≤ cu * sz := Nat.mul_le_mul_right sz hc
    have hc1 : c1.size = cu * sz := by
      have := congrArg List.length l1
      rw [setL_len] at this
      simpa [hs] using this
    refine ⟨?_, b1.frozen j⟩
    rw [b1.cell j, Array.getElem?_eq_getElem (by omega)]
    rfl
/-- 'clear(s)' of elements of any size. -/
theorem run_clear_any {P : Program} (w : World) (t e ty : TypeId) (z : Value) (ht : P.underlying t = some (.slice e)) (hv : ∀ w, (zeroValue e).run P w = .ok z w) (b o n c : Nat) (hn : 0 < n) (zz : List Value) (hz : (Builtin.zeroCells z.cells n).toList = zz) (h1 : ∀ v ∈ zz, v.oneCell' = true)
    (hc : ∀ j, j < zz.length → (w.cell? ⟨b, o + j, none⟩).isSome = true) (hf : ∀ j, j < zz.length → w.frozen? ⟨b, o + j, none⟩ = false) :
    (Builtin.clear_ #[t] ty #[.slice (some ⟨b, o, none⟩) n c]).run P w = .ok (.tuple #[]) (w.setCells b o zz) := by
  have hst := run_storeCells_cells (P := P) b o zz 0 w (by simpa using hc) (by simpa using hf) h1
  simp only [Nat.add_zero] at hst
  obtain ⟨m, rfl⟩ : ∃ m, n = m + 1 := ⟨n - 1, by omega⟩
  simp [Builtin.clear_, run_underlying ht, hv, hz, hst]
/-- An own row, told by its block. -/
theorem own_tight2 {w : World} {g h : Nat} {e : TypeId} {sz : Nat} {v : Value} {n : Nat} {xs : List Value} (o : w.ownsRow g e sz v n xs) (hb : v.ownBlock = some g ∨ v.ownBlock = some h) :
    ∃ q, OwnR w q (q + 1) e sz v n xs ∧ (q = g ∨ q = h) ∧ v.ownBlock = some q := by
  have key : ∀ q, v.ownBlock = some q → OwnR w q (q + 1) e sz v n xs := fun q hq => by
    obtain ⟨q', h1, h2⟩ := own_tight o (h := q) (.inr hq)
    have h3 := h1.2.1 q hq
    have h4 := (h1.own.lt q hq).1
    obtain rfl : q = q' := by omega
    exact h1
  rcases hb with hb | hb
  · exact ⟨g, key g hb, .inl rfl, hb⟩
  · exact ⟨h, key h hb, .inr rfl, hb⟩
/-- 'append(s, x...)' onto a row of the call's own, of whatever row of ints. -/
theorem run_more {P : Program} {W : World} {base : Nat} {t ty e : TypeId} {i : TypeInfo} {z : Value} {size bytes : Nat} (ht : P.underlying t = some (.slice e)) (hi : P.info? e = some i) (hz : i.zero = some z)
    (hsize : i.size = size) (hby : i.bytes = bytes) (hzs : z.cells.size = size) (hsz : 0 < size) {v x : Value} {n m : Nat} {xs : List Value} {zs : List Int} (hown : W.ownsRow base e size v n xs)
    (hr : Row size W x m (zs.map (Value.int .i64))) (hn : n + m ≤ 1048576) (hb : bytes ≤ 1000) (hbase : base ≤ W.heap.size) :
    ∃ v' w', (Builtin.append_ #[t, t] ty #[v, x]).run P W = .ok v' w' ∧ w'.ownsRow base e size v' (n + m) (xs ++ zs.map (Value.int .i64)) ∧ W.grownBy w' v.ownBlock ∧ (v'.ownBlock = v.ownBlock ∨ v'.ownBlock = some W.heap.size) := by
  obtain ⟨hl, a, ca, rfl, ha⟩ := hr
  have hbytes : (n + m) * bytes ≤ 140737488355328 := by
    have := Nat.mul_le_mul hn hb
    omega
  have one : ∀ u ∈ zs.map (Value.int .i64), u.oneCell' = true := by
    intro c hc
    obtain ⟨z, _, rfl⟩ := List.mem_map.1 hc
    rfl
  cases a with
  | none =>
    have h0 : m = 0 := by
      rcases ha with h | ⟨b, off, h, _⟩
      · exact h
      · cases h
    subst h0
    have hnil : zs.map (Value.int .i64) = [] := List.eq_nil_of_length_eq_zero (by simpa using hl)
    rw [hnil]
    exact ⟨_, W, run_append_owned_none (P := P) W base t ty e i size ht hi _ n xs hown, by simpa using hown, grown_refl _ _, .inl rfl⟩
  | some ad =>
    obtain ⟨v', w', h1, h2, h3, _, h4⟩ := run_append_own_at (P := P) W base t ty e i z size bytes ht hi hz hsize hby hzs hsz _ n xs hown ad m ca (zs.map (Value.int .i64)) hl
      (fun j u hu => by
        rcases ha with h | ⟨b, off, h, hc⟩
        · subst h
          have : zs.map (Value.int .i64) = [] := List.eq_nil_of_length_eq_zero (by simpa using hl)
          rw [this] at hu; simp at hu
        · cases h
          have := hc j u hu
          rw [← this]; congr 1
          unfold Addr.add; split <;> simp_all) one (by unfold maxLen; omega) hbytes hbase
    exact ⟨v', w', h1, h2, h3, h4⟩
theorem step_more {P : Program} {W : World} {ops : Array Oper} {o : Oper} {a : Act} {K : Act → World → Prop} {Q : Exit → Act → World → Prop} {E : Prop} (hgd : o.guard = none) (s x : Operand) (t : TypeId)
    (ho : o.op = .call { callee := .builtin .append, args := #[s, x], argTypes := #[t, t] })
    (e : TypeId) (i : TypeInfo) (z : Value) (size bytes : Nat) (ht : P.underlying t = some (.slice e)) (hi : P.info? e = some i) (hz : i.zero = some z)
    (hsize : i.size = size) (hby : i.bytes = bytes) (hzs : z.cells.size = size) (hsz : 0 < size) (u : Value) (hs : a.eval s = u) (base n : Nat) (xs : List Value) (hown : W.ownsRow base e size u n xs) (v : Value) (hx : a.eval x = v) (m : Nat) (zs : List Int)
    (hr : Row size W v m (zs.map (Value.int .i64))) (hn : n + m ≤ 1048576) (hb : bytes ≤ 1000) (hbase : base ≤ W.heap.size)
    (h : ∀ v' w', w'.ownsRow base e size v' (n + m) (xs ++ zs.map (Value.int .i64)) → W.grownBy w' u.ownBlock → (v'.ownBlock = u.ownBlock ∨ v'.ownBlock = some W.heap.size) → K (a.put o.dst v') w') :
    if Region.wanted o (yielded ops a.tmps) = true then Oper.wp P o a W K Q else E := by
  rw [if_pos (by simp [Region.wanted, hgd])]
  obtain ⟨v', w', hrun, h1, h2, h3⟩ := run_more (P := P) (ty := o.type) ht hi hz hsize hby hzs hsz hown hr hn hb hbase
  unfold Oper.wp execOp
  simp only [ho, resolve, invoke, builtin, Sem.run_bind, Sem.run_pure, Result.andThen_ok, List.map_toArray, List.map_cons, List.map_nil, hs, hx, hrun]
  exact h v' w' h1 h2 h3
end Go.Proofs.Ytopbeacfljoacaa.del
