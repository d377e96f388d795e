/- Rows of ints copied: append onto an empty slice; slices.Clone (ChnC's first half, without chains). -/
import Derived.Test.YtopbeacfljoacaaOwn
import Derived.Maps.AppendAt
import Derived.Lib.SliceRun
namespace Go.Proofs.Ytopbeacfljoacaa.cpy
open Go.RowKit Go.Proofs.Ytopbeacfljoacaa.kit Go.Proofs.Ytopbeacfljoacaa.lawi Go.Proofs.Ytopbeacfljoacaa.own
section
variable {P : Program}
/-- append onto an empty slice of the call's own, of a row that came in. -/
theorem run_copy {W : World} {t ty e : TypeId} {i : TypeInfo} {z : Value} {size bytes : Nat} (ht : P.underlying t = some (.slice e)) (hi : P.info? e = some i) (hz : i.zero = some z)
    (hsize : i.size = size) (hby : i.bytes = bytes) (hzs : z.cells.size = size) (hsz : 0 < size) {g : Nat} (hg : Blk W g e #[]) {x : Value} {n : Nat} {zs : List Int}
    (hr : Row size W x n (zs.map (Value.int .i64))) (hn : n ≤ 1048576) (hb : bytes ≤ 1000) :
    ∃ v' w', (Builtin.append_ #[t, t] ty #[.slice (some ⟨g, 0, none⟩) 0 0, x]).run P W = .ok v' w' ∧ w'.ownsRow g e size v' n (zs.map (Value.int .i64)) ∧ W.grownBy w' (some g) ∧ (v'.ownBlock = some g ∨ v'.ownBlock = some W.heap.size) := by
  obtain ⟨hl, a, ca, rfl, ha⟩ := hr
  have hown : W.ownsRow g e size (.slice (some ⟨g, 0, none⟩) 0 0) 0 [] := ⟨by simp, .inr ⟨g, 0, #[], rfl, Nat.le_refl _, hg, Nat.zero_le _, by unfold maxLen; omega, by simp, by simp⟩⟩
  have hbytes : (0 + n) * bytes ≤ 140737488355328 := by
    have := Nat.mul_le_mul (show 0 + n ≤ 1048576 by omega) hb
    omega
  have one : ∀ u ∈ zs.map (Value.int .i64), u.oneCell' = true := by
    intro c hc
    obtain ⟨z, _, rfl⟩ := List.mem_map.1 hc
    rfl
  cases a with
  | none =>
    have h0 : n = 0 := by
      rcases ha with h | ⟨b, off, h, _⟩
      · exact h
      · cases h
    subst h0
    have hnil : zs.map (Value.int .i64) = [] := List.eq_nil_of_length_eq_zero (by simpa using hl)
    rw [hnil]
    exact ⟨_, W, run_append_owned_none (P := P) W g t ty e i size ht hi _ 0 [] hown, by simpa using hown, grown_refl _ _, .inl rfl⟩
  | some ad =>
    obtain ⟨v', w', h1, h2, h3, _, h4⟩ := run_append_own_at (P := P) W g t ty e i z size bytes ht hi hz hsize hby hzs hsz _ 0 [] hown ad n ca (zs.map (Value.int .i64)) hl
      (fun j u hu => by
        rcases ha with h | ⟨b, off, h, hc⟩
        · subst h
          have : zs.map (Value.int .i64) = [] := List.eq_nil_of_length_eq_zero (by simpa using hl)
          rw [this] at hu; simp at hu
        · cases h
          have := hc j u hu
          rw [← this]; congr 1
          unfold Addr.add; split <;> simp_all) one (by unfold maxLen; omega) hbytes (Nat.le_of_lt hg.lt)
    exact ⟨v', w', h1, by simpa using h2, h3, h4⟩
theorem wp_copy {W : World} {ops : Array Oper} {rest : List Oper} {o : Oper} {a : Act} {Q : Exit → Act → World → Prop} (hgd : o.guard = none) (s x : Operand) (t : TypeId)
    (ho : o.op = .call { callee := .builtin .append, args := #[s, x], argTypes := #[t, t] })
    (e : TypeId) (i : TypeInfo) (z : Value) (size bytes : Nat) (ht : P.underlying t = some (.slice e)) (hi : P.info? e = some i) (hz : i.zero = some z)
    (hsize : i.size = size) (hby : i.bytes = bytes) (hzs : z.cells.size = size) (hsz : 0 < size) (g : Nat) (hg : Blk W g e #[]) (v : Value) (n : Nat) (zs : List Int)
    (hr : Row size W v n (zs.map (Value.int .i64))) (hn : n ≤ 1048576) (hb : bytes ≤ 1000) (hs : a.eval s = .slice (some ⟨g, 0, none⟩) 0 0) (hx : a.eval x = v)
    (h : ∀ v' w', w'.ownsRow g e size v' n (zs.map (Value.int .i64)) → W.grownBy w' (some g) → (v'.ownBlock = some g ∨ v'.ownBlock = some W.heap.size) → wpList P ops Q rest (a.put o.dst v') w') : wpList P ops Q (o :: rest) a W := by
  obtain ⟨v', w', hrun, h1, h2, h3⟩ := run_copy (P := P) (ty := o.type) ht hi hz hsize hby hzs hsz hg hr hn hb
  refine wpList_plain hgd fun _ hK => ?_
  unfold Oper.wp execOp
  simp only [ho, resolve, invoke, builtin, Sem.run_bind, Sem.run_pure, Result.andThen_ok, List.map_toArray, List.map_cons, List.map_nil, hs, hx, hrun]
  exact hK _ _ (h v' w' h1 h2 h3)
theorem step_copy {W : World} {ops : Array Oper} {o : Oper} {a : Act} {K : Act → World → Prop} {Q : Exit → Act → World → Prop} {E : Prop} (hgd : o.guard = none) (s x : Operand) (t : TypeId)
    (ho : o.op = .call { callee := .builtin .append, args := #[s, x], argTypes := #[t, t] })
    (e : TypeId) (i : TypeInfo) (z : Value) (size bytes : Nat) (ht : P.underlying t = some (.slice e)) (hi : P.info? e = some i) (hz : i.zero = some z)
    (hsize : i.size = size) (hby : i.bytes = bytes) (hzs : z.cells.size = size) (hsz : 0 < size) (g : Nat) (hs : a.eval s = .slice (some ⟨g, 0, none⟩) 0 0) (hg : Blk W g e #[]) (v : Value) (n : Nat) (zs : List Int)
    (hr : Row size W v n (zs.map (Value.int .i64))) (hn : n ≤ 1048576) (hb : bytes ≤ 1000) (hx : a.eval x = v)
    (h : ∀ v' w', w'.ownsRow g e size v' n (zs.map (Value.int .i64)) → W.grownBy w' (some g) → (v'.ownBlock = some g ∨ v'.ownBlock = some W.heap.size) → K (a.put o.dst v') w') :
    if Region.wanted o (yielded ops a.tmps) = true then Oper.wp P o a W K Q else E := by
  rw [if_pos (by simp [Region.wanted, hgd])]
  obtain ⟨v', w', hrun, h1, h2, h3⟩ := run_copy (P := P) (ty := o.type) ht hi hz hsize hby hzs hsz hg hr hn hb
  unfold Oper.wp execOp
  simp only [ho, resolve, invoke, builtin, Sem.run_bind, Sem.run_pure, Result.andThen_ok, List.map_toArray, List.map_cons, List.map_nil, hs, hx, hrun]
  exact h v' w' h1 h2 h3
end
/-- An own row, told by its block. -/
theorem own_tight {w : World} {g h : Nat} {e : TypeId} {sz : Nat} {v : Value} {n : Nat} {xs : List Value} (o : w.ownsRow g e sz v n xs) (hb : v.ownBlock = some g ∨ v.ownBlock = some h) :
    ∃ q, OwnR w q (q + 1) e sz v n xs ∧ (q = g ∨ q = h) := by
  have key : ∀ q, v.ownBlock = some q → OwnR w q (q + 1) e sz v n xs := fun q hq => by
    refine ⟨⟨o.1, ?_⟩, fun b hb => by rw [hq] at hb; cases hb; omega, by have := (o.lt q hq).2; omega⟩
    rcases o.2 with ⟨rfl, _⟩ | ⟨g', cap, cur, rfl, hgg, rest⟩
    · simp [Value.ownBlock] at hq
    · simp [Value.ownBlock] at hq
      subst hq
      exact .inr ⟨g', cap, cur, rfl, Nat.le_refl _, rest⟩
  rcases hb with hb | hb
  · exact ⟨g, key g hb, .inl rfl⟩
  · exact ⟨h, key h hb, .inr rfl⟩
theorem below_gr {w a b : World} {row : Option Nat} (h : Below w.heap.size w a) (hg : a.grownBy b row) (hr : ∀ k, row = some k → w.heap.size ≤ k) : Below w.heap.size w b := h.grown hg h.size hr
end Go.Proofs.Ytopbeacfljoacaa.cpy
