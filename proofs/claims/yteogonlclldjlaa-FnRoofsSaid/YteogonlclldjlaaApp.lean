/- 'append(out, xs...)': both rows the call's own. -/
import Derived.Test.YteogonlclldjlaaKit
import Derived.Maps.AppendAt
import Derived.Deep.AppendLies
import Derived.RegionTactic
import Derived.OwnWalk
namespace Go.Proofs.Yteogonlclldjlaa.app
open Go.RowKit Go.Proofs.Yteogonlclldjlaa.kit
section
variable {P : Program} (w : World)
/-- What the append of an owned row onto an owned row leaves. -/
theorem run_rows {base base' : Nat} {t ty e : TypeId} {i : TypeInfo} {z : Value} {size bytes : Nat} (ht : P.underlying t = some (.slice e)) (hi : P.info? e = some i) (hz : i.zero = some z)
    (hsize : i.size = size) (hby : i.bytes = bytes) (hzs : z.cells.size = size) (hsz : 0 < size) {v u : Value} {n m : Nat} {xs news : List Value}
    (hown : w.ownsRow base e size v n xs) (hsrc : w.ownsRow base' e size u m news) (h1 : ∀ c ∈ news, c.oneCell' = true) (hn : n + m ≤ 1000000000) (hb : bytes ≤ 1000) (hbase : base ≤ w.heap.size) :
    ∃ v' w', (Builtin.append_ #[t, t] ty #[v, u]).run P w = .ok v' w' ∧ w'.ownsRow base e size v' (n + m) (xs ++ news) ∧ w.grownBy w' v.ownBlock := by
  have hbytes : (n + m) * bytes ≤ 140737488355328 := Nat.le_trans (Nat.mul_le_mul hn hb) (by decide)
  rcases hsrc.2 with ⟨rfl, rfl⟩ | ⟨g, cap, cur, rfl, _⟩
  · have hnil : news = [] := List.eq_nil_of_length_eq_zero (by simpa using hsrc.1)
    subst hnil
    exact ⟨v, w, run_append_owned_none (P := P) w base t ty e i size ht hi v n xs hown, by simpa using hown, grown_refl _ _⟩
  · obtain ⟨v', w', hrun, h2, h3, _⟩ := run_append_own_at (P := P) w base t ty e i z size bytes ht hi hz hsize hby hzs hsz v n xs hown ⟨g, 0, none⟩ m cap news hsrc.1
      (fun j c hj => by have := own_cell hsrc (g := g) rfl j c hj; rw [← this]; congr 1; unfold Addr.add; split <;> simp_all) h1 (by unfold maxLen; omega) hbytes hbase
    exact ⟨v', w', hrun, h2, h3⟩
theorem step_rows {ops : Array Oper} {o : Oper} {a : Act} {K : Act → World → Prop} {Q : Exit → Act → World → Prop} {E : Prop} (hgd : o.guard = none) (s x : Operand) (t : TypeId)
    (ho : o.op = .call { callee := .builtin .append, args := #[s, x], argTypes := #[t, t] })
    (base base' : Nat) (e : TypeId) (i : TypeInfo) (z : Value) (size bytes : Nat) (ht : P.underlying t = some (.slice e)) (hi : P.info? e = some i) (hz : i.zero = some z)
    (hsize : i.size = size) (hby : i.bytes = bytes) (hzs : z.cells.size = size) (hsz : 0 < size) (v u : Value) (n m : Nat) (xs news : List Value)
    (hown : w.ownsRow base e size v n xs) (hsrc : w.ownsRow base' e size u m news) (hs : a.eval s = v) (hx : a.eval x = u) (h1 : ∀ c ∈ news, c.oneCell' = true) (hn : n + m ≤ 1000000000) (hb : bytes ≤ 1000) (hbase : base ≤ w.heap.size)
    (h : ∀ v' w', w'.ownsRow base e size v' (n + m) (xs ++ news) → w.grownBy w' v.ownBlock → K (a.put o.dst v') w') :
    if Region.wanted o (yielded ops a.tmps) = true then Oper.wp P o a w K Q else E := by
  rw [if_pos (by simp [Region.wanted, hgd])]
  obtain ⟨v', w', hrun, h2, h3⟩ := run_rows (P := P) w (ty := o.type) ht hi hz hsize hby hzs hsz hown hsrc h1 hn hb hbase
  unfold Oper.wp execOp
  simp only [ho, resolve, invoke, builtin, Sem.run_bind, Sem.run_pure, Result.andThen_ok, List.map_toArray, List.map_cons, List.map_nil, hs, hx, hrun]
  exact h v' w' h2 h3
end
theorem oneInts (zs : List Int) : ∀ c ∈ zs.map (Value.int .i64), c.oneCell' = true := by
  intro c hc
  obtain ⟨z, _, rfl⟩ := List.mem_map.1 hc
  rfl
/-- A row of one block that the call made. -/
theorem own_of_blk {w : World} {base g : Nat} {e : TypeId} {size n : Nat} {xs : Array Value} (h : Blk w g e xs) (hb : base ≤ g) (hn : xs.size = n * size) (hm : n ≤ 1000000) : w.ownsRow base e size (.slice (some ⟨g, 0, none⟩) n n) n xs.toList :=
  ⟨by simpa using hn, .inr ⟨g, n, xs, rfl, hb, h, Nat.le_refl _, by unfold maxLen; omega, hn, by rw [← hn]; exact List.take_of_length_le (by simp)⟩⟩
theorem kgrow {W w' : World} {p q : Addr} {a b : Value} {row : Option Nat} {base : Nat} (hg : W.grownBy w' row) (hr : ∀ k, row = some k → base ≤ k) (h : W.cell? p = some a ∧ W.cell? q = some b) (hp : p.block < base) (hq : q.block < base) : w'.cell? p = some a ∧ w'.cell? q = some b :=
  ⟨hg.cell h.1 (fun e => by have := hr _ e.symm; omega), hg.cell h.2 (fun e => by have := hr _ e.symm; omega)⟩
theorem below_gr {w a b : World} {row : Option Nat} (h : Below w.heap.size w a) (hg : a.grownBy b row) (hr : ∀ k, row = some k → w.heap.size ≤ k) : Below w.heap.size w b := h.grown hg h.size hr
theorem Bytes.step {w w' : World} {a : Option Addr} {len : Nat} (h : Bytes w a len) (hb : Below w.heap.size w w') : Bytes w' a len := by
  rcases h with h | ⟨b, off, rfl, hc⟩
  · exact .inl h
  · refine .inr ⟨b, off, rfl, fun j hj => ?_⟩
    obtain ⟨n, h0, h1, h2⟩ := hc j hj
    exact ⟨n, h0, h1, keep1 h2 hb⟩
end Go.Proofs.Yteogonlclldjlaa.app
