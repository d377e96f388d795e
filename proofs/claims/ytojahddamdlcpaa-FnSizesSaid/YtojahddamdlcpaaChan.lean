/- Channels in one goroutine, inside the kit's own walk: a region that sends or receives, taken operation by operation. -/
import Derived.Conc.LoneCalls
import Derived.Test.YtojahddamdlcpaaKit
namespace Go.Proofs.Ytojahddamdlcpaa.chan
open Go.Conc Go.RowKit Go.Proofs.Ytojahddamdlcpaa.kit
section
variable {P : Program} {ops : Array Oper} {Q : Exit → Act → World → Prop} {a : Act} {w : World}
/-- What is left of a region comes to an end of which Q holds. -/
def Run (P : Program) (ops : Array Oper) (Q : Exit → Act → World → Prop) (l : List Nat) (a : Act) (w : World) : Prop :=
  ∀ (b : Frame) (k : List Item) (cs : List Frame), ∃ e a' w', Q e a' w' ∧ Arrives P (lone (b.at a (.inRegion ops l :: k)) cs w) b k cs e a' w'
theorem Run.done (h : Q .normal a w) : Run P ops Q [] a w := fun _ _ _ => ⟨.normal, a, w, h, .one step_region_end⟩
theorem Run.step {i : Nat} {rest : List Nat} {a' : Act} {w' : World}
    (hs : ∀ (b : Frame) (k : List Item) (cs : List Frame), step P (lone (b.at a (.inRegion ops (i :: rest) :: k)) cs w) = .next (lone (b.at a' (.inRegion ops rest :: k)) cs w')) (h : Run P ops Q rest a' w') : Run P ops Q (i :: rest) a w :=
  fun b k cs => let ⟨e, a2, w2, q, r⟩ := h b k cs; ⟨e, a2, w2, q, .of_steps (.one (hs b k cs)) r⟩
theorem fin_at {b : Frame} {k : List Item} {i : Nat} {rest : List Nat} {o : Oper} (ho : ops[i]? = some o) (v : Value) :
    (b.at a (.inRegion ops (i :: rest) :: k)).finish v = b.at (a.put o.dst v) (.inRegion ops rest :: k) := by rw [Frame.finish_at, ho]; rfl
theorem wanted_plain {o : Oper} (hg : o.guard = none) : Region.wanted o (yielded ops a.tmps) = true := by simp [Region.wanted, hg]
/-- An operation that yields a value. -/
theorem Run.val {i : Nat} {rest : List Nat} {o : Oper} {v : Value} {w' : World} (ho : ops[i]? = some o) (hg : o.guard = none) (hr : (execOp a.eval o).run P w = .ok (.value v) w')
    (h : Run P ops Q rest (a.put o.dst v) w') : Run P ops Q (i :: rest) a w :=
  .step (fun b k cs => step_lone_go (by rw [stepG_op ho (wanted_plain hg), ← fin_at ho]; simp [stepG.apply, hr])) h
/-- A register move. -/
theorem Run.move {i : Nat} {rest : List Nat} {o : Oper} {x : Operand} {v : Value} (ho : ops[i]? = some o) (hg : o.guard = none) (hop : o.op = .move x) (hx : a.eval x = v) (h : Run P ops Q rest (a.put o.dst v) w) : Run P ops Q (i :: rest) a w :=
  .val ho hg (w' := w) (v := v) (by simp [execOp, hop, hx]) h
/-- One that only looks. -/
theorem Run.look {i : Nat} {rest : List Nat} {o : Oper} (v : Value) (ho : ops[i]? = some o) (hg : o.guard = none) (hr : (execOp a.eval o).run P w = .ok (.value v) w) (h : Run P ops Q rest (a.put o.dst v) w) : Run P ops Q (i :: rest) a w :=
  .val ho hg hr h
/-- A part of a tuple. -/
theorem Run.part {i : Nat} {rest : List Nat} {o : Oper} {x : Operand} {j : Nat} {vs : Array Value} {v : Value} (ho : ops[i]? = some o) (hg : o.guard = none) (hop : o.op = .extract x j) (hx : a.eval x = .tuple vs) (hv : vs[j]? = some v)
    (h : Run P ops Q rest (a.put o.dst v) w) : Run P ops Q (i :: rest) a w :=
  .val ho hg (w' := w) (v := v) (by simp [execOp, hop, hx, Instr.extract, hv]) h
theorem comm_at {b : Frame} {k : List Item} {cs : List Frame} {i : Nat} {rest : List Nat} {o : Oper} {cases : Array CommCase} {blocking : Bool} {shape : CommShape} {w' : World} (ho : ops[i]? = some o) (hg : o.guard = none)
    (hr : (execOp a.eval o).run P w = .ok (.comm cases blocking shape) w') :
    ∃ es, stepG P true (G (b.at a (.inRegion ops (i :: rest) :: k)) cs) w = .comm (G (b.at a (.inRegion ops (i :: rest) :: k)) cs) cases blocking shape w' es := by
  have h := stepG_op (P := P) (b := b) (k := k) (cs := cs) (w := w) (rest := rest) ho (wanted_plain (a := a) hg)
  refine ⟨(stepG P true (G (b.at a (.inRegion ops (i :: rest) :: k)) cs) w).es, ?_⟩
  have h' : stepG P true (G (b.at a (.inRegion ops (i :: rest) :: k)) cs) w = stepG.apply P true (b.at a (.inRegion ops (i :: rest) :: k)) cs none (execOp a.eval o) w := h
  rw [h']
  simp only [stepG.apply, Sem.runT_eq, hr, GStep.after, GStep.es, G]
  simp
end
/-- A channel in block c: what lies in it, the eldest first; has it been closed? -/
def Chn (w : World) (c cap : Nat) (buf : List Value) (closed : Bool) : Prop := ∃ s r, w.heap[c]? = some (.chan cap buf.toArray closed s r false)
section
variable {w w' : World} {c cap : Nat} {buf : List Value} {closed : Bool}
theorem Chn.lt (h : Chn w c cap buf closed) : c < w.heap.size := by
  obtain ⟨s, r, h⟩ := h
  exact (Array.getElem?_eq_some_iff.1 h).1
theorem Chn.same (h : Chn w c cap buf closed) (e : w'.heap[c]? = w.heap[c]?) : Chn w' c cap buf closed := by
  obtain ⟨s, r, h⟩ := h
  exact ⟨s, r, e.trans h⟩
theorem Chn.step (h : Chn w c cap buf closed) (hb : Below w.heap.size w w') : Chn w' c cap buf closed := h.same (hb.block c h.lt)
theorem Chn.grown {row : Option Nat} (h : Chn w c cap buf closed) (hg : w.grownBy w' row) (hne : some c ≠ row) : Chn w' c cap buf closed := h.same (hg.block c h.lt hne)
theorem Chn.far (h : Chn w c cap buf closed) {p : Addr} (hp : c ≠ p.block) (u : Value) : Chn (w.setCell p u) c cap buf closed := h.same (Below.heap_setCell w p u c hp)
theorem Chn.new (w : World) (cap : Nat) : Chn (w.alloc (.chan cap #[] false 0 0 false)) w.heap.size cap [] false := ⟨0, 0, heap_alloc_new w _⟩
theorem grown_chan (w : World) (c cap : Nat) (buf : Array Value) (cl : Bool) (s r : Nat) (tm : Bool) : w.grownBy (w.setChan c cap buf cl s r tm) (some c) :=
  ⟨rfl, rfl, rfl, by simp [World.setChan], fun k _ hk => by simp only [World.setChan]; rw [Array.getElem?_setIfInBounds_ne (fun e => hk (by rw [e]))]⟩
theorem grown_block (w : World) (c : Nat) (o : Obj) : w.grownBy { w with heap := w.heap.setIfInBounds c o } (some c) :=
  ⟨rfl, rfl, rfl, by simp, fun k _ hk => by simp only []; rw [Array.getElem?_setIfInBounds_ne (fun e => hk (by rw [e]))]⟩
/-- It is closed. -/
theorem Chn.close {P : Program} (h : Chn w c cap buf false) : ∃ w', (∀ ats ty, (Builtin.close_ ats ty #[.chan (some c)]).run P w = .ok (.tuple #[]) w') ∧ Chn w' c cap buf true ∧ w.grownBy w' (some c) := by
  have hl := h.lt
  obtain ⟨s, r, h⟩ := h
  exact ⟨_, fun ats ty => run_close_open ats ty h, ⟨s, r, by simp [hl]⟩, grown_block _ _ _⟩
end
section
variable {P : Program} {ops : Array Oper} {Q : Exit → Act → World → Prop} {a : Act} {w : World} {i : Nat} {rest : List Nat} {o : Oper} {x y : Operand} {c cap : Nat} {buf : List Value} {v z : Value}
/-- A send into a channel that has room. -/
theorem Run.send (ho : ops[i]? = some o) (hg : o.guard = none) (hop : o.op = .send x y) (hx : a.eval x = .chan (some c)) (hy : a.eval y = v) (hc : Chn w c cap buf false) (hroom : buf.length < cap)
    (h : ∀ w', Chn w' c cap (buf ++ [v]) false → w.grownBy w' (some c) → Run P ops Q rest (a.put o.dst undef) w') : Run P ops Q (i :: rest) a w := by
  have hl := hc.lt
  obtain ⟨s, r, hc⟩ := hc
  have hr : (execOp a.eval o).run P w = .ok (.comm #[scase c v (.tuple #[])] true .send) w := by simp [execOp, hop, hx, hy, scase]
  refine .step (fun b k cs => ?_) (h (w.setChan c cap (buf.toArray.push v) false (s + 1) r false) ⟨s + 1, r, by rw [heap_setChan _ _ _ _ _ _ _ _ hl]; simp⟩ (grown_chan _ _ _ _ _ _ _ _))
  obtain ⟨es, he⟩ := comm_at (P := P) (b := b) (k := k) (cs := cs) (rest := rest) ho hg hr
  rw [← fin_at ho]
  exact step_lone_send_room he hc (by simpa using hroom)
theorem run_recv {T e : TypeId} {dir : ChanDir} {inf : TypeInfo} (hop : o.op = .recv T x true) (hx : a.eval x = .chan (some c)) (hT : P.underlying T = some (.chan dir e)) (hi : P.info? e = some inf) (hz : inf.zero = some z) :
    (execOp a.eval o).run P w = .ok (.comm #[rcase c z] true (.recv true)) w := by
  simp [execOp, hop, hx, run_underlying hT, zeroValue, typeInfo, hi, hz, rcase]
/-- A receive, with comma-ok, of the eldest value that lies there. -/
theorem Run.recv {T e : TypeId} {dir : ChanDir} {inf : TypeInfo} {closed : Bool} (ho : ops[i]? = some o) (hg : o.guard = none) (hop : o.op = .recv T x true) (hx : a.eval x = .chan (some c))
    (hT : P.underlying T = some (.chan dir e)) (hi : P.info? e = some inf) (hz : inf.zero = some z) (hc : Chn w c cap (v :: buf) closed)
    (h : ∀ w', Chn w' c cap buf closed → w.grownBy w' (some c) → Run P ops Q rest (a.put o.dst (.tuple #[v, .bool true])) w') : Run P ops Q (i :: rest) a w := by
  have hl := hc.lt
  obtain ⟨s, r, hc⟩ := hc
  refine .step (fun b k cs => ?_) (h (w.setChan c cap ((v :: buf).toArray.extract 1 (v :: buf).toArray.size) closed s (r + 1) false) ⟨s, r + 1, by rw [heap_setChan _ _ _ _ _ _ _ _ hl]; simp⟩ (grown_chan _ _ _ _ _ _ _ _))
  obtain ⟨es, he⟩ := comm_at (P := P) (b := b) (k := k) (cs := cs) (rest := rest) ho hg (run_recv (w := w) hop hx hT hi hz)
  rw [← fin_at ho]
  exact step_lone_recv_buf true he hc (by simp)
/-- A receive from a closed channel in which nothing lies. -/
theorem Run.shut {T e : TypeId} {dir : ChanDir} {inf : TypeInfo} (ho : ops[i]? = some o) (hg : o.guard = none) (hop : o.op = .recv T x true) (hx : a.eval x = .chan (some c))
    (hT : P.underlying T = some (.chan dir e)) (hi : P.info? e = some inf) (hz : inf.zero = some z) (hc : Chn w c cap [] true)
    (h : Run P ops Q rest (a.put o.dst (.tuple #[z, .bool false])) w) : Run P ops Q (i :: rest) a w := by
  obtain ⟨s, r, hc⟩ := hc
  refine .step (fun b k cs => ?_) h
  obtain ⟨es, he⟩ := comm_at (P := P) (b := b) (k := k) (cs := cs) (rest := rest) ho hg (run_recv (w := w) hop hx hT hi hz)
  rw [← fin_at ho]
  exact step_lone_recv_shut true he hc
end
/-- A region under a name of its own: the walk stands still at it. -/
def CR (id : Nat) (ops : Array Oper) : Code := .region id ops false
theorem cr (id : Nat) : ∀ ops, Code.region id ops false = CR id ops := fun _ => rfl
section
variable {P : Program} {Q : Exit → Act → World → Prop} {a : Act} {w : World} {id : Nat} {o0 o1 o2 : Oper}
theorem wp_cr {ops : Array Oper} (h : Run P ops Q (List.range ops.size) a w) : (CR id ops).wp P Q a w :=
  fun b k cs => let ⟨e, a', w', q, r⟩ := h b k cs; ⟨e, a', w', q, .of_steps (.one step_region) r⟩
/-- A value that is loaded and sent into a channel with room. -/
theorem wp_send {x x2 y2 : Operand} {vx : Value} {c cap : Nat} {buf : List Value} (v : Value) (g0 : o0.guard = none) (h0 : o0.op = .move x) (hx : a.eval x = vx) (g1 : o1.guard = none) (hl : (execOp (a.put o0.dst vx).eval o1).run P w = .ok (.value v) w)
    (g2 : o2.guard = none) (h2 : o2.op = .send x2 y2) (hx2 : ((a.put o0.dst vx).put o1.dst v).eval x2 = .chan (some c)) (hy2 : ((a.put o0.dst vx).put o1.dst v).eval y2 = v) (hc : Chn w c cap buf false) (hroom : buf.length < cap)
    (h : ∀ w', Chn w' c cap (buf ++ [v]) false → w.grownBy w' (some c) → Q .normal (((a.put o0.dst vx).put o1.dst v).put o2.dst undef) w') : (CR id #[o0, o1, o2]).wp P Q a w :=
  wp_cr (.move (o := o0) rfl g0 h0 hx (.look (o := o1) v rfl g1 hl (.send (o := o2) rfl g2 h2 hx2 hy2 hc hroom fun w' hc' hg => .done (h w' hc' hg))))
/-- A value received, with comma-ok; and whether there was one. -/
theorem wp_recv {x y : Operand} {T e : TypeId} {dir : ChanDir} {inf : TypeInfo} {v z : Value} {c cap : Nat} {buf : List Value} {closed : Bool} (g0 : o0.guard = none) (h0 : o0.op = .recv T x true) (hx : a.eval x = .chan (some c))
    (hT : P.underlying T = some (.chan dir e)) (hi : P.info? e = some inf) (hz : inf.zero = some z) (hc : Chn w c cap (v :: buf) closed) (g1 : o1.guard = none) (h1 : o1.op = .extract y 1) (hy : (a.put o0.dst (.tuple #[v, .bool true])).eval y = .tuple #[v, .bool true])
    (h : ∀ w', Chn w' c cap buf closed → w.grownBy w' (some c) → Q .normal ((a.put o0.dst (.tuple #[v, .bool true])).put o1.dst (.bool true)) w') : (CR id #[o0, o1]).wp P Q a w :=
  wp_cr (.recv (o := o0) rfl g0 h0 hx hT hi hz hc fun w' hc' hg => .part (o := o1) rfl g1 h1 hy rfl (.done (h w' hc' hg)))
/-- Nothing is left, and nothing comes. -/
theorem wp_shut {x y : Operand} {T e : TypeId} {dir : ChanDir} {inf : TypeInfo} {z : Value} {c cap : Nat} (g0 : o0.guard = none) (h0 : o0.op = .recv T x true) (hx : a.eval x = .chan (some c))
    (hT : P.underlying T = some (.chan dir e)) (hi : P.info? e = some inf) (hz : inf.zero = some z) (hc : Chn w c cap [] true) (g1 : o1.guard = none) (h1 : o1.op = .extract y 1) (hy : (a.put o0.dst (.tuple #[z, .bool false])).eval y = .tuple #[z, .bool false])
    (h : Q .normal ((a.put o0.dst (.tuple #[z, .bool false])).put o1.dst (.bool false)) w) : (CR id #[o0, o1]).wp P Q a w :=
  wp_cr (.shut (o := o0) rfl g0 h0 hx hT hi hz hc (.part (o := o1) rfl g1 h1 hy rfl (.done h)))
end
end Go.Proofs.Ytojahddamdlcpaa.chan
