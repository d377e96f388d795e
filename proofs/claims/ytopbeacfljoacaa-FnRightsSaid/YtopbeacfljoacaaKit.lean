/- Small laws that several proofs of this seat use. -/
import Derived.WalkKit
import Derived.Laws.BytesArg
import Derived.OpenShut
import Derived.Deep.QuietTactic
import Derived.BigQuiet
namespace Go.Proofs.Ytopbeacfljoacaa.kit
open Go.RowKit
theorem ret_int {k : IntKind} {a b : Int} (h : a = b) : Ending.returned (.int k a) = .returned (.int k b) := by rw [h]
/-- string(v) of a row of bytes that the call owns. -/
theorem conv_own {P : Program} {w : World} {base e src dst : Nat} {v : Value} {n : Nat} {ns : List Int} (hs : P.underlying src = some (.slice e)) (he : P.underlying e = some (.int .u8)) (hd : P.underlying dst = some .string)
    (h : w.ownsRow base e 1 v n (ns.map (Value.int .u8))) : (convert src dst v).run P w = .ok (.string (strOfNums ns)) w := by
  have hlen : ns.length = n := by have := h.1; simpa using this
  rcases h.2 with ⟨rfl, rfl⟩ | ⟨g, cap, cur, rfl, h2⟩
  · obtain rfl : ns = [] := List.length_eq_zero_iff.1 hlen
    exact run_convert_bytes_nil w src e hs he 0 0 dst hd
  · refine run_convert_bytes_arg w src e hs he g 0 n cap ns hlen (fun i hi => ?_) dst hd
    have := h.cells (g := g) rfl i (.int .u8 (ns.getD i 0)) (by simp [List.getElem?_map, List.getElem?_eq_getElem (show i < ns.length by omega), List.getD_eq_getElem?_getD])
    rw [← this]; congr 1
    unfold Addr.add; split <;> simp_all
/-- What the walk is told of a slice of integers that came in: it is nil; or it leads to a row of 'cap' cells, the numbers 'zs' (the first 'len' are its elements). -/
def IsRow (k : IntKind) (w : World) (a : Option Addr) (len cap : Nat) (zs : List Int) : Prop :=
  (a = none ∧ len = 0 ∧ cap = 0 ∧ zs = []) ∨
  ∃ x, a = some x ∧ len ≤ cap ∧ cap ≤ maxLen ∧ zs.length = cap ∧ (∀ i, i < zs.length → w.cell? (x.add i) = some (.int k (zs.getD i 0))) ∧ ∀ n ∈ zs, (Lit.int k n).wf = true
theorem own_shape {w : World} {base e size : Nat} {v : Value} {n : Nat} {xs : List Value} (h : w.ownsRow base e size v n xs) : ∃ a cap, v = .slice a n cap := by
  rcases h.2 with ⟨rfl, rfl⟩ | ⟨g, cap, cur, rfl, _⟩
  · exact ⟨none, 0, rfl⟩
  · exact ⟨_, cap, rfl⟩
theorem grown_refl (w : World) (r : Option Nat) : w.grownBy w r := ⟨rfl, rfl, rfl, Nat.le_refl _, fun _ _ _ => rfl⟩
theorem grown_trans {a b c : World} {r : Option Nat} (h : a.grownBy b r) (k : b.grownBy c r) : a.grownBy c r :=
  ⟨k.os.trans h.os, k.tape.trans h.tape, k.output.trans h.output, Nat.le_trans h.size k.size, fun i hi hr => (k.block i (Nat.lt_of_lt_of_le hi h.size) hr).trans (h.block i hi hr)⟩
theorem grown_weaken {a b : World} {r : Option Nat} (h : a.grownBy b none) : a.grownBy b r := ⟨h.os, h.tape, h.output, h.size, fun i hi _ => h.block i hi (by simp)⟩
theorem grown_drew {a w : World} {r : Option Nat} (h : a.grownBy w r) : a.grownBy w.drew r := ⟨h.os, h.tape, h.output, h.size, h.block⟩
theorem grown_drewN {a w : World} {r : Option Nat} (h : a.grownBy w r) : ∀ n, a.grownBy (w.drewN n) r := fun _ => ⟨h.os, h.tape, h.output, h.size, h.block⟩
theorem grown_alloc {a w : World} {r : Option Nat} (h : a.grownBy w r) (o : Obj) : a.grownBy (w.alloc o) r := grown_trans h (World.grownBy_alloc w o r)
theorem grown_setCell {a w : World} {c : Nat} (h : a.grownBy w (some c)) (o : Nat) (s : Option Nat) (u : Value) : a.grownBy (w.setCell ⟨c, o, s⟩ u) (some c) :=
  grown_trans h ⟨rfl, rfl, rfl, by simp [World.setCell], fun k _ hk => Below.heap_setCell _ _ _ _ (fun e => hk (by simp [e]))⟩
theorem grown_above {a b c : World} {r row : Option Nat} (h : a.grownBy b r) (hg : b.grownBy c row) (hr : ∀ k, row = some k → a.heap.size ≤ k) : a.grownBy c r :=
  ⟨hg.os.trans h.os, hg.tape.trans h.tape, hg.output.trans h.output, Nat.le_trans h.size hg.size, fun i hi hne =>
    (hg.block i (Nat.lt_of_lt_of_le hi h.size) (fun e => by have := hr i e.symm; omega)).trans (h.block i hi hne)⟩
theorem grown_frozen {w w' : World} {row : Option Nat} (hg : w.grownBy w' row) {a : Addr} (hlt : a.block < w.heap.size) (hne : some a.block ≠ row) : w'.frozen? a = w.frozen? a :=
  World.frozen?_of_block (hg.block a.block hlt hne)
/-- A row of bytes that came in, as far as its first 'len' cells go. -/
def Bytes (w : World) (a : Option Addr) (len : Nat) : Prop :=
  len = 0 ∨ ∃ b off, a = some ⟨b, off, none⟩ ∧ ∀ j, j < len → ∃ n : Int, 0 ≤ n ∧ n < 256 ∧ w.cell? ⟨b, off + j, none⟩ = some (.int .u8 n)
theorem IsRow.bytes {w : World} {a : Option Addr} {len cap : Nat} {zs : List Int} (h : IsRow .u8 w a len cap zs) : Bytes w a len := by
  rcases h with ⟨_, h, _, _⟩ | ⟨x, rfl, hl, _, hz, hc, hw⟩
  · exact .inl h
  · by_cases h0 : len = 0
    · exact .inl h0
    · obtain ⟨b, off, rfl, hc2⟩ := Go.ints_at hc (by omega)
      refine .inr ⟨b, off, rfl, fun j hj => ⟨zs.getD j 0, ?_, ?_, hc2 j (by omega)⟩⟩
      all_goals
        have hm : zs.getD j 0 ∈ zs := by rw [List.getD_eq_getElem?_getD, List.getElem?_eq_getElem (by omega)]; simp
        have := Go.bounds_u8 (hw _ hm)
        omega
theorem IsRow.lt {k : IntKind} {w : World} {a : Option Addr} {len cap : Nat} {zs : List Int} (h : IsRow k w a len cap zs) : ∀ x, a = some x → 0 < len → x.block < w.heap.size := by
  intro x' hx' h0; revert x'
  rcases h with ⟨_, h, _, _⟩ | ⟨x, rfl, hl, _, hz, hc, _⟩
  · omega
  · rintro y ⟨⟩
    exact World.block_lt_of_cell? w _ (by have := hc 0 (by omega); simpa [Addr.add] using this)
theorem Bytes.grown {w w' : World} {row : Option Nat} {a : Option Addr} {len : Nat} (h : Bytes w a len) (hg : w.grownBy w' row) (hne : ∀ x, a = some x → 0 < len → some x.block ≠ row) : Bytes w' a len := by
  rcases h with h | ⟨b, off, rfl, hc⟩
  · exact .inl h
  · refine .inr ⟨b, off, rfl, fun j hj => ?_⟩
    obtain ⟨n, h0, h1, h2⟩ := hc j hj
    exact ⟨n, h0, h1, hg.cell h2 (show some b ≠ row from hne _ rfl (by omega))⟩
theorem and_mask (x : Int) (m : Nat) (hm : m < 4611686018427387904) : 0 ≤ bits .and .i64 x (m : Int) ∧ bits .and .i64 x (m : Int) ≤ m := by
  simp only [bits]
  have h : (BitVec.ofInt IntKind.i64.bits x &&& BitVec.ofInt IntKind.i64.bits (m : Int)).toNat ≤ m := by
    rw [BitVec.toNat_and]
    refine Nat.le_trans Nat.and_le_right ?_
    rw [BitVec.ofInt_natCast, BitVec.toNat_ofNat]
    exact Nat.mod_le _ _
  rw [IntWalk.i64_in _ (by omega)]
  omega
/-- The slice v has n elements of 'sz' cells each, whose cells are xs. -/
def Row (sz : Nat) (w : World) (v : Value) (n : Nat) (xs : List Value) : Prop :=
  xs.length = n * sz ∧ ∃ a cap, v = .slice a n cap ∧ (n = 0 ∨ ∃ b off, a = some ⟨b, off, none⟩ ∧ ∀ j u, xs[j]? = some u → w.cell? ⟨b, off + j, none⟩ = some u)
theorem Row.of_own {w : World} {base e sz : Nat} {v : Value} {n : Nat} {xs : List Value} (h : w.ownsRow base e sz v n xs) : Row sz w v n xs := by
  refine ⟨h.1, ?_⟩
  rcases h.2 with ⟨rfl, rfl⟩ | ⟨g, cap, cur, rfl, h2⟩
  · exact ⟨none, 0, rfl, .inl rfl⟩
  · refine ⟨_, cap, rfl, .inr ⟨g, 0, rfl, fun j u hu => ?_⟩⟩
    have := h.cells (g := g) rfl j u hu
    rw [← this]; congr 1
    unfold Addr.add; split <;> simp_all
theorem Row.grown {sz : Nat} {w w' : World} {v : Value} {n : Nat} {xs : List Value} {row : Option Nat} (h : Row sz w v n xs) (hg : w.grownBy w' row) (hne : v.ownBlock = none ∨ v.ownBlock ≠ row) : Row sz w' v n xs := by
  obtain ⟨h1, a, cap, rfl, h2⟩ := h
  refine ⟨h1, a, cap, rfl, ?_⟩
  rcases h2 with h2 | ⟨b, off, rfl, hc⟩
  · exact .inl h2
  · exact .inr ⟨b, off, rfl, fun j u hu => hg.cell (hc j u hu) (by
      rcases hne with h | h
      · simp [Value.ownBlock] at h
      · simpa [Value.ownBlock] using h)⟩
theorem Row.below {sz : Nat} {w w' : World} {v : Value} {n B : Nat} {xs : List Value} (h : Row sz w v n xs) (hb : Below B w w') (hlt : ∀ b, v.ownBlock = some b → b < B) : Row sz w' v n xs := by
  obtain ⟨h1, a, cap, rfl, h2⟩ := h
  refine ⟨h1, a, cap, rfl, ?_⟩
  rcases h2 with h2 | ⟨b, off, rfl, hc⟩
  · exact .inl h2
  · exact .inr ⟨b, off, rfl, fun j u hu => (hb.cell (p := ⟨b, off + j, none⟩) (hlt b rfl)).trans (hc j u hu)⟩
/-- An owned row whose cell j is written. -/
theorem own_set {w : World} {base e sz : Nat} {v : Value} {n : Nat} {xs : List Value} (h : w.ownsRow base e sz v n xs) {g : Nat} (hg : v.ownBlock = some g) (j : Nat) (u : Value) : (w.setCell ⟨g, j, none⟩ u).ownsRow base e sz v n (xs.set j u) := by
  rcases h.2 with ⟨rfl, _⟩ | ⟨g', cap, cur, rfl, _⟩
  · simp [Value.ownBlock] at hg
  · simp [Value.ownBlock] at hg
    subst hg
    exact (h.stored j u).1
theorem own_free {w : World} {base e sz : Nat} {v : Value} {n : Nat} {xs : List Value} (h : w.ownsRow base e sz v n xs) {g : Nat} (hg : v.ownBlock = some g) (j : Nat) : w.frozen? ⟨g, j, none⟩ = false := by
  rcases h.2 with ⟨rfl, _⟩ | ⟨g', cap, cur, rfl, _, hh, _⟩
  · simp [Value.ownBlock] at hg
  · simp [Value.ownBlock] at hg
    subst hg
    simp [World.frozen?, hh]
theorem own_cell {w : World} {base e sz : Nat} {v : Value} {n : Nat} {xs : List Value} (h : w.ownsRow base e sz v n xs) {g : Nat} (hg : v.ownBlock = some g) (j : Nat) (u : Value) (hu : xs[j]? = some u) : w.cell? ⟨g, j, none⟩ = some u := by
  have := h.cells hg j u hu
  rw [← this]; congr 1
  unfold Addr.add; split <;> simp_all
theorem own_some {w : World} {base e sz : Nat} {v : Value} {n : Nat} {xs : List Value} (h : w.ownsRow base e sz v n xs) (hn : 0 < n) : ∃ g cap, v = .slice (some ⟨g, 0, none⟩) n cap ∧ base ≤ g ∧ g < w.heap.size := by
  rcases h.2 with ⟨rfl, rfl⟩ | ⟨g, cap, cur, rfl, hb, hh, _⟩
  · omega
  · exact ⟨g, cap, rfl, hb, (Array.getElem?_eq_some_iff.1 hh).1⟩
theorem own_below {w w' : World} {base e sz : Nat} {v : Value} {n : Nat} {xs : List Value} (h : w.ownsRow base e sz v n xs) (hb : Below w.heap.size w w') : w'.ownsRow base e sz v n xs :=
  h.kept (row := none) ⟨hb.os, hb.tape, hb.output, hb.size, fun k hk _ => hb.block k hk⟩ (by cases h : v.ownBlock <;> simp)
/-- Two owned rows, the second one in blocks that were made behind the first. -/
theorem own_apart {w w' : World} {base base' e e' sz sz' : Nat} {v v' : Value} {n n' : Nat} {xs xs' : List Value} (h : w.ownsRow base e sz v n xs) (h' : w'.ownsRow base' e' sz' v' n' xs') (hb : w.heap.size ≤ base') :
    (v.ownBlock = none ∨ v.ownBlock ≠ v'.ownBlock) ∧ (v'.ownBlock = none ∨ v'.ownBlock ≠ v.ownBlock) := by
  cases e1 : v.ownBlock with
  | none => cases e2 : v'.ownBlock <;> simp
  | some k =>
    cases e2 : v'.ownBlock with
    | none => simp
    | some k' =>
      have := h.lt k e1
      have := h'.lt k' e2
      have hne : k ≠ k' := by omega
      exact ⟨.inr (by simpa using hne), .inr (by simpa using fun e => hne e.symm)⟩
theorem below_grown {w w' : World} {row : Option Nat} (hg : w.grownBy w' row) {B : Nat} (hB : B ≤ w.heap.size) (hr : ∀ k, row = some k → B ≤ k) : Below B w w' := (Below.refl _ _).grown hg hB hr
theorem below_drewN {B : Nat} {w w' : World} (h : Below B w w') (q : Nat) : Below B w (w'.drewN q) := ⟨h.os, h.tape, h.output, h.size, h.block⟩
theorem own_weak {w w' : World} {base e sz : Nat} {v : Value} {n : Nat} {xs : List Value} (h : w.ownsRow base e sz v n xs) (hg : w.grownBy w' none) : w'.ownsRow base e sz v n xs :=
  h.kept hg (by cases h : v.ownBlock <;> simp)
theorem getI {zs : List Int} {k : Nat} (h : k < zs.length) : (zs.map (Value.int .i64))[k]? = some (.int .i64 (zs.getD k 0)) := by
  rw [List.getElem?_map, List.getElem?_eq_getElem h, List.getD_eq_getElem?_getD, List.getElem?_eq_getElem h]; rfl
theorem IsRow.row {w : World} {a : Option Addr} {len cap : Nat} {zs : List Int} (h : IsRow .i64 w a len cap zs) : Row 1 w (.slice a len cap) len ((zs.take len).map (Value.int .i64)) := by
  rcases h with ⟨rfl, rfl, rfl, rfl⟩ | ⟨x, rfl, hl, _, hz, hc, _⟩
  · exact ⟨by simp, none, 0, rfl, .inl rfl⟩
  · refine ⟨by simp; omega, _, _, rfl, ?_⟩
    by_cases h0 : len = 0
    · exact .inl h0
    · obtain ⟨b, off, rfl, hc2⟩ := Go.ints_at hc (by omega)
      refine .inr ⟨b, off, rfl, fun j u hu => ?_⟩
      have hj : j < len := by
        have := (List.getElem?_eq_some_iff.1 hu).1
        simp at this; omega
      rw [getI (by simp; omega), Option.some.injEq] at hu
      subst hu
      rw [hc2 j (by omega)]
      simp only [List.getD_eq_getElem?_getD, List.getElem?_take, if_pos hj]
theorem Row.keep {sz : Nat} {w w' : World} {v : Value} {n : Nat} {xs : List Value} (h : Row sz w v n xs) (hb : Below w.heap.size w w') : Row sz w' v n xs := by
  obtain ⟨h1, a, cap, rfl, h2⟩ := h
  refine ⟨h1, a, cap, rfl, ?_⟩
  rcases h2 with h2 | ⟨b, off, rfl, hc⟩
  · exact .inl h2
  · rcases Nat.eq_zero_or_pos n with h0 | h0
    · exact .inl h0
    · refine .inr ⟨b, off, rfl, fun j u hu => ?_⟩
      have hc0 := hc j u hu
      exact (hb.cell (p := ⟨b, off + j, none⟩) (World.block_lt_of_cell? w _ hc0)).trans hc0
theorem Row.drewN {sz : Nat} {w : World} {v : Value} {n : Nat} {xs : List Value} (h : Row sz w v n xs) (q : Nat) : Row sz (w.drewN q) v n xs := h
/-- The slice's capacity is no less than its length. -/
def Cap (v : Value) : Prop := ∀ a n c, v = .slice a n c → n ≤ c
theorem Cap.own {w : World} {base e sz : Nat} {v : Value} {n : Nat} {xs : List Value} (h : w.ownsRow base e sz v n xs) : Cap v := by
  intro a n c hv
  rcases h.2 with ⟨rfl, _⟩ | ⟨g, cap, cur, rfl, _, _, hnc, _⟩
  · cases hv; exact Nat.le_refl _
  · cases hv; exact hnc
theorem own_mono {w : World} {base base' e sz : Nat} {v : Value} {n : Nat} {xs : List Value} (h : w.ownsRow base e sz v n xs) (hb : base' ≤ base) : w.ownsRow base' e sz v n xs :=
  ⟨h.1, h.2.imp id fun ⟨g, cap, cur, e, hb2, rest⟩ => ⟨g, cap, cur, e, Nat.le_trans hb hb2, rest⟩⟩
theorem below_step {w a b : World} (h : Below w.heap.size w a) (hb : Below a.heap.size a b) : Below w.heap.size w b := h.trans (hb.mono h.size)
theorem below_al {w a : World} (h : Below w.heap.size w a) (o : Obj) : Below w.heap.size w (a.alloc o) := h.alloc h.size o
theorem below_dr {w a : World} (h : Below w.heap.size w a) : Below w.heap.size w a.drew := ⟨h.os, h.tape, h.output, h.size, h.block⟩
theorem below_drN {w a : World} (h : Below w.heap.size w a) (n : Nat) : Below w.heap.size w (a.drewN n) := ⟨h.os, h.tape, h.output, h.size, h.block⟩
theorem bcell {W w1 : World} (hb : Below W.heap.size W w1) : (∀ b o, b < W.heap.size → w1.cell? ⟨b, o, none⟩ = W.cell? ⟨b, o, none⟩) ∧ (∀ b o, b < W.heap.size → w1.frozen? ⟨b, o, none⟩ = W.frozen? ⟨b, o, none⟩) :=
  ⟨fun b o h => hb.cell (p := ⟨b, o, none⟩) h, fun b o h => hb.frozen (p := ⟨b, o, none⟩) h⟩
theorem mul_bd {x y X Y : Int} (h0 : 0 ≤ x) (h1 : x ≤ X) (g0 : 0 ≤ y) (g1 : y ≤ Y) : 0 ≤ x * y ∧ x * y ≤ X * Y := ⟨Int.mul_nonneg h0 g0, Int.mul_le_mul h1 g1 g0 (by omega)⟩
theorem Row.at_ {sz : Nat} {w : World} {a : Option Addr} {n ca : Nat} {xs : List Value} (h : Row sz w (.slice a n ca) n xs) (hn : 0 < n) : ∃ b off, a = some ⟨b, off, none⟩ ∧ ∀ j u, xs[j]? = some u → w.cell? ⟨b, off + j, none⟩ = some u := by
  obtain ⟨_, a', ca', e, h2⟩ := h
  cases e
  exact h2.resolve_left (by omega)
theorem Row.shape {sz : Nat} {w : World} {v : Value} {n : Nat} {xs : List Value} (h : Row sz w v n xs) : ∃ a ca, v = .slice a n ca := by
  obtain ⟨_, a, ca, e, _⟩ := h
  exact ⟨a, ca, e⟩
/-- Box: block g of the heap holds these cells, all of them free to be written. Everything on it goes through the heap's own entry. -/
def Blk (w : World) (g : Nat) (t : TypeId) (cs : Array Value) : Prop := w.heap[g]? = some (.cells cs t (0, 0))
section
variable {w w' : World} {g : Nat} {t : TypeId} {cs : Array Value}
/-- It is kept wherever the entry is. -/
theorem Blk.same (h : Blk w g t cs) (e : w'.heap[g]? = w.heap[g]?) : Blk w' g t cs := e.trans h
theorem Blk.lt (h : Blk w g t cs) : g < w.heap.size := (Array.getElem?_eq_some_iff.1 h).1
theorem Blk.cell (h : Blk w g t cs) (i : Nat) : w.cell? ⟨g, i, none⟩ = cs[i]? := cell_of_row w g i cs t (0, 0) h
theorem Blk.frozen (h : Blk w g t cs) (i : Nat) : w.frozen? ⟨g, i, none⟩ = false := by
  have e : w.heap[g]? = some (.cells cs t (0, 0)) := h
  simp [World.frozen?, e]
theorem Blk.new (w : World) (t : TypeId) (cs : Array Value) : Blk (w.alloc (.cells cs t)) w.heap.size t cs := heap_alloc_new w _
theorem Blk.new1 (w : World) (t : TypeId) (cs : Array Value) (o : Obj) : Blk ((w.alloc o).alloc (.cells cs t)) (w.heap.size + 1) t cs := by
  simpa using Blk.new (w.alloc o) t cs
theorem Blk.drew (h : Blk w g t cs) : Blk w.drew g t cs := h
theorem Blk.drewN (h : Blk w g t cs) (n : Nat) : Blk (w.drewN n) g t cs := h
theorem Blk.step (h : Blk w g t cs) (hb : Below w.heap.size w w') : Blk w' g t cs := h.same (hb.block g h.lt)
theorem Blk.below {B : Nat} (h : Blk w g t cs) (hb : Below B w w') (hg : g < B) : Blk w' g t cs := h.same (hb.block g hg)
theorem Blk.alloc (h : Blk w g t cs) (o : Obj) : Blk (w.alloc o) g t cs := h.step (below_al (Below.refl _ _) o)
theorem Blk.grown {row : Option Nat} (h : Blk w g t cs) (hb : w.grownBy w' row) (hg : some g ≠ row) : Blk w' g t cs := h.same (hb.block g h.lt hg)
theorem Blk.far (h : Blk w g t cs) {p : Addr} (hp : g ≠ p.block) (u : Value) : Blk (w.setCell p u) g t cs := h.same (Below.heap_setCell w p u g hp)
theorem Blk.set_ (h : Blk w g t cs) (i : Nat) (u : Value) : Blk (w.setCell ⟨g, i, none⟩ u) g t (cs.setIfInBounds i u) := by
  have e : w.heap[g]? = some (.cells cs t (0, 0)) := h
  show (w.setCell ⟨g, i, none⟩ u).heap[g]? = _
  rw [World.setCell]
  simp [Array.getElem?_modify, e]
end
theorem keep1 {W w' : World} {p : Addr} {v : Value} (h : W.cell? p = some v) (hb : Below W.heap.size W w') : w'.cell? p = some v :=
  (hb.cell (World.block_lt_of_cell? W _ h)).trans h
theorem keep2 {W w' : World} {p q : Addr} {v u : Value} (h : W.cell? p = some v ∧ W.cell? q = some u) (hb : Below W.heap.size W w') : w'.cell? p = some v ∧ w'.cell? q = some u :=
  ⟨keep1 h.1 hb, keep1 h.2 hb⟩
theorem keep3 {W w' : World} {p q r : Addr} {v u x : Value} (h : W.cell? p = some v ∧ W.cell? q = some u ∧ W.cell? r = some x) (hb : Below W.heap.size W w') : w'.cell? p = some v ∧ w'.cell? q = some u ∧ w'.cell? r = some x :=
  ⟨keep1 h.1 hb, keep2 h.2 hb⟩
theorem keep4 {W w' : World} {p q r s : Addr} {v u x y : Value} (h : W.cell? p = some v ∧ W.cell? q = some u ∧ W.cell? r = some x ∧ W.cell? s = some y) (hb : Below W.heap.size W w') : w'.cell? p = some v ∧ w'.cell? q = some u ∧ w'.cell? r = some x ∧ w'.cell? s = some y :=
  ⟨keep1 h.1 hb, keep3 h.2 hb⟩
/-- The answer v, and nothing that was there has turned. -/
def Gives (w : World) (v : Value) (e : Ending) (w' : World) : Prop := e = .returned v ∧ Below w.heap.size w w'
theorem keep5 {W w' : World} {p q r s p5 : Addr} {v u x y v5 : Value} (h : W.cell? p = some v ∧ W.cell? q = some u ∧ W.cell? r = some x ∧ W.cell? s = some y ∧ W.cell? p5 = some v5) (hb : Below W.heap.size W w') : w'.cell? p = some v ∧ w'.cell? q = some u ∧ w'.cell? r = some x ∧ w'.cell? s = some y ∧ w'.cell? p5 = some v5 :=
  ⟨keep1 h.1 hb, keep4 h.2 hb⟩
theorem keep6 {W w' : World} {p q r s p5 q5 : Addr} {v u x y v5 u5 : Value} (h : W.cell? p = some v ∧ W.cell? q = some u ∧ W.cell? r = some x ∧ W.cell? s = some y ∧ W.cell? p5 = some v5 ∧ W.cell? q5 = some u5) (hb : Below W.heap.size W w') : w'.cell? p = some v ∧ w'.cell? q = some u ∧ w'.cell? r = some x ∧ w'.cell? s = some y ∧ w'.cell? p5 = some v5 ∧ w'.cell? q5 = some u5 :=
  ⟨keep1 h.1 hb, keep5 h.2 hb⟩
theorem keep7 {W w' : World} {p q r s p5 q5 r5 : Addr} {v u x y v5 u5 x5 : Value} (h : W.cell? p = some v ∧ W.cell? q = some u ∧ W.cell? r = some x ∧ W.cell? s = some y ∧ W.cell? p5 = some v5 ∧ W.cell? q5 = some u5 ∧ W.cell? r5 = some x5) (hb : Below W.heap.size W w') : w'.cell? p = some v ∧ w'.cell? q = some u ∧ w'.cell? r = some x ∧ w'.cell? s = some y ∧ w'.cell? p5 = some v5 ∧ w'.cell? q5 = some u5 ∧ w'.cell? r5 = some x5 :=
  ⟨keep1 h.1 hb, keep6 h.2 hb⟩
theorem keep8 {W w' : World} {p q r s p5 q5 r5 s5 : Addr} {v u x y v5 u5 x5 y5 : Value} (h : W.cell? p = some v ∧ W.cell? q = some u ∧ W.cell? r = some x ∧ W.cell? s = some y ∧ W.cell? p5 = some v5 ∧ W.cell? q5 = some u5 ∧ W.cell? r5 = some x5 ∧ W.cell? s5 = some y5) (hb : Below W.heap.size W w') : w'.cell? p = some v ∧ w'.cell? q = some u ∧ w'.cell? r = some x ∧ w'.cell? s = some y ∧ w'.cell? p5 = some v5 ∧ w'.cell? q5 = some u5 ∧ w'.cell? r5 = some x5 ∧ w'.cell? s5 = some y5 :=
  ⟨keep1 h.1 hb, keep7 h.2 hb⟩
end Go.Proofs.Ytopbeacfljoacaa.kit
