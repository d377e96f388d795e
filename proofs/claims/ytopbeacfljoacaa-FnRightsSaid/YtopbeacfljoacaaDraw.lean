/- The cursor over the bytes of a draw: what its functions leave. -/
import Derived.Test.YtopbeacfljoacaaRows
import Derived.WalkKit
import Derived.Outline
import Derived.Test.YtopbeacfljoacaaKit
namespace Go.Proofs.Ytopbeacfljoacaa.draw
open Go.RowKit Go.Proofs.Ytopbeacfljoacaa.kit
/-- The cursor in block c: the bytes, the place, the mixed number. -/
def Cur (w : World) (c : Nat) (a : Option Addr) (len cap : Nat) : Prop :=
  ∃ (i : Nat) (h : Int), i ≤ len ∧ w.cell? ⟨c, 0, none⟩ = some (.slice a len cap) ∧ w.cell? ⟨c, 1, none⟩ = some (.int .i64 i) ∧ w.cell? ⟨c, 2, none⟩ = some (.int .i64 h) ∧
    w.frozen? ⟨c, 1, none⟩ = false ∧ w.frozen? ⟨c, 2, none⟩ = false ∧ Bytes w a len ∧ (∀ x, a = some x → 0 < len → x.block ≠ c) ∧ len ≤ 1048576
theorem Cur.grown {w w' : World} {c len cap : Nat} {a : Option Addr} {row : Option Nat} (h : Cur w c a len cap) (hg : w.grownBy w' row) (hne : some c ≠ row) (hx : ∀ x, a = some x → 0 < len → some x.block ≠ row) : Cur w' c a len cap := by
  obtain ⟨i, m, h1, h2, h3, h4, h5, h6, h7, h8, h9⟩ := h
  have hl := World.block_lt_of_cell? w _ h2
  exact ⟨i, m, h1, hg.cell h2 hne, hg.cell h3 hne, hg.cell h4 hne, (grown_frozen hg (a := ⟨c, 1, none⟩) hl hne).trans h5, (grown_frozen hg (a := ⟨c, 2, none⟩) hl hne).trans h6, h7.grown hg hx, h8, h9⟩
theorem Cur.drewN {w : World} {c len cap : Nat} {a : Option Addr} (h : Cur w c a len cap) (n : Nat) : Cur (w.drewN n) c a len cap := h
theorem Bytes.setCell {w : World} {a : Option Addr} {len : Nat} (h : Bytes w a len) {p : Addr} (hp : ∀ x, a = some x → 0 < len → x.block ≠ p.block) (u : Value) : Bytes (w.setCell p u) a len := by
  rcases h with h | ⟨b, off, rfl, hc⟩
  · exact .inl h
  · refine .inr ⟨b, off, rfl, fun j hj => ?_⟩
    obtain ⟨n, h0, h1, h2⟩ := hc j hj
    exact ⟨n, h0, h1, (World.cell?_setCell_other w p ⟨b, off + j, none⟩ u (fun e => hp _ rfl (by omega) (by rw [e]))).trans h2⟩
theorem Cur.set2 {w : World} {c len cap : Nat} {a : Option Addr} (h : Cur w c a len cap) (v : Int) : Cur (w.setCell ⟨c, 2, none⟩ (.int .i64 v)) c a len cap := by
  obtain ⟨i, m, h1, h2, h3, h4, h5, h6, h7, h8, h9⟩ := h
  exact ⟨i, v, h1, by rw [World.cell?_setCell_other _ _ _ _ (by simp)]; exact h2, by rw [World.cell?_setCell_other _ _ _ _ (by simp)]; exact h3, World.cell?_setCell_same _ _ _ h4, by rw [World.frozen?_setCell]; exact h5, by rw [World.frozen?_setCell]; exact h6, Bytes.setCell h7 h8 _, h8, h9⟩
theorem Cur.set1 {w : World} {c len cap : Nat} {a : Option Addr} (h : Cur w c a len cap) (j : Nat) (hj : j ≤ len) (v : Int) (hv : v = (j : Int)) : Cur (w.setCell ⟨c, 1, none⟩ (.int .i64 v)) c a len cap := by
  subst hv
  obtain ⟨i, m, h1, h2, h3, h4, h5, h6, h7, h8, h9⟩ := h
  exact ⟨j, m, hj, by rw [World.cell?_setCell_other _ _ _ _ (by simp)]; exact h2, World.cell?_setCell_same _ _ _ h3, by rw [World.cell?_setCell_other _ _ _ _ (by simp)]; exact h4, by rw [World.frozen?_setCell]; exact h5, by rw [World.frozen?_setCell]; exact h6, Bytes.setCell h7 h8 _, h8, h9⟩
theorem Cur.made {w : World} {len cap : Nat} {a : Option Addr} {m : Int} (hb : Bytes w a len) (hl : len ≤ 1048576) (hx : ∀ x, a = some x → 0 < len → x.block < w.heap.size) {T : TypeId} :
    Cur (w.alloc (.cells #[.slice a len cap, .int .i64 0, .int .i64 m] T)) w.heap.size a len cap := by
  have h := heap_alloc_new w (.cells #[.slice a len cap, .int .i64 0, .int .i64 m] T)
  have hc : ∀ j, (w.alloc (.cells #[.slice a len cap, .int .i64 0, .int .i64 m] T)).cell? ⟨w.heap.size, j, none⟩ = #[Value.slice a len cap, .int .i64 0, .int .i64 m][j]? := fun j => cell_of_row _ _ j _ _ _ h
  exact ⟨0, m, Nat.zero_le _, hc 0, hc 1, hc 2, World.frozen?_alloc_at _ _ _ _ rfl, World.frozen?_alloc_at _ _ _ _ rfl, hb.grown (World.grownBy_alloc w _ none) (fun _ _ _ => by simp), fun x e h0 => by have := hx x e h0; omega, hl⟩
/-- What a call on the cursor leaves: a number with a property, the cursor, and all else as it was. -/
def Drawn (P : Int → Prop) (w : World) (c : Nat) (a : Option Addr) (len cap : Nat) (e : Ending) (w' : World) : Prop :=
  ∃ x : Int, P x ∧ e = .returned (.int .i64 x) ∧ Cur w' c a len cap ∧ w.grownBy w' (some c)
set_option maxHeartbeats 400000 in
theorem byte_any (w : World) (c : Nat) (a : Option Addr) (len cap : Nat) (hcur : Cur w c a len cap) :
    Calls Try.prog 67 #[.pointer (some ⟨c, 0, none⟩)] w (Drawn (fun x => 0 ≤ x ∧ x ≤ 255) w c a len cap) := by
  have hcur0 := hcur
  obtain ⟨i, h, hi, c0, c1, c2, f1, f2, hby, hne, hlen⟩ := hcur
  by_cases hlt : i < len
  · obtain ⟨b, off, rfl, hb⟩ : ∃ b off, a = some ⟨b, off, none⟩ ∧ ∀ j, j < len → ∃ n : Int, 0 ≤ n ∧ n < 256 ∧ w.cell? ⟨b, off + j, none⟩ = some (.int .u8 n) := hby.resolve_left (by omega)
    obtain ⟨n, n0, n1, hc⟩ := hb i hlt
    have hbc : b ≠ c := hne _ rfl (by omega)
    go_enter Try.func67, Try.ntmps67
    go_wp2
    go_quiet (fail)
    go_wp2
    go_quiet (fail)
    go_wp2
    go_quiet (fail)
    go_wp2
    go_ret
    refine ⟨_, ?_, rfl, ?_, ?_⟩
    · exact and_mask _ 255 (by decide)
    · repeat (first | exact hcur0 | refine Cur.drewN ?_ _ | refine Cur.set2 ?_ _ | refine Cur.set1 ?_ (i + 1) (by omega) _ (by omega))
    · repeat (first | exact grown_refl _ _ | refine grown_drewN ?_ _ | refine grown_setCell ?_ _ _ _)
  · go_enter Try.func67, Try.ntmps67
    go_wp2
    go_quiet (fail)
    go_wp2
    go_quiet (fail)
    go_wp2
    go_ret
    refine ⟨_, ?_, rfl, ?_, ?_⟩
    · exact and_mask _ 255 (by decide)
    · repeat (first | exact hcur0 | refine Cur.drewN ?_ _ | refine Cur.set2 ?_ _)
    · repeat (first | exact grown_refl _ _ | refine grown_drewN ?_ _ | refine grown_setCell ?_ _ _ _)
/-- l01Below: a number from 0 to n - 1, or 0. -/
def InB (n : Int) (x : Int) : Prop := (n ≤ 0 ∧ x = 0) ∨ (0 ≤ x ∧ x < n)
theorem InB.of {n x : Int} (h : InB n x) (hn : 0 < n) : 0 ≤ x ∧ x < n := by unfold InB at h; omega
theorem InB.lo {n x : Int} (h : InB n x) : 0 ≤ x := by unfold InB at h; omega
set_option maxHeartbeats 400000 in
theorem below_any (w : World) (c : Nat) (a : Option Addr) (len cap : Nat) (n : Int) (hn : n ≤ 4611686018427387904) (hcur : Cur w c a len cap) :
    Calls Try.prog 53 #[.pointer (some ⟨c, 0, none⟩), .int .i64 n] w (Drawn (InB n) w c a len cap) := by
  by_cases h0 : n ≤ 0
  · go_enter Try.func53, Try.ntmps53
    go_wp2
    go_ret
    exact ⟨0, .inl ⟨h0, rfl⟩, rfl, hcur, grown_refl _ _⟩
  · by_cases h1 : n ≤ 256
    · go_enter Try.func53, Try.ntmps53
      go_wp2_with fail
      refine (byte_any w c a len cap hcur).mono ?_; rintro e w1 ⟨x, ⟨x0, x1⟩, rfl, hc1, hg1⟩
      go_wp2
      go_ret
      refine ⟨x % n, .inr ⟨Int.emod_nonneg _ (by omega), Int.emod_lt_of_pos _ (by omega)⟩, rfl, hc1, hg1⟩
    · go_enter Try.func53, Try.ntmps53
      go_wp2_with fail
      refine (byte_any w c a len cap hcur).mono ?_; rintro e w1 ⟨x, ⟨x0, x1⟩, rfl, hc1, hg1⟩
      go_wp2_with fail
      refine (byte_any w1 c a len cap hc1).mono ?_; rintro e w2 ⟨y, ⟨y0, y1⟩, rfl, hc2, hg2⟩
      go_wp2_with fail
      refine (byte_any w2 c a len cap hc2).mono ?_; rintro e w3 ⟨z, ⟨z0, z1⟩, rfl, hc3, hg3⟩
      go_wp2_with fail
      refine (byte_any w3 c a len cap hc3).mono ?_; rintro e w4 ⟨u, ⟨u0, u1⟩, rfl, hc4, hg4⟩
      go_wp2
      go_ret
      exact ⟨(x * 16777216 + y * 65536 + z * 256 + u) % n, .inr ⟨Int.emod_nonneg _ (by omega), Int.emod_lt_of_pos _ (by omega)⟩, rfl, hc4, grown_trans (grown_trans (grown_trans hg1 hg2) hg3) hg4⟩
/-- l01Once: some bool. -/
def DrawnB (w : World) (c : Nat) (a : Option Addr) (len cap : Nat) (e : Ending) (w' : World) : Prop :=
  ∃ b : Bool, e = .returned (.bool b) ∧ Cur w' c a len cap ∧ w.grownBy w' (some c)
set_option maxRecDepth 100000 in
set_option maxHeartbeats 400000 in
theorem new_any (w : World) (a : Option Addr) (len cap : Nat) (hb : Bytes w a len) (hl : len ≤ 1048576) (hx : ∀ x, a = some x → 0 < len → x.block < w.heap.size) :
    Calls Try.prog 34 #[.slice a len cap] w fun e w' => ∃ c, e = .returned (.pointer (some ⟨c, 0, none⟩)) ∧ w.heap.size ≤ c ∧ Cur w' c a len cap ∧ w.grownBy w' none := by
  go_enter Try.func34, Try.ntmps34
  go_wp2
  go_loop [3, 4] (fun h i => ∃ (k : Nat) (m : Int), k ≤ len ∧ 0 ≤ m ∧ m ≤ 1073741823 ∧ h = .int .i64 m ∧ i = .int .i64 k) (fun _ i => len - (intOf i).toNat)
  case atStart => exact ⟨0, _, Nat.zero_le _, by omega, by omega, rfl, rfl⟩
  case round =>
    obtain ⟨k, m, hk, m0, m1, rfl, rfl⟩ := hrel
    by_cases hlt : k < len
    · by_cases hl4 : k < 4000
      · obtain ⟨b, off, rfl, hbb⟩ : ∃ b off, a = some ⟨b, off, none⟩ ∧ ∀ j, j < len → ∃ n : Int, 0 ≤ n ∧ n < 256 ∧ w.cell? ⟨b, off + j, none⟩ = some (.int .u8 n) := hb.resolve_left (by omega)
        obtain ⟨n, n0, n1, hc⟩ := hbb k hlt
        clear hbb
        go_wp2
        go_round
        case rel => exact ⟨k + 1, _, by omega, (and_mask _ 1073741823 (by decide)).1, (and_mask _ 1073741823 (by decide)).2, rfl, by go_num⟩
        case measure => simp [intOf]; omega
      · go_wp2
        go_ret
        exact ⟨_, rfl, Nat.le_refl _, Cur.made hb hl hx, World.grownBy_alloc _ _ _⟩
    · go_wp2
      go_ret
      exact ⟨_, rfl, Nat.le_refl _, Cur.made hb hl hx, World.grownBy_alloc _ _ _⟩
/-- laws.big: is the row of bytes longer than 1<<20? -/
theorem big_any (w : World) (a : Option Addr) (len cap : Nat) :
    Calls Try.prog 9 #[.slice a len cap] w fun e w' => e = .returned (.bool (decide ((1048576 : Int) < (len : Int)))) ∧ w = w' := by
  go_enter Try.func9, Try.ntmps9
  go_wp2
  go_ret
  exact ⟨rfl, rfl⟩
theorem big_no (w : World) (a : Option Addr) (len cap : Nat) (h : len ≤ 1048576) :
    Calls Try.prog 9 #[.slice a len cap] w fun e w' => e = .returned (.bool false) ∧ w = w' :=
  (big_any w a len cap).mono fun _ _ ⟨he, hw⟩ => ⟨by rw [he, decide_eq_false (by omega)], hw⟩
theorem big_yes (w : World) (a : Option Addr) (len cap : Nat) (h : 1048576 < len) :
    Calls Try.prog 9 #[.slice a len cap] w fun e w' => e = .returned (.bool true) ∧ w = w' :=
  (big_any w a len cap).mono fun _ _ ⟨he, hw⟩ => ⟨by rw [he, decide_eq_true (by omega)], hw⟩
/-- The cursor's block, and that of the bytes, lie in the world. -/
theorem Cur.lt {w : World} {c len cap : Nat} {a : Option Addr} (h : Cur w c a len cap) : c < w.heap.size := by
  obtain ⟨_, _, _, h2, _⟩ := h
  exact World.block_lt_of_cell? w _ h2
theorem Cur.low {w : World} {c len cap : Nat} {a : Option Addr} (h : Cur w c a len cap) : ∀ x, a = some x → 0 < len → x.block < w.heap.size := by
  obtain ⟨_, _, _, _, _, _, _, _, h7, _, _⟩ := h
  rintro x rfl h0
  obtain ⟨b, off, e, hc⟩ := h7.resolve_left (by omega)
  cases e
  obtain ⟨n, _, _, h2⟩ := hc 0 h0
  exact World.block_lt_of_cell? w _ h2
/-- The cursor is kept where only blocks from B on, made behind the cursor, have turned. -/
theorem Cur.above {w w' : World} {c len cap B : Nat} {a : Option Addr} {row : Option Nat} (h : Cur w c a len cap) (hg : w.grownBy w' row) (hr : ∀ k, row = some k → B ≤ k) (hc : c < B) (hx : ∀ x, a = some x → 0 < len → x.block < B) : Cur w' c a len cap :=
  h.grown hg (fun e => by have := hr _ e.symm; omega) (fun x e h0 hk => by have := hr _ hk.symm; have := hx x e h0; omega)
theorem own_not {w : World} {base e sz c : Nat} {v : Value} {n : Nat} {xs : List Value} (h : w.ownsRow base e sz v n xs) (hc : c < base) : v.ownBlock = none ∨ v.ownBlock ≠ some c := by
  cases hv : v.ownBlock with
  | none => exact .inl rfl
  | some k => exact .inr (fun e => by cases e; have := (h.lt _ hv).1; omega)
end Go.Proofs.Ytopbeacfljoacaa.draw
