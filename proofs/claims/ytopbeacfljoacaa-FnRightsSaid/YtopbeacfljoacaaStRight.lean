/- The laws' own helpers on Right: copied, found equal, marked, found again. -/
import Derived.Test.YtopbeacfljoacaaOwn
import Derived.Test.YtopbeacfljoacaaOpenS
import Derived.Test.YtopbeacfljoacaaStFraction
import Derived.Handy
import Derived.Deep.RegionHeld3
import Derived.Laws.MakeOwn
namespace Go.Proofs.Ytopbeacfljoacaa.stRight
open Go.RowKit Go.Proofs.Ytopbeacfljoacaa.kit Go.Proofs.Ytopbeacfljoacaa.lawi Go.Proofs.Ytopbeacfljoacaa.own
abbrev R (x0 x1 x2 : Int) : Value := .agg #[.int .i64 x0, .int .i64 x1, .int .i64 x2]
theorem info : (Try.prog.info? 35).map (fun i => (i.zero, i.size, i.bytes)) = some (some (.agg #[.int .i64 0, .int .i64 0, .int .i64 0]), 3, 24) := by kernel_rfl
abbrev TR : TypeId := 35
theorem rcell {w : World} {g : Nat} {t : TypeId} {a b c : Value} (h : Blk w g t #[a, b, c]) : w.cell? ⟨g, 0, none⟩ = some a ∧ w.cell? ⟨g, 1, none⟩ = some b ∧ w.cell? ⟨g, 2, none⟩ = some c := ⟨h.cell 0, h.cell 1, h.cell 2⟩
theorem rfree {w : World} {g : Nat} {t : TypeId} {a b c : Value} (h : Blk w g t #[a, b, c]) : w.frozen? ⟨g, 0, none⟩ = false ∧ w.frozen? ⟨g, 1, none⟩ = false ∧ w.frozen? ⟨g, 2, none⟩ = false := ⟨h.frozen 0, h.frozen 1, h.frozen 2⟩
theorem to_any (w : World) (x0 x1 x2 : Int) : Calls Try.prog 48 #[R x0 x1 x2] w (Gives w (R x0 x1 x2)) := by
  obtain ⟨w0, hw0⟩ : ∃ w0, ((w.alloc (.cells #[.int .i64 x0, .int .i64 x1, .int .i64 x2] 66)).alloc (.cells #[.int .i64 0, .int .i64 0, .int .i64 0] TR)).alloc (.cells #[.int .i64 x0, .int .i64 0, .int .i64 0] TR) = w0 := ⟨_, rfl⟩
  have XR : Blk w0 (w.heap.size + 1) TR #[.int .i64 0, .int .i64 0, .int .i64 0] := hw0 ▸ (Blk.new1 w TR #[.int .i64 0, .int .i64 0, .int .i64 0] _).alloc _
  have XO : Blk w0 (w.heap.size + 1 + 1) TR #[.int .i64 x0, .int .i64 0, .int .i64 0] := by
    have h := Blk.new ((w.alloc (.cells #[.int .i64 x0, .int .i64 x1, .int .i64 x2] 66)).alloc (.cells #[.int .i64 0, .int .i64 0, .int .i64 0] TR)) TR #[.int .i64 x0, .int .i64 0, .int .i64 0]
    rw [hw0] at h
    simpa using h
  have HB : Below w.heap.size w w0 := hw0 ▸ below_al (below_al (below_al (Below.refl _ _) _) _) _
  obtain ⟨a0, a1, a2⟩ := rcell (hw0 ▸ ((Blk.new w 66 #[.int .i64 x0, .int .i64 x1, .int .i64 x2]).alloc _).alloc _ : Blk w0 w.heap.size 66 #[.int .i64 x0, .int .i64 x1, .int .i64 x2])
  go_enter Try.func48, Try.ntmps48
  go_wp2_with fail
  refine (stFraction.to_any _ _ _).mono ?_; rintro e w1 ⟨rfl, hb⟩
  obtain ⟨p0, p1, p2⟩ := rcell (XR.step hb)
  obtain ⟨f0, f1, f2⟩ := rfree (XR.step hb)
  obtain ⟨q0, q1, q2⟩ := rcell (XO.step hb)
  obtain ⟨e0, e1, e2⟩ := rfree (XO.step hb)
  have B2 := Lib.hid (below_step HB hb)
  clear hw0 XR XO HB hb a0 a1 a2
  go_wp2
  refine bodyPost_ret (v := R x0 x1 x2) (by simp [*, results, Try.results48, go_sem]) rfl ⟨rfl, ?_⟩
  have B1 := B2.out
  go_grown
theorem made_zero (n : Nat) : (madeCells (R 0 0 0).cells n).toList = List.replicate n (.int .i64 0) := by
  refine List.ext_getElem (by simp [madeCells]) fun i h1 h2 => ?_
  simp [madeCells, Value.cells]
  have : i % 3 < 3 := Nat.mod_lt _ (by decide)
  generalize i % 3 = r at this ⊢
  match r, this with
  | 0, _ => rfl
  | 1, _ => rfl
  | 2, _ => rfl
set_option maxHeartbeats 1000000 in
theorem toS_got (w : World) (v : Value) (n : Nat) (zs : List Int) (hn : n ≤ 1048576) (h : Row 3 w v n (zs.map (Value.int .i64))) :
    Calls Try.prog 20 #[v] w (GotR 35 3 w n (zs.map (Value.int .i64))) := by
  obtain ⟨i0, hi, hz0, hz1, hz2⟩ := info_parts info
  obtain ⟨a, ca, rfl⟩ := h.shape
  have hl : zs.length = n * 3 := by simpa using h.1
  have H := Lib.hid h
  clear h
  go_enter Try.func20, Try.ntmps20
  go_wp2_with (at_make; refine wpList_make_full _ rfl _ _ 24 rfl w.heap.size 35 i0 (R 0 0 0) 3 Try.underlying24 hi hz0 hz1 _ _ _ _ n rfl rfl rfl rfl (by rw [hz2]; omega) (by unfold maxLen; omega) (Nat.le_refl _) ?_; intro w0 hown0 hg0)
  have hown0 : w0.ownsRow w.heap.size 35 3 (.slice (some ⟨w.heap.size, 0, none⟩) n n) n ((mid zs (n * 3) 0).map (Value.int .i64)) := by
    have e : (madeCells (R 0 0 0).cells (n * 3)).toList = (mid zs (n * 3) 0).map (Value.int .i64) := by
      rw [made_zero]; simp [mid]
    rw [← e]; exact hown0
  have B0 := below_grown hg0 (Nat.le_refl _) (by simp)
  clear hg0
  go_loopw [4] (fun i wr => ∃ k : Nat, k ≤ n ∧ i = .int .i64 k ∧ wr.ownsRow w.heap.size 35 3 (.slice (some ⟨w.heap.size, 0, none⟩) n n) n ((mid zs (n * 3) (k * 3)).map (Value.int .i64)) ∧ Below w.heap.size w wr)
    (fun i _ => n - (intOf i).toNat)
  case atStart => exact ⟨0, Nat.zero_le _, rfl, by simpa using hown0, B0⟩
  case round =>
    clear hown0 B0
    obtain ⟨k, hk, rfl, hown, hg⟩ := hrel
    by_cases hlt : k < n
    · obtain ⟨b1, o1, rfl, h1⟩ := (H.out.keep hg).at_ (by omega)
      obtain ⟨y0, hy0⟩ : ∃ y, zs.getD (k * 3) 0 = y := ⟨_, rfl⟩
      have g0 := h1 (k * 3) _ (getI (by omega))
      rw [hy0] at g0
      obtain ⟨y1, hy1⟩ : ∃ y, zs.getD (k * 3 + 1) 0 = y := ⟨_, rfl⟩
      have g1 := h1 (k * 3 + 1) _ (getI (by omega))
      rw [hy1, ← Nat.add_assoc] at g1
      obtain ⟨y2, hy2⟩ : ∃ y, zs.getD (k * 3 + 2) 0 = y := ⟨_, rfl⟩
      have g2 := h1 (k * 3 + 2) _ (getI (by omega))
      rw [hy2, ← Nat.add_assoc] at g2
      clear h1
      have HY0 := Lib.hid hy0
      clear hy0
      have HY1 := Lib.hid hy1
      clear hy1
      have HY2 := Lib.hid hy2
      clear hy2
      go_wp2_with fail
      refine (to_any _ _ _ _).mono ?_; rintro e w2 ⟨rfl, hb2⟩
      have hy0 := HY0.out
      have hy1 := HY1.out
      have hy2 := HY2.out
      have ho0 := own_below hown hb2
      have ho1 := own_set ho0 (g := w.heap.size) rfl (k * 3) (.int .i64 y0)
      rw [← hy0, mid_set hl (show k * 3 < n * 3 by omega), hy0] at ho1
      have ho2 := own_set ho1 (g := w.heap.size) rfl (k * 3 + 1) (.int .i64 y1)
      rw [← hy1, mid_set hl (show k * 3 + 1 < n * 3 by omega), hy1] at ho2
      have ho3 := own_set ho2 (g := w.heap.size) rfl (k * 3 + 2) (.int .i64 y2)
      rw [← hy2, mid_set hl (show k * 3 + 2 < n * 3 by omega), hy2] at ho3
      rw [show k * 3 + 2 + 1 = (k + 1) * 3 by omega] at ho3
      obtain ⟨u0, hu0⟩ : ∃ u, w2.cell? ⟨w.heap.size, k * 3, none⟩ = some (.int .i64 u) := ⟨_, own_cell ho0 (g := w.heap.size) rfl (k * 3) _ (getI (by rw [mid_len hl (by omega)]; omega))⟩
      have f0 := own_free ho0 (g := w.heap.size) rfl (k * 3)
      obtain ⟨u1, hu1⟩ : ∃ u, w2.cell? ⟨w.heap.size, k * 3 + 1, none⟩ = some (.int .i64 u) := ⟨_, own_cell ho0 (g := w.heap.size) rfl (k * 3 + 1) _ (getI (by rw [mid_len hl (by omega)]; omega))⟩
      have f1 := own_free ho0 (g := w.heap.size) rfl (k * 3 + 1)
      obtain ⟨u2, hu2⟩ : ∃ u, w2.cell? ⟨w.heap.size, k * 3 + 2, none⟩ = some (.int .i64 u) := ⟨_, own_cell ho0 (g := w.heap.size) rfl (k * 3 + 2) _ (getI (by rw [mid_len hl (by omega)]; omega))⟩
      have f2 := own_free ho0 (g := w.heap.size) rfl (k * 3 + 2)
      clear hy0
      clear hy1
      clear hy2
      have hB : Below w.heap.size w (((w2.setCell ⟨w.heap.size, k * 3, none⟩ (.int .i64 y0)).setCell ⟨w.heap.size, k * 3 + 1, none⟩ (.int .i64 y1)).setCell ⟨w.heap.size, k * 3 + 2, none⟩ (.int .i64 y2)) := ((((hg.trans (hb2.mono hg.size)).setCell (Nat.le_refl _) _).setCell (Nat.le_refl _) _).setCell (Nat.le_refl _) _)
      clear hown hg hb2 ho0 ho1 ho2 g0 g1 g2
      go_wp2
      go_roundw
      case rel => exact ⟨k + 1, by omega, by go_num, ho3, hB⟩
      case measure => simp [intOf]; omega
    · obtain rfl : k = n := by omega
      rw [mid_all hl] at hown
      go_wp2
      go_ret
      exact ⟨_, rfl, hown, hg⟩
theorem szS_yes (w : World) (a : Option Addr) (n ca : Nat) (L : Int) (h1 : n ≤ L) (h2 : L ≤ 1048576) :
    Calls Try.prog 18 #[.slice a n ca, .int .i64 L] w fun e w' => e = .returned (.int .i64 (L - n)) ∧ w = w' := by
  go_enter Try.func18, Try.ntmps18
  go_wp2
  go_ret
  exact ⟨rfl, rfl⟩
theorem szS_no (w : World) (a : Option Addr) (n ca : Nat) (L : Int) (h1 : L < n) (h2 : 0 ≤ L) (h3 : n ≤ 9223372036854775807) :
    Calls Try.prog 18 #[.slice a n ca, .int .i64 L] w fun e w' => e = .returned (.int .i64 (-1)) ∧ w = w' := by
  go_enter Try.func18, Try.ntmps18
  go_wp2
  go_ret
  exact ⟨rfl, rfl⟩
theorem eq_yes (w : World) (x0 x1 x2 : Int) : Calls Try.prog 49 #[R x0 x1 x2, R x0 x1 x2] w (Gives w (.bool true)) := by
  have HB : Below w.heap.size w ((w.alloc (.cells #[.int .i64 x0, .int .i64 x1, .int .i64 x2] TR)).alloc (.cells #[.int .i64 x0, .int .i64 x1, .int .i64 x2] TR)) := below_al (below_al (Below.refl _ _) _) _
  go_enter Try.func49, Try.ntmps49
  go_wp2_with fail
  refine (stFraction.eq_yes _ _ _).mono ?_; rintro e w1 ⟨rfl, hb⟩
  have B2 := below_step HB hb
  clear HB hb
  go_wp2
  go_ret
  exact ⟨rfl, B2⟩
set_option maxHeartbeats 1000000 in
theorem eqS_yes (w : World) (va vb : Value) (n : Nat) (zs : List Int) (hn : n ≤ 1048576) (ha : Row 3 w va n (zs.map (Value.int .i64))) (hb : Row 3 w vb n (zs.map (Value.int .i64))) :
    Calls Try.prog 21 #[va, vb] w (Gives w (.bool true)) := by
  obtain ⟨a, ca, rfl⟩ := ha.shape
  obtain ⟨b, cb, rfl⟩ := hb.shape
  have hl : zs.length = n * 3 := by simpa using ha.1
  have HA := Lib.hid ha
  have HB := Lib.hid hb
  clear ha hb
  go_enter Try.func21, Try.ntmps21
  go_wp2
  go_loopw [5] (fun i wr => ∃ k : Nat, k ≤ n ∧ i = .int .i64 k ∧ Below w.heap.size w wr) (fun i _ => n - (intOf i).toNat)
  case atStart => exact ⟨0, Nat.zero_le _, rfl, Below.refl _ _⟩
  case round =>
    obtain ⟨k, hk, rfl, hg⟩ := hrel
    by_cases hlt : k < n
    · obtain ⟨b1, o1, rfl, h1⟩ := (HA.out.keep hg).at_ (by omega)
      obtain ⟨b2, o2, rfl, h2⟩ := (HB.out.keep hg).at_ (by omega)
      obtain ⟨y0, hy0⟩ : ∃ y, zs.getD (k * 3) 0 = y := ⟨_, rfl⟩
      have g0 := h1 (k * 3) _ (getI (by omega))
      have e0 := h2 (k * 3) _ (getI (by omega))
      rw [hy0] at g0 e0
      clear hy0
      obtain ⟨y1, hy1⟩ : ∃ y, zs.getD (k * 3 + 1) 0 = y := ⟨_, rfl⟩
      have g1 := h1 (k * 3 + 1) _ (getI (by omega))
      have e1 := h2 (k * 3 + 1) _ (getI (by omega))
      rw [hy1, ← Nat.add_assoc] at g1 e1
      clear hy1
      obtain ⟨y2, hy2⟩ : ∃ y, zs.getD (k * 3 + 2) 0 = y := ⟨_, rfl⟩
      have g2 := h1 (k * 3 + 2) _ (getI (by omega))
      have e2 := h2 (k * 3 + 2) _ (getI (by omega))
      rw [hy2, ← Nat.add_assoc] at g2 e2
      clear hy2
      clear h1 h2
      have i0 : (0 : Int) ≤ (k : Int) := by omega
      have i1 : (k : Int) < (n : Int) := by omega
      go_wp2
      go_region_held3 (fun W => W.cell? ⟨b1, o1 + k * 3, none⟩ = some (.int .i64 y0) ∧ W.cell? ⟨b1, o1 + k * 3 + 1, none⟩ = some (.int .i64 y1) ∧ W.cell? ⟨b1, o1 + k * 3 + 2, none⟩ = some (.int .i64 y2) ∧ W.cell? ⟨b2, o2 + k * 3, none⟩ = some (.int .i64 y0) ∧ W.cell? ⟨b2, o2 + k * 3 + 1, none⟩ = some (.int .i64 y1) ∧ W.cell? ⟨b2, o2 + k * 3 + 2, none⟩ = some (.int .i64 y2)) (first | assumption | exact ⟨g0, g1, g2, e0, e1, e2⟩ | exact keep6 (by assumption) (by assumption) | fail)
        (first
          | (go_at_call 49; refine (eq_yes _ _ _ _).mono ?_; rintro e w2 ⟨rfl, hb2⟩)
          | fail)
      all_goals
        have B2 := below_step (below_dr hg) hb2
        clear hb2 hg g0 e0 g1 e1 g2 e2
        go_wp2
        go_roundw
        case rel => exact ⟨k + 1, by omega, by go_num, B2⟩
        case measure => simp [intOf]; omega
    · go_wp2
      go_ret
      exact ⟨rfl, hg⟩
/-- 'append(out, x)' onto a row of them that the call owns: the new element lies in the block that was made last. -/
theorem app (wr : World) {B : TypeId} {ops : Array Oper} {rest : List Oper} {o : Oper} {a : Act} {Q : Exit → Act → World → Prop} (hgd : o.guard = none) (s x : Operand)
    (ho : o.op = .call { callee := .builtin .append, args := #[s, x], argTypes := #[24, 24] })
    (base : Nat) {v : Value} {n : Nat} {zs : List Int} (x0 x1 x2 : Int) (hown : wr.ownsRow base 35 3 v n (zs.map (Value.int .i64))) (hs : a.eval s = v)
    (Hs : Nat) (hH : wr.heap.size = Hs) (hx : a.eval x = .slice (some ⟨Hs, 0, none⟩) 1 1) (hn : n ≤ 1000000000) (hb : base ≤ wr.heap.size)
    (h : ∀ v' w1, w1.ownsRow base 35 3 v' (n + 1) ((zs ++ [x0, x1, x2]).map (Value.int .i64)) → wr.grownBy w1 v.ownBlock → wpList Try.prog ops Q rest (a.put o.dst v') w1) :
    wpList Try.prog ops Q (o :: rest) a (wr.alloc (.cells #[.int .i64 x0, .int .i64 x1, .int .i64 x2] B)) := by
  subst hH
  obtain ⟨i0, hi, hz0, hz1, hz2⟩ := info_parts info
  refine wpList_append_own _ hgd s x 24 ho base 35 i0 (R 0 0 0) 3 24 Try.underlying24 hi hz0 hz1 hz2 rfl (by decide) v n (zs.map (Value.int .i64)) hs (hown.alloc _) ⟨wr.heap.size, 0, none⟩ 1 1 [.int .i64 x0, .int .i64 x1, .int .i64 x2] hx rfl
    (World.news_of_block (heap_alloc_new wr _)) (by simp [Value.oneCell']) (by unfold maxLen; omega) (by omega) (by simp; omega) ?_
  intro v' w1 hown1 hg _
  exact h v' w1 (by simpa using hown1) (grown_trans (World.grownBy_alloc wr _ _) hg)
theorem appR (W : World) {B : TypeId} {ops : Array Oper} {o : Oper} {a : Act} {K : Act → World → Prop} {Q : Exit → Act → World → Prop} {E : Prop} (hgd : o.guard = none) (s x : Operand)
    (ho : o.op = .call { callee := .builtin .append, args := #[s, x], argTypes := #[24, 24] })
    (base : Nat) {v : Value} {n : Nat} {zs : List Int} (x0 x1 x2 : Int) (hown : W.ownsRow base 35 3 v n (zs.map (Value.int .i64))) (hs : a.eval s = v)
    (Hs : Nat) (hH : W.heap.size = Hs) (hx : a.eval x = .slice (some ⟨Hs, 0, none⟩) 1 1) (hn : n ≤ 1000000000) (hb : base ≤ W.heap.size)
    (h : ∀ v' w1, w1.ownsRow base 35 3 v' (n + 1) ((zs ++ [x0, x1, x2]).map (Value.int .i64)) → W.grownBy w1 v.ownBlock → K (a.put o.dst v') w1) :
    if Region.wanted o (yielded ops a.tmps) = true then Oper.wp Try.prog o a (W.alloc (.cells #[.int .i64 x0, .int .i64 x1, .int .i64 x2] B)) K Q else E := by
  subst hH
  obtain ⟨i0, hi, hz0, hz1, hz2⟩ := info_parts info
  refine step_append_lies _ hgd s x 24 ho base 35 i0 (R 0 0 0) 3 24 Try.underlying24 hi hz0 hz1 hz2 rfl (by decide) v n (zs.map (Value.int .i64)) hs (hown.alloc _) ⟨W.heap.size, 0, none⟩ 1 1 [.int .i64 x0, .int .i64 x1, .int .i64 x2] hx rfl
    (World.news_of_block (heap_alloc_new W _)) (by simp [Value.oneCell']) (by decide) (by unfold maxLen; omega) (by omega) (by simp; omega) _ rfl ?_
  intro g cap w1 hown1 hg _ _
  exact h _ w1 (by simpa using hown1) (grown_trans (World.grownBy_alloc W _ _) hg)
theorem marks_setT (k i : Nat) (xs : List Value) (T : Int) (hT : T = ((k + i : Nat) : Int)) (h : i < xs.length) : (marks k i ++ xs.drop i).set i (.int .i64 T) = marks k (i + 1) ++ xs.drop (i + 1) := by
  subst hT; exact marks_set k i xs h
theorem markS_any (w : World) (base : Nat) (v : Value) (n : Nat) (xs : List Value) (k : Nat) (K : Int) (hK : K = k) (hk : k + n * 3 ≤ 4611686018427387904) (hown : w.ownsRow base 35 3 v n xs) :
    Calls Try.prog 26 #[v, .int .i64 K] w fun e w' => e = .returned (.int .i64 (K + (n * 3 : Nat))) ∧ w'.ownsRow base 35 3 v n (marks k (n * 3)) ∧ w.grownBy w' v.ownBlock := by
  subst hK
  have hlen : xs.length = n * 3 := by simpa using hown.1
  obtain ⟨a, cp, rfl⟩ := own_shape hown
  go_enter Try.func26, Try.ntmps26
  go_wp2
  go_loopw [1, 5] (fun t i wr => ∃ j : Nat, j ≤ n ∧ i = .int .i64 j ∧ t = .int .i64 ((k + j * 3 : Nat) : Int) ∧ wr.ownsRow base 35 3 (.slice a n cp) n (marks k (j * 3) ++ xs.drop (j * 3)) ∧ w.grownBy wr (Value.slice a n cp).ownBlock)
    (fun _ i _ => n - (intOf i).toNat)
  case atStart => exact ⟨0, Nat.zero_le _, rfl, by simp, by simpa [marks] using hown, grown_refl _ _⟩
  case round =>
    clear hown
    obtain ⟨j, hj, rfl, rfl, ho0, hg⟩ := hrel
    obtain ⟨T, hT⟩ : ∃ T : Int, ((k + j * 3 : Nat) : Int) = T := ⟨_, rfl⟩
    rw [hT]
    by_cases hlt : j < n
    · obtain ⟨g, cap, e, hg1, hg2⟩ := own_some ho0 (by omega)
      cases e
      obtain ⟨u0, hu0⟩ : ∃ u, wr.cell? ⟨g, j * 3, none⟩ = some u := by
        obtain ⟨u, hu⟩ : ∃ u, (marks k (j * 3) ++ xs.drop (j * 3))[j * 3]? = some u := ⟨_, List.getElem?_eq_getElem (by simp [marks_len]; omega)⟩
        exact ⟨u, own_cell ho0 (g := g) rfl (j * 3) u hu⟩
      have f0 := own_free ho0 (g := g) rfl (j * 3)
      obtain ⟨u1, hu1⟩ : ∃ u, wr.cell? ⟨g, j * 3 + 1, none⟩ = some u := by
        obtain ⟨u, hu⟩ : ∃ u, (marks k (j * 3) ++ xs.drop (j * 3))[j * 3 + 1]? = some u := ⟨_, List.getElem?_eq_getElem (by simp [marks_len]; omega)⟩
        exact ⟨u, own_cell ho0 (g := g) rfl (j * 3 + 1) u hu⟩
      have f1 := own_free ho0 (g := g) rfl (j * 3 + 1)
      obtain ⟨u2, hu2⟩ : ∃ u, wr.cell? ⟨g, j * 3 + 2, none⟩ = some u := by
        obtain ⟨u, hu⟩ : ∃ u, (marks k (j * 3) ++ xs.drop (j * 3))[j * 3 + 2]? = some u := ⟨_, List.getElem?_eq_getElem (by simp [marks_len]; omega)⟩
        exact ⟨u, own_cell ho0 (g := g) rfl (j * 3 + 2) u hu⟩
      have f2 := own_free ho0 (g := g) rfl (j * 3 + 2)
      have ho1 := own_set ho0 (g := g) rfl (j * 3) (.int .i64 T)
      rw [marks_setT k (j * 3) xs _ (by omega) (by omega)] at ho1
      have ho2 := own_set ho1 (g := g) rfl (j * 3 + 1) (.int .i64 (T + 1))
      rw [marks_setT k (j * 3 + 1) xs _ (by omega) (by omega)] at ho2
      have ho3 := own_set ho2 (g := g) rfl (j * 3 + 2) (.int .i64 (T + 2))
      rw [marks_setT k (j * 3 + 2) xs _ (by omega) (by omega)] at ho3
      rw [show j * 3 + 2 + 1 = (j + 1) * 3 by omega] at ho3
      have e0 : IntKind.i64.wrap (T + 1) = T + 1 := IntWalk.i64_in _ (by omega)
      have e1 : IntKind.i64.wrap (T + 1 + 1) = T + 2 := by rw [show T + 1 + 1 = T + 2 by omega]; exact IntWalk.i64_in _ (by omega)
      have e2 : IntKind.i64.wrap (T + 2 + 1) = T + 3 := by rw [show T + 2 + 1 = T + 3 by omega]; exact IntWalk.i64_in _ (by omega)
      have hg3 := (grown_setCell (grown_setCell (grown_setCell hg (j * 3) none (.int .i64 T)) (j * 3 + 1) none (.int .i64 (T + 1))) (j * 3 + 2) none (.int .i64 (T + 2)))
      have HT := Lib.hid hT
      clear ho0 hg hT
      go_wp2
      go_roundw
      case rel =>
        refine ⟨j + 1, by omega, by go_num, ?_, ho3, hg3⟩
        have := HT.out
        exact congrArg _ (by omega)
      case measure => simp [intOf]; omega
    · obtain rfl : j = n := by omega
      have HT := Lib.hid hT
      clear hT
      go_wp2
      go_ret
      refine ⟨ret_int (by have := HT.out; omega), ?_, hg⟩
      rw [List.drop_of_length_le (by omega), List.append_nil] at ho0
      exact ho0
theorem markS_own (w : World) (lo hi : Nat) (v : Value) (n : Nat) (xs : List Value) (k : Nat) (K : Int) (hK : K = k) (hk : k + n * 3 ≤ 4611686018427387904) (h : OwnR w lo hi 35 3 v n xs) :
    Calls Try.prog 26 #[v, .int .i64 K] w (MarkR lo hi 35 3 v n (marks k (n * 3)) (K + (n * 3 : Nat)) w) :=
  (markS_any w lo v n xs k K hK hk h.1).mono fun _ _ ⟨he, ho, hg⟩ => ⟨he, ⟨ho, h.2.1, Nat.le_trans h.2.2 hg.size⟩, .of_grown hg (fun b hb => ⟨(h.1.lt b hb).1, h.2.1 b hb⟩)⟩
theorem heldS_gives (w : World) (v : Value) (n k : Nat) (K : Int) (hK : K = k) (hk : k + n * 3 ≤ 4611686018427387904) (h : Row 3 w v n (marks k (n * 3))) :
    Calls Try.prog 31 #[v, .int .i64 K] w (Gives w (.int .i64 (K + (n * 3 : Nat)))) := by
  subst hK
  obtain ⟨_, a, ca, rfl, ha⟩ := h
  go_enter Try.func31, Try.ntmps31
  go_wp2
  go_loop [1, 5] (fun t i => ∃ j : Nat, j ≤ n ∧ i = .int .i64 j ∧ t = .int .i64 ((k + j * 3 : Nat) : Int))
    (fun _ i => n - (intOf i).toNat)
  case atStart => exact ⟨0, Nat.zero_le _, rfl, by simp⟩
  case round =>
    obtain ⟨j, hj, rfl, rfl⟩ := hrel
    obtain ⟨T, hT⟩ : ∃ T : Int, ((k + j * 3 : Nat) : Int) = T := ⟨_, rfl⟩
    rw [hT]
    by_cases hlt : j < n
    · obtain ⟨b1, o1, rfl, h1⟩ := ha.resolve_left (by omega)
      have g0 := h1 (j * 3) _ (marks_at k (n * 3) (j * 3) (by omega))
      rw [show ((k + (j * 3) : Nat) : Int) = T by omega] at g0
      have g1 := h1 (j * 3 + 1) _ (marks_at k (n * 3) (j * 3 + 1) (by omega))
      rw [show ((k + (j * 3 + 1) : Nat) : Int) = T + 1 by omega, ← Nat.add_assoc] at g1
      have g2 := h1 (j * 3 + 2) _ (marks_at k (n * 3) (j * 3 + 2) (by omega))
      rw [show ((k + (j * 3 + 2) : Nat) : Int) = T + 2 by omega, ← Nat.add_assoc] at g2
      have e0 : IntKind.i64.wrap (T + 1) = T + 1 := IntWalk.i64_in _ (by omega)
      have e1 : IntKind.i64.wrap (T + 1 + 1) = T + 2 := by rw [show T + 1 + 1 = T + 2 by omega]; exact IntWalk.i64_in _ (by omega)
      have e2 : IntKind.i64.wrap (T + 2 + 1) = T + 3 := by rw [show T + 2 + 1 = T + 3 by omega]; exact IntWalk.i64_in _ (by omega)
      have HT := Lib.hid hT
      clear h1 ha hT
      go_wp2
      go_round
      case rel =>
        refine ⟨j + 1, by omega, by go_num, ?_⟩
        have := HT.out
        exact congrArg _ (by omega)
      case measure => simp [intOf]; omega
    · obtain rfl : j = n := by omega
      have HT := Lib.hid hT
      clear hT
      go_wp2
      go_ret
      exact ⟨ret_int (by have := HT.out; omega), Below.refl _ _⟩
section
open Go.ChangeShapes Go.WideShapes Go.Deep Go.Proofs.Ytopbeacfljoacaa.opens
variable {H : Type} {enc : TypeId × Value → H} {w : World} {base : Nat} {spare : Nat → Bool} {held : Bool}
theorem cells_law : Try.prog.cellsOf 66 = 3 := by kernel_rfl
theorem cells_int : Try.prog.cellsOf 3 = 1 := by kernel_rfl
set_option maxRecDepth 100000 in
theorem flat : Flat enc Try.prog w base spare held 66 := by
  refine Flat.struct Try.underlying66 fun q hq => ?_
  rw [cells_law] at hq
  match q, hq with
  | 0, _ => exact ⟨0, _, rfl, Nat.le_refl _, by show 0 < 0 + Try.prog.cellsOf 3; rw [cells_int]; decide, Flat.int Try.underlying3⟩
  | 1, _ => exact ⟨1, _, rfl, Nat.le_refl _, by show 1 < 1 + Try.prog.cellsOf 50; rw [stFraction.cells_law]; decide, stFraction.flat⟩
  | 2, _ => exact ⟨1, _, rfl, by decide, by show 2 < 1 + Try.prog.cellsOf 50; rw [stFraction.cells_law]; decide, stFraction.flat⟩
set_option maxRecDepth 100000 in
/-- The struct by value, opened. -/
theorem open_ {r : Reach} {b0 : Nat} {v : Value} {d : DataW H} {p : List MemPlace} (hv : Value.okWide Try.prog w r b0 66 v) (h : DataW.Trod enc Try.prog w base spare held 66 v d p) :
    ∃ x0 x1 x2 : Int, v = R x0 x1 x2 ∧ (Lit.int .i64 x0).wf = true ∧ (Lit.int .i64 x1).wf = true ∧ (Lit.int .i64 x2).wf = true := by
  obtain ⟨cs, rfl, hs, zs, hz, hw⟩ := agg_of Try.underlying66 flat hv h
  rw [cells_law] at hs
  obtain ⟨l⟩ := cs
  match l, hs, zs, hz, hw with
  | [c0, c1, c2], _, [x0, x1, x2], hz, hw =>
    simp [Value.cells] at hz
    obtain ⟨rfl, rfl, rfl⟩ := hz
    exact ⟨x0, x1, x2, rfl, hw _ (by simp), hw _ (by simp), hw _ (by simp)⟩
set_option maxRecDepth 100000 in
/-- A slice of them, opened. -/
theorem openS {v : Value} {d : DataW H} {p : List MemPlace} {r : Reach} {b0 : Nat} (hv : Value.okWide Try.prog w r b0 40 v) (h : DataW.Trod enc Try.prog w base spare held 40 v d p) :
    ∃ (n : Nat) (zs : List Int), Row 3 w v n (zs.map (Value.int .i64)) ∧ n ≤ 9223372036854775807 := by
  obtain ⟨a, len, cap, rfl⟩ := okWide_slice Try.underlying40 hv
  obtain ⟨fuel, hf⟩ := h
  obtain ⟨a', len', cap', zs, hcs, hr, hm, _, _⟩ := rows_of Try.underlying40 3 (by decide) cells_law flat hf
  simp [Value.cells] at hcs
  obtain ⟨rfl, rfl, rfl⟩ := hcs
  exact ⟨len, zs, hr, hm⟩
end
end Go.Proofs.Ytopbeacfljoacaa.stRight
