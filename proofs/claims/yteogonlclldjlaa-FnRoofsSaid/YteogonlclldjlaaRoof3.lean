/- The contracts of the functions on roofs: days, and the better roof. -/
import Derived.Test.YteogonlclldjlaaRoof2
import Derived.Test.YteogonlclldjlaaRain2
import Derived.StillTailTactics
import Derived.Deep.RegionHeld3
namespace Go.Proofs.Yteogonlclldjlaa.roof
open Go.RowKit Go.Proofs.Yteogonlclldjlaa.kit Go.Proofs.Yteogonlclldjlaa.lawi Go.Proofs.Yteogonlclldjlaa.rainl Go.Proofs.Yteogonlclldjlaa.rain Go.Proofs.Yteogonlclldjlaa.plain
theorem cmp_nan (w : World) (x : Int) : Calls Try.prog 52 #[.int .i64 x] w fun e w' => e = .returned (.bool false) ∧ w = w' := by
  go_enter Try.func52, Try.ntmps52
  go_wp2
  go_ret
  exact ⟨rfl, rfl⟩
/-- The sign of a comparison. -/
def sgn (x y : Int) : Int := if x < y then -1 else if y < x then 1 else 0
theorem cmp_any (w : World) (x y : Int) : Calls Try.prog 44 #[.int .i64 x, .int .i64 y] w fun e w' => e = .returned (.int .i64 (sgn x y)) ∧ w = w' := by
  by_cases h1 : x < y
  · go_enter Try.func44, Try.ntmps44
    go_wp2_with fail
    refine (cmp_nan _ _).mono ?_; rintro e w1 ⟨rfl, rfl⟩
    go_wp2_with fail
    refine (cmp_nan _ _).mono ?_; rintro e w1 ⟨rfl, rfl⟩
    go_wp2
    go_ret
    exact ⟨ret_int (by unfold sgn; rw [if_pos h1]), rfl⟩
  · by_cases h2 : y < x
    · go_enter Try.func44, Try.ntmps44
      go_wp2_with fail
      refine (cmp_nan _ _).mono ?_; rintro e w1 ⟨rfl, rfl⟩
      go_wp2_with fail
      refine (cmp_nan _ _).mono ?_; rintro e w1 ⟨rfl, rfl⟩
      go_wp2
      go_ret
      exact ⟨ret_int (by unfold sgn; rw [if_neg (by omega), if_pos h2]), rfl⟩
    · go_enter Try.func44, Try.ntmps44
      go_wp2_with fail
      refine (cmp_nan _ _).mono ?_; rintro e w1 ⟨rfl, rfl⟩
      go_wp2_with fail
      refine (cmp_nan _ _).mono ?_; rintro e w1 ⟨rfl, rfl⟩
      go_wp2
      go_ret
      exact ⟨ret_int (by unfold sgn; rw [if_neg (by omega), if_neg (by omega)]), rfl⟩
theorem impl_better_yes (w : World) (a p b q : Int) (h1 : ROk a p) (h2 : ROk b q) : Calls Try.prog 19 #[R a p, R b q] w (Gives w (.int .i64 (sgn (b * q) (a * p)))) := by
  have m1 := h1.pr
  have m2 := h2.pr
  go_enter Try.func19, Try.ntmps19
  go_wp2_with fail
  refine (impl_valid_yes _ _ _ h1).mono ?_; rintro e w1 ⟨rfl, hb1⟩
  obtain ⟨hc, hf⟩ := bcell hb1
  go_wp2_with fail
  refine (impl_valid_yes _ _ _ h2).mono ?_; rintro e w2 ⟨rfl, hb2⟩
  obtain ⟨hc2, hf2⟩ := bcell hb2
  have x1 := ((Blk.new w 27 #[.int .i64 a, .int .i64 p]).alloc (.cells #[.int .i64 b, .int .i64 q] 27)).step hb1 |>.step hb2
  have x2 := (Blk.new1 w 27 #[.int .i64 b, .int .i64 q] (.cells #[.int .i64 a, .int .i64 p] 27)).step hb1 |>.step hb2
  have q0 : w2.cell? ⟨w.heap.size, 0, none⟩ = some (.int .i64 a) := x1.cell 0
  have q1 : w2.cell? ⟨w.heap.size, 1, none⟩ = some (.int .i64 p) := x1.cell 1
  have q2 : w2.cell? ⟨w.heap.size + 1, 0, none⟩ = some (.int .i64 b) := x2.cell 0
  have q3 : w2.cell? ⟨w.heap.size + 1, 1, none⟩ = some (.int .i64 q) := x2.cell 1
  have z3 : w.heap.size + 2 ≤ w2.heap.size := by have := x2.lt; omega
  clear hc hf hc2 hf2 x1 x2
  go_wp2
  go_region_held3 (fun W => W.cell? ⟨w.heap.size, 0, none⟩ = some (.int .i64 a) ∧ W.cell? ⟨w.heap.size, 1, none⟩ = some (.int .i64 p) ∧ W.cell? ⟨w.heap.size + 1, 0, none⟩ = some (.int .i64 b) ∧ W.cell? ⟨w.heap.size + 1, 1, none⟩ = some (.int .i64 q)) (first | go_keep | exact keep4 (by assumption) (by assumption))
    (first
      | (go_at_call 45; refine (impl_strength _ _ _ (by omega) (by omega)).mono ?_; rintro e w' ⟨rfl, hb⟩)
      | (go_at_call 44; refine (cmp_any _ _ _).mono ?_; rintro e w' ⟨rfl, rfl⟩)
      | fail)
  all_goals
    go_wp2
    go_ret
    refine ⟨rfl, ?_⟩
    repeat (first | exact Below.refl _ _ | refine below_al ?_ _ | refine below_dr ?_ | refine below_step ?_ (by assumption) | fail)
theorem impl_better_no (w : World) (a p b q : Int) (h : ¬ (ROk a p ∧ ROk b q)) : Calls Try.prog 19 #[R a p, R b q] w (Gives w (.int .i64 0)) := by
  by_cases h1 : ROk a p
  · have h2 : ¬ ROk b q := fun h2 => h ⟨h1, h2⟩
    clear h
    go_enter Try.func19, Try.ntmps19
    go_wp2_with fail
    refine (impl_valid_yes _ _ _ h1).mono ?_; rintro e w1 ⟨rfl, hb1⟩
    obtain ⟨hc, hf⟩ := bcell hb1
    go_wp2_with fail
    refine (impl_valid_no _ _ _ h2).mono ?_; rintro e w2 ⟨rfl, hb2⟩
    go_wp2
    go_ret
    exact ⟨rfl, below_step (below_step (below_al (below_al (Below.refl _ _) _) _) hb1) hb2⟩
  · clear h
    go_enter Try.func19, Try.ntmps19
    go_wp2_with fail
    refine (impl_valid_no _ _ _ h1).mono ?_; rintro e w1 ⟨rfl, hb1⟩
    go_wp2
    go_ret
    exact ⟨rfl, below_step (below_al (below_al (Below.refl _ _) _) _) hb1⟩
theorem spec_better_yes (w : World) (a p b q : Int) (h1 : ROk a p) (h2 : ROk b q) : Calls Try.prog 35 #[R a p, R b q] w (Gives w (.int .i64 (sgn (b * q) (a * p)))) := by
  have m1 := h1.pr
  have m2 := h2.pr
  rcases Int.lt_trichotomy (a * p) (b * q) with hlt | heq | hlt
  · have d1 : decide (b * q < a * p) = false := decide_eq_false (by omega)
    have d2 : (a * p == b * q) = false := by rw [beq_eq_false_iff_ne]; omega
    go_enter Try.func35, Try.ntmps35
    go_wp2_with fail
    refine (spec_rok_yes _ _ _ h1).mono ?_; rintro e w1 ⟨rfl, hb1⟩
    have x1 := ((Blk.new w 27 #[.int .i64 a, .int .i64 p]).alloc (.cells #[.int .i64 b, .int .i64 q] 27)).step hb1
    have x2 := (Blk.new1 w 27 #[.int .i64 b, .int .i64 q] (.cells #[.int .i64 a, .int .i64 p] 27)).step hb1
    have q0 := x1.cell 0; have q1 := x1.cell 1; have q2 := x2.cell 0; have q3 := x2.cell 1
    go_wp2_with fail
    refine (spec_rok_yes _ _ _ h2).mono ?_; rintro e w2 ⟨rfl, hb2⟩
    have q0' := keep1 q0 hb2; have q1' := keep1 q1 hb2; have q2' := keep1 q2 hb2; have q3' := keep1 q3 hb2
    go_wp2
    go_ret
    exact ⟨ret_int (by unfold sgn; rw [if_neg (by omega), if_pos hlt]), below_step (below_step (below_al (below_al (Below.refl _ _) _) _) hb1) hb2⟩
  · have d2 : (a * p == b * q) = true := by rw [beq_iff_eq]; exact heq
    have HE := Lib.hid heq
    clear heq
    go_enter Try.func35, Try.ntmps35
    go_wp2_with fail
    refine (spec_rok_yes _ _ _ h1).mono ?_; rintro e w1 ⟨rfl, hb1⟩
    have x1 := ((Blk.new w 27 #[.int .i64 a, .int .i64 p]).alloc (.cells #[.int .i64 b, .int .i64 q] 27)).step hb1
    have x2 := (Blk.new1 w 27 #[.int .i64 b, .int .i64 q] (.cells #[.int .i64 a, .int .i64 p] 27)).step hb1
    have q0 := x1.cell 0; have q1 := x1.cell 1; have q2 := x2.cell 0; have q3 := x2.cell 1
    go_wp2_with fail
    refine (spec_rok_yes _ _ _ h2).mono ?_; rintro e w2 ⟨rfl, hb2⟩
    have q0' := keep1 q0 hb2; have q1' := keep1 q1 hb2; have q2' := keep1 q2 hb2; have q3' := keep1 q3 hb2
    go_wp2
    go_ret
    exact ⟨ret_int (by unfold sgn; rw [HE.out, if_neg (by omega), if_neg (by omega)]), below_step (below_step (below_al (below_al (Below.refl _ _) _) _) hb1) hb2⟩
  · have d1 : decide (b * q < a * p) = true := decide_eq_true hlt
    have d2 : (a * p == b * q) = false := by rw [beq_eq_false_iff_ne]; omega
    go_enter Try.func35, Try.ntmps35
    go_wp2_with fail
    refine (spec_rok_yes _ _ _ h1).mono ?_; rintro e w1 ⟨rfl, hb1⟩
    have x1 := ((Blk.new w 27 #[.int .i64 a, .int .i64 p]).alloc (.cells #[.int .i64 b, .int .i64 q] 27)).step hb1
    have x2 := (Blk.new1 w 27 #[.int .i64 b, .int .i64 q] (.cells #[.int .i64 a, .int .i64 p] 27)).step hb1
    have q0 := x1.cell 0; have q1 := x1.cell 1; have q2 := x2.cell 0; have q3 := x2.cell 1
    go_wp2_with fail
    refine (spec_rok_yes _ _ _ h2).mono ?_; rintro e w2 ⟨rfl, hb2⟩
    have q0' := keep1 q0 hb2; have q1' := keep1 q1 hb2; have q2' := keep1 q2 hb2; have q3' := keep1 q3 hb2
    go_wp2
    go_ret
    exact ⟨ret_int (by unfold sgn; rw [if_pos hlt]), below_step (below_step (below_al (below_al (Below.refl _ _) _) _) hb1) hb2⟩
theorem spec_better_no (w : World) (a p b q : Int) (h : ¬ (ROk a p ∧ ROk b q)) : Calls Try.prog 35 #[R a p, R b q] w (Gives w (.int .i64 0)) := by
  by_cases h1 : ROk a p
  · have h2 : ¬ ROk b q := fun h2 => h ⟨h1, h2⟩
    clear h
    go_enter Try.func35, Try.ntmps35
    go_wp2_with fail
    refine (spec_rok_yes _ _ _ h1).mono ?_; rintro e w1 ⟨rfl, hb1⟩
    have x2 := (Blk.new1 w 27 #[.int .i64 b, .int .i64 q] (.cells #[.int .i64 a, .int .i64 p] 27)).step hb1
    have q2 := x2.cell 0; have q3 := x2.cell 1
    go_wp2_with fail
    refine (spec_rok_no _ _ _ h2).mono ?_; rintro e w2 ⟨rfl, hb2⟩
    go_wp2
    go_ret
    exact ⟨rfl, below_step (below_step (below_al (below_al (Below.refl _ _) _) _) hb1) hb2⟩
  · clear h
    go_enter Try.func35, Try.ntmps35
    go_wp2_with fail
    refine (spec_rok_no _ _ _ h1).mono ?_; rintro e w1 ⟨rfl, hb1⟩
    go_wp2
    go_ret
    exact ⟨rfl, below_step (below_al (below_al (Below.refl _ _) _) _) hb1⟩
/-- app1, inside a region. -/
theorem app1R (W : World) {T : TypeId} {ops : Array Oper} {o : Oper} {a : Act} {K : Act → World → Prop} {Q : Exit → Act → World → Prop} {E : Prop} (hgd : o.guard = none) (s x : Operand)
    (ho : o.op = .call { callee := .builtin .append, args := #[s, x], argTypes := #[32, 32] })
    (base : Nat) {v : Value} {n : Nat} {zs : List Int} (z : Int) (hown : W.ownsRow base 3 1 v n (zs.map (Value.int .i64))) (hs : a.eval s = v)
    (hx : a.eval x = .slice (some ⟨W.heap.size, 0, none⟩) 1 1) (hn : n ≤ 1000000000000) (hb : base ≤ W.heap.size)
    (h : ∀ v' w1, w1.ownsRow base 3 1 v' (n + 1) ((zs ++ [z]).map (Value.int .i64)) → W.grownBy w1 v.ownBlock → K (a.put o.dst v') w1) :
    if Region.wanted o (yielded ops a.tmps) = true then Oper.wp Try.prog o a (W.alloc (.cells #[.int .i64 z] T)) K Q else E := by
  obtain ⟨i0, hi, hz0, hz1, hz2⟩ := info_parts infoI
  refine step_append_lies _ hgd s x 32 ho base 3 i0 (.int .i64 0) 1 8 Try.underlying32 hi hz0 hz1 hz2 rfl (by decide) v n (zs.map (Value.int .i64)) hs (hown.alloc _) ⟨W.heap.size, 0, none⟩ 1 1 [.int .i64 z] hx rfl
    (World.news_of_block (heap_alloc_new W _)) (by simp [Value.oneCell']) (by decide) (by unfold maxLen; omega) (by omega) (by simp; omega) _ rfl ?_
  intro g cap w1 hown1 hg _ _
  exact h _ w1 (by simpa using hown1) (grown_trans (World.grownBy_alloc W _ _) hg)
theorem keepg1 {W0 W w' : World} {p : Addr} {u v : Value} {base e sz n : Nat} {xs : List Value} (h : W.cell? p = some u) (hg : W.grownBy w' v.ownBlock) (hown : W0.ownsRow base e sz v n xs) (hp : p.block < base) : w'.cell? p = some u :=
  hg.cell h (fun e => by have := (hown.lt _ e.symm).1; omega)
/-- What the roof catches on each day. -/
def cds (a p : Int) (zs : List Int) (n : Nat) : List Int := (List.range n).map fun k => cat a p (zs.getD k 0)
theorem cds_len (a p : Int) (zs : List Int) (n : Nat) : (cds a p zs n).length = n := by simp [cds]
theorem cds_at (a p : Int) (zs : List Int) (n k : Nat) (h : k < n) : (cds a p zs n).getD k 0 = cat a p (zs.getD k 0) := by simp [cds, List.getD_eq_getElem?_getD, h]
theorem cds_succ (a p : Int) (zs : List Int) (n : Nat) : cds a p zs (n + 1) = cds a p zs n ++ [cat a p (zs.getD n 0)] := by simp [cds, List.range_succ]
/-- Half-filled rows of n numbers. -/
def half (xs : List Int) (n k : Nat) : List Int := xs.take k ++ List.replicate (n - k) 0
theorem half_len {xs : List Int} {n k : Nat} (hx : xs.length = n) (hk : k ≤ n) : (half xs n k).length = n := by simp [half]; omega
set_option maxHeartbeats 1000000 in
theorem impl_days_yes (w : World) (a p : Int) (v : Value) (n : Nat) (zs : List Int) (hr : ROk a p) (h : Row 1 w v n (IV zs)) (ok : Ok zs) :
    Calls Try.prog 17 #[R a p, v] w (Got w n (cds a p zs n)) := by
  obtain ⟨i0, hi, hz0, hz1, hz2⟩ := info_parts infoI
  have hp := hr.pr
  obtain ⟨sa, ca, rfl⟩ := h.shape
  have hl : zs.length = n := by simpa using h.1
  have hn2 : n ≤ 400 := hl ▸ ok.2.1
  have hcl := cds_len a p zs n
  go_enter Try.func17, Try.ntmps17
  go_wp2_with fail
  refine (impl_valid_yes _ _ _ hr).mono ?_; rintro e w1 ⟨rfl, hb1⟩
  have x1 := (Blk.new w 27 #[.int .i64 a, .int .i64 p]).step hb1
  have hB : Below w.heap.size w w1 := below_step (below_al (Below.refl _ _) _) hb1
  have h' := h.keep hB
  have hlt1 := x1.lt
  go_wp2_with fail
  refine (impl_ok_yes _ _ n zs h' ok).mono ?_; rintro e w1' ⟨rfl, rfl⟩
  go_wp2_with (at_make; refine wpList_make_full _ rfl _ _ 32 rfl w1.heap.size 3 i0 (.int .i64 0) 1 Try.underlying32 hi hz0 hz1 _ _ _ _ n rfl rfl rfl rfl (by rw [hz2]; omega) (by unfold maxLen; omega) (Nat.le_refl _) ?_; intro w0 hown0 hg0)
  have hown0 : w0.ownsRow w1.heap.size 3 1 (.slice (some ⟨w1.heap.size, 0, none⟩) n n) n ((mid (cds a p zs n) n 0).map (Value.int .i64)) := by
    have e : (madeCells (Value.int .i64 0).cells (n * 1)).toList = (mid (cds a p zs n) n 0).map (Value.int .i64) := by
      show (madeCells #[Value.int .i64 0] (n * 1)).toList = _
      rw [toList_madeCells_one]; simp [mid]
    rw [← e]; exact hown0
  have B0 := below_grown hg0 (Nat.le_refl _) (by simp)
  have H' := Lib.hid h'
  have X1 := Lib.hid x1
  clear h h' x1 hg0 hb1
  go_loopw [6, 7, 21] (fun u7 u8 i wr => ∃ k : Nat, k ≤ n ∧ i = .int .i64 k ∧ wr.ownsRow w1.heap.size 3 1 (.slice (some ⟨w1.heap.size, 0, none⟩) n n) n ((mid (cds a p zs n) n k).map (Value.int .i64)) ∧ Below w1.heap.size w1 wr)
    (fun _ _ i _ => n - (intOf i).toNat)
  case atStart => exact ⟨0, Nat.zero_le _, rfl, hown0, B0⟩
  case round =>
    clear hown0 B0
    obtain ⟨k, hk, rfl, hown, hg⟩ := hrel
    by_cases hlt : k < n
    · obtain ⟨b1, o1, rfl, h1⟩ := (H'.out.keep hg).at_ (by omega)
      obtain ⟨z, hz⟩ : ∃ z, zs.getD k 0 = z := ⟨_, rfl⟩
      have g1 := h1 k _ (getI (by omega))
      rw [hz] at g1
      obtain ⟨z0, z1⟩ := okAt ok hl hlt hz
      have y1 := X1.out.step hg
      have q0 := y1.cell 0; have q1 := y1.cell 1
      have e : (cds a p zs n).getD k 0 = cat a p z := by rw [cds_at _ _ _ _ _ hlt, hz]
      have E := Lib.hid e
      clear h1 hz e y1
      go_wp2_with fail
      refine (impl_catch1 _ _ _ _ (by omega) (by omega) z0 z1).mono ?_; rintro e w2 ⟨rfl, hb2⟩
      have hg1 := hg.trans (hb2.mono hg.size)
      have hown1 := own_below hown hb2
      obtain ⟨u, hu⟩ : ∃ u, w2.cell? ⟨w1.heap.size, k, none⟩ = some (.int .i64 u) := ⟨_, own_cell hown1 (g := w1.heap.size) rfl k _ (getI (by rw [mid_len hcl hk]; omega))⟩
      have hf := own_free hown1 (g := w1.heap.size) rfl k
      have hown2 := own_set hown1 (g := w1.heap.size) rfl k (.int .i64 (cat a p z))
      rw [← E.out, mid_set hcl hlt, E.out] at hown2
      have hg2 : Below w1.heap.size w1 (w2.setCell ⟨w1.heap.size, k, none⟩ (.int .i64 (cat a p z))) := hg1.setCell (Nat.le_refl _) _
      clear hown hown1 hg1 hb2 q0 q1 g1
      go_wp2
      go_roundw
      case rel => exact ⟨k + 1, by omega, by go_num, hown2, hg2⟩
      case measure => simp [intOf]; omega
    · obtain rfl : k = n := by omega
      rw [mid_all hcl] at hown
      go_wp2
      go_ret
      exact ⟨_, rfl, own_mono hown (by omega), hB.trans (hg.mono hB.size)⟩
theorem impl_days_no (w : World) (a p : Int) (v : Value) (n : Nat) (zs : List Int) (hn : n ≤ 1048576) (h : Row 1 w v n (IV zs)) (no : ¬ (ROk a p ∧ Ok zs)) :
    Calls Try.prog 17 #[R a p, v] w (Got w 0 []) := by
  by_cases hr : ROk a p
  · have ok : ¬ Ok zs := fun h2 => no ⟨hr, h2⟩
    clear no
    go_enter Try.func17, Try.ntmps17
    go_wp2_with fail
    refine (impl_valid_yes _ _ _ hr).mono ?_; rintro e w1 ⟨rfl, hb1⟩
    have hB : Below w.heap.size w w1 := below_step (below_al (Below.refl _ _) _) hb1
    go_wp2_with fail
    refine (impl_ok_no _ _ n zs hn (h.keep hB) ok).mono ?_; rintro e w1' ⟨rfl, rfl⟩
    go_wp2
    go_ret
    exact ⟨_, rfl, World.ownsRow_nil _ _ _ _, hB⟩
  · clear no
    go_enter Try.func17, Try.ntmps17
    go_wp2_with fail
    refine (impl_valid_no _ _ _ hr).mono ?_; rintro e w1 ⟨rfl, hb1⟩
    go_wp2
    go_ret
    exact ⟨_, rfl, World.ownsRow_nil _ _ _ _, below_step (below_al (Below.refl _ _) _) hb1⟩
set_option maxHeartbeats 1000000 in
theorem spec_days_no (w : World) (a p : Int) (v : Value) (n : Nat) (zs : List Int) (hn : n ≤ 1048576) (h : Row 1 w v n (IV zs)) (no : ¬ (ROk a p ∧ Ok zs)) :
    Calls Try.prog 29 #[R a p, v] w (Got w 0 []) := by
  obtain ⟨sa, ca, rfl⟩ := h.shape
  have x1 := (Blk.new w 27 #[.int .i64 a, .int .i64 p]).alloc (.cells #[] 3)
  have hB : Below w.heap.size w ((w.alloc (.cells #[.int .i64 a, .int .i64 p] 27)).alloc (.cells #[] 3)) := below_al (below_al (Below.refl _ _) _) _
  have hr1 := h.keep hB
  have ho : ((w.alloc (.cells #[.int .i64 a, .int .i64 p] 27)).alloc (.cells #[] 3)).ownsRow w.heap.size 3 1 (.slice (some ⟨w.heap.size + 1, 0, none⟩) 0 0) 0 [] := by
    have := World.ownsRow_made (w.alloc (.cells #[.int .i64 a, .int .i64 p] 27)) #[] (base := w.heap.size) (e := 3) (size := 1) 0 (by simp) (Nat.zero_le _) rfl
    simpa using this
  by_cases h0 : 0 < n
  · by_cases hr : ROk a p
    · have ok : ¬ Ok zs := fun h2 => no ⟨hr, h2⟩
      clear no
      go_enter Try.func29, Try.ntmps29
      go_wp2
      go_loopw [5, 6] (fun v i wr => v = .slice (some ⟨w.heap.size + 1, 0, none⟩) 0 0 ∧ i = .int .i64 0 ∧ wr = (w.alloc (.cells #[.int .i64 a, .int .i64 p] 27)).alloc (.cells #[] 3)) (fun _ _ _ => 0)
      case atStart => exact ⟨rfl, rfl, rfl⟩
      case round =>
        obtain ⟨rfl, rfl, rfl⟩ := hrel
        have q0 := x1.cell 0; have q1 := x1.cell 1
        go_wp2_with fail
        refine (spec_rok_yes _ _ _ hr).mono ?_; rintro e w1 ⟨rfl, hb1⟩
        go_wp2_with fail
        refine (spec_ok_no _ _ n zs hn (hr1.keep hb1) ok).mono ?_; rintro e w1' ⟨rfl, rfl⟩
        go_wp2
        go_ret
        exact ⟨_, rfl, own_below ho hb1, below_step hB hb1⟩
    · clear no
      go_enter Try.func29, Try.ntmps29
      go_wp2
      go_loopw [5, 6] (fun v i wr => v = .slice (some ⟨w.heap.size + 1, 0, none⟩) 0 0 ∧ i = .int .i64 0 ∧ wr = (w.alloc (.cells #[.int .i64 a, .int .i64 p] 27)).alloc (.cells #[] 3)) (fun _ _ _ => 0)
      case atStart => exact ⟨rfl, rfl, rfl⟩
      case round =>
        obtain ⟨rfl, rfl, rfl⟩ := hrel
        have q0 := x1.cell 0; have q1 := x1.cell 1
        go_wp2_with fail
        refine (spec_rok_no _ _ _ hr).mono ?_; rintro e w1 ⟨rfl, hb1⟩
        go_wp2
        go_ret
        exact ⟨_, rfl, own_below ho hb1, below_step hB hb1⟩
  · obtain rfl : n = 0 := by omega
    clear no
    go_enter Try.func29, Try.ntmps29
    go_wp2
    go_loopw [5, 6] (fun v i wr => v = .slice (some ⟨w.heap.size + 1, 0, none⟩) 0 0 ∧ i = .int .i64 0 ∧ wr = (w.alloc (.cells #[.int .i64 a, .int .i64 p] 27)).alloc (.cells #[] 3)) (fun _ _ _ => 0)
    case atStart => exact ⟨rfl, rfl, rfl⟩
    case round =>
      obtain ⟨rfl, rfl, rfl⟩ := hrel
      go_wp2
      go_ret
      exact ⟨_, rfl, ho, hB⟩
set_option maxHeartbeats 2000000 in
theorem spec_days_yes (w : World) (a p : Int) (v : Value) (n : Nat) (zs : List Int) (hr : ROk a p) (h : Row 1 w v n (IV zs)) (ok : Ok zs) :
    Calls Try.prog 29 #[R a p, v] w (Got w n (cds a p zs n)) := by
  obtain ⟨i0, hi, hz0, hz1, hz2⟩ := info_parts infoI
  obtain ⟨sa, ca, rfl⟩ := h.shape
  have hl : zs.length = n := by simpa using h.1
  have hn2 : n ≤ 400 := hl ▸ ok.2.1
  have x1 := Blk.new w 27 #[.int .i64 a, .int .i64 p]
  have hB : Below w.heap.size w (w.alloc (.cells #[.int .i64 a, .int .i64 p] 27)) := below_al (Below.refl _ _) _
  have hr1 := h.keep hB
  obtain ⟨w0, hw0⟩ : ∃ w0, w.alloc (.cells #[.int .i64 a, .int .i64 p] 27) = w0 := ⟨_, rfl⟩
  have hz0' : w0.heap.size = w.heap.size + 1 := by rw [← hw0]; simp
  rw [hw0] at x1 hB hr1
  have X1 := Lib.hid x1
  have H' := Lib.hid hr1
  have W0 := Lib.hid hw0
  have Z0 := Lib.hid hz0'
  clear x1 hr1 h hw0 hz0'
  go_enter Try.func29, Try.ntmps29
  go_wp2
  go_loopw [5, 6] (fun v i wr => ∃ k : Nat, k ≤ n ∧ i = .int .i64 k ∧ wr.ownsRow w0.heap.size 3 1 v k (IV (cds a p zs k)) ∧ Below w0.heap.size w0 wr) (fun _ i _ => n - (intOf i).toNat)
  case atStart =>
    rw [W0.out]
    refine ⟨0, Nat.zero_le _, rfl, ?_, below_al (Below.refl _ _) _⟩
    have := World.ownsRow_made w0 #[] (base := w0.heap.size) (e := 3) (size := 1) 0 (Nat.le_refl _) (Nat.zero_le _) rfl
    rw [Z0.out] at this ⊢
    exact this
  case round =>
    obtain ⟨k, hk, rfl, hown, hg⟩ := hrel
    by_cases hlt : k < n
    · have hrk := H'.out.keep hg
      obtain ⟨b1, o1, rfl, h1⟩ := hrk.at_ (by omega)
      obtain ⟨z, hz⟩ : ∃ z, zs.getD k 0 = z := ⟨_, rfl⟩
      have g1 := h1 k _ (getI (by omega))
      rw [hz] at g1
      obtain ⟨z0, z1⟩ := okAt ok hl hlt hz
      have y1 := X1.out.step hg
      have q0 : wr.cell? ⟨w.heap.size, 0, none⟩ = some (.int .i64 a) := y1.cell 0
      have q1 : wr.cell? ⟨w.heap.size, 1, none⟩ = some (.int .i64 p) := y1.cell 1
      have l0 : w.heap.size < w0.heap.size := X1.out.lt
      have l1 : b1 < w0.heap.size := by
        obtain ⟨b2, o2, e2, h2⟩ := H'.out.at_ (by omega)
        cases e2
        exact World.block_lt_of_cell? w0 _ (h2 k _ (getI (by omega)))
      have e : cds a p zs (k + 1) = cds a p zs k ++ [cat a p z] := by rw [cds_succ, hz]
      have E := Lib.hid e
      have HR := Lib.hid hrk
      clear h1 hz e y1 hrk
      go_wp2_with fail
      refine (spec_rok_yes _ _ _ hr).mono ?_; rintro e w1 ⟨rfl, hb1⟩
      go_wp2_with fail
      refine (spec_ok_yes _ _ n zs (HR.out.keep hb1) ok).mono ?_; rintro e w1' ⟨rfl, rfl⟩
      have q0 := keep1 q0 hb1; have q1 := keep1 q1 hb1; have g1 := keep1 g1 hb1
      have hown := own_below hown hb1
      have hg := hg.trans (hb1.mono hg.size)
      have ok3 : 0 ≤ (k : Int) := by omega
      have ok4 : (k : Int) < n := by omega
      go_wp2
      go_region_held3 (fun W => W.cell? ⟨w.heap.size, 0, none⟩ = some (.int .i64 a) ∧ W.cell? ⟨w.heap.size, 1, none⟩ = some (.int .i64 p) ∧ W.cell? ⟨b1, o1 + k, none⟩ = some (.int .i64 z)) (first | assumption | exact ⟨q0, q1, g1⟩ | exact keep3 (by assumption) (by assumption) | exact keep3 (by assumption) (below_al (Below.refl _ _) _) | fail)
        (first
          | (go_at_call 24; refine (spec_catch_yes _ _ _ _ hr z0 z1).mono ?_; rintro e w2 ⟨rfl, hb2⟩; have hz2 := hb2.size)
          | (refine app1R _ (by rfl) _ _ (by rfl) w0.heap.size (cat a p z) (own_below hown.drew hb2) (by rfl) (by rfl) (by omega) (Nat.le_trans hg.size hz2) ?_; intro v3 w3 hown3 hg3; have hS3 : w3.cell? ⟨w.heap.size, 0, none⟩ = some (.int .i64 a) ∧ w3.cell? ⟨w.heap.size, 1, none⟩ = some (.int .i64 p) ∧ w3.cell? ⟨b1, o1 + k, none⟩ = some (.int .i64 z) := ⟨keepg1 (keep1 (W := w1.drew) q0 hb2) hg3 hown l0, keepg1 (keep1 (W := w1.drew) q1 hb2) hg3 hown l0, keepg1 (keep1 (W := w1.drew) g1 hb2) hg3 hown l1⟩)
          | fail)
      all_goals
        have B3 : Below w0.heap.size w0 w3 := by
          have b2 : Below w0.heap.size w0 w2 := (show Below w0.heap.size w0 w1.drew from ⟨hg.os, hg.tape, hg.output, hg.size, hg.block⟩).trans (hb2.mono hg.size)
          exact b2.grown hg3 b2.size (fun q hq => (hown.lt q hq).1)
        rw [← E.out] at hown3
        clear hown hg hg3 hb1 hb2 q0 q1 g1 hS3
        go_wp2
        go_roundw
        case rel => exact ⟨k + 1, by omega, by go_num, hown3, B3⟩
        case measure => simp [intOf]; omega
    · obtain rfl : k = n := by omega
      go_wp2
      go_ret
      exact ⟨_, rfl, own_mono hown (by rw [Z0.out]; omega), hB.trans (hg.mono (by rw [Z0.out]; omega))⟩
end Go.Proofs.Yteogonlclldjlaa.roof
