/- Flows: the specification's search (l09Search). -/
import Derived.Test.YtilabfmnaegidaaFlwS2
import Derived.Test.YtilabfmnaegidaaFlwA
import Derived.Test.YtilabfmnaegidaaNetJ
namespace Go.Proofs.Ytilabfmnaegidaa.fl_
open Go.RowKit Go.Proofs.Ytilabfmnaegidaa.kit Go.Proofs.Ytilabfmnaegidaa.lawi Go.Proofs.Ytilabfmnaegidaa.own Go.Proofs.Ytilabfmnaegidaa.rain Go.Proofs.Ytilabfmnaegidaa.yrl Go.Proofs.Ytilabfmnaegidaa.net Go.Proofs.Ytilabfmnaegidaa.nt Go.Proofs.Ytilabfmnaegidaa.flw Go.Proofs.Ytilabfmnaegidaa.take Go.Proofs.Ytilabfmnaegidaa.bits_
theorem rw_set (f : Nat → Int) {P j : Nat} (x : Int) : (rw_ f P).set j x = rw_ (fun v => if v = j then x else f v) P := by
  refine List.ext_getElem (by simp [rw_]) fun i h1 h2 => ?_
  simp only [rw_, List.getElem_set, List.getElem_map, List.getElem_range]
  by_cases h : j = i
  · rw [if_pos h, if_pos h.symm]
  · rw [if_neg h, if_neg (fun e => h e.symm)]
theorem rw_congr {f g : Nat → Int} {P : Nat} (h : ∀ v, v < P → f v = g v) : rw_ f P = rw_ g P := by
  refine List.ext_getElem (by simp [rw_]) fun i h1 h2 => ?_
  simp only [rw_, List.getElem_map, List.getElem_range]
  exact h i (by simpa [rw_] using h2)
theorem rw_zero (P : Nat) : List.replicate P (0 : Int) = rw_ (fun _ => 0) P := by
  refine List.ext_getElem (by simp [rw_]) fun i h1 h2 => ?_
  simp [rw_]
/-- A box of another type is no row's block. -/
theorem box_row {w : World} {g : Nat} {t e : TypeId} {cs : Array Value} {base sz n : Nat} {v : Value} {xs : List Value} (h : Blk w g t cs) (ho : w.ownsRow base e sz v n xs) (ht : t ≠ e) : v.ownBlock ≠ some g := by
  have h : w.heap[g]? = some (.cells cs t (0, 0)) := h
  rcases ho.2 with ⟨rfl, _⟩ | ⟨b, cp, cur, rfl, _, hh, _⟩
  · simp [Value.ownBlock]
  · intro e
    simp [Value.ownBlock] at e
    subst e
    rw [hh] at h
    cases h
    exact ht rfl
/-- A new row of one int. -/
theorem own_one {w : World} {lo g : Nat} {x : Int} (h : Blk w g TI #[.int .i64 x]) (hl : lo ≤ g) : w.ownsRow lo TI 1 (.slice (some ⟨g, 0, none⟩) 1 1) 1 (IV [x]) :=
  ⟨by simp [IV], .inr ⟨g, 1, #[.int .i64 x], rfl, hl, h, Nat.le_refl _, by unfold maxLen; omega, by simp, by simp [IV]⟩⟩
/-- 'append(out, z)', in a world whose size is told. -/
theorem app1z (wr : World) {T : TypeId} {ops : Array Oper} {rest : List Oper} {o : Oper} {a : Act} {Q : Exit → Act → World → Prop} (hgd : o.guard = none) (s x : Operand)
    (ho : o.op = .call { callee := .builtin .append, args := #[s, x], argTypes := #[30, 30] })
    (base : Nat) {v : Value} {n : Nat} {zs : List Int} (z : Int) (hown : wr.ownsRow base 3 1 v n (zs.map (Value.int .i64))) (hs : a.eval s = v) (H : Nat) (hH : wr.heap.size = H)
    (hx : a.eval x = .slice (some ⟨H, 0, none⟩) 1 1) (hn : n ≤ 1000000000000) (hb : base ≤ wr.heap.size)
    (h : ∀ v' w1, w1.ownsRow base 3 1 v' (n + 1) ((zs ++ [z]).map (Value.int .i64)) → wr.grownBy w1 v.ownBlock → wpList Try.prog ops Q rest (a.put o.dst v') w1) :
    wpList Try.prog ops Q (o :: rest) a (wr.alloc (.cells #[.int .i64 z] T)) := by
  subst hH
  exact app1 wr hgd s x ho base z hown hs hx hn hb h
/-- A region at which a walk stands still. -/
def CS (id : Nat) (ops : Array Oper) : Code := .region id ops false
theorem cs_ (id : Nat) : ∀ ops, Code.region id ops false = CS id ops := fun _ => rfl
/-- What a test of a bit says. -/
theorem _root_.Go.Proofs.Ytilabfmnaegidaa.nt.BS.test {s : Nat} {f : Int → Bool} (h : BS s f) {u : Nat} (hu : u < 8) : bits .and .i64 ((s >>> u : Nat) : Int) 1 = if f (u : Int) = true then 1 else 0 := by
  have h1 : s >>> u ≤ s := by rw [Nat.shiftRight_eq_div_pow]; exact Nat.div_le_self _ _
  have h2 := h.1
  have h3 := and_nat (a := s >>> u) (b := 1) (by omega) (by decide)
  rw [h.bit hu] at h3
  refine Eq.trans h3 ?_
  split <;> rfl
theorem _root_.Go.Proofs.Ytilabfmnaegidaa.nt.BS.snoc {s T : Nat} {L : List Int} (h : BS s (fun v => decide (v ∈ L))) (hT : T < 8) : BS (s ||| 1 <<< T) (fun v => decide (v ∈ L ++ [(T : Int)])) := by
  have h1 := h.add hT
  refine ⟨h1.1, fun u hu => ?_⟩
  rw [h1.2 u hu]
  show (decide ((u : Int) = T) || decide ((u : Int) ∈ L)) = decide ((u : Int) ∈ L ++ [(T : Int)])
  rw [← Bool.decide_or]
  refine decide_eq_decide.2 ⟨fun e => List.mem_append.2 (e.elim (fun e => .inr (List.mem_singleton.2 e)) .inl), fun e => (List.mem_append.1 e).elim .inr (fun e => .inl (List.mem_singleton.1 e))⟩
/-- One of the two looks at a pipe. -/
theorem one_of {c : List Int × (Int → Int)} {F t f W T x B : Int} (e : B = if decide (T ∈ c.1) = true then 1 else 0) :
    ((F == t) = false ∧ one (decide (F = t ∧ f < W)) T x c = c) ∨ ((F == t) = true ∧ ¬ f < W ∧ one (decide (F = t ∧ f < W)) T x c = c) ∨ ((F == t) = true ∧ f < W ∧ B = 1 ∧ one (decide (F = t ∧ f < W)) T x c = c) ∨
    ((F == t) = true ∧ f < W ∧ B = 0 ∧ one (decide (F = t ∧ f < W)) T x c = (c.1 ++ [T], fun u => if u = T then x else c.2 u)) := by
  by_cases h1 : F = t
  · by_cases h2 : f < W
    · by_cases h3 : T ∈ c.1
      · exact .inr (.inr (.inl ⟨beq_iff_eq.2 h1, h2, by rw [e, if_pos (decide_eq_true h3)], one_no (.inr h3)⟩))
      · exact .inr (.inr (.inr ⟨beq_iff_eq.2 h1, h2, by rw [e, if_neg (by rw [decide_eq_false h3]; simp)], one_yes (decide_eq_true ⟨h1, h2⟩) h3⟩))
    · exact .inr (.inl ⟨beq_iff_eq.2 h1, h2, one_no (.inl (decide_eq_false (fun h => h2 h.2)))⟩)
  · exact .inl ⟨beq_eq_false_iff_ne.2 h1, one_no (.inl (decide_eq_false (fun h => h1 h.1)))⟩
/-- A search under way: the row of steps, the list of places. -/
structure SS (w0 wr : World) (g P : Nat) (lv : Value) (L : List Int) (by_ : Int → Int) : Prop where
  oy : OwnR wr g (g + 1) TI 1 (.slice (some ⟨g, 0, none⟩) P P) P (IV (rw_ (fun v => by_ (v : Int)) P))
  li : wr.ownsRow (g + 1) TI 1 lv L.length (IV L)
  bl : Below w0.heap.size w0 wr
  hg : w0.heap.size ≤ g
section
variable {w0 wr wr' : World} {g P : Nat} {lv : Value} {L : List Int} {by_ : Int → Int}
theorem SS.keep (h : SS w0 wr g P lv L by_) (hb : Below wr.heap.size wr wr') : SS w0 wr' g P lv L by_ := ⟨h.oy.keep hb, own_below h.li hb, below_step h.bl hb, h.hg⟩
theorem SS.drew (h : SS w0 wr g P lv L by_) : SS w0 wr.drew g P lv L by_ := h.keep (below_dr (Below.refl _ _))
theorem SS.set (h : SS w0 wr g P lv L by_) (T : Nat) (x : Int) : SS w0 (wr.setCell ⟨g, T, none⟩ (.int .i64 x)) g P lv L (fun u => if u = (T : Int) then x else by_ u) := by
  refine ⟨?_, h.li.kept (grown_setCell (grown_refl wr (some g)) T none _) (.inr (fun e => by have := (h.li.lt g e).1; omega)), h.bl.setCell h.hg _, h.hg⟩
  have := own_iv h.oy rfl T x
  rw [rw_set, rw_congr (g := fun v : Nat => if (v : Int) = (T : Int) then x else by_ (v : Int)) (fun v _ => by
    by_cases e : v = T
    · rw [if_pos e, if_pos (by omega)]
    · rw [if_neg e, if_neg (by omega)])] at this
  exact this
theorem SS.app (h : SS w0 wr g P lv L by_) {v' : Value} {x : Int} (ho : wr'.ownsRow (g + 1) TI 1 v' (L.length + 1) (IV (L ++ [x]))) (hgr : wr.grownBy wr' lv.ownBlock) : SS w0 wr' g P v' (L ++ [x]) by_ :=
  ⟨h.oy.chg (Chg.of_grown (lo := g + 1) (hi := wr.heap.size) hgr (fun b hb => h.li.lt b hb)) (.inl (Nat.le_refl _)), by simpa using ho, h.bl.grown hgr h.bl.size (fun k hk => by have := (h.li.lt k hk).1; have := h.hg; omega), h.hg⟩
end
set_option maxHeartbeats 8000000 in
set_option maxRecDepth 4000 in
theorem spec_search (w : World) (P : Nat) (v u : Value) (n : Nat) (zs fs : List Int) (a : Nat) (hr : Row 3 w v n (IV zs)) (hf : Row 1 w u n (IV fs)) (ok : NO (P : Int) n zs) (ha : a < P) :
    Calls Try.prog 42 #[Nv P v, u, .int .i64 a] w (GotR TI 1 w P (IV (rw_ (fun v => (fin_ (pF zs) (pT zs) (pW zs) (gd fs) n P a).2 (v : Int)) P))) := by
  obtain ⟨i0, hi, hz0, hz1, hz2⟩ := info_parts infoI
  obtain ⟨av, ca, rfl⟩ := hr.shape
  obtain ⟨au, cu, rfl⟩ := hf.shape
  have hl : zs.length = n * 3 := by simpa using hr.1
  have hlf : fs.length = n := by simpa using hf.1
  have hn := ok.2.2.1
  have hP8 : P ≤ 8 := by have := ok.2.1; omega
  obtain ⟨w0, hw0⟩ : ∃ w0, w.alloc (.cells #[.int .i64 (P : Int), .slice av n ca] TN) = w0 := ⟨_, rfl⟩
  have B0 : Below w.heap.size w w0 := hw0 ▸ below_al (Below.refl _ _) _
  have HX : Hid (Blk w0 w.heap.size TN #[.int .i64 (P : Int), .slice av n ca]) := Lib.hid (hw0 ▸ Blk.new w TN #[.int .i64 (P : Int), .slice av n ca])
  have HR := Lib.hid (hr.keep B0)
  have HF := Lib.hid (hf.keep B0)
  have OK := Lib.hid ok
  have HB := Lib.hid B0
  obtain ⟨p0, p1⟩ := stNet.blk_ HX.out
  clear hr hf ok B0
  go_enter Try.func42, Try.ntmps42
  go_wp2_with (at_make; refine wpList_make_full _ rfl _ _ 30 rfl w0.heap.size TI i0 (.int .i64 0) 1 Try.underlying30 hi hz0 hz1 _ _ _ _ P rfl rfl rfl rfl (by rw [hz2]; omega) (by unfold maxLen; omega) (Nat.le_refl _) ?_; intro w2 hown hg
               have L2 := Lib.hid (below_grown hg (Nat.le_refl _) (by simp))
               have O2 := Lib.hid hown
               clear hown hg)
  have O3 : Hid (OwnR w2 w0.heap.size (w0.heap.size + 1) TI 1 (.slice (some ⟨w0.heap.size, 0, none⟩) P P) P (IV (rw_ (fun v => if v < 0 then -1 else 0) P))) := by
    have h := O2.out
    rw [show (madeCells (Value.int .i64 0).cells (P * 1)).toList = IV (rw_ (fun v => if v < 0 then -1 else 0) P) by
      show (madeCells #[Value.int .i64 0] (P * 1)).toList = _
      rw [toList_madeCells_one, rw_congr (g := fun _ => 0) (fun v _ => if_neg (by omega)), ← rw_zero]; simp [IV]] at h
    exact Lib.hid ⟨h, fun b hb => by cases hb; exact Nat.lt_succ_self _, (h.lt _ rfl).2⟩
  clear O2 hz0 hz1 hz2 hi p0 p1 hw0
  go_wp2
  go_loopg [8] P (fun g s8 wr => ∃ k : Nat, k + g = P ∧ s8 = .int .i64 k ∧ OwnR wr w0.heap.size (w0.heap.size + 1) TI 1 (.slice (some ⟨w0.heap.size, 0, none⟩) P P) P (IV (rw_ (fun v => if v < k then -1 else 0) P)) ∧ Below w0.heap.size w0 wr)
  case atStart => exact ⟨0, by omega, rfl, O3.out, L2.out⟩
  case round =>
    clear O3 L2
    obtain ⟨k, hkg, rfl, hown, hbel⟩ := hrel
    obtain ⟨p0, p1⟩ := stNet.blk_ (HX.out.step hbel)
    by_cases hlt : k < P
    · obtain ⟨gk, rfl⟩ : ∃ g', gk = g' + 1 := ⟨gk - 1, by omega⟩
      have z0 := own_free hown.own (g := w0.heap.size) rfl k
      obtain ⟨y, hy⟩ : ∃ y, wr.cell? ⟨w0.heap.size, k, none⟩ = some (.int .i64 y) := ⟨_, own_cell hown.own (g := w0.heap.size) rfl k _ (getI (by rw [rw_len]; omega))⟩
      have h2 := own_iv hown rfl k (-1)
      rw [rw_set, rw_congr (g := fun v => if v < k + 1 then -1 else 0) (fun v _ => by
        by_cases e : v = k
        · rw [if_pos e, if_pos (by omega)]
        · rw [if_neg e]
          by_cases e2 : v < k
          · rw [if_pos e2, if_pos (by omega)]
          · rw [if_neg e2, if_neg (by omega)])] at h2
      have H2 := Lib.hid h2
      have L2 := Lib.hid (hbel.setCell (p := ⟨w0.heap.size, k, none⟩) (Nat.le_refl _) (.int .i64 (-1)))
      clear h2 hown hbel
      go_wp2
      go_roundg gk
      case measure => omega
      case rel => exact ⟨k + 1, by omega, by go_num, H2.out, L2.out⟩
    · obtain rfl : P = k := by omega
      rw [rw_congr (g := fun _ => -1) (fun v hv => if_pos hv)] at hown
      obtain ⟨w4, hw4⟩ : ∃ w4, wr.alloc (.cells #[.int .i64 (a : Int)] TI) = w4 := ⟨_, rfl⟩
      have b4 : Below wr.heap.size wr w4 := hw4 ▸ below_al (Below.refl _ _) _
      have S0 : Hid (SS w0 w4 w0.heap.size P (.slice (some ⟨wr.heap.size, 0, none⟩) 1 1) [(a : Int)] (fun _ => -1)) :=
        Lib.hid ⟨hown.keep b4, own_one (hw4 ▸ Blk.new wr TI #[.int .i64 (a : Int)]) hown.2.2, below_step hbel b4, Nat.le_refl _⟩
      have hone := BS.one (a := a) (by omega)
      obtain ⟨s0, hs0⟩ : ∃ s, (1 <<< a : Nat) = s := ⟨_, rfl⟩
      have hsh := shl64 (v := a) (by omega)
      rw [hs0] at hsh hone
      have H1 : Hid (BS s0 (fun v => decide (v ∈ [(a : Int)]))) := Lib.hid ⟨hone.1, fun u hu => by rw [hone.2 u hu]; exact decide_eq_decide.2 List.mem_singleton.symm⟩
      obtain ⟨lv0, hlv0⟩ : ∃ lv, Value.slice (some ⟨wr.heap.size, 0, none⟩) 1 1 = lv := ⟨_, rfl⟩
      rw [hlv0] at S0
      clear hown hbel hone hs0 b4
      go_wp2
      have HSH := Lib.hid hsh
      clear hsh hw4 hlv0 p0 p1
      go_loopg [9, 10, 11] P (fun g s9 s10 s11 wq => ∃ (i s : Nat) (lv : Value), i + g = P ∧ s11 = .int .i64 i ∧ s10 = .int .i64 s ∧ s9 = lv ∧ BS s (fun v => decide (v ∈ (bfs (pF zs) (pT zs) (pW zs) (gd fs) n a i).1)) ∧
        SS w0 wq w0.heap.size P lv (bfs (pF zs) (pT zs) (pW zs) (gd fs) n a i).1 (bfs (pF zs) (pT zs) (pW zs) (gd fs) n a i).2)
      case atStart => exact ⟨0, s0, lv0, by omega, rfl, by rw [HSH.out], rfl, H1.out, S0.out⟩
      case round =>
        clear S0 H1 HSH s0
        obtain ⟨i, s, lv, hig, rfl, rfl, rfl, hS, hst⟩ := hrel
        have hpl : Pl (pF zs) (pT zs) n (P : Int) := fun j hj => by
          obtain ⟨⟨F0, F1⟩, ⟨T0, T1⟩, _⟩ := OK.out.2.2.2 j hj
          exact ⟨⟨F0, by omega⟩, ⟨T0, by omega⟩⟩
        have hBI := BI.bfs (W := pW zs) (f := gd fs) (m := n) (a := (a : Int)) (P := (P : Int)) (by omega) (by omega) hpl i
        have hlen := hBI.len
        obtain ⟨b0, hb0⟩ : ∃ b0, bfs (pF zs) (pT zs) (pW zs) (gd fs) n a i = b0 := ⟨_, rfl⟩
        rw [hb0] at hS hst hBI hlen
        have HB0 := Lib.hid hb0
        have HPL := Lib.hid hpl
        have HBI := Lib.hid hBI
        clear hb0 hpl hBI
        obtain ⟨lb, lc, rfl⟩ := own_shape hst.li
        by_cases hlt2 : i < b0.1.length
        · obtain ⟨gk2, rfl⟩ : ∃ g', gk = g' + 1 := ⟨gk - 1, by omega⟩
          obtain ⟨gl, lc', e, _, _⟩ := own_some hst.li (by omega)
          cases e
          have c0 := own_cell hst.li (g := gl) rfl i _ (getI hlt2)
          obtain ⟨t, ht⟩ : ∃ t, b0.1.getD i 0 = t := ⟨_, rfl⟩
          rw [ht] at c0
          have HT := Lib.hid ht
          have HS := Lib.hid hS
          have HST := Lib.hid hst
          clear hS hst ht
          go_wp2
          clear c0
          go_loopg [9, 10, 13] n (fun g s9 s10 s13 wq => ∃ (k s : Nat) (lv : Value), k + g = n ∧ s13 = .int .i64 k ∧ s10 = .int .i64 s ∧ s9 = lv ∧ BS s (fun v => decide (v ∈ (scn (pF zs) (pT zs) (pW zs) (gd fs) t b0 k).1)) ∧
            SS w0 wq w0.heap.size P lv (scn (pF zs) (pT zs) (pW zs) (gd fs) t b0 k).1 (scn (pF zs) (pT zs) (pW zs) (gd fs) t b0 k).2)
          case atStart => exact ⟨0, s, _, by omega, rfl, rfl, rfl, HS.out, HST.out⟩
          case round =>
            clear HS HST s
            obtain ⟨k, s, lv, hkg2, rfl, rfl, rfl, hS, hst⟩ := hrel
            obtain ⟨p0, p1⟩ := stNet.blk_ (HX.out.step hst.bl)
            by_cases hlt3 : k < n
            · obtain ⟨gk3, rfl⟩ : ∃ g', gk = g' + 1 := ⟨gk - 1, by omega⟩
              have hBI := HBI.out.scn HPL.out (j := i) hlt2 k (by omega)
              rw [HT.out] at hBI
              have hnext : scn (pF zs) (pT zs) (pW zs) (gd fs) t b0 (k + 1) = one (decide (pT zs k = t ∧ 0 < gd fs k)) (pF zs k) (2 * k + 1) (one (decide (pF zs k = t ∧ gd fs k < pW zs k)) (pT zs k) (2 * k) (scn (pF zs) (pT zs) (pW zs) (gd fs) t b0 k)) := rfl
              generalize scn (pF zs) (pT zs) (pW zs) (gd fs) t b0 k = c1 at hS hst hBI hnext
              have hlen2 : c1.1.length ≤ P := by have := hBI.len; omega
              obtain ⟨b1, o1, rfl, h1⟩ := (HR.out.keep hst.bl).at_ (by omega)
              obtain ⟨g1, g2, g3⟩ := pipe_at h1 hl hlt3
              obtain ⟨b2, o2, rfl, h2⟩ := (HF.out.keep hst.bl).at_ (by omega)
              have g4 : wr.cell? ⟨b2, o2 + k, none⟩ = some (.int .i64 (gd fs k)) := h2 k _ (getI (by omega))
              obtain ⟨⟨F0, F1⟩, ⟨T0, T1⟩, _⟩ := OK.out.2.2.2 k hlt3
              obtain ⟨F, hF⟩ : ∃ F : Nat, pF zs k = (F : Int) := ⟨(pF zs k).toNat, by omega⟩
              obtain ⟨T, hT⟩ : ∃ T : Nat, pT zs k = (T : Int) := ⟨(pT zs k).toNat, by omega⟩
              rw [hF] at g1 hnext F0 F1
              rw [hT] at g2 hnext T0 T1
              obtain ⟨N, hN⟩ : ∃ N, scn (pF zs) (pT zs) (pW zs) (gd fs) t b0 (k + 1) = N := ⟨_, rfl⟩
              rw [hN] at hnext
              have HN := Lib.hid hN
              clear hF hT hN hBI h1
              generalize pW zs k = W at g3 hnext
              generalize hf' : gd fs k = f at g4 hnext
              have iF : F < P := by omega
              have iT : T < P := by omega
              have hbt := hS.test (u := T) (by omega)
              obtain ⟨B, hB⟩ : ∃ B, bits .and .i64 ((s >>> T : Nat) : Int) 1 = B := ⟨_, rfl⟩
              rw [hB] at hbt
              have e1 := shr64 s T
              obtain ⟨uT, huT⟩ : ∃ u, s >>> T = u := ⟨_, rfl⟩
              rw [huT] at hB e1
              clear huT
              obtain ⟨w4, hw4⟩ : ∃ w4, wr.alloc (.cells #[.int .i64 (F : Int), .int .i64 (T : Int), .int .i64 W] TP) = w4 := ⟨_, rfl⟩
              have BP := Lib.hid (hw4 ▸ Blk.new wr TP #[.int .i64 (F : Int), .int .i64 (T : Int), .int .i64 W] : Blk w4 wr.heap.size TP #[.int .i64 (F : Int), .int .i64 (T : Int), .int .i64 W])
              obtain ⟨d0, d1, d2⟩ := stPipe3 BP.out
              have b4 : Below wr.heap.size wr w4 := hw4 ▸ below_al (Below.refl _ _) _
              have f4 := keep1 g4 b4
              have S1 := Lib.hid (hst.keep b4)
              have HS := Lib.hid hS
              have hone := one_of (c := c1) (F := (F : Int)) (t := t) (f := f) (W := W) (T := (T : Int)) (x := 2 * (k : Int)) hbt
              have h2' : ∀ wq, Below w0.heap.size w0 wq → wq.cell? ⟨b2, o2 + k, none⟩ = some (.int .i64 f) := fun wq hq => by
                obtain ⟨b', o', e, h⟩ := (HF.out.keep hq).at_ (by omega)
                cases e
                rw [← hf']
                exact h k _ (getI (by omega))
              clear hS hst b4 hbt h2
              rw [cs_ 20]
              rcases hone with ⟨q1, hc⟩ | ⟨q1, q2, hc⟩ | ⟨q1, q2, q3, hc⟩ | ⟨q1, q2, q3, hc⟩
              rotate_left 3
              · have HNX := Lib.hid (hnext.trans (congrArg _ hc))
                rw [q3] at hB
                have e2 := shl64 (v := T) (by omega)
                have e5 : (1 <<< T : Nat) < 256 := by rw [Nat.one_shiftLeft]; exact Nat.lt_of_lt_of_le (Nat.pow_lt_pow_right (by decide) (by omega)) (by decide : 2 ^ 8 ≤ 256)
                have e4 := or_nat (a := s) (b := 1 <<< T) (by have := HS.out.1; omega) (by omega)
                have HS2 := Lib.hid (HS.out.snoc (T := T) (by omega))
                have e6 : IntKind.i64.wrap (2 * (k : Int)) = 2 * (k : Int) := IntWalk.i64_in _ (by omega)
                generalize 1 <<< T = sT at e2 e4 e5 HS2
                generalize s ||| sT = s' at e4 HS2
                clear hnext hc q3 HS
                go_wp2
                go_quiet (fail)
                have S4 := Lib.hid (S1.out.keep (below_drewN (Below.refl _ _) nq))
                have BP4 := Lib.hid (BP.out.drewN nq)
                obtain ⟨w6, hw6⟩ : ∃ w5, w4.drewN nq = w5 := ⟨_, rfl⟩
                rw [hw6] at S4 BP4
                rw [hw6]
                clear f4 d0 d1 d2 hw4 hw6 S1 BP
                obtain ⟨d0, d1, d2⟩ := stPipe3 BP4.out
                have z0 := own_free S4.out.oy.own (g := w0.heap.size) rfl T
                obtain ⟨y, hy⟩ : ∃ y, w6.cell? ⟨w0.heap.size, T, none⟩ = some (.int .i64 y) := ⟨_, own_cell S4.out.oy.own (g := w0.heap.size) rfl T _ (getI (by rw [rw_len]; omega))⟩
                have S2 := Lib.hid (S4.out.set T (2 * (k : Int)))
                have n5 := box_row BP4.out S4.out.oy.own (by decide)
                have n7 : wr.heap.size ≠ w0.heap.size := fun e => n5 (by rw [e]; rfl)
                have d3 := keepT1 (a := T) (x := .int .i64 (2 * (k : Int))) (W := w6) d1 n7
                have BP2 := Lib.hid (BP4.out.far (p := ⟨w0.heap.size, T, none⟩) n7 (.int .i64 (2 * (k : Int))))
                go_wp2_with (at_builtin; refine app1z (w6.setCell ⟨w0.heap.size, T, none⟩ (.int .i64 (2 * (k : Int)))) rfl _ _ rfl (w0.heap.size + 1) (T : Int) S2.out.li rfl w6.heap.size (by simp) rfl (by omega) S2.out.oy.2.2 ?_; intro v5 w5 ho5 hg5
                             have S5' := Lib.hid (S2.out.app ho5 hg5)
                             have BP5 := Lib.hid (BP2.out.grown hg5 (fun e => box_row BP2.out S2.out.li (by decide) e.symm))
                             clear ho5 hg5)
                clear d0 d1 d2 d3 z0 hy p0 p1 g1 g2 g3 n7 n5
                obtain ⟨c2, hcc⟩ : ∃ c2, (c1.1 ++ [(T : Int)], fun u => if u = (T : Int) then 2 * (k : Int) else c1.2 u) = c2 := ⟨_, rfl⟩
                have S5 : Hid (SS w0 w5 w0.heap.size P v5 c2.1 c2.2) := Lib.hid (by rw [← hcc]; exact S5'.out)
                have HS1 : Hid (BS s' (fun v => decide (v ∈ c2.1))) := Lib.hid (by rw [← hcc]; exact HS2.out)
                have HL2 : Hid (c2.1.length ≤ 9) := Lib.hid (by rw [← hcc]; simp; omega)
                rw [hcc] at HNX
                clear hcc S5' HS2

                have hlen3 : c2.1.length ≤ 9 := HL2.out
                have hbt2 := HS1.out.test (u := F) (by omega)
                obtain ⟨B2, hB2⟩ : ∃ B, bits .and .i64 ((s' >>> F : Nat) : Int) 1 = B := ⟨_, rfl⟩
                rw [hB2] at hbt2
                have e11 := shr64 s' F
                obtain ⟨uF, huF⟩ : ∃ u, s' >>> F = u := ⟨_, rfl⟩
                rw [huF] at hB2 e11
                clear huF
                obtain ⟨x0, x1, x2⟩ := stPipe3 BP5.out
                have y4 := h2' _ S5.out.bl
                obtain ⟨y0, y1⟩ := stNet.blk_ (HX.out.step S5.out.bl)
                have htwo := one_of (c := c2) (F := (T : Int)) (t := t) (f := 0) (W := f) (T := (F : Int)) (x := 2 * (k : Int) + 1) hbt2
                clear hbt2
                rcases htwo with ⟨r1, hc2⟩ | ⟨r1, r2, hc2⟩ | ⟨r1, r2, r3, hc2⟩ | ⟨r1, r2, r3, hc2⟩
                · have HNY := Lib.hid (HNX.out.trans hc2)
                  clear hc2
                  have r4 : ¬ ((T : Int) = t) := beq_eq_false_iff_ne.1 r1
                  have r5 : decide ((T : Int) = t) = false := decide_eq_false r4
                  simp only [CS]
                  go_wp2
                  go_roundg gk3
                  case measure => omega
                  case rel => exact ⟨k + 1, s', _, by omega, by go_num, rfl, rfl, by rw [HN.out, HNY.out]; exact HS1.out, by rw [HN.out, HNY.out]; exact S5.out⟩
                · have HNY := Lib.hid (HNX.out.trans hc2)
                  clear hc2
                  have r4 : (T : Int) = t := beq_iff_eq.1 r1
                  have r5 : decide ((T : Int) = t) = true := decide_eq_true r4
                  simp only [CS]
                  go_wp2
                  go_roundg gk3
                  case measure => omega
                  case rel => exact ⟨k + 1, s', _, by omega, by go_num, rfl, rfl, by rw [HN.out, HNY.out]; exact HS1.out, by rw [HN.out, HNY.out]; exact S5.out⟩
                · have HNY := Lib.hid (HNX.out.trans hc2)
                  clear hc2
                  rw [r3] at hB2
                  clear r3
                  simp only [CS]
                  go_wp2
                  go_roundg gk3
                  case measure => omega
                  case rel => exact ⟨k + 1, s', _, by omega, by go_num, rfl, rfl, by rw [HN.out, HNY.out]; exact HS1.out, by rw [HN.out, HNY.out]; exact S5.out⟩
                · have HNY := Lib.hid (HNX.out.trans hc2)
                  rw [r3] at hB2
                  have e12 := shl64 (v := F) (by omega)
                  have e15 : (1 <<< F : Nat) < 256 := by rw [Nat.one_shiftLeft]; exact Nat.lt_of_lt_of_le (Nat.pow_lt_pow_right (by decide) (by omega)) (by decide : 2 ^ 8 ≤ 256)
                  have e14 := or_nat (a := s') (b := 1 <<< F) (by have := HS1.out.1; omega) (by omega)
                  have HS2 := Lib.hid (HS1.out.snoc (T := F) (by omega))
                  have e16 : IntKind.i64.wrap (2 * (k : Int)) = 2 * (k : Int) := IntWalk.i64_in _ (by omega)
                  have e17 : IntKind.i64.wrap (2 * (k : Int) + 1) = 2 * (k : Int) + 1 := IntWalk.i64_in _ (by omega)
                  have z1 := own_free S5.out.oy.own (g := w0.heap.size) rfl F
                  obtain ⟨v1, hv1⟩ : ∃ y, w5.cell? ⟨w0.heap.size, F, none⟩ = some (.int .i64 y) := ⟨_, own_cell S5.out.oy.own (g := w0.heap.size) rfl F _ (getI (by rw [rw_len]; omega))⟩
                  have S6 := Lib.hid (S5.out.set F (2 * (k : Int) + 1))
                  have n6 := box_row BP5.out S5.out.oy.own (by decide)
                  have x3 := keepT1 (a := F) (x := .int .i64 (2 * (k : Int) + 1)) (W := w5) x0 (show wr.heap.size ≠ w0.heap.size from fun e => n6 (by rw [e]; rfl))
                  generalize 1 <<< F = sF at e12 e14 e15 HS2
                  generalize s' ||| sF = s'' at e14 HS2
                  clear hc2 r3 n6
                  simp only [CS]
                  go_wp2_with (at_builtin; refine app1z (w5.setCell ⟨w0.heap.size, F, none⟩ (.int .i64 (2 * (k : Int) + 1))) rfl _ _ rfl (w0.heap.size + 1) (F : Int) S6.out.li rfl w5.heap.size (by simp) rfl (by omega) S6.out.oy.2.2 ?_; intro v7 w7 ho7 hg7
                               have S7 := Lib.hid (S6.out.app ho7 hg7)
                               clear ho7 hg7)
                  go_roundg gk3
                  case measure => omega
                  case rel => exact ⟨k + 1, s'', _, by omega, by go_num, rfl, rfl, by rw [HN.out, HNY.out]; exact HS2.out, by rw [HN.out, HNY.out]; exact S7.out⟩
              · have HNX := Lib.hid (hnext.trans (congrArg _ hc))
                have q4 : ¬ ((F : Int) = t) := beq_eq_false_iff_ne.1 q1
                have q5 : decide ((F : Int) = t) = false := decide_eq_false q4
                clear hnext hc
                go_wp2
                go_quiet (fail)
                have S5 := Lib.hid (S1.out.keep (below_drewN (Below.refl _ _) nq))
                have BP5 := Lib.hid (BP.out.drewN nq)
                have HS1 := HS
                have HL2 : Hid (c1.1.length ≤ 9) := Lib.hid (by omega)
                obtain ⟨w5, hw5⟩ : ∃ w5, w4.drewN nq = w5 := ⟨_, rfl⟩
                rw [hw5] at S5 BP5
                rw [hw5]
                clear f4 d0 d1 d2 hw4 hw5 S1 BP HS p0 p1 g1 g2 g3
                go_wp2

                have hlen3 : c1.1.length ≤ 9 := HL2.out
                have hbt2 := HS1.out.test (u := F) (by omega)
                obtain ⟨B2, hB2⟩ : ∃ B, bits .and .i64 ((s >>> F : Nat) : Int) 1 = B := ⟨_, rfl⟩
                rw [hB2] at hbt2
                have e11 := shr64 s F
                obtain ⟨uF, huF⟩ : ∃ u, s >>> F = u := ⟨_, rfl⟩
                rw [huF] at hB2 e11
                clear huF
                obtain ⟨x0, x1, x2⟩ := stPipe3 BP5.out
                have y4 := h2' _ S5.out.bl
                obtain ⟨y0, y1⟩ := stNet.blk_ (HX.out.step S5.out.bl)
                have htwo := one_of (c := c1) (F := (T : Int)) (t := t) (f := 0) (W := f) (T := (F : Int)) (x := 2 * (k : Int) + 1) hbt2
                clear hbt2
                rcases htwo with ⟨r1, hc2⟩ | ⟨r1, r2, hc2⟩ | ⟨r1, r2, r3, hc2⟩ | ⟨r1, r2, r3, hc2⟩
                · have HNY := Lib.hid (HNX.out.trans hc2)
                  clear hc2
                  have r4 : ¬ ((T : Int) = t) := beq_eq_false_iff_ne.1 r1
                  have r5 : decide ((T : Int) = t) = false := decide_eq_false r4
                  simp only [CS]
                  go_wp2
                  go_roundg gk3
                  case measure => omega
                  case rel => exact ⟨k + 1, s, _, by omega, by go_num, rfl, rfl, by rw [HN.out, HNY.out]; exact HS1.out, by rw [HN.out, HNY.out]; exact S5.out⟩
                · have HNY := Lib.hid (HNX.out.trans hc2)
                  clear hc2
                  have r4 : (T : Int) = t := beq_iff_eq.1 r1
                  have r5 : decide ((T : Int) = t) = true := decide_eq_true r4
                  simp only [CS]
                  go_wp2
                  go_roundg gk3
                  case measure => omega
                  case rel => exact ⟨k + 1, s, _, by omega, by go_num, rfl, rfl, by rw [HN.out, HNY.out]; exact HS1.out, by rw [HN.out, HNY.out]; exact S5.out⟩
                · have HNY := Lib.hid (HNX.out.trans hc2)
                  clear hc2
                  rw [r3] at hB2
                  clear r3
                  simp only [CS]
                  go_wp2
                  go_roundg gk3
                  case measure => omega
                  case rel => exact ⟨k + 1, s, _, by omega, by go_num, rfl, rfl, by rw [HN.out, HNY.out]; exact HS1.out, by rw [HN.out, HNY.out]; exact S5.out⟩
                · have HNY := Lib.hid (HNX.out.trans hc2)
                  rw [r3] at hB2
                  have e12 := shl64 (v := F) (by omega)
                  have e15 : (1 <<< F : Nat) < 256 := by rw [Nat.one_shiftLeft]; exact Nat.lt_of_lt_of_le (Nat.pow_lt_pow_right (by decide) (by omega)) (by decide : 2 ^ 8 ≤ 256)
                  have e14 := or_nat (a := s) (b := 1 <<< F) (by have := HS1.out.1; omega) (by omega)
                  have HS2 := Lib.hid (HS1.out.snoc (T := F) (by omega))
                  have e16 : IntKind.i64.wrap (2 * (k : Int)) = 2 * (k : Int) := IntWalk.i64_in _ (by omega)
                  have e17 : IntKind.i64.wrap (2 * (k : Int) + 1) = 2 * (k : Int) + 1 := IntWalk.i64_in _ (by omega)
                  have z1 := own_free S5.out.oy.own (g := w0.heap.size) rfl F
                  obtain ⟨v1, hv1⟩ : ∃ y, w5.cell? ⟨w0.heap.size, F, none⟩ = some (.int .i64 y) := ⟨_, own_cell S5.out.oy.own (g := w0.heap.size) rfl F _ (getI (by rw [rw_len]; omega))⟩
                  have S6 := Lib.hid (S5.out.set F (2 * (k : Int) + 1))
                  have n6 := box_row BP5.out S5.out.oy.own (by decide)
                  have x3 := keepT1 (a := F) (x := .int .i64 (2 * (k : Int) + 1)) (W := w5) x0 (show wr.heap.size ≠ w0.heap.size from fun e => n6 (by rw [e]; rfl))
                  generalize 1 <<< F = sF at e12 e14 e15 HS2
                  generalize s ||| sF = s'' at e14 HS2
                  clear hc2 r3 n6
                  simp only [CS]
                  go_wp2_with (at_builtin; refine app1z (w5.setCell ⟨w0.heap.size, F, none⟩ (.int .i64 (2 * (k : Int) + 1))) rfl _ _ rfl (w0.heap.size + 1) (F : Int) S6.out.li rfl w5.heap.size (by simp) rfl (by omega) S6.out.oy.2.2 ?_; intro v7 w7 ho7 hg7
                               have S7 := Lib.hid (S6.out.app ho7 hg7)
                               clear ho7 hg7)
                  go_roundg gk3
                  case measure => omega
                  case rel => exact ⟨k + 1, s'', _, by omega, by go_num, rfl, rfl, by rw [HN.out, HNY.out]; exact HS2.out, by rw [HN.out, HNY.out]; exact S7.out⟩
              · have HNX := Lib.hid (hnext.trans (congrArg _ hc))
                have q6 : decide (f < W) = false := decide_eq_false q2
                clear hnext hc
                go_wp2
                go_quiet (fail)
                have S5 := Lib.hid (S1.out.keep (below_drewN (Below.refl _ _) nq))
                have BP5 := Lib.hid (BP.out.drewN nq)
                have HS1 := HS
                have HL2 : Hid (c1.1.length ≤ 9) := Lib.hid (by omega)
                obtain ⟨w5, hw5⟩ : ∃ w5, w4.drewN nq = w5 := ⟨_, rfl⟩
                rw [hw5] at S5 BP5
                rw [hw5]
                clear f4 d0 d1 d2 hw4 hw5 S1 BP HS p0 p1 g1 g2 g3
                go_wp2

                have hlen3 : c1.1.length ≤ 9 := HL2.out
                have hbt2 := HS1.out.test (u := F) (by omega)
                obtain ⟨B2, hB2⟩ : ∃ B, bits .and .i64 ((s >>> F : Nat) : Int) 1 = B := ⟨_, rfl⟩
                rw [hB2] at hbt2
                have e11 := shr64 s F
                obtain ⟨uF, huF⟩ : ∃ u, s >>> F = u := ⟨_, rfl⟩
                rw [huF] at hB2 e11
                clear huF
                obtain ⟨x0, x1, x2⟩ := stPipe3 BP5.out
                have y4 := h2' _ S5.out.bl
                obtain ⟨y0, y1⟩ := stNet.blk_ (HX.out.step S5.out.bl)
                have htwo := one_of (c := c1) (F := (T : Int)) (t := t) (f := 0) (W := f) (T := (F : Int)) (x := 2 * (k : Int) + 1) hbt2
                clear hbt2
                rcases htwo with ⟨r1, hc2⟩ | ⟨r1, r2, hc2⟩ | ⟨r1, r2, r3, hc2⟩ | ⟨r1, r2, r3, hc2⟩
                · have HNY := Lib.hid (HNX.out.trans hc2)
                  clear hc2
                  have r4 : ¬ ((T : Int) = t) := beq_eq_false_iff_ne.1 r1
                  have r5 : decide ((T : Int) = t) = false := decide_eq_false r4
                  simp only [CS]
                  go_wp2
                  go_roundg gk3
                  case measure => omega
                  case rel => exact ⟨k + 1, s, _, by omega, by go_num, rfl, rfl, by rw [HN.out, HNY.out]; exact HS1.out, by rw [HN.out, HNY.out]; exact S5.out⟩
                · have HNY := Lib.hid (HNX.out.trans hc2)
                  clear hc2
                  have r4 : (T : Int) = t := beq_iff_eq.1 r1
                  have r5 : decide ((T : Int) = t) = true := decide_eq_true r4
                  simp only [CS]
                  go_wp2
                  go_roundg gk3
                  case measure => omega
                  case rel => exact ⟨k + 1, s, _, by omega, by go_num, rfl, rfl, by rw [HN.out, HNY.out]; exact HS1.out, by rw [HN.out, HNY.out]; exact S5.out⟩
                · have HNY := Lib.hid (HNX.out.trans hc2)
                  clear hc2
                  rw [r3] at hB2
                  clear r3
                  simp only [CS]
                  go_wp2
                  go_roundg gk3
                  case measure => omega
                  case rel => exact ⟨k + 1, s, _, by omega, by go_num, rfl, rfl, by rw [HN.out, HNY.out]; exact HS1.out, by rw [HN.out, HNY.out]; exact S5.out⟩
                · have HNY := Lib.hid (HNX.out.trans hc2)
                  rw [r3] at hB2
                  have e12 := shl64 (v := F) (by omega)
                  have e15 : (1 <<< F : Nat) < 256 := by rw [Nat.one_shiftLeft]; exact Nat.lt_of_lt_of_le (Nat.pow_lt_pow_right (by decide) (by omega)) (by decide : 2 ^ 8 ≤ 256)
                  have e14 := or_nat (a := s) (b := 1 <<< F) (by have := HS1.out.1; omega) (by omega)
                  have HS2 := Lib.hid (HS1.out.snoc (T := F) (by omega))
                  have e16 : IntKind.i64.wrap (2 * (k : Int)) = 2 * (k : Int) := IntWalk.i64_in _ (by omega)
                  have e17 : IntKind.i64.wrap (2 * (k : Int) + 1) = 2 * (k : Int) + 1 := IntWalk.i64_in _ (by omega)
                  have z1 := own_free S5.out.oy.own (g := w0.heap.size) rfl F
                  obtain ⟨v1, hv1⟩ : ∃ y, w5.cell? ⟨w0.heap.size, F, none⟩ = some (.int .i64 y) := ⟨_, own_cell S5.out.oy.own (g := w0.heap.size) rfl F _ (getI (by rw [rw_len]; omega))⟩
                  have S6 := Lib.hid (S5.out.set F (2 * (k : Int) + 1))
                  have n6 := box_row BP5.out S5.out.oy.own (by decide)
                  have x3 := keepT1 (a := F) (x := .int .i64 (2 * (k : Int) + 1)) (W := w5) x0 (show wr.heap.size ≠ w0.heap.size from fun e => n6 (by rw [e]; rfl))
                  generalize 1 <<< F = sF at e12 e14 e15 HS2
                  generalize s ||| sF = s'' at e14 HS2
                  clear hc2 r3 n6
                  simp only [CS]
                  go_wp2_with (at_builtin; refine app1z (w5.setCell ⟨w0.heap.size, F, none⟩ (.int .i64 (2 * (k : Int) + 1))) rfl _ _ rfl (w0.heap.size + 1) (F : Int) S6.out.li rfl w5.heap.size (by simp) rfl (by omega) S6.out.oy.2.2 ?_; intro v7 w7 ho7 hg7
                               have S7 := Lib.hid (S6.out.app ho7 hg7)
                               clear ho7 hg7)
                  go_roundg gk3
                  case measure => omega
                  case rel => exact ⟨k + 1, s'', _, by omega, by go_num, rfl, rfl, by rw [HN.out, HNY.out]; exact HS2.out, by rw [HN.out, HNY.out]; exact S7.out⟩
              · have HNX := Lib.hid (hnext.trans (congrArg _ hc))
                rw [q3] at hB
                clear q3
                clear hnext hc
                go_wp2
                go_quiet (fail)
                have S5 := Lib.hid (S1.out.keep (below_drewN (Below.refl _ _) nq))
                have BP5 := Lib.hid (BP.out.drewN nq)
                have HS1 := HS
                have HL2 : Hid (c1.1.length ≤ 9) := Lib.hid (by omega)
                obtain ⟨w5, hw5⟩ : ∃ w5, w4.drewN nq = w5 := ⟨_, rfl⟩
                rw [hw5] at S5 BP5
                rw [hw5]
                clear f4 d0 d1 d2 hw4 hw5 S1 BP HS p0 p1 g1 g2 g3
                go_wp2

                have hlen3 : c1.1.length ≤ 9 := HL2.out
                have hbt2 := HS1.out.test (u := F) (by omega)
                obtain ⟨B2, hB2⟩ : ∃ B, bits .and .i64 ((s >>> F : Nat) : Int) 1 = B := ⟨_, rfl⟩
                rw [hB2] at hbt2
                have e11 := shr64 s F
                obtain ⟨uF, huF⟩ : ∃ u, s >>> F = u := ⟨_, rfl⟩
                rw [huF] at hB2 e11
                clear huF
                obtain ⟨x0, x1, x2⟩ := stPipe3 BP5.out
                have y4 := h2' _ S5.out.bl
                obtain ⟨y0, y1⟩ := stNet.blk_ (HX.out.step S5.out.bl)
                have htwo := one_of (c := c1) (F := (T : Int)) (t := t) (f := 0) (W := f) (T := (F : Int)) (x := 2 * (k : Int) + 1) hbt2
                clear hbt2
                rcases htwo with ⟨r1, hc2⟩ | ⟨r1, r2, hc2⟩ | ⟨r1, r2, r3, hc2⟩ | ⟨r1, r2, r3, hc2⟩
                · have HNY := Lib.hid (HNX.out.trans hc2)
                  clear hc2
                  have r4 : ¬ ((T : Int) = t) := beq_eq_false_iff_ne.1 r1
                  have r5 : decide ((T : Int) = t) = false := decide_eq_false r4
                  simp only [CS]
                  go_wp2
                  go_roundg gk3
                  case measure => omega
                  case rel => exact ⟨k + 1, s, _, by omega, by go_num, rfl, rfl, by rw [HN.out, HNY.out]; exact HS1.out, by rw [HN.out, HNY.out]; exact S5.out⟩
                · have HNY := Lib.hid (HNX.out.trans hc2)
                  clear hc2
                  have r4 : (T : Int) = t := beq_iff_eq.1 r1
                  have r5 : decide ((T : Int) = t) = true := decide_eq_true r4
                  simp only [CS]
                  go_wp2
                  go_roundg gk3
                  case measure => omega
                  case rel => exact ⟨k + 1, s, _, by omega, by go_num, rfl, rfl, by rw [HN.out, HNY.out]; exact HS1.out, by rw [HN.out, HNY.out]; exact S5.out⟩
                · have HNY := Lib.hid (HNX.out.trans hc2)
                  clear hc2
                  rw [r3] at hB2
                  clear r3
                  simp only [CS]
                  go_wp2
                  go_roundg gk3
                  case measure => omega
                  case rel => exact ⟨k + 1, s, _, by omega, by go_num, rfl, rfl, by rw [HN.out, HNY.out]; exact HS1.out, by rw [HN.out, HNY.out]; exact S5.out⟩
                · have HNY := Lib.hid (HNX.out.trans hc2)
                  rw [r3] at hB2
                  have e12 := shl64 (v := F) (by omega)
                  have e15 : (1 <<< F : Nat) < 256 := by rw [Nat.one_shiftLeft]; exact Nat.lt_of_lt_of_le (Nat.pow_lt_pow_right (by decide) (by omega)) (by decide : 2 ^ 8 ≤ 256)
                  have e14 := or_nat (a := s) (b := 1 <<< F) (by have := HS1.out.1; omega) (by omega)
                  have HS2 := Lib.hid (HS1.out.snoc (T := F) (by omega))
                  have e16 : IntKind.i64.wrap (2 * (k : Int)) = 2 * (k : Int) := IntWalk.i64_in _ (by omega)
                  have e17 : IntKind.i64.wrap (2 * (k : Int) + 1) = 2 * (k : Int) + 1 := IntWalk.i64_in _ (by omega)
                  have z1 := own_free S5.out.oy.own (g := w0.heap.size) rfl F
                  obtain ⟨v1, hv1⟩ : ∃ y, w5.cell? ⟨w0.heap.size, F, none⟩ = some (.int .i64 y) := ⟨_, own_cell S5.out.oy.own (g := w0.heap.size) rfl F _ (getI (by rw [rw_len]; omega))⟩
                  have S6 := Lib.hid (S5.out.set F (2 * (k : Int) + 1))
                  have n6 := box_row BP5.out S5.out.oy.own (by decide)
                  have x3 := keepT1 (a := F) (x := .int .i64 (2 * (k : Int) + 1)) (W := w5) x0 (show wr.heap.size ≠ w0.heap.size from fun e => n6 (by rw [e]; rfl))
                  generalize 1 <<< F = sF at e12 e14 e15 HS2
                  generalize s ||| sF = s'' at e14 HS2
                  clear hc2 r3 n6
                  simp only [CS]
                  go_wp2_with (at_builtin; refine app1z (w5.setCell ⟨w0.heap.size, F, none⟩ (.int .i64 (2 * (k : Int) + 1))) rfl _ _ rfl (w0.heap.size + 1) (F : Int) S6.out.li rfl w5.heap.size (by simp) rfl (by omega) S6.out.oy.2.2 ?_; intro v7 w7 ho7 hg7
                               have S7 := Lib.hid (S6.out.app ho7 hg7)
                               clear ho7 hg7)
                  go_roundg gk3
                  case measure => omega
                  case rel => exact ⟨k + 1, s'', _, by omega, by go_num, rfl, rfl, by rw [HN.out, HNY.out]; exact HS2.out, by rw [HN.out, HNY.out]; exact S7.out⟩
            · obtain rfl : k = n := by omega
              have hbb := bfs_succ (F := pF zs) (T := pT zs) (W := pW zs) (f := gd fs) (m := k) (a := (a : Int)) i (by rw [HB0.out]; exact hlt2)
              rw [HB0.out, HT.out] at hbb
              have HBB := Lib.hid hbb
              have HS := Lib.hid hS
              have HST := Lib.hid hst
              clear hbb hS hst
              go_wp2
              go_roundg gk2
              case measure => omega
              case rel => exact ⟨i + 1, s, _, by omega, by go_num, rfl, rfl, by rw [HBB.out]; exact HS.out, by rw [HBB.out]; exact HST.out⟩
        · have hfin := fin_of (F := pF zs) (T := pT zs) (W := pW zs) (f := gd fs) (m := n) (P := (P : Int)) (a := (a : Int)) (by omega) (by omega) HPL.out (i := i) (by rw [HB0.out]; omega)
          rw [HB0.out] at hfin
          replace hfin := Lib.hid hfin
          have HS := Lib.hid hst
          clear hS hst
          go_wp2
          go_ret
          exact ⟨_, rfl, own_mono (by rw [← hfin.out]; exact HS.out.oy.own) HB.out.size, HB.out.trans (HS.out.bl.mono HB.out.size)⟩
end Go.Proofs.Ytilabfmnaegidaa.fl_
