/- Flows: the program's roomFor, sendAlong; a way copied. -/
import Derived.Test.YtilabfmnaegidaaFlwK
import Derived.Test.YtilabfmnaegidaaCpy
namespace Go.Proofs.Ytilabfmnaegidaa.fl_
open Go.RowKit Go.Proofs.Ytilabfmnaegidaa.kit Go.Proofs.Ytilabfmnaegidaa.lawi Go.Proofs.Ytilabfmnaegidaa.own Go.Proofs.Ytilabfmnaegidaa.rain Go.Proofs.Ytilabfmnaegidaa.yrl Go.Proofs.Ytilabfmnaegidaa.net Go.Proofs.Ytilabfmnaegidaa.nt Go.Proofs.Ytilabfmnaegidaa.flw Go.Proofs.Ytilabfmnaegidaa.take Go.Proofs.Ytilabfmnaegidaa.cpy
theorem infoS : (Try.prog.info? 84).map (fun i => (i.zero, i.size, i.bytes)) = some (some (.agg #[.int .i64 0, .int .i64 0]), 2, 16) := by kernel_rfl
theorem stStep2 {w : World} {g : Nat} {t : TypeId} {x y : Value} (h : Blk w g t #[x, y]) : w.cell? ⟨g, 0, none⟩ = some x ∧ w.cell? ⟨g, 1, none⟩ = some y := ⟨h.cell 0, h.cell 1⟩
theorem step_at {w : World} {b o i : Nat} {q : List (Nat × Bool)} {e : Nat × Bool} (h : ∀ j u, (IV (enc q))[j]? = some u → w.cell? ⟨b, o + j, none⟩ = some u) (hi : q[i]? = some e) :
    w.cell? ⟨b, o + i * 2, none⟩ = some (.int .i64 (e.1 : Int)) ∧ w.cell? ⟨b, o + i * 2 + 1, none⟩ = some (.int .i64 (if e.2 = true then 1 else -1)) := by
  have hl : i < q.length := (List.getElem?_eq_some_iff.1 hi).1
  obtain ⟨h1, h2⟩ := enc_at q i e hi
  have h3 := h (i * 2) _ (getI (by rw [enc_len]; omega))
  have h4 := h (i * 2 + 1) _ (getI (by rw [enc_len]; omega))
  rw [h1] at h3
  rw [h2, ← Nat.add_assoc] at h4
  exact ⟨h3, h4⟩
theorem clone_way (w : World) (v : Value) (n : Nat) (zs : List Int) (hn : n ≤ 1048576) (h : Row 2 w v n (zs.map (Value.int .i64))) :
    Calls Try.prog 66 #[v] w (GotR 84 2 w n (zs.map (Value.int .i64))) := by
  obtain ⟨i0, hi, hz0, hz1, hz2⟩ := info_parts infoS
  obtain ⟨a, ca, rfl⟩ := h.shape
  cases a with
  | none =>
    have hnil : zs.map (Value.int .i64) = [] := by
      obtain ⟨hl, a, ca, he, ha⟩ := h
      cases he
      rcases ha with h | ⟨b, off, h, _⟩
      · exact List.eq_nil_of_length_eq_zero (by simpa [h] using hl)
      · cases h
    have h0 : n = 0 := by have := h.1; rw [hnil] at this; simp at this; omega
    subst h0
    rw [hnil]
    clear h hnil
    have he : ∀ W : World, (binOp .eql 68 (.slice none 0 ca) (.slice none 0 0)).run Try.prog W = .ok (.bool true) W := fun W => Lib.run_eql_slice_nil (P := Try.prog) W 68 84 none 0 ca 0 0 Try.underlying68
    go_enter Try.func66, Try.ntmps66
    go_wp2
    go_ret
    exact ⟨_, rfl, World.ownsRow_nil _ _ _ _, Below.refl _ _⟩
  | some ad =>
    have HR := Lib.hid (h.keep (below_al (Below.refl _ _) (.cells #[] 84)))
    clear h
    have he : ∀ W : World, (binOp .eql 68 (.slice (some ad) n ca) (.slice none 0 0)).run Try.prog W = .ok (.bool false) W := fun W => Lib.run_eql_slice_nil (P := Try.prog) W 68 84 (some ad) n ca 0 0 Try.underlying68
    go_enter Try.func66, Try.ntmps66
    go_wp2_with (at_builtin; refine wp_copy rfl _ _ 68 rfl 84 i0 (.agg #[.int .i64 0, .int .i64 0]) 2 16 Try.underlying68 hi hz0 hz1 hz2 rfl (by decide) w.heap.size (Blk.new _ _ _) _ n zs HR.out hn (by decide) rfl rfl ?_; intro v' w1 hown1 hg1 _)
    go_ret
    exact ⟨_, rfl, hown1, below_grown (grown_trans (World.grownBy_alloc w _ _) hg1) (Nat.le_refl _) (fun k hk => by cases hk; exact Nat.le_refl _)⟩
/-- A step. -/
abbrev Sv (k : Nat) (d : Int) : Value := .agg #[.int .i64 (k : Int), .int .i64 d]
set_option maxHeartbeats 2000000 in
theorem impl_room (w : World) (P : Int) (v u : Value) (n : Nat) (zs fs : List Int) (k : Nat) (d : Bool) (hn : n ≤ 20) (hk : k < n) (hr : Row 3 w v n (IV zs)) (hf : Row 1 w u n (IV fs)) (hw : 0 ≤ pW zs k ∧ pW zs k ≤ 1000) (hc : 0 ≤ gd fs k ∧ gd fs k ≤ 1000) :
    Calls Try.prog 65 #[Nv P v, u, Sv k (if d = true then 1 else -1)] w (Gives w (.int .i64 (room (pW zs) (gd fs) (k, d)))) := by
  obtain ⟨av, ca, rfl⟩ := hr.shape
  obtain ⟨au, cu, rfl⟩ := hf.shape
  have hl : zs.length = n * 3 := by simpa using hr.1
  have hlf : fs.length = n := by simpa using hf.1
  obtain ⟨b1, o1, rfl, h1⟩ := hr.at_ (by omega)
  obtain ⟨b2, o2, rfl, h2⟩ := hf.at_ (by omega)
  obtain ⟨g1, g2, g3⟩ := pipe_at h1 hl hk
  have g4 : w.cell? ⟨b2, o2 + k, none⟩ = some (.int .i64 (gd fs k)) := h2 k _ (getI (by omega))
  have j0 : (0 : Int) ≤ (k : Int) := by omega
  have j1 : (k : Int) < (n : Int) := by omega
  have hro : room (pW zs) (gd fs) (k, d) = if d = true then pW zs k - gd fs k else gd fs k := rfl
  rw [hro]
  clear h1 h2 g1 g2 hr hf hro
  generalize pW zs k = W at g3 hw ⊢
  generalize gd fs k = f at g4 hc ⊢
  cases d with
  | true =>
    obtain ⟨w0, hw0⟩ : ∃ w0, (w.alloc (.cells #[.int .i64 P, .slice (some ⟨b1, o1, none⟩) n ca] TN)).alloc (.cells #[.int .i64 (k : Int), .int .i64 1] 84) = w0 := ⟨_, rfl⟩
    have X0 : Blk w0 w.heap.size TN #[.int .i64 P, .slice (some ⟨b1, o1, none⟩) n ca] := hw0 ▸ (Blk.new _ _ _).alloc _
    have X1 : Blk w0 (w.heap.size + 1) 84 #[.int .i64 (k : Int), .int .i64 1] := hw0 ▸ Blk.new1 w 84 #[.int .i64 (k : Int), .int .i64 1] _
    have B0 : Below w.heap.size w w0 := hw0 ▸ below_al (below_al (Below.refl _ _) _) _
    obtain ⟨p0, p1⟩ := stNet.blk_ X0
    obtain ⟨d0, d1⟩ := stStep2 X1
    replace g3 := keep1 g3 B0
    replace g4 := keep1 g4 B0
    have HB := Lib.hid B0
    have e1 : IntKind.i64.wrap (W - f) = W - f := IntWalk.i64_in _ (by omega)
    clear X0 X1 B0
    rw [if_pos rfl, if_pos rfl]
    go_enter Try.func65, Try.ntmps65
    go_wp2
    go_quiet (fail)
    go_wp2
    go_ret
    exact ⟨rfl, below_drewN HB.out _⟩
  | false =>
    obtain ⟨w0, hw0⟩ : ∃ w0, (w.alloc (.cells #[.int .i64 P, .slice (some ⟨b1, o1, none⟩) n ca] TN)).alloc (.cells #[.int .i64 (k : Int), .int .i64 (-1)] 84) = w0 := ⟨_, rfl⟩
    have X0 : Blk w0 w.heap.size TN #[.int .i64 P, .slice (some ⟨b1, o1, none⟩) n ca] := hw0 ▸ (Blk.new _ _ _).alloc _
    have X1 : Blk w0 (w.heap.size + 1) 84 #[.int .i64 (k : Int), .int .i64 (-1)] := hw0 ▸ Blk.new1 w 84 #[.int .i64 (k : Int), .int .i64 (-1)] _
    have B0 : Below w.heap.size w w0 := hw0 ▸ below_al (below_al (Below.refl _ _) _) _
    obtain ⟨d0, d1⟩ := stStep2 X1
    replace g4 := keep1 g4 B0
    have HB := Lib.hid B0
    clear X0 X1 B0
    rw [if_neg (by decide), if_neg (by decide)]
    go_enter Try.func65, Try.ntmps65
    go_wp2
    go_ret
    exact ⟨rfl, HB.out⟩
/-- Amounts behind the first i steps of a way. -/
def Am (fs fs' : List Int) (n : Nat) (X : Int) (q : List (Nat × Bool)) (i : Nat) : Prop := fs'.length = n ∧ ∀ j, gd fs' j = gd fs j + X * sgn (q.take i) j
theorem Am.next {fs fs' : List Int} {n i : Nat} {X : Int} {q : List (Nat × Bool)} {e : Nat × Bool} (h : Am fs fs' n X q i) (hi : q[i]? = some e) (he : e.1 < n) (y : Int) (hy : y = gd fs' e.1 + X * (if e.2 = true then 1 else -1)) : Am fs (fs'.set e.1 y) n X q (i + 1) := by
  refine ⟨by simpa using h.1, fun j => ?_⟩
  rw [gd_set y (by rw [h.1]; exact he), sgn_take hi]
  unfold upd
  by_cases hj : j = e.1
  · subst hj
    rw [if_pos rfl, if_pos rfl, hy, h.2, Int.mul_add]
    omega
  · rw [if_neg hj, if_neg (fun e => hj e.symm), h.2, Int.add_zero]
theorem Row.set_ {w : World} {v : Value} {n g o : Nat} {xs : List Value} {sz : Nat} (h : Row sz w v n xs) (hb : v.ownBlock ≠ some g) (u : Value) : Row sz (w.setCell ⟨g, o, none⟩ u) v n xs :=
  h.grown (grown_setCell (grown_refl w (some g)) o none u) (.inr hb)
set_option maxHeartbeats 4000000 in
theorem impl_send (w : World) (P : Int) (v qv : Value) (n g0 cu : Nat) (zs fs : List Int) (q : List (Nat × Bool)) (hr : Row 3 w v n (IV zs)) (ok : NO P n zs) (hf : OwnR w g0 (g0 + 1) TI 1 (.slice (some ⟨g0, 0, none⟩) n cu) n (IV fs)) (hq : Row 2 w qv q.length (IV (enc q)))
    (hqb : qv.ownBlock ≠ some g0) (hk : ∀ e, e ∈ q → e.1 < n) (hc : ∀ k, k < n → 0 ≤ gd fs k ∧ gd fs k ≤ pW zs k) (hq8 : q.length ≤ 8) :
    Calls Try.prog 72 #[Nv P v, .slice (some ⟨g0, 0, none⟩) n cu, qv] w fun e w' => e = .returned (.tuple #[]) ∧ (∃ fs', fs'.length = n ∧ gd fs' = aug (mst (pW zs) (gd fs) q 1000) q (gd fs) ∧ OwnR w' g0 (g0 + 1) TI 1 (.slice (some ⟨g0, 0, none⟩) n cu) n (IV fs')) ∧ Chg g0 (g0 + 1) w w' := by
  obtain ⟨av, ca, rfl⟩ := hr.shape
  obtain ⟨aq, cq, rfl⟩ := hq.shape
  have hl : zs.length = n * 3 := by simpa using hr.1
  have hlf : fs.length = n := by simpa using hf.own.1
  have hn := ok.2.2.1
  obtain ⟨w0, hw0⟩ : ∃ w0, w.alloc (.cells #[.int .i64 P, .slice av n ca] TN) = w0 := ⟨_, rfl⟩
  have B0 : Below w.heap.size w w0 := hw0 ▸ below_al (Below.refl _ _) _
  have HX : Hid (Blk w0 w.heap.size TN #[.int .i64 P, .slice av n ca]) := Lib.hid (hw0 ▸ Blk.new w TN #[.int .i64 P, .slice av n ca])
  have HR := Lib.hid (hr.keep B0)
  have HF := Lib.hid (hf.keep B0)
  have HQ := Lib.hid (hq.keep B0)
  have HB := Lib.hid B0
  have HC := Lib.hid hc
  have HK := Lib.hid hk
  have HQB := Lib.hid hqb
  have hW : Hid (∀ k, k < n → 0 ≤ pW zs k ∧ pW zs k ≤ 1000) := Lib.hid fun j hj => by
    obtain ⟨_, _, _, W0, W1⟩ := ok.2.2.2 j hj
    omega
  have hrm : Hid (∀ e, e ∈ q → 0 ≤ room (pW zs) (gd fs) e) := Lib.hid fun e he => by
    have := hc e.1 (hk e he)
    unfold room
    split <;> omega
  have hlt0 : g0 < w0.heap.size := by have h := (hf.own.lt g0 rfl).2; exact Nat.lt_of_lt_of_le h B0.size
  clear hr hf hq B0 hc hk hqb ok
  go_enter Try.func72, Try.ntmps72
  go_wp2
  clear hw0
  go_loopg [6, 13] q.length (fun g s6 s13 wr => ∃ i : Nat, i + g = q.length ∧ s13 = .int .i64 i ∧ s6 = .int .i64 (mst (pW zs) (gd fs) (q.take i) 1000) ∧ Below w0.heap.size w0 wr)
  case atStart => exact ⟨0, by omega, rfl, rfl, Below.refl _ _⟩
  case round =>
    obtain ⟨i, hig, rfl, rfl, hbel⟩ := hrel
    by_cases hlt : i < q.length
    · obtain ⟨gk, rfl⟩ : ∃ g', gk = g' + 1 := ⟨gk - 1, by omega⟩
      obtain ⟨⟨k, d⟩, he⟩ : ∃ e, q[i]? = some e := ⟨_, List.getElem?_eq_getElem hlt⟩
      have hkn := HK.out _ (List.mem_of_getElem? he)
      obtain ⟨b3, o3, rfl, h3⟩ := (HQ.out.keep hbel).at_ (by omega)
      obtain ⟨g1, g2⟩ := step_at h3 he
      have hM := mst_take (W := pW zs) (f := gd fs) 1000 he
      obtain ⟨M', hM'⟩ : ∃ M', mst (pW zs) (gd fs) (q.take (i + 1)) 1000 = M' := ⟨_, rfl⟩
      rw [hM'] at hM
      have HM := Lib.hid hM'
      replace g1 : wr.cell? ⟨b3, o3 + i * 2, none⟩ = some (.int .i64 (k : Int)) := g1
      replace g2 : wr.cell? ⟨b3, o3 + i * 2 + 1, none⟩ = some (.int .i64 (if d = true then 1 else -1)) := g2
      replace hkn : k < n := hkn
      obtain ⟨D, hD⟩ : ∃ D : Int, (if d = true then 1 else -1) = D := ⟨_, rfl⟩
      rw [hD] at g2
      obtain ⟨w4, hw4⟩ : ∃ w4, wr.alloc (.cells #[.int .i64 (k : Int), .int .i64 D] 84) = w4 := ⟨_, rfl⟩
      have XP : Blk w4 wr.heap.size 84 #[.int .i64 (k : Int), .int .i64 D] := hw4 ▸ Blk.new wr 84 #[.int .i64 (k : Int), .int .i64 D]
      have b4 : Below wr.heap.size wr w4 := hw4 ▸ below_al (Below.refl _ _) _
      have L4 := Lib.hid (below_step hbel b4)
      obtain ⟨d0, d1⟩ := stStep2 XP
      obtain ⟨p0, p1⟩ := stNet.blk_ (HX.out.step L4.out)
      have key := impl_room w4 P (.slice av n ca) (.slice (some ⟨g0, 0, none⟩) n cu) n zs fs k d hn hkn (HR.out.keep L4.out) (HF.out.keep L4.out).row (hW.out k hkn) (by have := HC.out k hkn; have := hW.out k hkn; omega)
      rw [hD] at key
      have KEY := Lib.hid key
      clear XP b4 hbel h3 hM' key
      generalize mst (pW zs) (gd fs) (q.take i) 1000 = X at hM ⊢
      generalize room (pW zs) (gd fs) (k, d) = R at hM KEY
      have HMM := Lib.hid hM
      clear hM
      go_wp2_with fail
      refine (KEY.out).mono ?_; rintro e w5 ⟨rfl, hb5⟩
      have L5 := Lib.hid (below_step L4.out hb5)
      clear hb5 p0 p1 d0 d1 g1 g2
      by_cases hXR : R < X
      · have e : M' = R := by rw [HMM.out, if_neg (by omega)]
        clear HMM
        go_wp2
        go_roundg gk
        case measure => omega
        case rel => exact ⟨i + 1, by omega, by go_num, by rw [HM.out, e], L5.out⟩
      · have e : M' = X := by rw [HMM.out, if_pos (by omega)]
        clear HMM
        go_wp2
        go_roundg gk
        case measure => omega
        case rel => exact ⟨i + 1, by omega, by go_num, by rw [HM.out, e], L5.out⟩
    · obtain rfl : i = q.length := by omega
      rw [List.take_length]
      have hX0 := mst_ge (W := pW zs) (f := gd fs) q 1000 0 (by omega) hrm.out
      have hX1 := (mst_le (W := pW zs) (f := gd fs) q 1000).1
      obtain ⟨X, hX⟩ : ∃ X, mst (pW zs) (gd fs) q 1000 = X := ⟨_, rfl⟩
      rw [hX] at hX0 hX1 ⊢
      have HXE := Lib.hid hX
      clear hX
      have HL := Lib.hid hbel
      clear hbel
      go_wp2
      go_loopg [26] q.length (fun g s26 wr => ∃ (i : Nat) (fs' : List Int), i + g = q.length ∧ s26 = .int .i64 i ∧ Am fs fs' n X q i ∧ OwnR wr g0 (g0 + 1) TI 1 (.slice (some ⟨g0, 0, none⟩) n cu) n (IV fs') ∧ Row 2 wr (.slice aq q.length cq) q.length (IV (enc q)) ∧ Chg g0 (g0 + 1) w wr)
      case atStart => exact ⟨0, fs, by omega, rfl, ⟨hlf, fun j => by simp [sgn]⟩, HF.out.keep HL.out, HQ.out.keep HL.out, .of_below (HB.out.trans (HL.out.mono HB.out.size))⟩
      case round =>
        clear HL
        obtain ⟨i, fs', hig, rfl, ham, hown, hrow, hchg⟩ := hrel
        by_cases hlt : i < q.length
        · obtain ⟨gk, rfl⟩ : ∃ g', gk = g' + 1 := ⟨gk - 1, by omega⟩
          obtain ⟨⟨k, d⟩, he⟩ : ∃ e, q[i]? = some e := ⟨_, List.getElem?_eq_getElem hlt⟩
          have hkn : k < n := HK.out _ (List.mem_of_getElem? he)
          obtain ⟨b3, o3, hb3, h3⟩ := hrow.at_ (by omega)
          subst hb3
          obtain ⟨g1, g2⟩ := step_at h3 he
          replace g1 : wr.cell? ⟨b3, o3 + i * 2, none⟩ = some (.int .i64 (k : Int)) := g1
          replace g2 : wr.cell? ⟨b3, o3 + i * 2 + 1, none⟩ = some (.int .i64 (if d = true then 1 else -1)) := g2
          have hlf' := ham.1
          have c0 := own_cell hown.own (g := g0) rfl k _ (getI (by omega))
          replace c0 : wr.cell? ⟨g0, k, none⟩ = some (.int .i64 (gd fs' k)) := c0
          have hgd := ham.2 k
          have hs1 := sgn_bd (q.take i) k
          have hln : (q.take i).length ≤ 8 := by rw [List.length_take]; omega
          have hfb := HC.out k hkn
          have hwb := hW.out k hkn
          have hm1 : X * sgn (q.take i) k ≤ 1000 * 8 ∧ -(1000 * 8) ≤ X * sgn (q.take i) k := by
            obtain ⟨s, hs⟩ : ∃ s, sgn (q.take i) k = s := ⟨_, rfl⟩
            rw [hs] at hs1 ⊢
            constructor
            · rcases Int.le_total 0 s with h | h
              · exact Int.mul_le_mul hX1 (by omega) h (by omega)
              · have := Int.mul_nonpos_of_nonneg_of_nonpos hX0 h; omega
            · rcases Int.le_total 0 s with h | h
              · have := Int.mul_nonneg hX0 h; omega
              · have h1 := Int.mul_le_mul hX1 (show -s ≤ 8 by omega) (by omega) (by omega)
                rw [Int.mul_neg] at h1
                omega
          obtain ⟨D, hD⟩ : ∃ D : Int, (if d = true then 1 else -1) = D := ⟨_, rfl⟩
          rw [hD] at g2
          have hXD : X * D = X ∨ X * D = -X := by
            rw [← hD]
            cases d
            · right; simp
            · left; simp
          obtain ⟨Y, hY⟩ : ∃ Y, X * D = Y := ⟨_, rfl⟩
          rw [hY] at hXD
          have ham2 := Lib.hid (ham.next he hkn (gd fs' k + Y) (by rw [← hY, ← hD]))
          generalize gd fs' k = f at c0 hgd ham2
          have e1 : IntKind.i64.wrap (X * D) = Y := by rw [hY]; exact IntWalk.i64_in _ (by omega)
          have e2 : IntKind.i64.wrap (f + Y) = f + Y := IntWalk.i64_in _ (by omega)
          obtain ⟨w4, hw4⟩ : ∃ w4, wr.alloc (.cells #[.int .i64 (k : Int), .int .i64 D] 84) = w4 := ⟨_, rfl⟩
          have XP : Blk w4 wr.heap.size 84 #[.int .i64 (k : Int), .int .i64 D] := hw4 ▸ Blk.new wr 84 #[.int .i64 (k : Int), .int .i64 D]
          have b4 : Below wr.heap.size wr w4 := hw4 ▸ below_al (Below.refl _ _) _
          obtain ⟨d0, d1⟩ := stStep2 XP
          have hz := hchg.size
          have n1 : wr.heap.size ≠ g0 := by have := (hown.own.lt g0 rfl).2; omega
          have HO := Lib.hid (hown.keep b4)
          have HW := Lib.hid (hrow.keep b4)
          have HG := Lib.hid (hchg.trans (.of_below b4))
          replace c0 := keep1 c0 b4
          have z0 := own_free HO.out.own (g := g0) rfl k
          have T1 := Lib.hid (own_iv HO.out rfl k (f + Y))
          have j0 : (0 : Int) ≤ (k : Int) := by omega
          have j1 : (k : Int) < (n : Int) := by omega
          clear XP b4 ham hown hrow hchg h3 hgd hs1 hm1 hfb hwb hY hD hXD he
          go_wp2
          refine wp_region_held_drew (S := fun V => V.cell? ⟨wr.heap.size, 0, none⟩ = some (.int .i64 (k : Int)) ∧ V.cell? ⟨wr.heap.size, 1, none⟩ = some (.int .i64 D)) (by kernel_rfl) ⟨d0, d1⟩ (fun hHeld => ?_)
          refine takeH 0 (by simp only [List.getElem?_toArray, List.getElem?_cons_zero]; rfl) (by kernel_rfl) (by kernel_rfl) (by kernel_rfl) (by rfl) (by intro w hSw; (try dsimp only at hSw); go_simp; first | done | with_reducible rfl) (by intro _ _ _ h; exact h) (by assumption) ?_
          (try simp only [Act.put, List.setIfInBounds_toArray, List.set_cons_zero, List.set_cons_succ])
          refine takeH 1 (by simp only [List.getElem?_toArray, List.getElem?_cons_succ, List.getElem?_cons_zero]; rfl) (by kernel_rfl) (by kernel_rfl) (by kernel_rfl) (by rfl) (by intro w hSw; (try dsimp only at hSw); go_simp; first | done | with_reducible rfl) (by intro _ _ _ h; exact h) (by assumption) ?_
          (try simp only [Act.put, List.setIfInBounds_toArray, List.set_cons_zero, List.set_cons_succ])
          refine takeH 2 (by simp only [List.getElem?_toArray, List.getElem?_cons_succ, List.getElem?_cons_zero]; rfl) (by kernel_rfl) (by kernel_rfl) (by kernel_rfl) (by rfl) (by intro w hSw; (try dsimp only at hSw); go_simp; first | done | with_reducible rfl) (by intro _ _ _ h; exact h) (by assumption) ?_
          (try simp only [Act.put, List.setIfInBounds_toArray, List.set_cons_zero, List.set_cons_succ])
          refine takeH 3 (by simp only [List.getElem?_toArray, List.getElem?_cons_succ, List.getElem?_cons_zero]; rfl) (by kernel_rfl) (by kernel_rfl) (by kernel_rfl) (by rfl) (by intro w hSw; (try dsimp only at hSw); go_simp; first | done | with_reducible rfl) (by intro _ _ _ h; exact h) (by assumption) ?_
          (try simp only [Act.put, List.setIfInBounds_toArray, List.set_cons_zero, List.set_cons_succ])
          refine takeH 5 (by simp only [List.getElem?_toArray, List.getElem?_cons_succ, List.getElem?_cons_zero]; rfl) (by kernel_rfl) (by kernel_rfl) (by kernel_rfl) (by rfl) (by intro w hSw; (try dsimp only at hSw); go_simp; first | done | with_reducible rfl) (by intro _ _ _ h; exact h) (by assumption) ?_
          (try simp only [Act.put, List.setIfInBounds_toArray, List.set_cons_zero, List.set_cons_succ])
          refine takeH 6 (by simp only [List.getElem?_toArray, List.getElem?_cons_succ, List.getElem?_cons_zero]; rfl) (by kernel_rfl) (by kernel_rfl) (by kernel_rfl) (by rfl) (by intro w hSw; (try dsimp only at hSw); go_simp; first | done | with_reducible rfl) (by intro _ _ _ h; exact h) (by assumption) ?_
          (try simp only [Act.put, List.setIfInBounds_toArray, List.set_cons_zero, List.set_cons_succ])
          refine takeH 7 (by simp only [List.getElem?_toArray, List.getElem?_cons_succ, List.getElem?_cons_zero]; rfl) (by kernel_rfl) (by kernel_rfl) (by kernel_rfl) (by rfl) (by intro w hSw; (try dsimp only at hSw); go_simp; first | done | with_reducible rfl) (by intro _ _ _ h; exact h) (by assumption) ?_
          (try simp only [Act.put, List.setIfInBounds_toArray, List.set_cons_zero, List.set_cons_succ])
          refine takeH 8 (by simp only [List.getElem?_toArray, List.getElem?_cons_succ, List.getElem?_cons_zero]; rfl) (by kernel_rfl) (by kernel_rfl) (by kernel_rfl) (by rfl) (by intro w hSw; (try dsimp only at hSw); go_simp; first | done | with_reducible rfl) (by intro _ _ _ h; exact h) (by assumption) ?_
          (try simp only [Act.put, List.setIfInBounds_toArray, List.set_cons_zero, List.set_cons_succ])
          refine wpAnyH_ready (rs := [4]) (by kernel_rfl) (by simp) (AllReadyH.cons (by simp only [List.getElem?_toArray, List.getElem?_cons_succ, List.getElem?_cons_zero]; rfl) (fun K hK => ?_) AllReadyH.nil)
          go_simp
          refine hK.out _ _ (⟨d0, d1⟩) (fun hHeld => ?_)
          clear hK K
          (try simp only [Act.put, List.setIfInBounds_toArray, List.set_cons_zero, List.set_cons_succ])
          refine takeH 9 (by simp only [List.getElem?_toArray, List.getElem?_cons_succ, List.getElem?_cons_zero]; rfl) (by kernel_rfl) (by kernel_rfl) (by kernel_rfl) (by rfl) (by intro w hSw; (try dsimp only at hSw); go_simp; first | done | with_reducible rfl) (by intro _ _ _ h; exact h) (by assumption) ?_
          (try simp only [Act.put, List.setIfInBounds_toArray, List.set_cons_zero, List.set_cons_succ])
          refine takeH 10 (by simp only [List.getElem?_toArray, List.getElem?_cons_succ, List.getElem?_cons_zero]; rfl) (by kernel_rfl) (by kernel_rfl) (by kernel_rfl) (by rfl) (by intro w hSw; (try dsimp only at hSw); go_simp; first | done | with_reducible rfl) (by intro _ _ _ h; exact h) (by assumption) ?_
          (try simp only [Act.put, List.setIfInBounds_toArray, List.set_cons_zero, List.set_cons_succ])
          refine wpAnyH_ready (rs := [11]) (by kernel_rfl) (by simp) (AllReadyH.cons (by simp only [List.getElem?_toArray, List.getElem?_cons_succ, List.getElem?_cons_zero]; rfl) (fun K hK => ?_) AllReadyH.nil)
          go_simp
          refine hK.out _ _ (keepT hHeld n1 n1) (fun hHeld => ?_)
          clear hK K
          (try simp only [Act.put, List.setIfInBounds_toArray, List.set_cons_zero, List.set_cons_succ])
          refine wpAnyH_done (by kernel_rfl) ?_ _
          clear c0 z0 e1 hHeld
          go_wp2
          go_roundg gk
          case measure => omega
          case rel =>
            refine ⟨i + 1, _, by omega, by go_num, ham2.out, OwnR.drew T1.out, ?_, ?_⟩
            · exact Row.keep (Row.set_ HW.out (o := k) HQB.out (.int .i64 (f + Y))) (below_dr (Below.refl _ _))
            · exact (HG.out.trans (Chg.set g0 k _ (Nat.le_refl _) (by omega))).trans (.of_below (below_dr (Below.refl _ _)))
        · obtain rfl : i = q.length := by omega
          rw [Am, List.take_length] at ham
          have HA := Lib.hid ham
          have HO := Lib.hid hown
          have HG := Lib.hid hchg
          clear ham hown hrow hchg
          go_wp2
          go_end0
          exact ⟨rfl, ⟨fs', HA.out.1, funext fun j => by rw [aug_sgn, HA.out.2 j, HXE.out], HO.out⟩, HG.out⟩
end Go.Proofs.Ytilabfmnaegidaa.fl_
