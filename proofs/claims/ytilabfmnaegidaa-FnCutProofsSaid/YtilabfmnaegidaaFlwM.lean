/- Flows: the program's search: what one look at a pipe does (the function value 'put' of shortestWays). -/
import Derived.Test.YtilabfmnaegidaaFlwN
import Derived.Deep.AppendLies
namespace Go.Proofs.Ytilabfmnaegidaa.fl_
open Go.RowKit Go.Proofs.Ytilabfmnaegidaa.kit Go.Proofs.Ytilabfmnaegidaa.lawi Go.Proofs.Ytilabfmnaegidaa.own Go.Proofs.Ytilabfmnaegidaa.rain Go.Proofs.Ytilabfmnaegidaa.yrl Go.Proofs.Ytilabfmnaegidaa.net Go.Proofs.Ytilabfmnaegidaa.nt Go.Proofs.Ytilabfmnaegidaa.flw Go.Proofs.Ytilabfmnaegidaa.take Go.Proofs.Ytilabfmnaegidaa.mapv
abbrev TL : TypeId := 68
theorem zero_way : ∀ w : World, (zeroValue 68).run Try.prog w = .ok (.slice none 0 0) w := fun w => by go_simp
theorem app1f (wr : World) {T : TypeId} {ops : Array Oper} {rest : List Oper} {o : Oper} {a : Act} {Q : Exit → Act → World → Prop} (hgd : o.guard = none) (s x : Operand)
    (ho : o.op = .call { callee := .builtin .append, args := #[s, x], argTypes := #[30, 30] })
    (base : Nat) {v : Value} {n : Nat} {zs : List Int} (z : Int) (hown : wr.ownsRow base 3 1 v n (zs.map (Value.int .i64))) (hs : a.eval s = v)
    (hx : a.eval x = .slice (some ⟨wr.heap.size, 0, none⟩) 1 1) (hn : n ≤ 1000000000000) (hb : base ≤ wr.heap.size)
    (h : ∀ g cap w1, w1.ownsRow base 3 1 (.slice (some ⟨g, 0, none⟩) (n + 1) cap) (n + 1) ((zs ++ [z]).map (Value.int .i64)) → wr.grownBy w1 v.ownBlock → (v.ownBlock = some g ∨ wr.heap.size ≤ g) → wpList Try.prog ops Q rest (a.put o.dst (.slice (some ⟨g, 0, none⟩) (n + 1) cap)) w1) :
    wpList Try.prog ops Q (o :: rest) a (wr.alloc (.cells #[.int .i64 z] T)) := by
  obtain ⟨i0, hi, hz0, hz1, hz2⟩ := info_parts infoI
  refine wpList_append_lies _ hgd s x 30 ho base 3 i0 (.int .i64 0) 1 8 Try.underlying30 hi hz0 hz1 hz2 rfl (by decide) v n (zs.map (Value.int .i64)) hs (hown.alloc _) ⟨wr.heap.size, 0, none⟩ 1 1 [.int .i64 z] hx rfl
    (World.news_of_block (heap_alloc_new wr _)) (by simp [Value.oneCell']) (by decide) (by unfold maxLen; omega) (by omega) (by simp; omega) _ rfl ?_
  intro g cap w1 hown1 hg hgg _
  refine h g cap w1 (by simpa using hown1) (grown_trans (World.grownBy_alloc wr _ _) hg) ?_
  rcases hgg with e | e
  · exact .inl e
  · right; rw [e]; simp
theorem rs_keep {V V' : World} {p1 p2 p3 p4 : Addr} {a1 a2 a3 a4 : Value} {mb : Nat} {t : Int} {rv : Value} (h : V.cell? p1 = some a1 ∧ V.cell? p2 = some a2 ∧ V.cell? p3 = some a3 ∧ V.cell? p4 = some a4 ∧ ∃ n f, MapV Try.prog TI V mb n f ∧ f t = some rv) (hb : Below V.heap.size V V') :
    V'.cell? p1 = some a1 ∧ V'.cell? p2 = some a2 ∧ V'.cell? p3 = some a3 ∧ V'.cell? p4 = some a4 ∧ ∃ n f, MapV Try.prog TI V' mb n f ∧ f t = some rv := by
  obtain ⟨h1, h2, h3, h4, n, f, h5, h6⟩ := h
  exact ⟨keep1 h1 hb, keep1 h2 hb, keep1 h3 hb, keep1 h4 hb, n, f, h5.keep hb, h6⟩
theorem rs_put {V V' : World} {p1 p2 p3 p4 : Addr} {a1 a2 a3 a4 : Value} {mb m : Nat} {t : Int} {rv : Value} {f' : Int → Option Value} (h : V.cell? p1 = some a1 ∧ V.cell? p2 = some a2 ∧ V.cell? p3 = some a3 ∧ V.cell? p4 = some a4 ∧ ∃ n f, MapV Try.prog TI V mb n f ∧ f t = some rv) (hg : V.grownBy V' (some mb))
    (n1 : p1.block ≠ mb) (n2 : p2.block ≠ mb) (n3 : p3.block ≠ mb) (n4 : p4.block ≠ mb) (hm : MapV Try.prog TI V' mb m f') (he : f' t = some rv) :
    V'.cell? p1 = some a1 ∧ V'.cell? p2 = some a2 ∧ V'.cell? p3 = some a3 ∧ V'.cell? p4 = some a4 ∧ ∃ n f, MapV Try.prog TI V' mb n f ∧ f t = some rv := by
  obtain ⟨h1, h2, h3, h4, _, _, _, _⟩ := h
  exact ⟨hg.cell h1 (fun e => n1 (Option.some.inj e)), hg.cell h2 (fun e => n2 (Option.some.inj e)), hg.cell h3 (fun e => n3 (Option.some.inj e)), hg.cell h4 (fun e => n4 (Option.some.inj e)), m, f', hm, he⟩
set_option maxHeartbeats 8000000 in
theorem clo_put (w0 W : World) (P : Int) (n : Nat) (av : Option Addr) (ca : Nat) (u : Value) (zs fs : List Int) (a t v : Int) (k : Nat) (d : Bool) (nb fb ab wb mb pb g : Nat) (s : List Int × (Int → Int)) (f : Int → Option Value)
    (hs : SW w0 W (pF zs) (pT zs) n a wb mb pb g s f) (hn : n ≤ 20) (xn : Blk W nb TN #[.int .i64 P, .slice av n ca]) (hr : Row 3 W (.slice av n ca) n (IV zs)) (xf : Blk W fb TR #[u]) (hf : Row 1 W u n (IV fs)) (xa : Blk W ab TI #[.int .i64 t]) (hne : ab ≠ mb)
    (ht : t ∈ s.1) (ha : a ∈ s.1) (hk : k < n) (hd : if d = true then pF zs k = t ∧ pT zs k = v else pT zs k = t ∧ pF zs k = v) (hw : 0 ≤ pW zs k ∧ pW zs k ≤ 1000) (hc : 0 ≤ gd fs k ∧ gd fs k ≤ 1000) (hl8 : s.1.length ≤ 8) (hv0 : 0 ≤ v) (hv1 : v ≤ 8) (ht0 : 0 ≤ t) (ht1 : t ≤ 8) :
    Calls Try.prog 64 #[.int .i64 v, Sv k (if d = true then 1 else -1), .pointer (some ⟨wb, 0, none⟩), .pointer (some ⟨nb, 0, none⟩), .pointer (some ⟨fb, 0, none⟩), .pointer (some ⟨ab, 0, none⟩), .pointer (some ⟨pb, 0, none⟩)] W
      fun e W' => e = .returned (.tuple #[]) ∧ ∃ g' f', SW w0 W' (pF zs) (pT zs) n a wb mb pb g' (one (decide (0 < room (pW zs) (gd fs) (k, d))) v (stepx k d) s) f' ∧ Kpt mb pb g W W' ∧ (g' = g ∨ W.heap.size ≤ g') := by
  obtain ⟨i0, hi, hz0, hz1, hz2⟩ := info_parts infoS
  obtain ⟨au, cu, rfl⟩ := hf.shape
  have wfv := wf_small hv0 (by omega : v ≤ 1000000)
  have wft := wf_small ht0 (by omega : t ≤ 1000000)
  obtain ⟨D, hD⟩ : ∃ D : Int, (if d = true then 1 else -1) = D := ⟨_, rfl⟩
  obtain ⟨w1, hw1⟩ : ∃ w1, W.alloc (.cells #[.int .i64 (k : Int), .int .i64 D] 84) = w1 := ⟨_, rfl⟩
  have XS : Hid (Blk w1 W.heap.size 84 #[.int .i64 (k : Int), .int .i64 D]) := Lib.hid (hw1 ▸ Blk.new W 84 #[.int .i64 (k : Int), .int .i64 D])
  have B1 : Below W.heap.size W w1 := hw1 ▸ below_al (Below.refl _ _) _
  have key := fun w2 (hb : Below W.heap.size W w2) => impl_room w2 P (.slice av n ca) (.slice au n cu) n zs fs k d hn hk (hr.keep hb) (hf.keep hb) hw hc
  rw [hD] at key ⊢
  have KEY := Lib.hid key
  have H1 := Lib.hid (hs.keep B1)
  have HS := Lib.hid hs
  have XN := Lib.hid xn
  have XF := Lib.hid xf
  have XA := Lib.hid xa
  have HB := Lib.hid B1
  have HD := Lib.hid hd
  have q0 := H1.out.wv.cell 0
  replace q0 : w1.cell? ⟨wb, 0, none⟩ = some (.map (some mb)) := q0
  clear hs xn xf xa key hr hf B1 hd
  by_cases hv : v ∈ s.1
  · obtain ⟨_, rv, hfv, _⟩ := H1.out.ys v hv
    rw [one_no (.inr hv)]
    have HFV := Lib.hid hfv
    clear hfv
    go_enter Try.func64, Try.ntmps64
    go_wp2_with (first
      | (refine wp_lookV_ok _ rfl _ _ TW rfl TI TL Try.underlying3 Try.underlying66 (.slice none 0 0) zero_way mb _ f rfl H1.out.mp v rfl wfv ?_; rw [HFV.out])
      | fail)
    go_end0
    exact ⟨rfl, g, f, H1.out, .keep HB.out, .inl rfl⟩
  · have hfv := H1.out.no v hv
    have HFV := Lib.hid hfv
    clear hfv
    obtain ⟨p0, p1⟩ := stNet.blk_ (XN.out.step HB.out)
    have q1 := (XF.out.step HB.out).cell 0
    replace q1 : w1.cell? ⟨fb, 0, none⟩ = some (.slice au n cu) := q1
    obtain ⟨d0, d1⟩ := stStep2 XS.out
    by_cases hroom : 0 < room (pW zs) (gd fs) (k, d)
    · have e1 : one (decide (0 < room (pW zs) (gd fs) (k, d))) v (stepx k d) s = ext s v (stepx k d) := one_yes (decide_eq_true hroom) hv
      rw [e1]
      clear e1
      generalize room (pW zs) (gd fs) (k, d) = R at KEY hroom
      go_enter Try.func64, Try.ntmps64
      go_wp2_with (first
        | (refine wp_lookV_ok _ rfl _ _ TW rfl TI TL Try.underlying3 Try.underlying66 (.slice none 0 0) zero_way mb _ f rfl H1.out.mp v rfl wfv ?_; rw [HFV.out])
        | fail)
      refine (KEY.out _ HB.out).mono ?_; rintro e w2 ⟨rfl, hb2⟩
      have HB2 := Lib.hid (below_step HB.out hb2)
      have H2 := Lib.hid (H1.out.keep hb2)
      replace XS := Lib.hid (XS.out.step hb2)
      obtain ⟨d2, d3⟩ := stStep2 XS.out
      have q2 : w2.cell? ⟨wb, 0, none⟩ = some (.map (some mb)) := H2.out.wv.cell 0
      have q3 : w2.cell? ⟨ab, 0, none⟩ = some (.int .i64 t) := (XA.out.step HB2.out).cell 0
      obtain ⟨r, rv, hft, hwy, hrl, hrow, hrb⟩ := H2.out.ys t ht
      have hrs : w2.cell? ⟨wb, 0, none⟩ = some (.map (some mb)) ∧ w2.cell? ⟨ab, 0, none⟩ = some (.int .i64 t) ∧ w2.cell? ⟨W.heap.size, 0, none⟩ = some (.int .i64 (k : Int)) ∧ w2.cell? ⟨W.heap.size, 1, none⟩ = some (.int .i64 D) ∧ ∃ n f, MapV Try.prog TI w2 mb n f ∧ f t = some rv := ⟨q2, q3, d2, d3, _, f, H2.out.mp, hft⟩
      have HROW := Lib.hid hrow
      have HWY := Lib.hid hwy
      have HFT := Lib.hid hft
      clear hrow hwy hft hb2 p0 p1 d0 d1 q0 q1 hrb
      go_wp2
      refine wp_region_held_drew (S := fun V => V.cell? ⟨wb, 0, none⟩ = some (.map (some mb)) ∧ V.cell? ⟨ab, 0, none⟩ = some (.int .i64 t) ∧ V.cell? ⟨W.heap.size, 0, none⟩ = some (.int .i64 (k : Int)) ∧ V.cell? ⟨W.heap.size, 1, none⟩ = some (.int .i64 D) ∧ ∃ n f, MapV Try.prog TI V mb n f ∧ f t = some rv) (by kernel_rfl) hrs (fun hHeld => ?_)
      clear q2 q3 d2 d3
      refine takeH 0 (by simp only [List.getElem?_toArray, List.getElem?_cons_zero]; rfl) (by kernel_rfl) (by kernel_rfl) (by kernel_rfl) (by rfl) (by intro w hSw; (try dsimp only at hSw); go_simp; first | done | with_reducible rfl) (by intro _ _ _ h; exact h) (by assumption) ?_
      (try simp only [Act.put, List.setIfInBounds_toArray, List.set_cons_zero, List.set_cons_succ])
      refine takeH 1 (by simp only [List.getElem?_toArray, List.getElem?_cons_succ, List.getElem?_cons_zero]; rfl) (by kernel_rfl) (by kernel_rfl) (by kernel_rfl) (by rfl) (by intro w hSw; (try dsimp only at hSw); go_simp; first | done | with_reducible rfl) (by intro _ _ _ h; exact h) (by assumption) ?_
      (try simp only [Act.put, List.setIfInBounds_toArray, List.set_cons_zero, List.set_cons_succ])
      refine takeH 2 (by simp only [List.getElem?_toArray, List.getElem?_cons_succ, List.getElem?_cons_zero]; rfl) (by kernel_rfl) (by kernel_rfl) (by kernel_rfl) (by rfl) (by intro w hSw; (try dsimp only at hSw); go_simp; first | done | with_reducible rfl) (by intro _ _ _ h; exact h) (by assumption) ?_
      (try simp only [Act.put, List.setIfInBounds_toArray, List.set_cons_zero, List.set_cons_succ])
      refine takeH 3 (by simp only [List.getElem?_toArray, List.getElem?_cons_succ, List.getElem?_cons_zero]; rfl) (by kernel_rfl) (by kernel_rfl) (by kernel_rfl) (by rfl) (by intro w hSw; (try dsimp only at hSw); go_simp; first | done | with_reducible rfl) (by intro _ _ _ h; exact h) (by assumption) ?_
      (try simp only [Act.put, List.setIfInBounds_toArray, List.set_cons_zero, List.set_cons_succ])
      refine takeH (v := rv) 4 (by simp only [List.getElem?_toArray, List.getElem?_cons_succ, List.getElem?_cons_zero]; rfl) (by kernel_rfl) (by kernel_rfl) (by kernel_rfl) (by rfl) (by
        rintro V ⟨_, _, _, _, n', f', hm', hf'⟩
        have hrun := hm'.look (t := TW) (e := TL) Try.underlying3 Try.underlying66 (zero_way V) wft
        rw [hf'] at hrun
        simp [execOp, Act.eval, hrun, Result.andThen]) (by intro _ _ _ h; exact h) (by assumption) ?_
      (try simp only [Act.put, List.setIfInBounds_toArray, List.set_cons_zero, List.set_cons_succ])
      refine takeH 6 (by simp only [List.getElem?_toArray, List.getElem?_cons_succ, List.getElem?_cons_zero]; rfl) (by kernel_rfl) (by kernel_rfl) (by kernel_rfl) (by rfl) (by intro w hSw; (try dsimp only at hSw); go_simp; first | done | with_reducible rfl) (by intro _ _ _ h; exact h) (by assumption) ?_
      (try simp only [Act.put, List.setIfInBounds_toArray, List.set_cons_zero, List.set_cons_succ])
      refine wpAnyH_ready (rs := [5, 7]) (by kernel_rfl) (by simp) (AllReadyH.cons (by simp only [List.getElem?_toArray, List.getElem?_cons_succ, List.getElem?_cons_zero]; rfl) (fun K hK => ?_) (AllReadyH.cons (by simp only [List.getElem?_toArray, List.getElem?_cons_succ, List.getElem?_cons_zero]; rfl) (fun K hK => ?_) AllReadyH.nil))
      · go_simp
        go_at_call 66
        refine (clone_way _ _ r.length (enc r.reverse) (by omega) (Row.keep (Row.of_own HROW.out) (below_dr (Below.refl _ _)))).mono ?_; rintro e w3 ⟨vC, rfl, oC, bC⟩
        obtain ⟨aC, cC, rfl⟩ := own_shape oC
        have hb3 : Below w2.heap.size w2 w3 := below_step (below_dr (Below.refl _ _)) bC
        (try go_simp)
        refine hK.out _ _ (rs_keep hrs hb3) (fun hHeld => ?_)
        clear hK K
        (try simp only [Act.put, List.setIfInBounds_toArray, List.set_cons_zero, List.set_cons_succ])
        refine wpAnyH_ready (rs := [7]) (by kernel_rfl) (by simp) (AllReadyH.cons (by simp only [List.getElem?_toArray, List.getElem?_cons_succ, List.getElem?_cons_zero]; rfl) (fun K hK => ?_) AllReadyH.nil)
        go_simp
        refine hK.out _ _ (rs_keep hrs (below_al hb3 _)) (fun hHeld => ?_)
        clear hK K
        (try simp only [Act.put, List.setIfInBounds_toArray, List.set_cons_zero, List.set_cons_succ])
        have XB : Blk (w3.alloc (.cells #[.int .i64 (k : Int), .int .i64 D] TS)) w3.heap.size TS #[.int .i64 (k : Int), .int .i64 D] := Blk.new _ _ _
        have oV := oC.alloc (.cells #[.int .i64 (k : Int), .int .i64 D] TS)
        have bV : Below w2.heap.size w2 (w3.alloc (.cells #[.int .i64 (k : Int), .int .i64 D] TS)) := below_al hb3 _
        obtain ⟨xb, hxb⟩ : ∃ xb, w3.heap.size = xb := ⟨_, rfl⟩
        rw [hxb] at XB ⊢
        obtain ⟨V, hV⟩ : ∃ V, w3.alloc (.cells #[.int .i64 (k : Int), .int .i64 D] TS) = V := ⟨_, rfl⟩
        rw [hV] at XB oV bV hHeld ⊢
        replace oV : V.ownsRow w2.heap.size TS 2 (.slice aC r.length cC) r.length (IV (enc r.reverse)) := oV
        clear oC bC hb3 hxb hV
        refine wpAnyH_ready (rs := [8]) (by kernel_rfl) (by simp) (AllReadyH.cons (by simp only [List.getElem?_toArray, List.getElem?_cons_succ, List.getElem?_cons_zero]; rfl) (fun K hK => ?_) AllReadyH.nil)
        refine step_append_lies _ rfl _ _ TL rfl W.heap.size TS i0 (.agg #[.int .i64 0, .int .i64 0]) 2 16 Try.underlying68 hi hz0 hz1 hz2 rfl (by decide) _ r.length (IV (enc r.reverse)) rfl (own_mono oV HB2.out.size) ⟨xb, 0, none⟩ 1 1 [.int .i64 (k : Int), .int .i64 D] rfl rfl (World.news_of_block XB) (by simp [Value.oneCell']) (by decide) (by unfold maxLen; omega) (by omega) (Nat.le_trans HB2.out.size bV.size) _ rfl (fun g2 cap2 w4 own4 hg4 hgg4 hlt4 => ?_)
        have hb4 : Below w2.heap.size w2 w4 := bV.grown hg4 bV.size (fun q hq => (oV.lt q hq).1)
        have hrs4 := rs_keep hrs hb4
        refine hK.out _ _ (hrs4) (fun hHeld => ?_)
        clear hK K
        (try simp only [Act.put, List.setIfInBounds_toArray, List.set_cons_zero, List.set_cons_succ])
        refine wpAnyH_ready (rs := [9]) (by kernel_rfl) (by simp) (AllReadyH.cons (by simp only [List.getElem?_toArray, List.getElem?_cons_succ, List.getElem?_cons_zero]; rfl) (fun K hK => ?_) AllReadyH.nil)
        refine step_putV _ rfl _ _ _ TW rfl TI TL Try.underlying3 Try.underlying66 mb s.1.length (by omega) f rfl (H2.out.mp.keep hb4) v rfl wfv (.slice (some ⟨g2, 0, none⟩) (r.length + 1) cap2) rfl (fun w5 hm5 hg5 => ?_)
        refine hK.out _ _ (rs_put hrs4 hg5 H2.out.ne.1 hne (by have := H2.out.mp.lt; have := HS.out.mp.lt; simp only []; omega) (by have := HS.out.mp.lt; simp only []; omega) hm5 (by rw [if_neg (fun e : t = v => hv (e ▸ ht))]; exact HFT.out)) (fun hHeld => ?_)
        clear hK K
        (try simp only [Act.put])
        refine wpAnyH_done (by kernel_rfl) ?_ _
        obtain ⟨cA, hp1, hp2⟩ := H2.out.pv
        have X5 := (hp1.step hb4).grown hg5 (fun e => H2.out.ne.2.2.1 (Option.some.inj e).symm)
        have q5 : w5.cell? ⟨pb, 0, none⟩ = some (.slice (some ⟨g, 0, none⟩) s.1.length cA) := X5.cell 0
        have O5 := (own_below hp2 hb4).kept hg5 (.inr (fun e => H2.out.ne.2.2.2.2.1 (Option.some.inj e)))
        have z5 : w0.heap.size ≤ w5.heap.size := Nat.le_trans H2.out.bw.size (Nat.le_trans hb4.size hg5.size)
        have ROW : Hid (w4.ownsRow W.heap.size TS 2 (.slice (some ⟨g2, 0, none⟩) (r.length + 1) cap2) (r.length + 1) (IV (enc (r.reverse ++ [(k, d)])))) := by
          have e : IV (enc (r.reverse ++ [(k, d)])) = IV (enc r.reverse) ++ [.int .i64 (k : Int), .int .i64 D] := by
            rw [enc_app, ← hD]
            simp [IV, enc]
          rw [e]
          exact Lib.hid own4
        have HM5 := Lib.hid hm5
        have HG5 := Lib.hid hg5
        have HB4 := Lib.hid (below_step HB2.out hb4)
        have XP := Lib.hid X5
        clear own4 hm5 hg5 hb4 hp1 hp2 X5 hg4 hgg4 hrs4 hHeld hrs oV bV XB
        go_wp2_with (first
          | (at_builtin; refine app1f _ rfl _ _ rfl w0.heap.size v O5 rfl rfl (by omega) z5 ?_; intro g3 cap3 w6 own6 hg6 hgg6
             have X6 := XP.out.grown hg6 (fun e => H2.out.ne.2.2.2.2.2 (Option.some.inj e).symm)
             have q6 : w6.cell? ⟨pb, 0, none⟩ = some (.slice (some ⟨g, 0, none⟩) s.1.length cA) := X6.cell 0
             have f6 := X6.frozen 0
             have OWN := Lib.hid own6
             have HG6 := Lib.hid hg6
             have HGG : Hid (g3 = g ∨ w5.heap.size ≤ g3) := Lib.hid (hgg6.imp (fun e => (Option.some.inj e).symm) id)
             clear X6 own6 hg6 hgg6)
          | fail)
        go_end0
        exact ⟨rfl, g3, _, HS.out.add HB4.out HG5.out HG6.out HM5.out ROW.out OWN.out HGG.out hv (HWY.out.step ha hk hv HD.out) hrl⟩
      · go_simp
        refine hK.out _ _ (rs_keep hrs (below_al (below_dr (Below.refl _ _)) _)) (fun hHeld => ?_)
        clear hK K
        (try simp only [Act.put, List.setIfInBounds_toArray, List.set_cons_zero, List.set_cons_succ])
        have XB : Blk (w2.drew.alloc (.cells #[.int .i64 (k : Int), .int .i64 D] TS)) w2.heap.size TS #[.int .i64 (k : Int), .int .i64 D] := Blk.new _ _ _
        have bV : Below w2.heap.size w2 (w2.drew.alloc (.cells #[.int .i64 (k : Int), .int .i64 D] TS)) := below_al (below_dr (Below.refl _ _)) _
        refine wpAnyH_ready (rs := [5]) (by kernel_rfl) (by simp) (AllReadyH.cons (by simp only [List.getElem?_toArray, List.getElem?_cons_succ, List.getElem?_cons_zero]; rfl) (fun K hK => ?_) AllReadyH.nil)
        go_simp
        go_at_call 66
        refine (clone_way _ _ r.length (enc r.reverse) (by omega) (Row.keep (Row.of_own HROW.out) bV)).mono ?_; rintro e V ⟨vC, rfl, oC, bC⟩
        obtain ⟨aC, cC, rfl⟩ := own_shape oC
        replace XB := XB.step bC
        replace bV := below_step bV bC
        have oV : V.ownsRow w2.heap.size TS 2 (.slice aC r.length cC) r.length (IV (enc r.reverse)) := own_mono oC (by simp)
        (try go_simp)
        refine hK.out _ _ (rs_keep hrs bV) (fun hHeld => ?_)
        clear hK K
        (try simp only [Act.put, List.setIfInBounds_toArray, List.set_cons_zero, List.set_cons_succ])
        obtain ⟨xb, hxb⟩ : ∃ xb, w2.heap.size = xb := ⟨_, rfl⟩
        rw [hxb] at XB ⊢
        clear oC bC hxb
        refine wpAnyH_ready (rs := [8]) (by kernel_rfl) (by simp) (AllReadyH.cons (by simp only [List.getElem?_toArray, List.getElem?_cons_succ, List.getElem?_cons_zero]; rfl) (fun K hK => ?_) AllReadyH.nil)
        refine step_append_lies _ rfl _ _ TL rfl W.heap.size TS i0 (.agg #[.int .i64 0, .int .i64 0]) 2 16 Try.underlying68 hi hz0 hz1 hz2 rfl (by decide) _ r.length (IV (enc r.reverse)) rfl (own_mono oV HB2.out.size) ⟨xb, 0, none⟩ 1 1 [.int .i64 (k : Int), .int .i64 D] rfl rfl (World.news_of_block XB) (by simp [Value.oneCell']) (by decide) (by unfold maxLen; omega) (by omega) (Nat.le_trans HB2.out.size bV.size) _ rfl (fun g2 cap2 w4 own4 hg4 hgg4 hlt4 => ?_)
        have hb4 : Below w2.heap.size w2 w4 := bV.grown hg4 bV.size (fun q hq => (oV.lt q hq).1)
        have hrs4 := rs_keep hrs hb4
        refine hK.out _ _ (hrs4) (fun hHeld => ?_)
        clear hK K
        (try simp only [Act.put, List.setIfInBounds_toArray, List.set_cons_zero, List.set_cons_succ])
        refine wpAnyH_ready (rs := [9]) (by kernel_rfl) (by simp) (AllReadyH.cons (by simp only [List.getElem?_toArray, List.getElem?_cons_succ, List.getElem?_cons_zero]; rfl) (fun K hK => ?_) AllReadyH.nil)
        refine step_putV _ rfl _ _ _ TW rfl TI TL Try.underlying3 Try.underlying66 mb s.1.length (by omega) f rfl (H2.out.mp.keep hb4) v rfl wfv (.slice (some ⟨g2, 0, none⟩) (r.length + 1) cap2) rfl (fun w5 hm5 hg5 => ?_)
        refine hK.out _ _ (rs_put hrs4 hg5 H2.out.ne.1 hne (by have := H2.out.mp.lt; have := HS.out.mp.lt; simp only []; omega) (by have := HS.out.mp.lt; simp only []; omega) hm5 (by rw [if_neg (fun e : t = v => hv (e ▸ ht))]; exact HFT.out)) (fun hHeld => ?_)
        clear hK K
        (try simp only [Act.put])
        refine wpAnyH_done (by kernel_rfl) ?_ _
        obtain ⟨cA, hp1, hp2⟩ := H2.out.pv
        have X5 := (hp1.step hb4).grown hg5 (fun e => H2.out.ne.2.2.1 (Option.some.inj e).symm)
        have q5 : w5.cell? ⟨pb, 0, none⟩ = some (.slice (some ⟨g, 0, none⟩) s.1.length cA) := X5.cell 0
        have O5 := (own_below hp2 hb4).kept hg5 (.inr (fun e => H2.out.ne.2.2.2.2.1 (Option.some.inj e)))
        have z5 : w0.heap.size ≤ w5.heap.size := Nat.le_trans H2.out.bw.size (Nat.le_trans hb4.size hg5.size)
        have ROW : Hid (w4.ownsRow W.heap.size TS 2 (.slice (some ⟨g2, 0, none⟩) (r.length + 1) cap2) (r.length + 1) (IV (enc (r.reverse ++ [(k, d)])))) := by
          have e : IV (enc (r.reverse ++ [(k, d)])) = IV (enc r.reverse) ++ [.int .i64 (k : Int), .int .i64 D] := by
            rw [enc_app, ← hD]
            simp [IV, enc]
          rw [e]
          exact Lib.hid own4
        have HM5 := Lib.hid hm5
        have HG5 := Lib.hid hg5
        have HB4 := Lib.hid (below_step HB2.out hb4)
        have XP := Lib.hid X5
        clear own4 hm5 hg5 hb4 hp1 hp2 X5 hg4 hgg4 hrs4 hHeld hrs oV bV XB
        go_wp2_with (first
          | (at_builtin; refine app1f _ rfl _ _ rfl w0.heap.size v O5 rfl rfl (by omega) z5 ?_; intro g3 cap3 w6 own6 hg6 hgg6
             have X6 := XP.out.grown hg6 (fun e => H2.out.ne.2.2.2.2.2 (Option.some.inj e).symm)
             have q6 : w6.cell? ⟨pb, 0, none⟩ = some (.slice (some ⟨g, 0, none⟩) s.1.length cA) := X6.cell 0
             have f6 := X6.frozen 0
             have OWN := Lib.hid own6
             have HG6 := Lib.hid hg6
             have HGG : Hid (g3 = g ∨ w5.heap.size ≤ g3) := Lib.hid (hgg6.imp (fun e => (Option.some.inj e).symm) id)
             clear X6 own6 hg6 hgg6)
          | fail)
        go_end0
        exact ⟨rfl, g3, _, HS.out.add HB4.out HG5.out HG6.out HM5.out ROW.out OWN.out HGG.out hv (HWY.out.step ha hk hv HD.out) hrl⟩
    · have e1 : one (decide (0 < room (pW zs) (gd fs) (k, d))) v (stepx k d) s = s := one_no (.inl (decide_eq_false hroom))
      rw [e1]
      clear e1
      generalize room (pW zs) (gd fs) (k, d) = R at KEY hroom
      go_enter Try.func64, Try.ntmps64
      go_wp2_with (first
        | (refine wp_lookV_ok _ rfl _ _ TW rfl TI TL Try.underlying3 Try.underlying66 (.slice none 0 0) zero_way mb _ f rfl H1.out.mp v rfl wfv ?_; rw [HFV.out])
        | fail)
      refine (KEY.out _ HB.out).mono ?_; rintro e w2 ⟨rfl, hb2⟩
      have HB2 := Lib.hid (below_step HB.out hb2)
      have H2 := Lib.hid (H1.out.keep hb2)
      clear hb2
      go_wp2
      go_end0
      exact ⟨rfl, g, f, H2.out, .keep HB2.out, .inl rfl⟩
end Go.Proofs.Ytilabfmnaegidaa.fl_
