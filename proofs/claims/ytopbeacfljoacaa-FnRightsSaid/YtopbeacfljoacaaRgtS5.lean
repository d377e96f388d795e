/- Rights: the specification's SellShare. -/
import Derived.Test.YtopbeacfljoacaaRgtS4
namespace Go.Proofs.Ytopbeacfljoacaa.rgt
open Go.RowKit Go.Proofs.Ytopbeacfljoacaa.kit Go.Proofs.Ytopbeacfljoacaa.lawi Go.Proofs.Ytopbeacfljoacaa.own Go.Proofs.Ytopbeacfljoacaa.rain Go.Proofs.Ytopbeacfljoacaa.yrl Go.Proofs.Ytopbeacfljoacaa.frc Go.Proofs.Ytopbeacfljoacaa.stRight Go.Proofs.Ytopbeacfljoacaa.later Go.Proofs.Ytopbeacfljoacaa.apart Go.Proofs.Ytopbeacfljoacaa.cpy Go.Proofs.Ytopbeacfljoacaa.del Go.Proofs.Ytopbeacfljoacaa.take
/-- What SellShare gives. -/
def Sold (w : World) (m : Nat) (ys : List Int) (r : Bool) (e : Ending) (w' : World) : Prop := ∃ t, e = .returned (.tuple #[t, .bool r]) ∧ w'.ownsRow w.heap.size TR 3 t m (IV ys) ∧ Below w.heap.size w w'
set_option maxRecDepth 100000 in
set_option maxHeartbeats 3000000 in
theorem spec_sell (w : World) (v : Value) (n : Nat) (zs : List Int) (fr tw pt pb : Int) (hn : n ≤ 1048576) (hr : Row 3 w v n (IV zs)) (m : Nat) (ys : List Int) (r : Bool) (h : Sla n zs fr tw pt pb m ys r) :
    Calls Try.prog 29 #[v, .int .i64 fr, .int .i64 tw, stFraction.R pt pb] w (Sold w m ys r) := by
  obtain ⟨iI, hiI, hz0I, hz1I, hz2I⟩ := info_parts stRight.info
  obtain ⟨av, ca, rfl⟩ := hr.shape
  have hl : zs.length = n * 3 := by simpa using hr.1
  obtain ⟨wa, hwa⟩ : ∃ wa, w.alloc (.cells #[.int .i64 pt, .int .i64 pb] TF) = wa := ⟨_, rfl⟩
  have ba : Below w.heap.size w wa := hwa ▸ below_al (Below.refl _ _) _
  have za : wa.heap.size = w.heap.size + 1 := by rw [← hwa]; simp
  have XA : Blk wa w.heap.size TF #[.int .i64 pt, .int .i64 pb] := hwa ▸ Blk.new w TF #[.int .i64 pt, .int .i64 pb]
  obtain ⟨w0, hw0⟩ : ∃ w0, wa.alloc (.cells #[] TR) = w0 := ⟨_, rfl⟩
  have b0 : Below wa.heap.size wa w0 := hw0 ▸ below_al (Below.refl _ _) _
  have XG : Blk w0 (w.heap.size + 1) TR #[] := by rw [← hw0, ← za]; exact Blk.new wa TR #[]
  have XP := XA.step b0
  have B0 := below_step ba b0
  have HW := Lib.hid hr
  have R0 := Lib.hid (hr.keep B0)
  have HS := Lib.hid h
  clear hr h XA ba b0
  go_enter Try.func29, Try.ntmps29
  go_wp2_with (at_builtin; refine wp_copy rfl _ _ 24 rfl TR iI (R 0 0 0) 3 24 Try.underlying24 hiI hz0I hz1I hz2I rfl (by decide) (w.heap.size + 1) XG _ n zs R0.out hn (by decide) rfl rfl ?_; intro vs w1 ho hg hv)
  have P1 := Lib.hid (XP.grown hg (by simp))
  have O1 := Lib.hid (own_mono ho (show w.heap.size ≤ w.heap.size + 1 by omega))
  have B1 := Lib.hid (B0.grown hg B0.size (by rintro k ⟨⟩; omega))
  clear ho hg hv XG XP B0
  clear hwa hw0 za R0
  by_cases ok : Ro n zs
  · have OK := Lib.hid ok
    clear ok
    go_wp2_with fail
    refine (spec_ro _ _ n zs hn (HW.out.keep B1.out) true ⟨fun _ => OK.out, fun _ => rfl⟩).mono ?_; rintro e w2 ⟨rfl, hb⟩
    replace P1 := Lib.hid (P1.out.step hb)
    replace O1 := Lib.hid (own_below O1.out hb)
    replace B1 := Lib.hid (B1.out.trans (hb.mono B1.out.size))
    clear hb
    obtain ⟨p0, p1, _⟩ := fcell P1.out
    by_cases fk : Fk pt pb
    · have FKP := Lib.hid fk
      have fB := fk.1
      have fT := fk.2.1
      clear fk
      go_wp2_with fail
      refine (spec_fok _ _ _ true ⟨fun _ => FKP.out, fun _ => rfl⟩).mono ?_; rintro e w3 ⟨rfl, hb⟩
      replace P1 := Lib.hid (P1.out.step hb)
      replace O1 := Lib.hid (own_below O1.out hb)
      replace B1 := Lib.hid (B1.out.trans (hb.mono B1.out.size))
      clear hb p0 p1
      obtain ⟨p0, p1, _⟩ := fcell P1.out
      by_cases hle : pb < pt
      · obtain ⟨rfl, rfl, rfl⟩ := HS.out.no (fun _ _ g => by have := g.1.2.2.1; omega)
        have u1 : decide (pb < pt) = true := decide_eq_true hle
        clear HS
        go_wp2
        refine bodyPost_ret (v := .tuple #[vs, .bool false]) (by simp [*, results, Try.results29, go_sem]) rfl ⟨_, rfl, O1.out, B1.out⟩
      · have u1 : decide (pb < pt) = false := decide_eq_false hle
        by_cases heq : fr = tw
        · obtain ⟨rfl, rfl, rfl⟩ := HS.out.no (fun _ _ g => g.1.2.2.2.1 heq)
          subst heq
          clear HS
          go_wp2
          refine bodyPost_ret (v := .tuple #[vs, .bool false]) (by simp [*, results, Try.results29, go_sem]) rfl ⟨_, rfl, O1.out, B1.out⟩
        · have u2 : (fr == tw) = false := beq_eq_false_iff_ne.2 heq
          by_cases hto : 1 ≤ tw ∧ tw ≤ 999
          · have SOK : Hid (Sok n zs fr tw pt pb) := Lib.hid ⟨OK.out, FKP.out, by omega, heq, hto.1, hto.2⟩
            go_wp2_with fail
            refine (in_yes _ _ _ _ hto.1 hto.2).mono ?_; rintro e w4 ⟨rfl, rfl⟩
            clear heq
            obtain ⟨f, hf1, hf2⟩ := OK.out.find fr
            have HF2 := Lib.hid hf2
            obtain ⟨mt, mb, r1, ht1⟩ := Ti.ex (wT zs f) (wB zs f) pt pb
            obtain ⟨rt, rb, r2, ht2⟩ := Ti.ex (wT zs f) (wB zs f) (pb - pt) pb
            have HT1 := Lib.hid ht1
            have HT2 := Lib.hid ht2
            have hn12 := OK.out.1
            obtain ⟨wb, hwb⟩ : ∃ wb, (w3.alloc (.cells #[] TR)).alloc (.cells #[.int .i64 0, .int .i64 0] TF) = wb := ⟨_, rfl⟩
            obtain ⟨go, hgo⟩ : ∃ go, w3.heap.size = go := ⟨_, rfl⟩
            have bb : Below w3.heap.size w3 wb := hwb ▸ below_al (below_al (Below.refl _ _) _) _
            have S0 : Hid (SW w wb vs n zs (.slice (some ⟨go, 0, none⟩) 0 0) 0 [] (go + 1) 0 0 pt pb) := Lib.hid (by
              have hsz := B1.out.size
              refine ⟨P1.out.step bb, ?_, own_below O1.out bb, ?_, fun b e1 e2 => ?_, by omega, B1.out.trans (bb.mono hsz)⟩
              · rw [← hwb, ← hgo]; exact Blk.new1 w3 TF #[.int .i64 0, .int .i64 0] _
              · have h1 := World.ownsRow_made (base := w3.heap.size) (e := TR) (size := 3) w3 #[] 0 (Nat.le_refl _) (by unfold maxLen; omega) (by simp)
                have h2 := own_mono (own_below h1 (below_al (Below.refl _ _) (.cells #[.int .i64 0, .int .i64 0] TF))) hsz
                rw [hwb, hgo] at h2
                exact h2
              · have := (O1.out.lt b e1).2
                simp [Value.ownBlock] at e2
                omega)
            have hgw : w.heap.size ≤ go := hgo ▸ B1.out.size
            clear O1 B1 P1 bb p0 p1 u1 u2 ht1 ht2 hle hto hf2
            obtain ⟨m0, m1, m2, m3⟩ := fcell S0.out.bm
            have S1 := Lib.hid (S0.out.setM 0 0)
            go_wp2
            clear hwb hgo m0 m1 m2 m3 S0
            go_loopg [11, 13, 14] n (fun g s11 s13 s14 wr => ∃ k : Nat, k + g = n ∧ s14 = .int .i64 k ∧ s13 = .bool (decide (f < k)) ∧ SW w wr vs n zs s11 (sn f rt k) (so zs f rt rb k) (go + 1) (if f < k then mt else 0) (if f < k then mb else 0) pt pb ∧ (f < k → r1 = true ∧ r2 = true) ∧ ∃ gA cA, s11 = .slice (some ⟨gA, 0, none⟩) (sn f rt k) cA)
            case atStart => exact ⟨0, by omega, rfl, by simp, by simpa [sn, so] using S1.out, fun h => by omega, ⟨go, 0, by simp [sn]⟩⟩
            case round =>
              clear S1
              obtain ⟨k, hkg, rfl, rfl, hsw, hr12, hsh⟩ := hrel
              have SS := Lib.hid hsw
              have HR12 := Lib.hid hr12
              have HSH := Lib.hid hsh
              clear hsw hr12 hsh
              by_cases hlt : k < n
              · obtain ⟨gk, rfl⟩ : ∃ g', gk = g' + 1 := ⟨gk - 1, by omega⟩
                obtain ⟨b1, o1, rfl, hc⟩ := (HW.out.keep SS.out.bl).at_ (by omega)
                obtain ⟨g1, g2, g3⟩ := right_at hc hl hlt
                have fkk := OK.out.fk hlt
                have hT1 := (OK.out.2.1 k hlt).2.1
                have hOfr := HF2.out k hlt
                by_cases e : k = f
                · have e0 : (wO zs k == fr) = true := beq_iff_eq.2 (hOfr.2 e)
                  have NOS : Hid (r1 = false ∨ r2 = false → ∀ m' ys', ¬ Sell n zs fr tw pt pb m' ys') := Lib.hid (fun h m' ys' g => by
                    obtain ⟨_, a1, a2, a3, a4, t1, t2, _⟩ := g.parts HF2.out
                    have e1 := (ti_uniq t1 HT1.out).2.2
                    have e2 := (ti_uniq t2 HT2.out).2.2
                    rcases h with rfl | rfl
                    · cases e1
                    · cases e2)
                  have HA : Hid (Ti (wT zs k) (wB zs k) pt pb mt mb r1) := Lib.hid (e ▸ HT1.out)
                  have HC : Hid (Ti (wT zs k) (wB zs k) (pb - pt) pb rt rb r2) := Lib.hid (e ▸ HT2.out)
                  have ss := SS.out
                  rw [if_neg (show ¬ f < k by omega), if_neg (show ¬ f < k by omega)] at ss
                  have SA := Lib.hid ss
                  have esoY : Hid (0 < rt → so zs f rt rb (k + 1) = so zs f rt rb k ++ [wO zs k, rt, rb]) := Lib.hid (fun h => by rw [so, if_pos e, if_pos h])
                  have esoN : Hid (¬ 0 < rt → so zs f rt rb (k + 1) = so zs f rt rb k) := Lib.hid (fun h => by rw [so, if_pos e, if_neg h, List.append_nil])
                  have esnY : Hid (0 < rt → sn f rt (k + 1) = sn f rt k + 1) := Lib.hid (fun h => by unfold sn; rw [if_neg (by omega), if_neg (by omega)])
                  have esnN : Hid (¬ 0 < rt → sn f rt (k + 1) = sn f rt k) := Lib.hid (fun h => by unfold sn; rw [if_pos (by omega), if_neg (by omega)]; omega)
                  have hfk : f < k + 1 := by omega
                  have efk : Hid (decide (f < k + 1) = true) := Lib.hid (decide_eq_true hfk)
                  have HFK := Lib.hid hfk
                  have hsnb : sn f rt k ≤ k := by unfold sn; split <;> omega
                  have k5 : IntKind.i64.wrap (pb - pt) = pb - pt := IntWalk.i64_in _ (by omega)
                  clear ss SS hfk e
                  generalize wO zs k = O at *
                  generalize wT zs k = T at *
                  generalize wB zs k = B at *
                  obtain ⟨wx, hwx⟩ : ∃ wx, wr.alloc (.cells #[.int .i64 O, .int .i64 T, .int .i64 B] TR) = wx := ⟨_, rfl⟩
                  obtain ⟨gx, hgx⟩ : ∃ gx, wr.heap.size = gx := ⟨_, rfl⟩
                  have bx : Below wr.heap.size wr wx := hwx ▸ below_al (Below.refl _ _) _
                  have HXB : Hid (Blk wx gx TR #[.int .i64 O, .int .i64 T, .int .i64 B]) := Lib.hid (by rw [← hwx, ← hgx]; exact Blk.new wr TR _)
                  have nS : Hid (vs.ownBlock ≠ some gx) := Lib.hid fun h => by have := (SA.out.s.lt gx h).2; omega
                  have nO : Hid ((_ : Value).ownBlock ≠ some gx) := Lib.hid fun h => by have := (SA.out.o.lt gx h).2; omega
                  have nM : gx ≠ go + 1 := by have := SA.out.bm.lt; omega
                  have nM2 : go + 1 ≠ gx := fun h => nM h.symm
                  have nP : Hid (gx ≠ w.heap.size ∧ w.heap.size ≤ gx) := Lib.hid (by have := SA.out.bp.lt; omega)
                  have SX := Lib.hid (SA.out.keep bx)
                  obtain ⟨x0, x1, x2⟩ := rcell HXB.out
                  obtain ⟨p0, p1, _⟩ := fcell SX.out.bp
                  have hcur := hn12.2
                  clear bx SA hc fkk hT1 hOfr
                  go_wp2_with fail
                  refine (spec_ti _ _ _ _ _ _ _ _ HA.out).mono ?_; rintro e w7 ⟨rfl, hb⟩
                  replace SX := Lib.hid (SX.out.keep hb)
                  replace HXB := Lib.hid (HXB.out.step hb)
                  clear hb hwx hgx x0 x1 x2 p0 p1 g1 g2 g3
                  obtain ⟨w8, hw8⟩ : ∃ u, w7.alloc (.cells #[.int .i64 mt, .int .i64 mb] TF) = u := ⟨_, rfl⟩
                  obtain ⟨g16, hg16⟩ : ∃ u, w7.heap.size = u := ⟨_, rfl⟩
                  have b8 : Below w7.heap.size w7 w8 := hw8 ▸ below_al (Below.refl _ _) _
                  have H16 : Hid (Blk w8 g16 TF #[.int .i64 mt, .int .i64 mb]) := Lib.hid (by rw [← hw8, ← hg16]; exact Blk.new w7 TF _)
                  have n16 : g16 ≠ go + 1 := by have := SX.out.bm.lt; omega
                  replace SX := Lib.hid (SX.out.keep b8)
                  replace HXB := Lib.hid (HXB.out.step b8)
                  obtain ⟨x0, x1, x2⟩ := rcell HXB.out
                  obtain ⟨p0, p1, _⟩ := fcell SX.out.bp
                  clear b8
                  go_wp2_with fail
                  refine (spec_ti _ _ _ _ _ _ _ _ HC.out).mono ?_; rintro e w9 ⟨rfl, hb⟩
                  replace SX := Lib.hid (SX.out.keep hb)
                  replace HXB := Lib.hid (HXB.out.step hb)
                  replace H16 := Lib.hid (H16.out.step hb)
                  clear hb hw8 hg16 x0 x1 x2 p0 p1
                  obtain ⟨wq, hwq⟩ : ∃ u, w9.alloc (.cells #[.int .i64 rt, .int .i64 rb] TF) = u := ⟨_, rfl⟩
                  obtain ⟨g18, hg18⟩ : ∃ u, w9.heap.size = u := ⟨_, rfl⟩
                  have bq : Below w9.heap.size w9 wq := hwq ▸ below_al (Below.refl _ _) _
                  have H18 : Hid (Blk wq g18 TF #[.int .i64 rt, .int .i64 rb]) := Lib.hid (by rw [← hwq, ← hg18]; exact Blk.new w9 TF _)
                  have n18 : g18 ≠ go + 1 := by have := SX.out.bm.lt; omega
                  have n18x : g18 ≠ gx := by have := HXB.out.lt; omega
                  replace SX := Lib.hid (SX.out.keep bq)
                  replace HXB := Lib.hid (HXB.out.step bq)
                  replace H16 := Lib.hid (H16.out.step bq)
                  clear bq
                  obtain ⟨x0, x1, x2⟩ := rcell HXB.out
                  obtain ⟨y0, y1, y2⟩ := rfree HXB.out
                  obtain ⟨m0, m1, m2, m3⟩ := fcell SX.out.bm
                  obtain ⟨c0, c1, _⟩ := fcell H16.out
                  obtain ⟨d0, d1, _⟩ := fcell H18.out
                  cases r1 with
                  | false =>
                    obtain ⟨rfl, rfl, rfl⟩ := HS.out.no (NOS.out (.inl rfl))
                    clear HS
                    go_wp2
                    exact bodyPost_ret (v := .tuple #[vs, .bool false]) (by simp [*, results, Try.results29, go_sem]) rfl ⟨_, rfl, SX.out.s, SX.out.bl⟩
                  | true =>
                    cases r2 with
                    | false =>
                      obtain ⟨rfl, rfl, rfl⟩ := HS.out.no (NOS.out (.inr rfl))
                      clear HS
                      go_wp2
                      exact bodyPost_ret (v := .tuple #[vs, .bool false]) (by simp [*, results, Try.results29, go_sem]) rfl ⟨_, rfl, SX.out.s, SX.out.bl⟩
                    | true =>
                      have S12 := Lib.hid (((SX.out.setM mt mb).far nP.out.1 nM nS.out nO.out nP.out.2 1 (.int .i64 rt)).far nP.out.1 nM nS.out nO.out nP.out.2 2 (.int .i64 rb))
                      by_cases hrt : 0 < rt
                      · have u3 : decide (0 < rt) = true := decide_eq_true hrt
                        have e1 := esoY.out (by omega)
                        have e2 := esnY.out (by omega)
                        have E1 := Lib.hid e1
                        have E2 := Lib.hid e2
                        clear hrt e1 e2 esoY esoN esnY esnN
                        have hx12 : Blk ((((wq.setCell ⟨go + 1, 0, none⟩ (.int .i64 mt)).setCell ⟨go + 1, 1, none⟩ (.int .i64 mb)).setCell ⟨gx, 1, none⟩ (.int .i64 rt)).setCell ⟨gx, 2, none⟩ (.int .i64 rb)) gx TR #[.int .i64 O, .int .i64 rt, .int .i64 rb] := by
                          simpa using (((HXB.out.far (p := ⟨go + 1, 0, none⟩) nM (.int .i64 mt)).far (p := ⟨go + 1, 1, none⟩) nM (.int .i64 mb)).set_ 1 (.int .i64 rt)).set_ 2 (.int .i64 rb)
                        have HX12 := Lib.hid hx12
                        clear hx12
                        go_upto_region 20 with fail
                        clear x0 x1 x2 y0 y1 y2 m0 m1 m2 m3 c0 c1 d0 d1
                        generalize ((((wq.setCell ⟨go + 1, 0, none⟩ (.int .i64 mt)).setCell ⟨go + 1, 1, none⟩ (.int .i64 mb)).setCell ⟨gx, 1, none⟩ (.int .i64 rt)).setCell ⟨gx, 2, none⟩ (.int .i64 rb)) = wz at HX12 S12 ⊢
                        obtain ⟨x0, x1, x2⟩ := rcell HX12.out
                        go_wp2_with (at_builtin; refine appL _ rfl _ _ rfl w.heap.size O rt rb S12.out.o rfl _ rfl rfl (by omega) S12.out.bl.size ?_; intro v5 w5 hs5 ho hg hl
                                     have SY := Lib.hid (S12.out.growO ho hg hl)
                                     have HS5 := Lib.hid hs5
                                     clear ho hg hl hs5)
                        go_roundg gk
                        case measure => omega
                        case rel => exact ⟨k + 1, by omega, by go_num, by rw [efk.out], by rw [E1.out, E2.out, if_pos HFK.out, if_pos HFK.out]; exact SY.out, fun _ => by simp, by rw [E2.out]; exact HS5.out⟩
                      · have u3 : decide (0 < rt) = false := decide_eq_false hrt
                        have E1 := Lib.hid (esoN.out (by omega))
                        have E2 := Lib.hid (esnN.out (by omega))
                        clear hrt esoY esoN esnY esnN
                        go_wp2
                        go_roundg gk
                        case measure => omega
                        case rel => exact ⟨k + 1, by omega, by go_num, by rw [efk.out], by rw [E1.out, E2.out, if_pos HFK.out, if_pos HFK.out]; exact S12.out, fun _ => by simp, by rw [E2.out]; exact HSH.out⟩
                · have e0 : (wO zs k == fr) = false := beq_eq_false_iff_ne.2 (fun h => e (hOfr.1 h))
                  have u3 : decide (0 < wT zs k) = true := decide_eq_true (by omega)
                  have eso : Hid (so zs f rt rb (k + 1) = so zs f rt rb k ++ [wO zs k, wT zs k, wB zs k]) := Lib.hid (by rw [so, if_neg e])
                  have esn : Hid (sn f rt (k + 1) = sn f rt k + 1) := Lib.hid (by unfold sn; split <;> split <;> omega)
                  have efk : Hid (decide (f < k + 1) = decide (f < k)) := Lib.hid (decide_eq_decide.2 (by omega))
                  have efk2 : Hid ((f < k + 1) = (f < k)) := Lib.hid (propext (by omega))
                  have hsnb : sn f rt k ≤ k := by unfold sn; split <;> omega
                  generalize wO zs k = O at *
                  generalize wT zs k = T at *
                  generalize wB zs k = B at *
                  obtain ⟨wx, hwx⟩ : ∃ wx, wr.alloc (.cells #[.int .i64 O, .int .i64 T, .int .i64 B] TR) = wx := ⟨_, rfl⟩
                  obtain ⟨gx, hgx⟩ : ∃ gx, wr.heap.size = gx := ⟨_, rfl⟩
                  have bx : Below wr.heap.size wr wx := hwx ▸ below_al (Below.refl _ _) _
                  have HXB : Hid (Blk wx gx TR #[.int .i64 O, .int .i64 T, .int .i64 B]) := Lib.hid (by rw [← hwx, ← hgx]; exact Blk.new wr TR _)
                  have SX := Lib.hid (SS.out.keep bx)
                  obtain ⟨x0, x1, x2⟩ := rcell HXB.out
                  have hcur := hn12.2
                  clear bx SS hc fkk hT1 hOfr e
                  go_wp2_with (at_builtin; refine appL _ rfl _ _ rfl w.heap.size O T B SX.out.o rfl _ rfl rfl (by omega) SX.out.bl.size ?_; intro v5 w5 hs5 ho hg hl
                               have SY := Lib.hid (SX.out.growO ho hg hl)
                               have HS5 := Lib.hid hs5
                               clear ho hg hl hs5)
                  go_roundg gk
                  case measure => omega
                  case rel => exact ⟨k + 1, by omega, by go_num, by rw [efk.out], by rw [eso.out, esn.out]; simp only [efk2.out]; exact SY.out, by rw [efk2.out]; exact HR12.out, by rw [esn.out]; exact HS5.out⟩
              · obtain rfl : k = n := by omega
                by_cases hfn : f < k
                · obtain ⟨rfl, rfl⟩ := HR12.out hfn
                  have ss := SS.out
                  rw [if_pos hfn, if_pos hfn] at ss
                  have SA := Lib.hid ss
                  have u4 : decide (f < k) = true := decide_eq_true hfn
                  have HFN := Lib.hid hfn
                  have hlen : (so zs f rt rb k).length = sn f rt k * 3 := so_len _ _ _ _ _
                  have hsnb : sn f rt k ≤ 12 := by unfold sn; split <;> omega
                  have SOE : Hid (so zs f rt rb k = so zs f rt rb k) := Lib.hid rfl
                  obtain ⟨l1, hl1⟩ : ∃ l, so zs f rt rb k = l := ⟨_, rfl⟩
                  obtain ⟨n1, hn1⟩ : ∃ l, sn f rt k = l := ⟨_, rfl⟩
                  have HL1 := Lib.hid hl1
                  have HN1 := Lib.hid hn1
                  obtain ⟨gO, cO, hsh⟩ := HSH.out
                  rw [hn1] at hsh
                  subst hsh
                  rw [hl1, hn1] at SA hlen
                  rw [hn1] at hsnb
                  clear HSH ss SS HR12 hl1 hn1 SOE
                  go_wp2
                  go_loopg [20] n1 (fun g s20 wi => ∃ i : Nat, i + g = n1 ∧ s20 = .int .i64 i ∧ (∀ j, j < i → wO l1 j < tw) ∧ SW w wi vs k zs (.slice (some ⟨gO, 0, none⟩) n1 cO) n1 l1 (go + 1) mt mb pt pb)
                  case atStart => exact ⟨0, by omega, rfl, fun j hj => by omega, SA.out⟩
                  case round =>
                    clear SA
                    obtain ⟨i, hig, rfl, hless, hsw⟩ := hrel
                    have SB := Lib.hid hsw
                    have HLS := Lib.hid hless
                    clear hsw hless
                    by_cases hlt : i < n1
                    · obtain ⟨gki, rfl⟩ : ∃ g', gk = g' + 1 := ⟨gk - 1, by omega⟩
                      have c0 : wr.cell? ⟨gO, i * 3, none⟩ = some (.int .i64 (wO l1 i)) := own_cell SB.out.o (g := gO) rfl (i * 3) _ (getI (by omega))
                      have c1 : wr.cell? ⟨gO, i * 3 + 1, none⟩ = some (.int .i64 (wT l1 i)) := own_cell SB.out.o (g := gO) rfl (i * 3 + 1) _ (getI (by omega))
                      have c2 : wr.cell? ⟨gO, i * 3 + 2, none⟩ = some (.int .i64 (wB l1 i)) := own_cell SB.out.o (g := gO) rfl (i * 3 + 2) _ (getI (by omega))
                      by_cases hlt2 : wO l1 i < tw
                      · have u5 : decide (wO l1 i < tw) = true := decide_eq_true hlt2
                        have HN : Hid (∀ j, j < i + 1 → wO l1 j < tw) := Lib.hid fun j hj => by
                          by_cases e : j = i
                          · subst e; exact hlt2
                          · exact HLS.out j (by omega)
                        clear c1 c2 hlt2
                        generalize wO l1 i = O at *
                        go_wp2
                        go_roundg gki
                        case measure => omega
                        case rel => exact ⟨i + 1, by omega, by go_num, HN.out, SB.out⟩
                      · have HAT : Hid (At n1 l1 tw i) := Lib.hid ⟨by omega, HLS.out, fun _ => hlt2⟩
                        have u5 : decide (wO l1 i < tw) = false := decide_eq_false hlt2
                        by_cases heq : wO l1 i = tw
                        · have hat := HAT.out
                          obtain ⟨m0, m1, _⟩ := fcell SB.out.bm
                          obtain ⟨st, sb, r3, ha⟩ := Ad.ex (wT l1 i) (wB l1 i) mt mb
                          have HA := Lib.hid ha
                          have u6 : (wO l1 i == tw) = true := beq_iff_eq.2 heq
                          have HEQ := Lib.hid heq
                          have HADD : Hid (Ad (wT l1 i) (wB l1 i) mt mb st sb r3) := Lib.hid ha
                          clear ha heq hlt2 hat
                          generalize wO l1 i = O at c0 u5 u6
                          generalize wT l1 i = T at c1 HADD
                          generalize wB l1 i = B at c2 HADD
                          go_upto_region 27 with fail
                          go_cut [21, 22] (fun s1 s2 wx => Made wr st sb s1 wx ∧ s2 = .bool r3)
                          case first =>
                            go_region_held3 (fun W => W.cell? ⟨gO, i * 3 + 1, none⟩ = some (.int .i64 T) ∧ W.cell? ⟨gO, i * 3 + 2, none⟩ = some (.int .i64 B) ∧ W.cell? ⟨go + 1, 0, none⟩ = some (.int .i64 mt) ∧ W.cell? ⟨go + 1, 1, none⟩ = some (.int .i64 mb))
                              (first | exact keep4 ⟨c1, c2, m0, m1⟩ (by repeat (first | (with_reducible exact Below.refl _ _) | (with_reducible refine below_dr ?_) | (with_reducible refine below_al ?_ _) | (with_reducible refine below_step ?_ (by assumption)) | (with_reducible refine Below.setCell ?_ ?_ _) | (simp only []; omega) | omega | fail)) | fail)
                              (first
                                | (go_at_call 50; refine (spec_add _ _ _ _ _ _ _ _ HADD.out).mono ?_; rintro e wA ⟨rfl, hb⟩; obtain ⟨hc, hf⟩ := bcell hb; have hz := hb.size; (try simp only [World.size_drew] at hz); (try simp only [World.size_alloc] at hz); (try simp only [World.size_drew] at hz); (try have l1 : wr.heap.size < wA.heap.size := by omega))
                                | fail)
                            all_goals
                              go_wp2_with fail
                              go_meet
                              refine ⟨⟨_, rfl, (by repeat (first | (with_reducible exact Below.refl _ _) | (with_reducible refine below_dr ?_) | (with_reducible refine below_al ?_ _) | (with_reducible refine below_step ?_ (by assumption)) | (with_reducible refine Below.setCell ?_ ?_ _) | (simp only []; omega) | omega | fail)), ?_, ?_⟩, rfl⟩
                              all_goals (try go_simp)
                              all_goals (try (refine World.cell?_setCell_same _ _ _ (u := .int .i64 0) ?_; go_simp))
                          case rest =>
                            obtain ⟨⟨g6, rfl, B6, s0, s1⟩, rfl⟩ := hcut
                            replace SB := Lib.hid (SB.out.keep B6)
                            clear c0 c1 c2 m0 m1
                            cases r3 with
                            | false =>
                              obtain ⟨e1, e2, e3⟩ := HS.out.no (fun m' ys' g => by
                                obtain ⟨_, a1, a2, a3, a4, t1, t2, hp, _⟩ := g.parts HF2.out
                                obtain ⟨rfl, rfl, _⟩ := ti_uniq t1 HT1.out
                                obtain ⟨rfl, rfl, _⟩ := ti_uniq t2 HT2.out
                                rw [HN1.out, HL1.out] at hp
                                obtain ⟨i', hi', hp⟩ := hp
                                obtain rfl := hi'.uniq HAT.out
                                rcases hp with ⟨_, _, _, x1, x2, h1, _⟩ | ⟨h1, _⟩ | ⟨h1, _⟩
                                · cases (ad_uniq h1 HA.out).2.2
                                · exact h1 ⟨hlt, HEQ.out⟩
                                · exact h1 ⟨hlt, HEQ.out⟩)
                              subst e3
                              clear s0 s1
                              go_wp2
                              exact bodyPost_ret (v := .tuple #[vs, .bool false]) (by simp [*, results, Try.results29, go_sem]) rfl ⟨_, rfl, by rw [e1, e2]; exact SB.out.s, SB.out.bl⟩
                            | true =>
                              obtain ⟨q1, hq1⟩ : ∃ u, wc.cell? ⟨gO, i * 3 + 1, none⟩ = some (.int .i64 u) := ⟨_, own_cell SB.out.o (g := gO) rfl (i * 3 + 1) _ (getI (by omega))⟩
                              obtain ⟨q2, hq2⟩ : ∃ u, wc.cell? ⟨gO, i * 3 + 2, none⟩ = some (.int .i64 u) := ⟨_, own_cell SB.out.o (g := gO) rfl (i * 3 + 2) _ (getI (by omega))⟩
                              have f1 := own_free SB.out.o (g := gO) rfl (i * 3 + 1)
                              have f2 := own_free SB.out.o (g := gO) rfl (i * 3 + 2)
                              have SF := Lib.hid (SB.out.setO (g := gO) rfl (i * 3) st sb)
                              have HP : Hid (Put (sn f rt k) (so zs f rt rb k) tw mt mb n1 ((l1.set (i * 3 + 1) st).set (i * 3 + 2) sb)) := Lib.hid (by rw [HN1.out, HL1.out]; exact ⟨i, HAT.out, .inl ⟨hlt, HEQ.out, rfl, st, sb, HA.out, rfl⟩⟩)
                              go_upto_region 33 with fail
                              clear s0 s1 hq1 hq2 f1 f2
                              generalize ((wc.setCell ⟨gO, i * 3 + 1, none⟩ (.int .i64 st)).setCell ⟨gO, i * 3 + 2, none⟩ (.int .i64 sb)) = wz at SF ⊢
                              have hmb : n1 ≤ 1048576 := by omega
                              by_cases ro : Ro n1 ((l1.set (i * 3 + 1) st).set (i * 3 + 2) sb)
                              · have hsell : Sell k zs fr tw pt pb n1 ((l1.set (i * 3 + 1) st).set (i * 3 + 2) sb) := ⟨SOK.out, f, mt, mb, rt, rb, hfn, (HF2.out f hfn).2 rfl, HT1.out, HT2.out, HP.out, ro⟩
                                obtain ⟨e1, e2, e3⟩ := HS.out.yes hsell
                                have RO := Lib.hid ro
                                subst e1 e2 e3
                                clear ro hsell HS
                                go_wp2_with fail
                                refine (spec_ro _ _ _ _ hmb (Row.of_own SF.out.o) true ⟨fun _ => RO.out, fun _ => rfl⟩).mono ?_; rintro e wf ⟨rfl, hb⟩
                                have SG := Lib.hid (SF.out.keep hb)
                                clear hb
                                go_wp2
                                exact bodyPost_ret (v := .tuple #[(.slice (some ⟨gO, 0, none⟩) m cO), .bool true]) (by simp [*, results, Try.results29, go_sem]) rfl ⟨_, rfl, SG.out.o, SG.out.bl⟩
                              · have RO := Lib.hid ro
                                obtain ⟨e1, e2, e3⟩ := HS.out.no (fun m' ys' g => by
                                  obtain ⟨_, a1, a2, a3, a4, t1, t2, hp, hro⟩ := g.parts HF2.out
                                  obtain ⟨rfl, rfl, _⟩ := ti_uniq t1 HT1.out
                                  obtain ⟨rfl, rfl, _⟩ := ti_uniq t2 HT2.out
                                  obtain ⟨rfl, rfl⟩ := hp.uniq HP.out
                                  exact RO.out hro)
                                subst e3
                                clear ro
                                go_wp2_with fail
                                refine (spec_ro _ _ _ _ hmb (Row.of_own SF.out.o) false ⟨fun h => (by cases h), fun h => absurd h RO.out⟩).mono ?_; rintro e wf ⟨rfl, hb⟩
                                have SG := Lib.hid (SF.out.keep hb)
                                clear hb
                                go_wp2
                                exact bodyPost_ret (v := .tuple #[vs, .bool false]) (by simp [*, results, Try.results29, go_sem]) rfl ⟨_, rfl, by rw [e1, e2]; exact SG.out.s, SG.out.bl⟩
                        · have u6 : (wO l1 i == tw) = false := beq_eq_false_iff_ne.2 heq
                          have HNE : Hid (¬ (i < n1 ∧ wO l1 i = tw)) := Lib.hid fun h => heq h.2
                          have hin0 : i ≤ n1 := by omega
                          clear c1 c2 heq hlt2
                          generalize wO l1 i = O at c0 u5 u6
                          obtain ⟨m0, m1, _⟩ := fcell SB.out.bm
                          by_cases hmt : 0 < mt
                          · have u7 : decide (0 < mt) = true := decide_eq_true hmt
                            have HMT := Lib.hid hmt
                            have hcap := own_cap SB.out.o
                            obtain ⟨A, hA, hA2, hA3⟩ : ∃ A : Addr, (if cO = i then (some ⟨gO, 0, none⟩ : Option Addr) else some ⟨gO, i * 3, none⟩) = some A ∧ (A = ⟨gO, 0 + i * 3, none⟩ ∨ n1 = i) ∧ A.spot = none := by
                              by_cases h1 : cO = i
                              · exact ⟨⟨gO, 0, none⟩, by simp [h1], .inr (by omega), rfl⟩
                              · exact ⟨⟨gO, i * 3, none⟩, by simp [h1], .inl (by rw [Nat.zero_add]), rfl⟩
                            have hiI' : i ≤ n1 := hin0
                            have RT := Lib.hid (row_take' SB.out.o (show i ≤ n1 by omega))
                            have RD := Lib.hid (row_drop' (c' := cO - i) SB.out.o (show i ≤ n1 by omega) A hA2 hA3)
                            have hic : i ≤ cO := by omega
                            have hin2 : (i : Int) ≤ (n1 : Int) := by omega
                            have hi0 : (0 : Int) ≤ (i : Int) := by omega
                            have ROWS : Hid (IV (l1.take (i * 3)) ++ IV [tw, mt, mb] ++ IV (l1.drop (i * 3)) = IV (l1.take (i * 3) ++ [tw, mt, mb] ++ l1.drop (i * 3))) := Lib.hid (by simp [IV])
                            clear hA2 hA3 hmt
                            go_upto_region 32 with fail
                            go_cut [11] (fun s11 wx => SW w wx vs k zs s11 (n1 + 1) (l1.take (i * 3) ++ [tw, mt, mb] ++ l1.drop (i * 3)) (go + 1) mt mb pt pb)
                            case first =>
                              refine wp_region_held_drew (S := fun V => V.cell? ⟨go + 1, 0, none⟩ = some (.int .i64 mt) ∧ V.cell? ⟨go + 1, 1, none⟩ = some (.int .i64 mb)) (by kernel_rfl) ⟨m0, m1⟩ (fun hHeld => ?_)
                              refine takeH 1 (by simp only [List.getElem?_toArray, List.getElem?_cons_succ, List.getElem?_cons_zero]; rfl) (by kernel_rfl) (by kernel_rfl) (by kernel_rfl) (by rfl) (by intro w hSw; (try dsimp only at hSw); go_simp; first | done | with_reducible rfl) (by intro _ _ _ h; exact h) (by assumption) ?_
                              (try simp only [Act.put, List.setIfInBounds_toArray, List.set_cons_zero, List.set_cons_succ])
                              refine takeH 2 (by simp only [List.getElem?_toArray, List.getElem?_cons_succ, List.getElem?_cons_zero]; rfl) (by kernel_rfl) (by kernel_rfl) (by kernel_rfl) (by rfl) (by intro w hSw; (try dsimp only at hSw); go_simp; first | done | with_reducible rfl) (by intro _ _ _ h; exact h) (by assumption) ?_
                              (try simp only [Act.put, List.setIfInBounds_toArray, List.set_cons_zero, List.set_cons_succ])
                              refine takeH 3 (by simp only [List.getElem?_toArray, List.getElem?_cons_succ, List.getElem?_cons_zero]; rfl) (by kernel_rfl) (by kernel_rfl) (by kernel_rfl) (by rfl) (by intro w hSw; (try dsimp only at hSw); go_simp; first | done | with_reducible rfl) (by intro _ _ _ h; exact h) (by assumption) ?_
                              (try simp only [Act.put, List.setIfInBounds_toArray, List.set_cons_zero, List.set_cons_succ])
                              refine takeH 5 (by simp only [List.getElem?_toArray, List.getElem?_cons_succ, List.getElem?_cons_zero]; rfl) (by kernel_rfl) (by kernel_rfl) (by kernel_rfl) (by rfl) (by intro w hSw; (try dsimp only at hSw); go_simp; first | done | with_reducible rfl) (by intro _ _ _ h; exact h) (by assumption) ?_
                              (try simp only [Act.put, List.setIfInBounds_toArray, List.set_cons_zero, List.set_cons_succ])
                              refine takeH 6 (by simp only [List.getElem?_toArray, List.getElem?_cons_succ, List.getElem?_cons_zero]; rfl) (by kernel_rfl) (by kernel_rfl) (by kernel_rfl) (by rfl) (by intro w hSw; (try dsimp only at hSw); go_simp; first | done | with_reducible rfl) (by intro _ _ _ h; exact h) (by assumption) ?_
                              (try simp only [Act.put, List.setIfInBounds_toArray, List.set_cons_zero, List.set_cons_succ])
                              refine takeH 7 (by simp only [List.getElem?_toArray, List.getElem?_cons_succ, List.getElem?_cons_zero]; rfl) (by kernel_rfl) (by kernel_rfl) (by kernel_rfl) (by rfl) (by intro w hSw; (try dsimp only at hSw); go_simp; first | done | with_reducible rfl) (by intro _ _ _ h; exact h) (by assumption) ?_
                              (try simp only [Act.put, List.setIfInBounds_toArray, List.set_cons_zero, List.set_cons_succ])
                              refine takeH 10 (by simp only [List.getElem?_toArray, List.getElem?_cons_succ, List.getElem?_cons_zero]; rfl) (by kernel_rfl) (by kernel_rfl) (by kernel_rfl) (by rfl) (by intro w hSw; (try dsimp only at hSw); go_simp; first | done | with_reducible rfl) (by intro _ _ _ h; exact h) (by assumption) ?_
                              (try simp only [Act.put, List.setIfInBounds_toArray, List.set_cons_zero, List.set_cons_succ])
                              refine takeH 11 (by simp only [List.getElem?_toArray, List.getElem?_cons_succ, List.getElem?_cons_zero]; rfl) (by kernel_rfl) (by kernel_rfl) (by kernel_rfl) (by rfl) (by intro w hSw; (try dsimp only at hSw); go_simp; first | done | with_reducible rfl) (by intro _ _ _ h; exact h) (by assumption) ?_
                              (try simp only [Act.put, List.setIfInBounds_toArray, List.set_cons_zero, List.set_cons_succ])
                              refine takeH 12 (by simp only [List.getElem?_toArray, List.getElem?_cons_succ, List.getElem?_cons_zero]; rfl) (by kernel_rfl) (by kernel_rfl) (by kernel_rfl) (by rfl) (by intro w hSw; (try dsimp only at hSw); go_simp; first | done | with_reducible rfl) (by intro _ _ _ h; exact h) (by assumption) ?_
                              (try simp only [Act.put, List.setIfInBounds_toArray, List.set_cons_zero, List.set_cons_succ])
                              refine wpAnyH_ready (rs := [0, 8]) (by kernel_rfl) (by simp) (AllReadyH.cons (by simp only [List.getElem?_toArray, List.getElem?_cons_zero]; rfl) (fun K hK => ?_) (AllReadyH.cons (by simp only [List.getElem?_toArray, List.getElem?_cons_succ, List.getElem?_cons_zero]; rfl) (fun K hK => ?_) AllReadyH.nil))
                              · go_simp
                                refine hK.out _ _ (keep2 ⟨m0, m1⟩ (below_al (below_dr (Below.refl _ _)) _)) (fun hHeld => ?_)
                                clear hK K
                                (try simp only [Act.put, List.setIfInBounds_toArray, List.set_cons_zero, List.set_cons_succ])
                                have hB1 : Below wr.heap.size wr (wr.drew.alloc (.cells #[] TR)) := below_al (below_dr (Below.refl _ _)) _
                                have hG1 : Blk (wr.drew.alloc (.cells #[] TR)) wr.heap.size TR #[] := Blk.new wr.drew TR #[]
                                refine wpAnyH_ready (rs := [4, 8]) (by kernel_rfl) (by simp) (AllReadyH.cons (by simp only [List.getElem?_toArray, List.getElem?_cons_succ, List.getElem?_cons_zero]; rfl) (fun K hK => ?_) (AllReadyH.cons (by simp only [List.getElem?_toArray, List.getElem?_cons_succ, List.getElem?_cons_zero]; rfl) (fun K hK => ?_) AllReadyH.nil))
                                · refine step_copy rfl _ _ 24 rfl TR iI (R 0 0 0) 3 24 Try.underlying24 hiI hz0I hz1I hz2I rfl (by decide) wr.heap.size rfl hG1 _ i (l1.take (i * 3)) (RT.out.keep hB1) (by omega) (by decide) rfl (fun vI wI oI gI _ => ?_)
                                  have hBI : Below wr.heap.size wr wI := below_gr hB1 gI (by intro q hq; cases hq; exact Nat.le_refl _)
                                  refine hK.out _ _ (keep2 ⟨m0, m1⟩ hBI) (fun hHeld => ?_)
                                  clear hK K
                                  (try simp only [Act.put, List.setIfInBounds_toArray, List.set_cons_zero, List.set_cons_succ])
                                  clear hB1 hG1 gI
                                  refine wpAnyH_ready (rs := [8]) (by kernel_rfl) (by simp) (AllReadyH.cons (by simp only [List.getElem?_toArray, List.getElem?_cons_succ, List.getElem?_cons_zero]; rfl) (fun K hK => ?_) AllReadyH.nil)
                                  go_simp
                                  have hBW := below_al hBI (.cells #[.int .i64 tw, .int .i64 mt, .int .i64 mb] TR)
                                  have hE : Blk (wI.alloc (.cells #[.int .i64 tw, .int .i64 mt, .int .i64 mb] TR)) wI.heap.size TR #[.int .i64 tw, .int .i64 mt, .int .i64 mb] := Blk.new _ _ _
                                  refine hK.out _ _ (keep2 ⟨m0, m1⟩ hBW) (fun hHeld => ?_)
                                  clear hK K
                                  (try simp only [Act.put, List.setIfInBounds_toArray, List.set_cons_zero, List.set_cons_succ])
                                  replace oI := oI.alloc (.cells #[.int .i64 tw, .int .i64 mt, .int .i64 mb] TR)
                                  clear hBI
                                  refine wpAnyH_ready (rs := [9]) (by kernel_rfl) (by simp) (AllReadyH.cons (by simp only [List.getElem?_toArray, List.getElem?_cons_succ, List.getElem?_cons_zero]; rfl) (fun K hK => ?_) AllReadyH.nil)
                                  refine step_more rfl _ _ 24 rfl TR iI (R 0 0 0) 3 24 Try.underlying24 hiI hz0I hz1I hz2I rfl (by decide) vI rfl wr.heap.size i _ oI _ rfl 1 [tw, mt, mb] (row1 hE) (by omega) (by decide) hBW.size (fun vJ wJ oJ gJ _ => ?_)
                                  have hBJ : Below wr.heap.size wr wJ := hBW.grown gJ hBW.size (fun q hq => (oI.lt q hq).1)
                                  refine hK.out _ _ (keep2 ⟨m0, m1⟩ hBJ) (fun hHeld => ?_)
                                  clear hK K
                                  (try simp only [Act.put, List.setIfInBounds_toArray, List.set_cons_zero, List.set_cons_succ])
                                  clear hE hBW oI gJ
                                  refine wpAnyH_ready (rs := [13]) (by kernel_rfl) (by simp) (AllReadyH.cons (by simp only [List.getElem?_toArray, List.getElem?_cons_succ, List.getElem?_cons_zero]; rfl) (fun K hK => ?_) AllReadyH.nil)
                                  refine step_more rfl _ _ 24 rfl TR iI (R 0 0 0) 3 24 Try.underlying24 hiI hz0I hz1I hz2I rfl (by decide) vJ rfl wr.heap.size (i + 1) _ oJ _ rfl (n1 - i) (l1.drop (i * 3)) (RD.out.keep hBJ) (by omega) (by decide) hBJ.size (fun vK wK oK gK _ => ?_)
                                  have hBK : Below wr.heap.size wr wK := hBJ.grown gK hBJ.size (fun q hq => (oJ.lt q hq).1)
                                  refine hK.out _ _ (keep2 ⟨m0, m1⟩ hBK) (fun hHeld => ?_)
                                  clear hK K
                                  (try simp only [Act.put, List.setIfInBounds_toArray, List.set_cons_zero, List.set_cons_succ])
                                  have OK := Lib.hid oK
                                  have BK := Lib.hid hBK
                                  clear hBJ oJ gK oK hBK
                                  refine takeH 14 (by simp only [List.getElem?_toArray, List.getElem?_cons_succ, List.getElem?_cons_zero]; rfl) (by kernel_rfl) (by kernel_rfl) (by kernel_rfl) (by rfl) (by intro w hSw; (try dsimp only at hSw); go_simp; first | done | with_reducible rfl) (by intro _ _ _ h; exact h) (by assumption) ?_
                                  (try simp only [Act.put, List.setIfInBounds_toArray, List.set_cons_zero, List.set_cons_succ])
                                  refine wpAnyH_done (by kernel_rfl) ?_ _
                                  clear hHeld
                                  go_wp2_with fail
                                  go_meet
                                  exact SB.out.fresh2 BK.out (by rw [← ROWS.out, ← show i + 1 + (n1 - i) = n1 + 1 by omega]; exact OK.out)
                                · go_simp
                                  have hB2 := below_al hB1 (.cells #[.int .i64 tw, .int .i64 mt, .int .i64 mb] TR)
                                  have hG2 := hG1.alloc (.cells #[.int .i64 tw, .int .i64 mt, .int .i64 mb] TR)
                                  have hE2 : Blk ((wr.drew.alloc (.cells #[] TR)).alloc (.cells #[.int .i64 tw, .int .i64 mt, .int .i64 mb] TR)) (wr.heap.size + 1) TR #[.int .i64 tw, .int .i64 mt, .int .i64 mb] := Blk.new1 wr.drew TR _ _
                                  refine hK.out _ _ (keep2 ⟨m0, m1⟩ hB2) (fun hHeld => ?_)
                                  clear hK K
                                  (try simp only [Act.put, List.setIfInBounds_toArray, List.set_cons_zero, List.set_cons_succ])
                                  clear hB1 hG1
                                  refine wpAnyH_ready (rs := [4]) (by kernel_rfl) (by simp) (AllReadyH.cons (by simp only [List.getElem?_toArray, List.getElem?_cons_succ, List.getElem?_cons_zero]; rfl) (fun K hK => ?_) AllReadyH.nil)
                                  refine step_copy rfl _ _ 24 rfl TR iI (R 0 0 0) 3 24 Try.underlying24 hiI hz0I hz1I hz2I rfl (by decide) wr.heap.size rfl hG2 _ i (l1.take (i * 3)) (RT.out.keep hB2) (by omega) (by decide) rfl (fun vI wI oI gI _ => ?_)
                                  have hBW : Below wr.heap.size wr wI := below_gr hB2 gI (by intro q hq; cases hq; exact Nat.le_refl _)
                                  have hE := hE2.grown gI (by simp <;> omega)
                                  refine hK.out _ _ (keep2 ⟨m0, m1⟩ hBW) (fun hHeld => ?_)
                                  clear hK K
                                  (try simp only [Act.put, List.setIfInBounds_toArray, List.set_cons_zero, List.set_cons_succ])
                                  clear hB2 hG2 hE2 gI
                                  refine wpAnyH_ready (rs := [9]) (by kernel_rfl) (by simp) (AllReadyH.cons (by simp only [List.getElem?_toArray, List.getElem?_cons_succ, List.getElem?_cons_zero]; rfl) (fun K hK => ?_) AllReadyH.nil)
                                  refine step_more rfl _ _ 24 rfl TR iI (R 0 0 0) 3 24 Try.underlying24 hiI hz0I hz1I hz2I rfl (by decide) vI rfl wr.heap.size i _ oI _ rfl 1 [tw, mt, mb] (row1 hE) (by omega) (by decide) hBW.size (fun vJ wJ oJ gJ _ => ?_)
                                  have hBJ : Below wr.heap.size wr wJ := hBW.grown gJ hBW.size (fun q hq => (oI.lt q hq).1)
                                  refine hK.out _ _ (keep2 ⟨m0, m1⟩ hBJ) (fun hHeld => ?_)
                                  clear hK K
                                  (try simp only [Act.put, List.setIfInBounds_toArray, List.set_cons_zero, List.set_cons_succ])
                                  clear hE hBW oI gJ
                                  refine wpAnyH_ready (rs := [13]) (by kernel_rfl) (by simp) (AllReadyH.cons (by simp only [List.getElem?_toArray, List.getElem?_cons_succ, List.getElem?_cons_zero]; rfl) (fun K hK => ?_) AllReadyH.nil)
                                  refine step_more rfl _ _ 24 rfl TR iI (R 0 0 0) 3 24 Try.underlying24 hiI hz0I hz1I hz2I rfl (by decide) vJ rfl wr.heap.size (i + 1) _ oJ _ rfl (n1 - i) (l1.drop (i * 3)) (RD.out.keep hBJ) (by omega) (by decide) hBJ.size (fun vK wK oK gK _ => ?_)
                                  have hBK : Below wr.heap.size wr wK := hBJ.grown gK hBJ.size (fun q hq => (oJ.lt q hq).1)
                                  refine hK.out _ _ (keep2 ⟨m0, m1⟩ hBK) (fun hHeld => ?_)
                                  clear hK K
                                  (try simp only [Act.put, List.setIfInBounds_toArray, List.set_cons_zero, List.set_cons_succ])
                                  have OK := Lib.hid oK
                                  have BK := Lib.hid hBK
                                  clear hBJ oJ gK oK hBK
                                  refine takeH 14 (by simp only [List.getElem?_toArray, List.getElem?_cons_succ, List.getElem?_cons_zero]; rfl) (by kernel_rfl) (by kernel_rfl) (by kernel_rfl) (by rfl) (by intro w hSw; (try dsimp only at hSw); go_simp; first | done | with_reducible rfl) (by intro _ _ _ h; exact h) (by assumption) ?_
                                  (try simp only [Act.put, List.setIfInBounds_toArray, List.set_cons_zero, List.set_cons_succ])
                                  refine wpAnyH_done (by kernel_rfl) ?_ _
                                  clear hHeld
                                  go_wp2_with fail
                                  go_meet
                                  exact SB.out.fresh2 BK.out (by rw [← ROWS.out, ← show i + 1 + (n1 - i) = n1 + 1 by omega]; exact OK.out)
                              · go_simp
                                have hB1 : Below wr.heap.size wr (wr.drew.alloc (.cells #[.int .i64 tw, .int .i64 mt, .int .i64 mb] TR)) := below_al (below_dr (Below.refl _ _)) _
                                refine hK.out _ _ (keep2 ⟨m0, m1⟩ hB1) (fun hHeld => ?_)
                                clear hK K
                                (try simp only [Act.put, List.setIfInBounds_toArray, List.set_cons_zero, List.set_cons_succ])
                                refine wpAnyH_ready (rs := [0]) (by kernel_rfl) (by simp) (AllReadyH.cons (by simp only [List.getElem?_toArray, List.getElem?_cons_zero]; rfl) (fun K hK => ?_) AllReadyH.nil)
                                go_simp
                                have hB2 := below_al hB1 (.cells #[] TR)
                                have hE2 : Blk ((wr.drew.alloc (.cells #[.int .i64 tw, .int .i64 mt, .int .i64 mb] TR)).alloc (.cells #[] TR)) wr.heap.size TR #[.int .i64 tw, .int .i64 mt, .int .i64 mb] := (Blk.new wr.drew TR _).alloc _
                                have hG2 : Blk ((wr.drew.alloc (.cells #[.int .i64 tw, .int .i64 mt, .int .i64 mb] TR)).alloc (.cells #[] TR)) (wr.heap.size + 1) TR #[] := Blk.new1 wr.drew TR #[] _
                                refine hK.out _ _ (keep2 ⟨m0, m1⟩ hB2) (fun hHeld => ?_)
                                clear hK K
                                (try simp only [Act.put, List.setIfInBounds_toArray, List.set_cons_zero, List.set_cons_succ])
                                clear hB1
                                refine wpAnyH_ready (rs := [4]) (by kernel_rfl) (by simp) (AllReadyH.cons (by simp only [List.getElem?_toArray, List.getElem?_cons_succ, List.getElem?_cons_zero]; rfl) (fun K hK => ?_) AllReadyH.nil)
                                refine step_copy rfl _ _ 24 rfl TR iI (R 0 0 0) 3 24 Try.underlying24 hiI hz0I hz1I hz2I rfl (by decide) (wr.heap.size + 1) rfl hG2 _ i (l1.take (i * 3)) (RT.out.keep hB2) (by omega) (by decide) rfl (fun vI wI oI gI _ => ?_)
                                have hBW : Below wr.heap.size wr wI := below_gr hB2 gI (by intro q hq; cases hq; omega)
                                have hE := hE2.grown gI (by simp <;> omega)
                                refine hK.out _ _ (keep2 ⟨m0, m1⟩ hBW) (fun hHeld => ?_)
                                clear hK K
                                (try simp only [Act.put, List.setIfInBounds_toArray, List.set_cons_zero, List.set_cons_succ])
                                replace oI := own_mono oI (show wr.heap.size ≤ wr.heap.size + 1 by omega)
                                clear hB2 hG2 hE2 gI
                                refine wpAnyH_ready (rs := [9]) (by kernel_rfl) (by simp) (AllReadyH.cons (by simp only [List.getElem?_toArray, List.getElem?_cons_succ, List.getElem?_cons_zero]; rfl) (fun K hK => ?_) AllReadyH.nil)
                                refine step_more rfl _ _ 24 rfl TR iI (R 0 0 0) 3 24 Try.underlying24 hiI hz0I hz1I hz2I rfl (by decide) vI rfl wr.heap.size i _ oI _ rfl 1 [tw, mt, mb] (row1 hE) (by omega) (by decide) hBW.size (fun vJ wJ oJ gJ _ => ?_)
                                have hBJ : Below wr.heap.size wr wJ := hBW.grown gJ hBW.size (fun q hq => (oI.lt q hq).1)
                                refine hK.out _ _ (keep2 ⟨m0, m1⟩ hBJ) (fun hHeld => ?_)
                                clear hK K
                                (try simp only [Act.put, List.setIfInBounds_toArray, List.set_cons_zero, List.set_cons_succ])
                                clear hE hBW oI gJ
                                refine wpAnyH_ready (rs := [13]) (by kernel_rfl) (by simp) (AllReadyH.cons (by simp only [List.getElem?_toArray, List.getElem?_cons_succ, List.getElem?_cons_zero]; rfl) (fun K hK => ?_) AllReadyH.nil)
                                refine step_more rfl _ _ 24 rfl TR iI (R 0 0 0) 3 24 Try.underlying24 hiI hz0I hz1I hz2I rfl (by decide) vJ rfl wr.heap.size (i + 1) _ oJ _ rfl (n1 - i) (l1.drop (i * 3)) (RD.out.keep hBJ) (by omega) (by decide) hBJ.size (fun vK wK oK gK _ => ?_)
                                have hBK : Below wr.heap.size wr wK := hBJ.grown gK hBJ.size (fun q hq => (oJ.lt q hq).1)
                                refine hK.out _ _ (keep2 ⟨m0, m1⟩ hBK) (fun hHeld => ?_)
                                clear hK K
                                (try simp only [Act.put, List.setIfInBounds_toArray, List.set_cons_zero, List.set_cons_succ])
                                have OK := Lib.hid oK
                                have BK := Lib.hid hBK
                                clear hBJ oJ gK oK hBK
                                refine takeH 14 (by simp only [List.getElem?_toArray, List.getElem?_cons_succ, List.getElem?_cons_zero]; rfl) (by kernel_rfl) (by kernel_rfl) (by kernel_rfl) (by rfl) (by intro w hSw; (try dsimp only at hSw); go_simp; first | done | with_reducible rfl) (by intro _ _ _ h; exact h) (by assumption) ?_
                                (try simp only [Act.put, List.setIfInBounds_toArray, List.set_cons_zero, List.set_cons_succ])
                                refine wpAnyH_done (by kernel_rfl) ?_ _
                                clear hHeld
                                go_wp2_with fail
                                go_meet
                                exact SB.out.fresh2 BK.out (by rw [← ROWS.out, ← show i + 1 + (n1 - i) = n1 + 1 by omega]; exact OK.out)
                            case rest =>
                              have SF := Lib.hid hcut
                              clear m0 m1 SB hcut
                              have HP : Hid (Put (sn f rt k) (so zs f rt rb k) tw mt mb (n1 + 1) (l1.take (i * 3) ++ [tw, mt, mb] ++ l1.drop (i * 3))) := Lib.hid (by rw [HN1.out, HL1.out]; exact ⟨i, HAT.out, .inr (.inl ⟨HNE.out, HMT.out, rfl, rfl⟩)⟩)
                              have hmb : n1 + 1 ≤ 1048576 := by omega
                              by_cases ro : Ro (n1 + 1) (l1.take (i * 3) ++ [tw, mt, mb] ++ l1.drop (i * 3))
                              · have hsell : Sell k zs fr tw pt pb (n1 + 1) (l1.take (i * 3) ++ [tw, mt, mb] ++ l1.drop (i * 3)) := ⟨SOK.out, f, mt, mb, rt, rb, hfn, (HF2.out f hfn).2 rfl, HT1.out, HT2.out, HP.out, ro⟩
                                obtain ⟨e1, e2, e3⟩ := HS.out.yes hsell
                                have RO := Lib.hid ro
                                subst e1 e2 e3
                                clear ro hsell HS
                                go_wp2_with fail
                                refine (spec_ro _ _ _ _ hmb (Row.of_own SF.out.o) true ⟨fun _ => RO.out, fun _ => rfl⟩).mono ?_; rintro e wf ⟨rfl, hb⟩
                                have SG := Lib.hid (SF.out.keep hb)
                                clear hb
                                go_wp2
                                exact bodyPost_ret (v := .tuple #[_, .bool true]) (by simp [*, results, Try.results29, go_sem]) rfl ⟨_, rfl, SG.out.o, SG.out.bl⟩
                              · have RO := Lib.hid ro
                                obtain ⟨e1, e2, e3⟩ := HS.out.no (fun m' ys' g => by
                                  obtain ⟨_, a1, a2, a3, a4, t1, t2, hp, hro⟩ := g.parts HF2.out
                                  obtain ⟨rfl, rfl, _⟩ := ti_uniq t1 HT1.out
                                  obtain ⟨rfl, rfl, _⟩ := ti_uniq t2 HT2.out
                                  obtain ⟨rfl, rfl⟩ := hp.uniq HP.out
                                  exact RO.out hro)
                                subst e3
                                clear ro
                                go_wp2_with fail
                                refine (spec_ro _ _ _ _ hmb (Row.of_own SF.out.o) false ⟨fun h => (by cases h), fun h => absurd h RO.out⟩).mono ?_; rintro e wf ⟨rfl, hb⟩
                                have SG := Lib.hid (SF.out.keep hb)
                                clear hb
                                go_wp2
                                exact bodyPost_ret (v := .tuple #[vs, .bool false]) (by simp [*, results, Try.results29, go_sem]) rfl ⟨_, rfl, by rw [e1, e2]; exact SG.out.s, SG.out.bl⟩
                          · have u7 : decide (0 < mt) = false := decide_eq_false hmt
                            have HP : Hid (Put (sn f rt k) (so zs f rt rb k) tw mt mb n1 l1) := Lib.hid (by rw [HN1.out, HL1.out]; exact ⟨i, HAT.out, .inr (.inr ⟨HNE.out, hmt, rfl, rfl⟩)⟩)
                            have SF := SB
                            clear hmt SB
                            go_upto_region 33 with fail
                            clear m0 m1
                            have hmb : n1 ≤ 1048576 := by omega
                            by_cases ro : Ro (n1) (l1)
                            · have hsell : Sell k zs fr tw pt pb (n1) (l1) := ⟨SOK.out, f, mt, mb, rt, rb, hfn, (HF2.out f hfn).2 rfl, HT1.out, HT2.out, HP.out, ro⟩
                              obtain ⟨e1, e2, e3⟩ := HS.out.yes hsell
                              have RO := Lib.hid ro
                              subst e1 e2 e3
                              clear ro hsell HS
                              go_wp2_with fail
                              refine (spec_ro _ _ _ _ hmb (Row.of_own SF.out.o) true ⟨fun _ => RO.out, fun _ => rfl⟩).mono ?_; rintro e wf ⟨rfl, hb⟩
                              have SG := Lib.hid (SF.out.keep hb)
                              clear hb
                              go_wp2
                              exact bodyPost_ret (v := .tuple #[(.slice (some ⟨gO, 0, none⟩) m cO), .bool true]) (by simp [*, results, Try.results29, go_sem]) rfl ⟨_, rfl, SG.out.o, SG.out.bl⟩
                            · have RO := Lib.hid ro
                              obtain ⟨e1, e2, e3⟩ := HS.out.no (fun m' ys' g => by
                                obtain ⟨_, a1, a2, a3, a4, t1, t2, hp, hro⟩ := g.parts HF2.out
                                obtain ⟨rfl, rfl, _⟩ := ti_uniq t1 HT1.out
                                obtain ⟨rfl, rfl, _⟩ := ti_uniq t2 HT2.out
                                obtain ⟨rfl, rfl⟩ := hp.uniq HP.out
                                exact RO.out hro)
                              subst e3
                              clear ro
                              go_wp2_with fail
                              refine (spec_ro _ _ _ _ hmb (Row.of_own SF.out.o) false ⟨fun h => (by cases h), fun h => absurd h RO.out⟩).mono ?_; rintro e wf ⟨rfl, hb⟩
                              have SG := Lib.hid (SF.out.keep hb)
                              clear hb
                              go_wp2
                              exact bodyPost_ret (v := .tuple #[vs, .bool false]) (by simp [*, results, Try.results29, go_sem]) rfl ⟨_, rfl, by rw [e1, e2]; exact SG.out.s, SG.out.bl⟩
                    · have hin0 : i ≤ n1 := by omega
                      have HAT : Hid (At n1 l1 tw i) := Lib.hid ⟨by omega, HLS.out, fun h => by omega⟩
                      have HNE : Hid (¬ (i < n1 ∧ wO l1 i = tw)) := Lib.hid fun h => by omega
                      have u5 : decide ((i : Int) < (n1 : Int)) = false := decide_eq_false (by omega)
                      have u6 : decide (i < n1) = false := decide_eq_false (by omega)
                      obtain ⟨m0, m1, _⟩ := fcell SB.out.bm
                      by_cases hmt : 0 < mt
                      · have u7 : decide (0 < mt) = true := decide_eq_true hmt
                        have HMT := Lib.hid hmt
                        have hcap := own_cap SB.out.o
                        obtain ⟨A, hA, hA2, hA3⟩ : ∃ A : Addr, (if cO = i then (some ⟨gO, 0, none⟩ : Option Addr) else some ⟨gO, i * 3, none⟩) = some A ∧ (A = ⟨gO, 0 + i * 3, none⟩ ∨ n1 = i) ∧ A.spot = none := by
                          by_cases h1 : cO = i
                          · exact ⟨⟨gO, 0, none⟩, by simp [h1], .inr (by omega), rfl⟩
                          · exact ⟨⟨gO, i * 3, none⟩, by simp [h1], .inl (by rw [Nat.zero_add]), rfl⟩
                        have hiI' : i ≤ n1 := hin0
                        have RT := Lib.hid (row_take' SB.out.o (show i ≤ n1 by omega))
                        have RD := Lib.hid (row_drop' (c' := cO - i) SB.out.o (show i ≤ n1 by omega) A hA2 hA3)
                        have hic : i ≤ cO := by omega
                        have hin2 : (i : Int) ≤ (n1 : Int) := by omega
                        have hi0 : (0 : Int) ≤ (i : Int) := by omega
                        have ROWS : Hid (IV (l1.take (i * 3)) ++ IV [tw, mt, mb] ++ IV (l1.drop (i * 3)) = IV (l1.take (i * 3) ++ [tw, mt, mb] ++ l1.drop (i * 3))) := Lib.hid (by simp [IV])
                        clear hA2 hA3 hmt
                        go_upto_region 32 with fail
                        go_cut [11] (fun s11 wx => SW w wx vs k zs s11 (n1 + 1) (l1.take (i * 3) ++ [tw, mt, mb] ++ l1.drop (i * 3)) (go + 1) mt mb pt pb)
                        case first =>
                          refine wp_region_held_drew (S := fun V => V.cell? ⟨go + 1, 0, none⟩ = some (.int .i64 mt) ∧ V.cell? ⟨go + 1, 1, none⟩ = some (.int .i64 mb)) (by kernel_rfl) ⟨m0, m1⟩ (fun hHeld => ?_)
                          refine takeH 1 (by simp only [List.getElem?_toArray, List.getElem?_cons_succ, List.getElem?_cons_zero]; rfl) (by kernel_rfl) (by kernel_rfl) (by kernel_rfl) (by rfl) (by intro w hSw; (try dsimp only at hSw); go_simp; first | done | with_reducible rfl) (by intro _ _ _ h; exact h) (by assumption) ?_
                          (try simp only [Act.put, List.setIfInBounds_toArray, List.set_cons_zero, List.set_cons_succ])
                          refine takeH 2 (by simp only [List.getElem?_toArray, List.getElem?_cons_succ, List.getElem?_cons_zero]; rfl) (by kernel_rfl) (by kernel_rfl) (by kernel_rfl) (by rfl) (by intro w hSw; (try dsimp only at hSw); go_simp; first | done | with_reducible rfl) (by intro _ _ _ h; exact h) (by assumption) ?_
                          (try simp only [Act.put, List.setIfInBounds_toArray, List.set_cons_zero, List.set_cons_succ])
                          refine takeH 3 (by simp only [List.getElem?_toArray, List.getElem?_cons_succ, List.getElem?_cons_zero]; rfl) (by kernel_rfl) (by kernel_rfl) (by kernel_rfl) (by rfl) (by intro w hSw; (try dsimp only at hSw); go_simp; first | done | with_reducible rfl) (by intro _ _ _ h; exact h) (by assumption) ?_
                          (try simp only [Act.put, List.setIfInBounds_toArray, List.set_cons_zero, List.set_cons_succ])
                          refine takeH 5 (by simp only [List.getElem?_toArray, List.getElem?_cons_succ, List.getElem?_cons_zero]; rfl) (by kernel_rfl) (by kernel_rfl) (by kernel_rfl) (by rfl) (by intro w hSw; (try dsimp only at hSw); go_simp; first | done | with_reducible rfl) (by intro _ _ _ h; exact h) (by assumption) ?_
                          (try simp only [Act.put, List.setIfInBounds_toArray, List.set_cons_zero, List.set_cons_succ])
                          refine takeH 6 (by simp only [List.getElem?_toArray, List.getElem?_cons_succ, List.getElem?_cons_zero]; rfl) (by kernel_rfl) (by kernel_rfl) (by kernel_rfl) (by rfl) (by intro w hSw; (try dsimp only at hSw); go_simp; first | done | with_reducible rfl) (by intro _ _ _ h; exact h) (by assumption) ?_
                          (try simp only [Act.put, List.setIfInBounds_toArray, List.set_cons_zero, List.set_cons_succ])
                          refine takeH 7 (by simp only [List.getElem?_toArray, List.getElem?_cons_succ, List.getElem?_cons_zero]; rfl) (by kernel_rfl) (by kernel_rfl) (by kernel_rfl) (by rfl) (by intro w hSw; (try dsimp only at hSw); go_simp; first | done | with_reducible rfl) (by intro _ _ _ h; exact h) (by assumption) ?_
                          (try simp only [Act.put, List.setIfInBounds_toArray, List.set_cons_zero, List.set_cons_succ])
                          refine takeH 10 (by simp only [List.getElem?_toArray, List.getElem?_cons_succ, List.getElem?_cons_zero]; rfl) (by kernel_rfl) (by kernel_rfl) (by kernel_rfl) (by rfl) (by intro w hSw; (try dsimp only at hSw); go_simp; first | done | with_reducible rfl) (by intro _ _ _ h; exact h) (by assumption) ?_
                          (try simp only [Act.put, List.setIfInBounds_toArray, List.set_cons_zero, List.set_cons_succ])
                          refine takeH 11 (by simp only [List.getElem?_toArray, List.getElem?_cons_succ, List.getElem?_cons_zero]; rfl) (by kernel_rfl) (by kernel_rfl) (by kernel_rfl) (by rfl) (by intro w hSw; (try dsimp only at hSw); go_simp; first | done | with_reducible rfl) (by intro _ _ _ h; exact h) (by assumption) ?_
                          (try simp only [Act.put, List.setIfInBounds_toArray, List.set_cons_zero, List.set_cons_succ])
                          refine takeH 12 (by simp only [List.getElem?_toArray, List.getElem?_cons_succ, List.getElem?_cons_zero]; rfl) (by kernel_rfl) (by kernel_rfl) (by kernel_rfl) (by rfl) (by intro w hSw; (try dsimp only at hSw); go_simp; first | done | with_reducible rfl) (by intro _ _ _ h; exact h) (by assumption) ?_
                          (try simp only [Act.put, List.setIfInBounds_toArray, List.set_cons_zero, List.set_cons_succ])
                          refine wpAnyH_ready (rs := [0, 8]) (by kernel_rfl) (by simp) (AllReadyH.cons (by simp only [List.getElem?_toArray, List.getElem?_cons_zero]; rfl) (fun K hK => ?_) (AllReadyH.cons (by simp only [List.getElem?_toArray, List.getElem?_cons_succ, List.getElem?_cons_zero]; rfl) (fun K hK => ?_) AllReadyH.nil))
                          · go_simp
                            refine hK.out _ _ (keep2 ⟨m0, m1⟩ (below_al (below_dr (Below.refl _ _)) _)) (fun hHeld => ?_)
                            clear hK K
                            (try simp only [Act.put, List.setIfInBounds_toArray, List.set_cons_zero, List.set_cons_succ])
                            have hB1 : Below wr.heap.size wr (wr.drew.alloc (.cells #[] TR)) := below_al (below_dr (Below.refl _ _)) _
                            have hG1 : Blk (wr.drew.alloc (.cells #[] TR)) wr.heap.size TR #[] := Blk.new wr.drew TR #[]
                            refine wpAnyH_ready (rs := [4, 8]) (by kernel_rfl) (by simp) (AllReadyH.cons (by simp only [List.getElem?_toArray, List.getElem?_cons_succ, List.getElem?_cons_zero]; rfl) (fun K hK => ?_) (AllReadyH.cons (by simp only [List.getElem?_toArray, List.getElem?_cons_succ, List.getElem?_cons_zero]; rfl) (fun K hK => ?_) AllReadyH.nil))
                            · refine step_copy rfl _ _ 24 rfl TR iI (R 0 0 0) 3 24 Try.underlying24 hiI hz0I hz1I hz2I rfl (by decide) wr.heap.size rfl hG1 _ i (l1.take (i * 3)) (RT.out.keep hB1) (by omega) (by decide) rfl (fun vI wI oI gI _ => ?_)
                              have hBI : Below wr.heap.size wr wI := below_gr hB1 gI (by intro q hq; cases hq; exact Nat.le_refl _)
                              refine hK.out _ _ (keep2 ⟨m0, m1⟩ hBI) (fun hHeld => ?_)
                              clear hK K
                              (try simp only [Act.put, List.setIfInBounds_toArray, List.set_cons_zero, List.set_cons_succ])
                              clear hB1 hG1 gI
                              refine wpAnyH_ready (rs := [8]) (by kernel_rfl) (by simp) (AllReadyH.cons (by simp only [List.getElem?_toArray, List.getElem?_cons_succ, List.getElem?_cons_zero]; rfl) (fun K hK => ?_) AllReadyH.nil)
                              go_simp
                              have hBW := below_al hBI (.cells #[.int .i64 tw, .int .i64 mt, .int .i64 mb] TR)
                              have hE : Blk (wI.alloc (.cells #[.int .i64 tw, .int .i64 mt, .int .i64 mb] TR)) wI.heap.size TR #[.int .i64 tw, .int .i64 mt, .int .i64 mb] := Blk.new _ _ _
                              refine hK.out _ _ (keep2 ⟨m0, m1⟩ hBW) (fun hHeld => ?_)
                              clear hK K
                              (try simp only [Act.put, List.setIfInBounds_toArray, List.set_cons_zero, List.set_cons_succ])
                              replace oI := oI.alloc (.cells #[.int .i64 tw, .int .i64 mt, .int .i64 mb] TR)
                              clear hBI
                              refine wpAnyH_ready (rs := [9]) (by kernel_rfl) (by simp) (AllReadyH.cons (by simp only [List.getElem?_toArray, List.getElem?_cons_succ, List.getElem?_cons_zero]; rfl) (fun K hK => ?_) AllReadyH.nil)
                              refine step_more rfl _ _ 24 rfl TR iI (R 0 0 0) 3 24 Try.underlying24 hiI hz0I hz1I hz2I rfl (by decide) vI rfl wr.heap.size i _ oI _ rfl 1 [tw, mt, mb] (row1 hE) (by omega) (by decide) hBW.size (fun vJ wJ oJ gJ _ => ?_)
                              have hBJ : Below wr.heap.size wr wJ := hBW.grown gJ hBW.size (fun q hq => (oI.lt q hq).1)
                              refine hK.out _ _ (keep2 ⟨m0, m1⟩ hBJ) (fun hHeld => ?_)
                              clear hK K
                              (try simp only [Act.put, List.setIfInBounds_toArray, List.set_cons_zero, List.set_cons_succ])
                              clear hE hBW oI gJ
                              refine wpAnyH_ready (rs := [13]) (by kernel_rfl) (by simp) (AllReadyH.cons (by simp only [List.getElem?_toArray, List.getElem?_cons_succ, List.getElem?_cons_zero]; rfl) (fun K hK => ?_) AllReadyH.nil)
                              refine step_more rfl _ _ 24 rfl TR iI (R 0 0 0) 3 24 Try.underlying24 hiI hz0I hz1I hz2I rfl (by decide) vJ rfl wr.heap.size (i + 1) _ oJ _ rfl (n1 - i) (l1.drop (i * 3)) (RD.out.keep hBJ) (by omega) (by decide) hBJ.size (fun vK wK oK gK _ => ?_)
                              have hBK : Below wr.heap.size wr wK := hBJ.grown gK hBJ.size (fun q hq => (oJ.lt q hq).1)
                              refine hK.out _ _ (keep2 ⟨m0, m1⟩ hBK) (fun hHeld => ?_)
                              clear hK K
                              (try simp only [Act.put, List.setIfInBounds_toArray, List.set_cons_zero, List.set_cons_succ])
                              have OK := Lib.hid oK
                              have BK := Lib.hid hBK
                              clear hBJ oJ gK oK hBK
                              refine takeH 14 (by simp only [List.getElem?_toArray, List.getElem?_cons_succ, List.getElem?_cons_zero]; rfl) (by kernel_rfl) (by kernel_rfl) (by kernel_rfl) (by rfl) (by intro w hSw; (try dsimp only at hSw); go_simp; first | done | with_reducible rfl) (by intro _ _ _ h; exact h) (by assumption) ?_
                              (try simp only [Act.put, List.setIfInBounds_toArray, List.set_cons_zero, List.set_cons_succ])
                              refine wpAnyH_done (by kernel_rfl) ?_ _
                              clear hHeld
                              go_wp2_with fail
                              go_meet
                              exact SB.out.fresh2 BK.out (by rw [← ROWS.out, ← show i + 1 + (n1 - i) = n1 + 1 by omega]; exact OK.out)
                            · go_simp
                              have hB2 := below_al hB1 (.cells #[.int .i64 tw, .int .i64 mt, .int .i64 mb] TR)
                              have hG2 := hG1.alloc (.cells #[.int .i64 tw, .int .i64 mt, .int .i64 mb] TR)
                              have hE2 : Blk ((wr.drew.alloc (.cells #[] TR)).alloc (.cells #[.int .i64 tw, .int .i64 mt, .int .i64 mb] TR)) (wr.heap.size + 1) TR #[.int .i64 tw, .int .i64 mt, .int .i64 mb] := Blk.new1 wr.drew TR _ _
                              refine hK.out _ _ (keep2 ⟨m0, m1⟩ hB2) (fun hHeld => ?_)
                              clear hK K
                              (try simp only [Act.put, List.setIfInBounds_toArray, List.set_cons_zero, List.set_cons_succ])
                              clear hB1 hG1
                              refine wpAnyH_ready (rs := [4]) (by kernel_rfl) (by simp) (AllReadyH.cons (by simp only [List.getElem?_toArray, List.getElem?_cons_succ, List.getElem?_cons_zero]; rfl) (fun K hK => ?_) AllReadyH.nil)
                              refine step_copy rfl _ _ 24 rfl TR iI (R 0 0 0) 3 24 Try.underlying24 hiI hz0I hz1I hz2I rfl (by decide) wr.heap.size rfl hG2 _ i (l1.take (i * 3)) (RT.out.keep hB2) (by omega) (by decide) rfl (fun vI wI oI gI _ => ?_)
                              have hBW : Below wr.heap.size wr wI := below_gr hB2 gI (by intro q hq; cases hq; exact Nat.le_refl _)
                              have hE := hE2.grown gI (by simp <;> omega)
                              refine hK.out _ _ (keep2 ⟨m0, m1⟩ hBW) (fun hHeld => ?_)
                              clear hK K
                              (try simp only [Act.put, List.setIfInBounds_toArray, List.set_cons_zero, List.set_cons_succ])
                              clear hB2 hG2 hE2 gI
                              refine wpAnyH_ready (rs := [9]) (by kernel_rfl) (by simp) (AllReadyH.cons (by simp only [List.getElem?_toArray, List.getElem?_cons_succ, List.getElem?_cons_zero]; rfl) (fun K hK => ?_) AllReadyH.nil)
                              refine step_more rfl _ _ 24 rfl TR iI (R 0 0 0) 3 24 Try.underlying24 hiI hz0I hz1I hz2I rfl (by decide) vI rfl wr.heap.size i _ oI _ rfl 1 [tw, mt, mb] (row1 hE) (by omega) (by decide) hBW.size (fun vJ wJ oJ gJ _ => ?_)
                              have hBJ : Below wr.heap.size wr wJ := hBW.grown gJ hBW.size (fun q hq => (oI.lt q hq).1)
                              refine hK.out _ _ (keep2 ⟨m0, m1⟩ hBJ) (fun hHeld => ?_)
                              clear hK K
                              (try simp only [Act.put, List.setIfInBounds_toArray, List.set_cons_zero, List.set_cons_succ])
                              clear hE hBW oI gJ
                              refine wpAnyH_ready (rs := [13]) (by kernel_rfl) (by simp) (AllReadyH.cons (by simp only [List.getElem?_toArray, List.getElem?_cons_succ, List.getElem?_cons_zero]; rfl) (fun K hK => ?_) AllReadyH.nil)
                              refine step_more rfl _ _ 24 rfl TR iI (R 0 0 0) 3 24 Try.underlying24 hiI hz0I hz1I hz2I rfl (by decide) vJ rfl wr.heap.size (i + 1) _ oJ _ rfl (n1 - i) (l1.drop (i * 3)) (RD.out.keep hBJ) (by omega) (by decide) hBJ.size (fun vK wK oK gK _ => ?_)
                              have hBK : Below wr.heap.size wr wK := hBJ.grown gK hBJ.size (fun q hq => (oJ.lt q hq).1)
                              refine hK.out _ _ (keep2 ⟨m0, m1⟩ hBK) (fun hHeld => ?_)
                              clear hK K
                              (try simp only [Act.put, List.setIfInBounds_toArray, List.set_cons_zero, List.set_cons_succ])
                              have OK := Lib.hid oK
                              have BK := Lib.hid hBK
                              clear hBJ oJ gK oK hBK
                              refine takeH 14 (by simp only [List.getElem?_toArray, List.getElem?_cons_succ, List.getElem?_cons_zero]; rfl) (by kernel_rfl) (by kernel_rfl) (by kernel_rfl) (by rfl) (by intro w hSw; (try dsimp only at hSw); go_simp; first | done | with_reducible rfl) (by intro _ _ _ h; exact h) (by assumption) ?_
                              (try simp only [Act.put, List.setIfInBounds_toArray, List.set_cons_zero, List.set_cons_succ])
                              refine wpAnyH_done (by kernel_rfl) ?_ _
                              clear hHeld
                              go_wp2_with fail
                              go_meet
                              exact SB.out.fresh2 BK.out (by rw [← ROWS.out, ← show i + 1 + (n1 - i) = n1 + 1 by omega]; exact OK.out)
                          · go_simp
                            have hB1 : Below wr.heap.size wr (wr.drew.alloc (.cells #[.int .i64 tw, .int .i64 mt, .int .i64 mb] TR)) := below_al (below_dr (Below.refl _ _)) _
                            refine hK.out _ _ (keep2 ⟨m0, m1⟩ hB1) (fun hHeld => ?_)
                            clear hK K
                            (try simp only [Act.put, List.setIfInBounds_toArray, List.set_cons_zero, List.set_cons_succ])
                            refine wpAnyH_ready (rs := [0]) (by kernel_rfl) (by simp) (AllReadyH.cons (by simp only [List.getElem?_toArray, List.getElem?_cons_zero]; rfl) (fun K hK => ?_) AllReadyH.nil)
                            go_simp
                            have hB2 := below_al hB1 (.cells #[] TR)
                            have hE2 : Blk ((wr.drew.alloc (.cells #[.int .i64 tw, .int .i64 mt, .int .i64 mb] TR)).alloc (.cells #[] TR)) wr.heap.size TR #[.int .i64 tw, .int .i64 mt, .int .i64 mb] := (Blk.new wr.drew TR _).alloc _
                            have hG2 : Blk ((wr.drew.alloc (.cells #[.int .i64 tw, .int .i64 mt, .int .i64 mb] TR)).alloc (.cells #[] TR)) (wr.heap.size + 1) TR #[] := Blk.new1 wr.drew TR #[] _
                            refine hK.out _ _ (keep2 ⟨m0, m1⟩ hB2) (fun hHeld => ?_)
                            clear hK K
                            (try simp only [Act.put, List.setIfInBounds_toArray, List.set_cons_zero, List.set_cons_succ])
                            clear hB1
                            refine wpAnyH_ready (rs := [4]) (by kernel_rfl) (by simp) (AllReadyH.cons (by simp only [List.getElem?_toArray, List.getElem?_cons_succ, List.getElem?_cons_zero]; rfl) (fun K hK => ?_) AllReadyH.nil)
                            refine step_copy rfl _ _ 24 rfl TR iI (R 0 0 0) 3 24 Try.underlying24 hiI hz0I hz1I hz2I rfl (by decide) (wr.heap.size + 1) rfl hG2 _ i (l1.take (i * 3)) (RT.out.keep hB2) (by omega) (by decide) rfl (fun vI wI oI gI _ => ?_)
                            have hBW : Below wr.heap.size wr wI := below_gr hB2 gI (by intro q hq; cases hq; omega)
                            have hE := hE2.grown gI (by simp <;> omega)
                            refine hK.out _ _ (keep2 ⟨m0, m1⟩ hBW) (fun hHeld => ?_)
                            clear hK K
                            (try simp only [Act.put, List.setIfInBounds_toArray, List.set_cons_zero, List.set_cons_succ])
                            replace oI := own_mono oI (show wr.heap.size ≤ wr.heap.size + 1 by omega)
                            clear hB2 hG2 hE2 gI
                            refine wpAnyH_ready (rs := [9]) (by kernel_rfl) (by simp) (AllReadyH.cons (by simp only [List.getElem?_toArray, List.getElem?_cons_succ, List.getElem?_cons_zero]; rfl) (fun K hK => ?_) AllReadyH.nil)
                            refine step_more rfl _ _ 24 rfl TR iI (R 0 0 0) 3 24 Try.underlying24 hiI hz0I hz1I hz2I rfl (by decide) vI rfl wr.heap.size i _ oI _ rfl 1 [tw, mt, mb] (row1 hE) (by omega) (by decide) hBW.size (fun vJ wJ oJ gJ _ => ?_)
                            have hBJ : Below wr.heap.size wr wJ := hBW.grown gJ hBW.size (fun q hq => (oI.lt q hq).1)
                            refine hK.out _ _ (keep2 ⟨m0, m1⟩ hBJ) (fun hHeld => ?_)
                            clear hK K
                            (try simp only [Act.put, List.setIfInBounds_toArray, List.set_cons_zero, List.set_cons_succ])
                            clear hE hBW oI gJ
                            refine wpAnyH_ready (rs := [13]) (by kernel_rfl) (by simp) (AllReadyH.cons (by simp only [List.getElem?_toArray, List.getElem?_cons_succ, List.getElem?_cons_zero]; rfl) (fun K hK => ?_) AllReadyH.nil)
                            refine step_more rfl _ _ 24 rfl TR iI (R 0 0 0) 3 24 Try.underlying24 hiI hz0I hz1I hz2I rfl (by decide) vJ rfl wr.heap.size (i + 1) _ oJ _ rfl (n1 - i) (l1.drop (i * 3)) (RD.out.keep hBJ) (by omega) (by decide) hBJ.size (fun vK wK oK gK _ => ?_)
                            have hBK : Below wr.heap.size wr wK := hBJ.grown gK hBJ.size (fun q hq => (oJ.lt q hq).1)
                            refine hK.out _ _ (keep2 ⟨m0, m1⟩ hBK) (fun hHeld => ?_)
                            clear hK K
                            (try simp only [Act.put, List.setIfInBounds_toArray, List.set_cons_zero, List.set_cons_succ])
                            have OK := Lib.hid oK
                            have BK := Lib.hid hBK
                            clear hBJ oJ gK oK hBK
                            refine takeH 14 (by simp only [List.getElem?_toArray, List.getElem?_cons_succ, List.getElem?_cons_zero]; rfl) (by kernel_rfl) (by kernel_rfl) (by kernel_rfl) (by rfl) (by intro w hSw; (try dsimp only at hSw); go_simp; first | done | with_reducible rfl) (by intro _ _ _ h; exact h) (by assumption) ?_
                            (try simp only [Act.put, List.setIfInBounds_toArray, List.set_cons_zero, List.set_cons_succ])
                            refine wpAnyH_done (by kernel_rfl) ?_ _
                            clear hHeld
                            go_wp2_with fail
                            go_meet
                            exact SB.out.fresh2 BK.out (by rw [← ROWS.out, ← show i + 1 + (n1 - i) = n1 + 1 by omega]; exact OK.out)
                        case rest =>
                          have SF := Lib.hid hcut
                          clear m0 m1 SB hcut
                          have HP : Hid (Put (sn f rt k) (so zs f rt rb k) tw mt mb (n1 + 1) (l1.take (i * 3) ++ [tw, mt, mb] ++ l1.drop (i * 3))) := Lib.hid (by rw [HN1.out, HL1.out]; exact ⟨i, HAT.out, .inr (.inl ⟨HNE.out, HMT.out, rfl, rfl⟩)⟩)
                          have hmb : n1 + 1 ≤ 1048576 := by omega
                          by_cases ro : Ro (n1 + 1) (l1.take (i * 3) ++ [tw, mt, mb] ++ l1.drop (i * 3))
                          · have hsell : Sell k zs fr tw pt pb (n1 + 1) (l1.take (i * 3) ++ [tw, mt, mb] ++ l1.drop (i * 3)) := ⟨SOK.out, f, mt, mb, rt, rb, hfn, (HF2.out f hfn).2 rfl, HT1.out, HT2.out, HP.out, ro⟩
                            obtain ⟨e1, e2, e3⟩ := HS.out.yes hsell
                            have RO := Lib.hid ro
                            subst e1 e2 e3
                            clear ro hsell HS
                            go_wp2_with fail
                            refine (spec_ro _ _ _ _ hmb (Row.of_own SF.out.o) true ⟨fun _ => RO.out, fun _ => rfl⟩).mono ?_; rintro e wf ⟨rfl, hb⟩
                            have SG := Lib.hid (SF.out.keep hb)
                            clear hb
                            go_wp2
                            exact bodyPost_ret (v := .tuple #[_, .bool true]) (by simp [*, results, Try.results29, go_sem]) rfl ⟨_, rfl, SG.out.o, SG.out.bl⟩
                          · have RO := Lib.hid ro
                            obtain ⟨e1, e2, e3⟩ := HS.out.no (fun m' ys' g => by
                              obtain ⟨_, a1, a2, a3, a4, t1, t2, hp, hro⟩ := g.parts HF2.out
                              obtain ⟨rfl, rfl, _⟩ := ti_uniq t1 HT1.out
                              obtain ⟨rfl, rfl, _⟩ := ti_uniq t2 HT2.out
                              obtain ⟨rfl, rfl⟩ := hp.uniq HP.out
                              exact RO.out hro)
                            subst e3
                            clear ro
                            go_wp2_with fail
                            refine (spec_ro _ _ _ _ hmb (Row.of_own SF.out.o) false ⟨fun h => (by cases h), fun h => absurd h RO.out⟩).mono ?_; rintro e wf ⟨rfl, hb⟩
                            have SG := Lib.hid (SF.out.keep hb)
                            clear hb
                            go_wp2
                            exact bodyPost_ret (v := .tuple #[vs, .bool false]) (by simp [*, results, Try.results29, go_sem]) rfl ⟨_, rfl, by rw [e1, e2]; exact SG.out.s, SG.out.bl⟩
                      · have u7 : decide (0 < mt) = false := decide_eq_false hmt
                        have HP : Hid (Put (sn f rt k) (so zs f rt rb k) tw mt mb n1 l1) := Lib.hid (by rw [HN1.out, HL1.out]; exact ⟨i, HAT.out, .inr (.inr ⟨HNE.out, hmt, rfl, rfl⟩)⟩)
                        have SF := SB
                        clear hmt SB
                        go_upto_region 33 with fail
                        clear m0 m1
                        have hmb : n1 ≤ 1048576 := by omega
                        by_cases ro : Ro (n1) (l1)
                        · have hsell : Sell k zs fr tw pt pb (n1) (l1) := ⟨SOK.out, f, mt, mb, rt, rb, hfn, (HF2.out f hfn).2 rfl, HT1.out, HT2.out, HP.out, ro⟩
                          obtain ⟨e1, e2, e3⟩ := HS.out.yes hsell
                          have RO := Lib.hid ro
                          subst e1 e2 e3
                          clear ro hsell HS
                          go_wp2_with fail
                          refine (spec_ro _ _ _ _ hmb (Row.of_own SF.out.o) true ⟨fun _ => RO.out, fun _ => rfl⟩).mono ?_; rintro e wf ⟨rfl, hb⟩
                          have SG := Lib.hid (SF.out.keep hb)
                          clear hb
                          go_wp2
                          exact bodyPost_ret (v := .tuple #[(.slice (some ⟨gO, 0, none⟩) m cO), .bool true]) (by simp [*, results, Try.results29, go_sem]) rfl ⟨_, rfl, SG.out.o, SG.out.bl⟩
                        · have RO := Lib.hid ro
                          obtain ⟨e1, e2, e3⟩ := HS.out.no (fun m' ys' g => by
                            obtain ⟨_, a1, a2, a3, a4, t1, t2, hp, hro⟩ := g.parts HF2.out
                            obtain ⟨rfl, rfl, _⟩ := ti_uniq t1 HT1.out
                            obtain ⟨rfl, rfl, _⟩ := ti_uniq t2 HT2.out
                            obtain ⟨rfl, rfl⟩ := hp.uniq HP.out
                            exact RO.out hro)
                          subst e3
                          clear ro
                          go_wp2_with fail
                          refine (spec_ro _ _ _ _ hmb (Row.of_own SF.out.o) false ⟨fun h => (by cases h), fun h => absurd h RO.out⟩).mono ?_; rintro e wf ⟨rfl, hb⟩
                          have SG := Lib.hid (SF.out.keep hb)
                          clear hb
                          go_wp2
                          exact bodyPost_ret (v := .tuple #[vs, .bool false]) (by simp [*, results, Try.results29, go_sem]) rfl ⟨_, rfl, by rw [e1, e2]; exact SG.out.s, SG.out.bl⟩
                · obtain ⟨rfl, rfl, rfl⟩ := HS.out.no (fun m' ys' g => hfn (g.parts HF2.out).1)
                  have u4 : decide (f < m) = false := decide_eq_false hfn
                  clear HS
                  go_wp2
                  exact bodyPost_ret (v := .tuple #[vs, .bool false]) (by simp [*, results, Try.results29, go_sem]) rfl ⟨_, rfl, SS.out.s, SS.out.bl⟩
          · obtain ⟨rfl, rfl, rfl⟩ := HS.out.no (fun _ _ g => hto g.1.2.2.2.2)
            go_wp2_with fail
            refine (in_no _ _ _ _ hto).mono ?_; rintro e w4 ⟨rfl, rfl⟩
            clear HS hto heq
            go_wp2
            refine bodyPost_ret (v := .tuple #[vs, .bool false]) (by simp [*, results, Try.results29, go_sem]) rfl ⟨_, rfl, O1.out, B1.out⟩
    · have FKP := Lib.hid fk
      obtain ⟨rfl, rfl, rfl⟩ := HS.out.no (fun _ _ g => fk g.1.2.1)
      clear fk HS
      go_wp2_with fail
      refine (spec_fok _ _ _ false ⟨fun h => (by cases h), fun h => absurd h FKP.out⟩).mono ?_; rintro e w3 ⟨rfl, hb⟩
      replace O1 := Lib.hid (own_below O1.out hb)
      replace B1 := Lib.hid (B1.out.trans (hb.mono B1.out.size))
      clear hb p0 p1
      go_wp2
      refine bodyPost_ret (v := .tuple #[vs, .bool false]) (by simp [*, results, Try.results29, go_sem]) rfl ⟨_, rfl, O1.out, B1.out⟩
  · have OK := Lib.hid ok
    obtain ⟨rfl, rfl, rfl⟩ := HS.out.no (fun _ _ g => ok g.1.1)
    clear ok HS
    go_wp2_with fail
    refine (spec_ro _ _ _ _ hn (HW.out.keep B1.out) false ⟨fun h => (by cases h), fun h => absurd h OK.out⟩).mono ?_; rintro e w2 ⟨rfl, hb⟩
    replace O1 := Lib.hid (own_below O1.out hb)
    replace B1 := Lib.hid (B1.out.trans (hb.mono B1.out.size))
    clear hb
    go_wp2
    refine bodyPost_ret (v := .tuple #[vs, .bool false]) (by simp [*, results, Try.results29, go_sem]) rfl ⟨_, rfl, O1.out, B1.out⟩
end Go.Proofs.Ytopbeacfljoacaa.rgt
