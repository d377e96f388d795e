/- FnFractions returns true. -/
import Derived.Test.YtiglbofbacecpaaDoorFrcTI
import Derived.Test.YtiglbofbacecpaaDoorFrcI
import Derived.Test.YtiglbofbacecpaaDoorFrcP
import Derived.Test.YtiglbofbacecpaaDoorAt
set_option linter.unusedVariables false
namespace Go.Proofs.YtiglbofbacecpaaDoor.wFnFractions
open Go.RowKit Go.Proofs.YtiglbofbacecpaaDoor.kit Go.Proofs.YtiglbofbacecpaaDoor.lawi Go.Proofs.YtiglbofbacecpaaDoor.own Go.Proofs.YtiglbofbacecpaaDoor.rain Go.Proofs.YtiglbofbacecpaaDoor.draw Go.Proofs.YtiglbofbacecpaaDoor.frc Go.Proofs.YtiglbofbacecpaaDoor.numl Go.Proofs.YtiglbofbacecpaaDoor.fmt Go.Proofs.YtiglbofbacecpaaDoor.later Go.Proofs.YtiglbofbacecpaaDoor.stFraction Go.Proofs.YtiglbofbacecpaaDoor.at_
/-- The law's variables: blocks with a fraction each. -/
structure FV (w W : World) (l : List (Nat × Int × Int)) (a0 : Option Addr) (len0 : Nat) : Prop where
  bk : ∀ e, e ∈ l → Blk W e.1 TF #[.int .i64 e.2.1, .int .i64 e.2.2]
  bl : Below w.heap.size w W
  by_ : Bytes W a0 len0
  tb : Tab W
theorem FV.keep {w W W' : World} {l : List (Nat × Int × Int)} {a0 : Option Addr} {len0 : Nat} (h : FV w W l a0 len0) (hb : Below W.heap.size W W') : FV w W' l a0 len0 :=
  ⟨fun e he => (h.bk e he).step hb, below_step h.bl hb, bytes_step h.by_ hb, h.tb.keep hb⟩
theorem FV.add {w W : World} {l : List (Nat × Int × Int)} {a0 : Option Addr} {len0 : Nat} (h : FV w W l a0 len0) (x y : Int) : FV w (W.alloc (.cells #[.int .i64 x, .int .i64 y] TF)) ((W.heap.size, x, y) :: l) a0 len0 := by
  have hb : Below W.heap.size W (W.alloc (.cells #[.int .i64 x, .int .i64 y] TF)) := below_al (Below.refl _ _) _
  refine ⟨fun e he => ?_, (h.keep hb).bl, (h.keep hb).by_, (h.keep hb).tb⟩
  rcases List.mem_cons.1 he with rfl | he
  · exact Blk.new W TF #[.int .i64 x, .int .i64 y]
  · exact (h.keep hb).bk e he
theorem btoi_any (w : World) (r : Bool) (d : Int) (h : d = if r = true then 1 else 0) : Calls Tryd.prog 15 #[.bool r] w fun e w' => e = .returned (.int .i64 d) ∧ w = w' := by
  cases r
  · obtain rfl : d = 0 := by rw [h]; rfl
    clear h
    go_enter Tryd.func15, Tryd.ntmps15
    go_wp2
    go_ret
    exact ⟨rfl, rfl⟩
  · obtain rfl : d = 1 := by rw [h]; rfl
    clear h
    go_enter Tryd.func15, Tryd.ntmps15
    go_wp2
    go_ret
    exact ⟨rfl, rfl⟩
set_option maxRecDepth 10000000 in
set_option maxHeartbeats 8000000 in
theorem walk (w : World) (ht : Tab w) (a0 : Option Addr) (len0 cap0 : Nat) (z0 : List Int) (w0 : IsRow .u8 w a0 len0 cap0 z0) :
    Calls Tryd.prog 3 #[.slice a0 len0 cap0] w fun e w' => e = .returned (.bool true) ∧ Below w.heap.size w w' := by
  by_cases hbig : 1048576 < len0
  · go_enter Tryd.func3, Tryd.ntmps3
    go_wp2_with fail
    refine (big_yes _ _ _ _ hbig).mono ?_; rintro e w1 ⟨rfl, rfl⟩
    go_wp2
    go_ret
    exact ⟨rfl, Below.refl _ _⟩
  · have hlen : len0 ≤ 1048576 := by omega
    have hby := w0.bytes
    have hlow : ∀ x, a0 = some x → 0 < len0 → x.block < w.heap.size := w0.lt
    have HL := Lib.hid hlow
    clear hbig w0 hlow
    go_enter Tryd.func3, Tryd.ntmps3
    go_wp2_with fail
    refine (big_no _ _ _ _ hlen).mono ?_; rintro e w1 ⟨rfl, rfl⟩
    go_wp2_with fail
    refine (drawFracs _ _ _ _ hby hlen HL.out).mono ?_; rintro e w1 ⟨t, b, t', b', rfl, hF, hF', B1⟩
    have F0 : FV w w1 [] a0 len0 := ⟨fun e he => (by cases he), B1, bytes_step hby B1, ht.keep B1⟩
    obtain ⟨X, Y, sA, sB, sK, sb1, sE, sb2, sC⟩ := sum_facts hF hF'
    obtain ⟨p, q, tA, tB, tK, tb1, tE, tb2⟩ := prod_facts hF hF'
    obtain ⟨c, cA, cB, cb, cE⟩ := cmp_facts hF hF'
    obtain ⟨s, xA, xz, xz2⟩ := text_facts hF
    have mA := made_facts hF
    have SA := Lib.hid sA; have SB := Lib.hid sB; have SK := Lib.hid sK; have SE := Lib.hid sE; have SC := Lib.hid sC; have SB1 := Lib.hid sb1; have SB2 := Lib.hid sb2
    have TA := Lib.hid tA; have TB := Lib.hid tB; have TK := Lib.hid tK; have TE := Lib.hid tE; have TB1 := Lib.hid tb1; have TB2 := Lib.hid tb2
    have CA := Lib.hid cA; have CB := Lib.hid cB; have CD := Lib.hid cb; have CE := Lib.hid cE
    have XA := Lib.hid xA; have XZ := Lib.hid (And.intro xz xz2); have MA := Lib.hid mA
    have HF := Lib.hid hF; have HF' := Lib.hid hF'
    clear ht hby HL B1 sA sB sK sb1 sE sb2 sC tA tB tK tb1 tE tb2 cA cB cb cE xA xz xz2 mA hF hF'
    obtain ⟨wA, hwA⟩ : ∃ wA, (w1.alloc (.cells #[.int .i64 t, .int .i64 b] TF)).alloc (.cells #[.int .i64 t', .int .i64 b'] TF) = wA := ⟨_, rfl⟩
    obtain ⟨ga, hga⟩ : ∃ ga, w1.heap.size = ga := ⟨_, rfl⟩
    have FF : Hid (FV w wA [(ga + 1, t', b'), (ga, t, b)] a0 len0) := Lib.hid (by rw [← hwA, ← hga]; simpa using (F0.add t b).add t' b')
    clear F0
    obtain ⟨a0, a1, _⟩ := fcell (FF.out.bk (ga, t, b) (by simp))
    obtain ⟨b0, b1, _⟩ := fcell (FF.out.bk (ga + 1, t', b') (by simp))
    go_wp2_with fail
    refine (impl_add _ _ _ _ _ _ _ _ SA.out).mono ?_; rintro e v1 ⟨rfl, hb⟩
    replace FF := Lib.hid (FF.out.keep hb)
    clear hb a0 a1 b0 b1 hwA hga
    obtain ⟨w1, hw1⟩ : ∃ u, v1.alloc (.cells #[.int .i64 X, .int .i64 Y] TF) = u := ⟨_, rfl⟩
    obtain ⟨g1, hg1⟩ : ∃ u, v1.heap.size = u := ⟨_, rfl⟩
    replace FF : Hid (FV w w1 [(g1, X, Y), (ga + 1, t', b'), (ga, t, b)] a0 len0) := Lib.hid (by rw [← hw1, ← hg1]; exact FF.out.add X Y)
    obtain ⟨a0, a1, _⟩ := fcell (FF.out.bk (ga, t, b) (by simp))
    obtain ⟨b0, b1, _⟩ := fcell (FF.out.bk (ga + 1, t', b') (by simp))
    go_wp2_with fail
    refine (impl_add _ _ _ _ _ _ _ _ SB.out).mono ?_; rintro e v2 ⟨rfl, hb⟩
    replace FF := Lib.hid (FF.out.keep hb)
    clear hb a0 a1 b0 b1 hw1 hg1
    obtain ⟨w2, hw2⟩ : ∃ u, v2.alloc (.cells #[.int .i64 X, .int .i64 Y] TF) = u := ⟨_, rfl⟩
    obtain ⟨g2, hg2⟩ : ∃ u, v2.heap.size = u := ⟨_, rfl⟩
    replace FF : Hid (FV w w2 [(g2, X, Y), (g1, X, Y), (ga + 1, t', b'), (ga, t, b)] a0 len0) := Lib.hid (by rw [← hw2, ← hg2]; exact FF.out.add X Y)
    obtain ⟨a0, a1, _⟩ := fcell (FF.out.bk (ga, t, b) (by simp))
    obtain ⟨b0, b1, _⟩ := fcell (FF.out.bk (ga + 1, t', b') (by simp))
    go_wp2_with fail
    refine (impl_ti _ _ _ _ _ _ _ _ TA.out).mono ?_; rintro e v3 ⟨rfl, hb⟩
    replace FF := Lib.hid (FF.out.keep hb)
    clear hb a0 a1 b0 b1 hw2 hg2
    obtain ⟨w3, hw3⟩ : ∃ u, v3.alloc (.cells #[.int .i64 p, .int .i64 q] TF) = u := ⟨_, rfl⟩
    obtain ⟨g3, hg3⟩ : ∃ u, v3.heap.size = u := ⟨_, rfl⟩
    replace FF : Hid (FV w w3 [(g3, p, q), (g2, X, Y), (g1, X, Y), (ga + 1, t', b'), (ga, t, b)] a0 len0) := Lib.hid (by rw [← hw3, ← hg3]; exact FF.out.add p q)
    obtain ⟨a0, a1, _⟩ := fcell (FF.out.bk (ga, t, b) (by simp))
    obtain ⟨b0, b1, _⟩ := fcell (FF.out.bk (ga + 1, t', b') (by simp))
    go_wp2_with fail
    refine (impl_ti _ _ _ _ _ _ _ _ TB.out).mono ?_; rintro e v4 ⟨rfl, hb⟩
    replace FF := Lib.hid (FF.out.keep hb)
    clear hb a0 a1 b0 b1 hw3 hg3
    obtain ⟨w4, hw4⟩ : ∃ u, v4.alloc (.cells #[.int .i64 p, .int .i64 q] TF) = u := ⟨_, rfl⟩
    obtain ⟨g4, hg4⟩ : ∃ u, v4.heap.size = u := ⟨_, rfl⟩
    replace FF : Hid (FV w w4 [(g4, p, q), (g3, p, q), (g2, X, Y), (g1, X, Y), (ga + 1, t', b'), (ga, t, b)] a0 len0) := Lib.hid (by rw [← hw4, ← hg4]; exact FF.out.add p q)
    obtain ⟨x0, x1, _⟩ := fcell (FF.out.bk (g1, X, Y) (by simp))
    obtain ⟨y0, y1, _⟩ := fcell (FF.out.bk (g2, X, Y) (by simp))
    obtain ⟨p0, p1, _⟩ := fcell (FF.out.bk (g3, p, q) (by simp))
    obtain ⟨q0, q1, _⟩ := fcell (FF.out.bk (g4, p, q) (by simp))
    go_wp2_with fail
    refine (impl_fok _ _ _ true ⟨fun _ => SK.out, fun _ => rfl⟩).mono ?_; rintro e v5 ⟨rfl, hb⟩
    replace FF := Lib.hid (FF.out.keep hb)
    clear hb hw4 hg4 x0 x1 y0 y1 p0 p1 q0 q1
    obtain ⟨p0, p1, _⟩ := fcell (FF.out.bk (g3, p, q) (by simp))
    go_wp2_with fail
    refine (impl_fok _ _ _ true ⟨fun _ => TK.out, fun _ => rfl⟩).mono ?_; rintro e v6 ⟨rfl, hb⟩
    replace FF := Lib.hid (FF.out.keep hb)
    clear hb p0 p1
    go_wp2_with fail
    refine (at_any _ _ _ _ 0 (by omega) (by omega) FF.out.by_ hlen).mono ?_; rintro e v7 ⟨n, rfl, n0, n1, rfl⟩
    obtain ⟨m, mP, mb1, mb2, mb3, mb4⟩ := part_facts HF.out n0 n1
    have MP := Lib.hid mP; have MB1 := Lib.hid mb1; have MB2 := Lib.hid mb2; have MB3 := Lib.hid mb3; have MB4 := Lib.hid mb4
    clear mP mb1 mb2 mb3 mb4
    obtain ⟨a0, a1, _⟩ := fcell (FF.out.bk (ga, t, b) (by simp))
    go_wp2_with fail
    refine (impl_po _ _ _ _ _ MP.out).mono ?_; rintro e v8 ⟨rfl, hb⟩
    replace FF := Lib.hid (FF.out.keep hb)
    clear hb a0 a1
    obtain ⟨a0, a1, _⟩ := fcell (FF.out.bk (ga, t, b) (by simp))
    obtain ⟨b0, b1, _⟩ := fcell (FF.out.bk (ga + 1, t', b') (by simp))
    go_wp2_with fail
    refine (impl_cp _ _ _ _ _ _ CA.out).mono ?_; rintro e v9 ⟨rfl, hb⟩
    replace FF := Lib.hid (FF.out.keep hb)
    clear hb a0 a1 b0 b1
    obtain ⟨a0, a1, _⟩ := fcell (FF.out.bk (ga, t, b) (by simp))
    go_wp2_with fail
    refine (impl_tx _ FF.out.tb _ _ _ XA.out).mono ?_; rintro e v10 ⟨rfl, hb⟩
    replace FF := Lib.hid (FF.out.keep hb)
    clear hb a0 a1
    obtain ⟨⟨⟨b1', b2'⟩, ⟨b3', b4'⟩, _⟩, b5', b6'⟩ := HF.out
    have k1 : IntKind.i64.wrap (3 * t) = 3 * t := IntWalk.i64_in _ (by omega)
    have k2 : IntKind.i64.wrap (3 * b) = 3 * b := IntWalk.i64_in _ (by omega)
    obtain ⟨a0, a1, _⟩ := fcell (FF.out.bk (ga, t, b) (by simp))
    go_wp2_with fail
    refine (impl_mk _ _ _ _ _ _ MA.out).mono ?_; rintro e v11 ⟨rfl, hb⟩
    replace FF := Lib.hid (FF.out.keep hb)
    clear hb a0 a1 k1 k2
    obtain ⟨w5, hw5⟩ : ∃ u, v11.alloc (.cells #[.int .i64 t, .int .i64 b] TF) = u := ⟨_, rfl⟩
    obtain ⟨g5, hg5⟩ : ∃ u, v11.heap.size = u := ⟨_, rfl⟩
    replace FF : Hid (FV w w5 [(g5, t, b), (g4, p, q), (g3, p, q), (g2, X, Y), (g1, X, Y), (ga + 1, t', b'), (ga, t, b)] a0 len0) := Lib.hid (by rw [← hw5, ← hg5]; exact FF.out.add t b)
    obtain ⟨a0, a1, _⟩ := fcell (FF.out.bk (ga, t, b) (by simp))
    obtain ⟨b0, b1, _⟩ := fcell (FF.out.bk (ga + 1, t', b') (by simp))
    obtain ⟨x0, x1, _⟩ := fcell (FF.out.bk (g1, X, Y) (by simp))
    obtain ⟨p0, p1, _⟩ := fcell (FF.out.bk (g3, p, q) (by simp))
    obtain ⟨f0, f1, _⟩ := fcell (FF.out.bk (g5, t, b) (by simp))
    have y0' := HF'.out.1.1
    have y1' := HF'.out.1.2.1
    have DA : Hid (Cp X Y t b (sg (X * b) (t * Y))) := Lib.hid ⟨fun _ => rfl, fun hn => absurd ⟨SK.out, HF.out.1⟩ hn⟩
    have sd := sg_bd (X * b) (t * Y)
    have sc := SC.out
    obtain ⟨D, hD⟩ : ∃ D, sg (X * b) (t * Y) = D := ⟨_, rfl⟩
    rw [hD] at DA sd sc
    have DT : Hid (D = if decide (0 < t') = true then 1 else 0) := Lib.hid (by rw [sc]; simp only [decide_eq_true_eq])
    clear hD sc
    obtain ⟨m1, m2⟩ := mul_bd (x := t) (y := b') (by omega) (by omega) (by omega) (by omega)
    obtain ⟨m3, m4⟩ := mul_bd (x := t') (y := b) (by omega) (by omega) (by omega) (by omega)
    obtain ⟨m5, m6⟩ := mul_bd (x := t) (y := t') (by omega) (by omega) (by omega) (by omega)
    obtain ⟨n1, n2⟩ := SB1.out
    obtain ⟨n3, n4⟩ := SB2.out
    obtain ⟨n5, n6⟩ := TB1.out
    obtain ⟨n7, n8⟩ := TB2.out
    have se := SE.out
    have te := TE.out
    obtain ⟨q1', q2'⟩ := MB1.out
    obtain ⟨q3', q4'⟩ := MB2.out
    obtain ⟨q5', q6'⟩ := MB3.out
    obtain ⟨q7', q8'⟩ := MB4.out
    obtain ⟨u1, hu1⟩ : ∃ u, X * b = u := ⟨_, rfl⟩
    rw [hu1] at n1 n2 n3 n4 se
    obtain ⟨u2, hu2⟩ : ∃ u, u1 * b' = u := ⟨_, rfl⟩
    rw [hu2] at n3 n4 se
    obtain ⟨u3, hu3⟩ : ∃ u, t * b' = u := ⟨_, rfl⟩
    obtain ⟨u4, hu4⟩ : ∃ u, t' * b = u := ⟨_, rfl⟩
    rw [hu3] at m1 m2 se
    rw [hu4] at m3 m4 se
    obtain ⟨u5, hu5⟩ : ∃ u, u3 + u4 = u := ⟨_, rfl⟩
    rw [hu5] at se
    obtain ⟨u6, hu6⟩ : ∃ u, p * b = u := ⟨_, rfl⟩
    rw [hu6] at n5 n6 n7 n8 te
    obtain ⟨u7, hu7⟩ : ∃ u, u6 * b' = u := ⟨_, rfl⟩
    rw [hu7] at n7 n8 te
    obtain ⟨u8, hu8⟩ : ∃ u, t * t' = u := ⟨_, rfl⟩
    rw [hu8] at m5 m6 te
    obtain ⟨u9, hu9⟩ : ∃ u, m * b = u := ⟨_, rfl⟩
    rw [hu9] at q5' q6'
    obtain ⟨u10, hu10⟩ : ∃ u, n * t = u := ⟨_, rfl⟩
    rw [hu10] at q3' q4' q6' q7'
    obtain ⟨u11, hu11⟩ : ∃ u, m + 1 = u := ⟨_, rfl⟩
    rw [hu11] at q7' q8'
    obtain ⟨u12, hu12⟩ : ∃ u, u11 * b = u := ⟨_, rfl⟩
    rw [hu12] at q7' q8'
    replace se := se.symm
    replace te := te.symm
    obtain ⟨cd1, cd2⟩ := CD.out
    have k1 : IntKind.i64.wrap u1 = u1 := IntWalk.i64_in _ (by omega)
    have k2 : IntKind.i64.wrap u2 = u2 := IntWalk.i64_in _ (by omega)
    have k3 : IntKind.i64.wrap u3 = u3 := IntWalk.i64_in _ (by omega)
    have k4 : IntKind.i64.wrap u4 = u4 := IntWalk.i64_in _ (by omega)
    have k5 : IntKind.i64.wrap u5 = u5 := IntWalk.i64_in _ (by omega)
    have k6 : IntKind.i64.wrap u6 = u6 := IntWalk.i64_in _ (by omega)
    have k7 : IntKind.i64.wrap u7 = u7 := IntWalk.i64_in _ (by omega)
    have k8 : IntKind.i64.wrap u8 = u8 := IntWalk.i64_in _ (by omega)
    have k9 : IntKind.i64.wrap u9 = u9 := IntWalk.i64_in _ (by omega)
    have k10 : IntKind.i64.wrap u10 = u10 := IntWalk.i64_in _ (by omega)
    have k11 : IntKind.i64.wrap u11 = u11 := IntWalk.i64_in _ (by omega)
    have k12 : IntKind.i64.wrap u12 = u12 := IntWalk.i64_in _ (by omega)
    have kc : IntKind.i64.wrap c = c := IntWalk.i64_in _ (by omega)
    have j1 : decide (u9 ≤ u10) = true := decide_eq_true q6'
    have j2 : decide (u10 < u12) = true := decide_eq_true q7'
    have j3 : decide (0 < s.size) = true := decide_eq_true XZ.out.1
    have hq := beq_yes (a := (⟨#[51, 47, 52]⟩ : ByteArray)) rfl
    have cn : - -c = c := Int.neg_neg c
    clear m1 m2 m3 m4 m5 m6 n1 n2 n3 n4 n5 n6 n7 n8 q1' q2' q3' q4' q5' q6' q7' q8' cd1 cd2 sd y0' y1' n0 b1' b2' b3' b4' b5' b6'
    have La0 := later.cell a0
    have La1 := later.cell a1
    have Lb0 := later.cell b0
    have Lb1 := later.cell b1
    have Lx0 := later.cell x0
    have Lx1 := later.cell x1
    have Lp0 := later.cell p0
    have Lp1 := later.cell p1
    have Lf0 := later.cell f0
    have Lf1 := later.cell f1
    have e3 : Hid (∀ r1 r2 : Bool, (t == t') = r1 → (b == b') = r2 → (c == 0) = (r1 && r2)) := Lib.hid (by
      rintro r1 r2 rfl rfl
      rw [Bool.eq_iff_iff, Bool.and_eq_true, beq_iff_eq, beq_iff_eq, beq_iff_eq]
      exact CE.out)
    obtain ⟨r1, h1⟩ : ∃ r, (t == t') = r := ⟨_, rfl⟩
    obtain ⟨r2, h2⟩ : ∃ r, (b == b') = r := ⟨_, rfl⟩
    have h3 := e3.out r1 r2 h1 h2
    clear e3
    go_wp2_with fail
    clear hw5 hg5
    (try simp only [List.append])
    refine later.region (by kernel_rfl) (lex.lexB_of (by kernel_rfl) (lex.all_whole (by kernel_rfl))) ?_
    cases r1 <;> cases r2 <;> simp only [Bool.and_self, Bool.and_true, Bool.and_false] at h3
    all_goals
      repeat (go_big_quiet_step ((first
        | (go_at_call 12; exact later.calls _ (impl_cp _ _ _ _ _ _ (by first | with_reducible exact CB.out | with_reducible exact DA.out)))
        | (go_at_call 15; exact later.same _ (btoi_any _ _ _ DT.out))
        | (go_at_call 13; exact later.calls _ (impl_tx _ (FF.out.tb.keep (Later.h _)) _ _ _ three_four))
        | fail)))
      refine wpQuiet_nil ?_
      intro _ hw'
      obtain ⟨g, rfl⟩ := hw'
      go_wp2
      go_ret
      exact ⟨rfl, FF.out.bl.trans (g.h.mono FF.out.bl.size)⟩
end Go.Proofs.YtiglbofbacecpaaDoor.wFnFractions
