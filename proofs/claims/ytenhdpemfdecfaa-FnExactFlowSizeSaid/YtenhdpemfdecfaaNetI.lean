/- Nets of pipes: the program's ReachedBy and WidestWay. -/
import Derived.Test.YtenhdpemfdecfaaNetH
namespace Go.Proofs.Ytenhdpemfdecfaa.nt
open Go.RowKit Go.Proofs.Ytenhdpemfdecfaa.kit Go.Proofs.Ytenhdpemfdecfaa.lawi Go.Proofs.Ytenhdpemfdecfaa.own Go.Proofs.Ytenhdpemfdecfaa.rain Go.Proofs.Ytenhdpemfdecfaa.yrl Go.Proofs.Ytenhdpemfdecfaa.net Go.Proofs.Ytenhdpemfdecfaa.setm
theorem dy_ext {q : Nat → Bool} {N : Nat} (h : ∀ k, N ≤ k → q k = false) : ∀ M, N ≤ M → dy q M = dy q N
  | 0, hM => by obtain rfl : N = 0 := by omega
                rfl
  | M + 1, hM => by
    rcases (show N = M + 1 ∨ N ≤ M from by omega) with rfl | h'
    · rfl
    · rw [dy, dy_ext h M h', h M h']
      simp
theorem dy_succ (q : Nat → Bool) (k : Nat) : dy q (k + 1) = if q k = true then dy q k ++ [(k : Int)] else dy q k := rfl
theorem own_ne {w : World} {base e sz b : Nat} {v : Value} {n : Nat} {xs : List Value} (h : w.ownsRow base e sz v n xs) (hb : b < base) : some b ≠ v.ownBlock := fun e => by
  have := (h.lt b e.symm).1
  omega
set_option maxHeartbeats 4000000 in
theorem impl_by_yes (w : World) (P : Int) (v : Value) (n : Nat) (zs : List Int) (hr : Row 3 w v n (IV zs)) (ok : NO P n zs) (a : Int) (ha0 : 0 ≤ a) (ha1 : a < P) (q : Nat → Bool) (hq : ∀ k : Nat, q k = true ↔ Rch (pF zs) (pT zs) (pW zs) n 1 a k) :
    Calls Try.prog 14 #[Nv P v, .int .i64 a] w (GotR TI 1 w (dy q 8).length (IV (dy q 8))) := by
  obtain ⟨i0, hi, hz0, hz1, hz2⟩ := info_parts infoI
  obtain ⟨av, ca, rfl⟩ := hr.shape
  have hn := ok.2.2.1
  obtain ⟨R, hR⟩ : ∃ R : Nat, P = (R : Int) := ⟨P.toNat, by have := ok.1; omega⟩
  subst hR
  have hR8 : R ≤ 8 := by have := ok.2.1; omega
  have e8 : dy q 8 = dy q R := dy_ext (fun k hk => by
    cases hqk : q k
    · rfl
    · have := ((hq k).1 hqk).place (P := (R : Int)) ⟨ha0, ha1⟩ (fun j hj => by have := (ok.2.2.2 j hj).2.1; omega)
      omega) 8 hR8
  rw [e8]
  obtain ⟨w0, hw0⟩ : ∃ w0, w.alloc (.cells #[.int .i64 (R : Int), .slice av n ca] TN) = w0 := ⟨_, rfl⟩
  have B0 : Below w.heap.size w w0 := hw0 ▸ below_al (Below.refl _ _) _
  have HX : Hid (Blk w0 w.heap.size TN #[.int .i64 (R : Int), .slice av n ca]) := Lib.hid (hw0 ▸ Blk.new w TN #[.int .i64 (R : Int), .slice av n ca])
  have HR := Lib.hid (hr.keep B0)
  have OK := Lib.hid ok
  have HB := Lib.hid B0
  have HQ := Lib.hid hq
  obtain ⟨p0, p1⟩ := stNet.blk_ HX.out
  clear hr ok B0 hq e8
  go_enter Try.func14, Try.ntmps14
  go_wp2_with fail
  refine (impl_hp _ _ _ n zs (by omega) HR.out a true ⟨fun _ => ⟨OK.out, ha0, ha1⟩, fun _ => rfl⟩).mono ?_; rintro e w1 ⟨rfl, hb1⟩
  clear p0 p1 hw0
  obtain ⟨p0, p1⟩ := stNet.blk_ (HX.out.step hb1)
  go_wp2_with fail
  refine (impl_reach _ _ _ n zs (HR.out.keep hb1) OK.out a 1 ha0 ha1).mono ?_; rintro e w2 ⟨b, m, f, rfl, hb0, hS, hm, hf, hb2⟩
  clear p0 p1
  obtain ⟨p0, p1⟩ := stNet.blk_ ((HX.out.step hb1).step hb2)
  have HL := Lib.hid (below_step (below_step HB.out hb1) hb2)
  have HF : Hid (∀ k : Nat, k < 9 → f (k : Int) = q k) := by
    refine Lib.hid fun k hk => ?_
    have h1 := hf (k : Int) (wf_small (by omega) (by omega))
    have h2 := HQ.out k
    rw [Bool.eq_iff_iff, h1, h2]
  have HS := Lib.hid hS
  have hbw : b < w2.heap.size := hS.lt
  clear hb1 hb2 hf hS
  go_wp2_with (first
    | (refine wp_len _ rfl _ TM TI TB rfl Try.underlying62 b m f rfl HS.out ?_; intro j hj)
    | (at_make
       refine wpList_make_own _ rfl _ _ 30 rfl w2.heap.size TI i0 (.int .i64 0) 1 Try.underlying30 hi hz0 hz1 _ _ _ j rfl rfl rfl (by rw [hz2]; omega) (by unfold maxLen; omega) (Nat.le_refl _) ?_; intro w3 hown hg3
       have hb3 := below_grown hg3 (Nat.le_refl _) (by simp)
       have S3 := Lib.hid (HS.out.keep hb3)
       have L3 := Lib.hid (below_step HL.out hb3)
       have O3 := Lib.hid hown
       have H23 := Lib.hid hg3.size
       replace p0 := keep1 p0 hb3
       replace p1 := keep1 p1 hb3
       clear hg3 hb3 hown)
    | fail)
  clear p0 p1
  have hw2 : w2.heap.size ≤ w3.heap.size := H23.out
  go_loopg [6, 20] R (fun g s6 s20 wr => ∃ k : Nat, k + g = R ∧ s20 = .int .i64 k ∧ wr.ownsRow w2.heap.size TI 1 s6 (dy q k).length (IV (dy q k)) ∧ SetB Try.prog TI TB wr b m f ∧ Below w.heap.size w wr ∧ w2.heap.size ≤ wr.heap.size)
  case atStart => exact ⟨0, by omega, rfl, O3.out, S3.out, L3.out, hw2⟩
  case round =>
    clear S3 L3 O3 hw2 HS H23 hj
    obtain ⟨k, hkg, rfl, hown, hS, hbel, hsz⟩ := hrel
    have HS := Lib.hid hS
    have HL2 := Lib.hid hbel
    clear hS hbel
    by_cases hlt : k < R
    · obtain ⟨gk, rfl⟩ : ∃ g', gk = g' + 1 := ⟨gk - 1, by omega⟩
      have hfk := HF.out k (by omega)
      have wfk := wf_small (by omega : (0 : Int) ≤ k) (by omega)
      have hds := dy_succ q k
      have hln := dy_len q k
      cases hqk : q k with
      | true =>
        rw [hqk] at hfk
        rw [if_pos hqk] at hds
        obtain ⟨l, hl⟩ : ∃ l, dy q k = l := ⟨_, rfl⟩
        rw [hl] at hown hds hln
        have HD := Lib.hid hds
        clear hds hl
        go_wp2_with (first
          | (refine wp_look _ rfl _ _ TM rfl TI TB Try.underlying3 Try.underlying62 Try.underlying4 zero_bool b m f rfl HS.out k rfl wfk ?_; rw [hfk])
          | (at_builtin
             refine app1 _ rfl _ _ rfl w2.heap.size k hown rfl rfl (by omega) hsz ?_; intro v' w4 hown4 hg4
             have S4 := Lib.hid (HS.out.kept hg4 (own_ne hown hbw))
             have L4 := Lib.hid (HL2.out.grown hg4 HL2.out.size (fun j hj => by have := (hown.lt j hj).1; have := HL.out.size; omega))
             have O4 := Lib.hid hown4
             have z4 := hg4.size
             clear hown4 hg4)
          | fail)
        go_roundg gk
        case measure => omega
        case rel => exact ⟨k + 1, by omega, by go_num, by rw [HD.out]; simpa using O4.out, S4.out, L4.out, by omega⟩
      | false =>
        rw [hqk] at hfk
        rw [if_neg (by rw [hqk]; simp)] at hds
        have HD := Lib.hid hds
        have HO := Lib.hid hown
        clear hds hown
        go_wp2_with (first
          | (refine wp_look _ rfl _ _ TM rfl TI TB Try.underlying3 Try.underlying62 Try.underlying4 zero_bool b m f rfl HS.out k rfl wfk ?_; rw [hfk])
          | fail)
        go_roundg gk
        case measure => omega
        case rel => exact ⟨k + 1, by omega, by go_num, by rw [HD.out]; exact HO.out, HS.out, HL2.out, hsz⟩
    · obtain rfl : k = R := by omega
      go_wp2
      go_ret
      exact ⟨_, rfl, own_mono hown HL.out.size, HL2.out⟩
theorem impl_by_no (w : World) (P : Int) (v : Value) (n : Nat) (zs : List Int) (hn : n ≤ 1048576) (hr : Row 3 w v n (IV zs)) (a : Int) (no : ¬ (NO P n zs ∧ 0 ≤ a ∧ a < P)) :
    Calls Try.prog 14 #[Nv P v, .int .i64 a] w (GotR TI 1 w 0 []) := by
  obtain ⟨av, ca, rfl⟩ := hr.shape
  have B0 : Below w.heap.size w (w.alloc (.cells #[.int .i64 P, .slice av n ca] TN)) := below_al (Below.refl _ _) _
  have HR := Lib.hid (hr.keep B0)
  have HB := Lib.hid B0
  have HX := Lib.hid (Blk.new w TN #[.int .i64 P, .slice av n ca])
  obtain ⟨p0, p1⟩ := stNet.blk_ HX.out
  have NN := Lib.hid no
  clear no hr B0
  go_enter Try.func14, Try.ntmps14
  go_wp2_with fail
  refine (impl_hp _ _ _ n zs hn HR.out a false ⟨fun h => (by cases h), fun h => absurd h NN.out⟩).mono ?_; rintro e w1 ⟨rfl, hb1⟩
  replace HB := Lib.hid (below_step HB.out hb1)
  clear hb1
  go_wp2
  go_ret
  exact ⟨_, rfl, World.ownsRow_nil _ _ _ _, HB.out⟩
/-- Two places of a net. -/
def Two (P : Int) (n : Nat) (zs : List Int) (a b : Int) : Prop := NO P n zs ∧ (0 ≤ a ∧ a < P) ∧ (0 ≤ b ∧ b < P) ∧ a ≠ b
set_option maxHeartbeats 1000000 in
theorem impl_two (w : World) (P : Int) (v : Value) (n : Nat) (zs : List Int) (hn : n ≤ 1048576) (hr : Row 3 w v n (IV zs)) (x y : Int) (b : Bool) (hb : b = true ↔ Two P n zs x y) :
    Calls Try.prog 44 #[Nv P v, .int .i64 x, .int .i64 y] w (Gives w (.bool b)) := by
  obtain ⟨a, ca, rfl⟩ := hr.shape
  have B0 : Below w.heap.size w (w.alloc (.cells #[.int .i64 P, .slice a n ca] TN)) := below_al (Below.refl _ _) _
  have HR := Lib.hid (hr.keep B0)
  have HB := Lib.hid B0
  have HX := Lib.hid (Blk.new w TN #[.int .i64 P, .slice a n ca])
  obtain ⟨p0, p1⟩ := stNet.blk_ HX.out
  have HBB := Lib.hid hb
  clear hr B0 hb
  by_cases ok : NO P n zs
  · have hQ := wrap_sub ok.1 ok.2.1
    have OK := Lib.hid ok
    have HQ := Lib.hid hQ
    clear ok hQ
    go_enter Try.func44, Try.ntmps44
    go_wp2_with fail
    refine (impl_nok _ _ _ n zs hn HR.out true ⟨fun _ => OK.out, fun _ => rfl⟩).mono ?_; rintro e w1 ⟨rfl, hb1⟩
    replace HX := Lib.hid (HX.out.step hb1)
    replace HB := Lib.hid (below_step HB.out hb1)
    clear p0 p1 hb1
    obtain ⟨e0, e1⟩ := stNet.blk_ HX.out
    by_cases hx : 0 ≤ x ∧ x ≤ P - 1
    · go_wp2_with fail
      refine (isp_yes _ _ _ _ _ HQ.out hx.1 hx.2).mono ?_; rintro e w2 ⟨rfl, hb2⟩
      replace HX := Lib.hid (HX.out.step hb2)
      replace HB := Lib.hid (below_step HB.out hb2)
      clear e0 e1 hb2
      obtain ⟨e0, e1⟩ := stNet.blk_ HX.out
      by_cases hy : 0 ≤ y ∧ y ≤ P - 1
      · go_wp2_with fail
        refine (isp_yes _ _ _ _ _ HQ.out hy.1 hy.2).mono ?_; rintro e w3 ⟨rfl, hb3⟩
        replace HB := Lib.hid (below_step HB.out hb3)
        clear e0 e1 hb3
        by_cases hxy : x = y
        · have e : b = false := by
            cases b
            · rfl
            · exact absurd hxy (HBB.out.1 rfl).2.2.2
          subst hxy
          clear hx hy
          go_wp2
          go_ret
          exact ⟨by rw [e]; simp, HB.out⟩
        · have e : b = true := HBB.out.2 ⟨OK.out, by omega, by omega, hxy⟩
          clear hx hy
          go_wp2
          go_ret
          exact ⟨by rw [e]; exact congrArg (fun z => Ending.returned (Value.bool z)) (by simpa using hxy), HB.out⟩
      · go_wp2_with fail
        refine (isp_no _ _ _ _ _ HQ.out hy).mono ?_; rintro e w3 ⟨rfl, hb3⟩
        replace HB := Lib.hid (below_step HB.out hb3)
        have e : b = false := by
          cases b
          · rfl
          · exact absurd (HBB.out.1 rfl).2.2.1 (by omega)
        clear e0 e1 hb3 hx hy
        go_wp2
        go_ret
        exact ⟨by rw [e]; rfl, HB.out⟩
    · go_wp2_with fail
      refine (isp_no _ _ _ _ _ HQ.out hx).mono ?_; rintro e w2 ⟨rfl, hb2⟩
      replace HB := Lib.hid (below_step HB.out hb2)
      have e : b = false := by
        cases b
        · rfl
        · exact absurd (HBB.out.1 rfl).2.1 (by omega)
      clear e0 e1 hb2 hx
      go_wp2
      go_ret
      exact ⟨by rw [e]; rfl, HB.out⟩
  · have e : b = false := by
      cases b
      · rfl
      · exact absurd (HBB.out.1 rfl).1 ok
    have OK := Lib.hid ok
    clear ok
    go_enter Try.func44, Try.ntmps44
    go_wp2_with fail
    refine (impl_nok _ _ _ n zs hn HR.out false ⟨fun h => (by cases h), fun h => absurd h OK.out⟩).mono ?_; rintro e w1 ⟨rfl, hb1⟩
    replace HB := Lib.hid (below_step HB.out hb1)
    clear hb1
    go_wp2
    go_ret
    exact ⟨by rw [e]; rfl, HB.out⟩
set_option maxHeartbeats 4000000 in
theorem impl_wide_yes (w : World) (P : Int) (v : Value) (n : Nat) (zs : List Int) (hr : Row 3 w v n (IV zs)) (a b : Int) (two : Two P n zs a b) (x : Int) (hx : Wide (pF zs) (pT zs) (pW zs) n a b x) :
    Calls Try.prog 13 #[Nv P v, .int .i64 a, .int .i64 b] w (Gives w (.int .i64 x)) := by
  obtain ⟨av, ca, rfl⟩ := hr.shape
  have hl : zs.length = n * 3 := by simpa using hr.1
  obtain ⟨ok, ⟨ha0, ha1⟩, ⟨hb0, hb1⟩, hab⟩ := two
  have hn := ok.2.2.1
  have hP := ok.2.1
  obtain ⟨w0, hw0⟩ : ∃ w0, w.alloc (.cells #[.int .i64 P, .slice av n ca] TN) = w0 := ⟨_, rfl⟩
  have B0 : Below w.heap.size w w0 := hw0 ▸ below_al (Below.refl _ _) _
  have HX : Hid (Blk w0 w.heap.size TN #[.int .i64 P, .slice av n ca]) := Lib.hid (hw0 ▸ Blk.new w TN #[.int .i64 P, .slice av n ca])
  have HR := Lib.hid (hr.keep B0)
  have OK := Lib.hid ok
  have HB := Lib.hid B0
  have HW := Lib.hid hx
  have wfb := wf_small hb0 (by omega : b ≤ 1000000)
  obtain ⟨p0, p1⟩ := stNet.blk_ HX.out
  clear hr ok B0 hx
  go_enter Try.func13, Try.ntmps13
  go_wp2_with fail
  refine (impl_two _ _ _ n zs (by omega) HR.out a b true ⟨fun _ => ⟨OK.out, ⟨ha0, ha1⟩, ⟨hb0, hb1⟩, hab⟩, fun _ => rfl⟩).mono ?_; rintro e w2 ⟨rfl, hq2⟩
  have HL := Lib.hid hq2
  clear p0 p1 hq2 hw0
  obtain ⟨p0, p1⟩ := stNet.blk_ (HX.out.step HL.out)
  go_wp2
  clear p0 p1
  go_loopg [7, 18] n (fun g s7 s28 wr => ∃ k : Nat, ∃ y : Int, k + g = n ∧ s28 = .int .i64 k ∧ s7 = .int .i64 y ∧ 0 ≤ y ∧ (y = 0 ∨ Rch (pF zs) (pT zs) (pW zs) n y a b) ∧ (∀ j, j < k → Rch (pF zs) (pT zs) (pW zs) n (pW zs j) a b → pW zs j ≤ y) ∧ Below w0.heap.size w0 wr)
  case atStart => exact ⟨0, 0, by omega, rfl, rfl, Int.le_refl _, .inl rfl, fun j hj => by omega, HL.out⟩
  case round =>
    obtain ⟨k, y, hkg, rfl, rfl, hy0, hy1, hy2, hbel⟩ := hrel
    have HY1 := Lib.hid hy1
    have HY2 := Lib.hid hy2
    clear hy1 hy2
    by_cases hlt : k < n
    · obtain ⟨gk, rfl⟩ : ∃ g', gk = g' + 1 := ⟨gk - 1, by omega⟩
      obtain ⟨b1, o1, rfl, h1⟩ := (HR.out.keep hbel).at_ (by omega)
      obtain ⟨g1, g2, g3⟩ := pipe_at h1 hl hlt
      have hp := (OK.out.2.2.2 k hlt).2.2.2
      obtain ⟨W, hW⟩ : ∃ W, pW zs k = W := ⟨_, rfl⟩
      rw [hW] at g3 hp
      generalize pF zs k = F at g1
      generalize pT zs k = T at g2
      obtain ⟨w4, hw4⟩ : ∃ w4, wr.alloc (.cells #[.int .i64 F, .int .i64 T, .int .i64 W] TP) = w4 := ⟨_, rfl⟩
      have xp : Blk w4 wr.heap.size TP #[.int .i64 F, .int .i64 T, .int .i64 W] := hw4 ▸ Blk.new wr TP #[.int .i64 F, .int .i64 T, .int .i64 W]
      obtain ⟨d0, d1, d2⟩ := stPipe3 xp
      have b4 : Below wr.heap.size wr w4 := hw4 ▸ below_al (Below.refl _ _) _
      have L4 := Lib.hid (below_step hbel b4)
      have XP := Lib.hid xp
      have HWk := Lib.hid hW
      clear h1 xp b4 hbel hW
      by_cases hyw : y < W
      · obtain ⟨p0, p1⟩ := stNet.blk_ (HX.out.step L4.out)
        go_wp2_with fail
        refine (impl_reach _ _ _ n zs (HR.out.keep L4.out) OK.out a W ha0 ha1).mono ?_; rintro e w5 ⟨bm, m, f, rfl, hm0, hS, hm, hf, hb5⟩
        clear p0 p1 d0 d1 d2
        have L5 := Lib.hid (below_step L4.out hb5)
        obtain ⟨d0, d1, d2⟩ := stPipe3 (XP.out.step hb5)
        have hfb := hf b wfb
        have HS := Lib.hid hS
        clear hf hS hb5
        cases hfv : f b with
        | true =>
          have hR := hfb.1 hfv
          have hnew : ∀ j, j < k + 1 → Rch (pF zs) (pT zs) (pW zs) n (pW zs j) a b → pW zs j ≤ W := fun j hj h => by
            rcases (show j < k ∨ j = k from by omega) with h' | rfl
            · have := HY2.out j h' h; omega
            · rw [HWk.out]; exact Int.le_refl _
          have HN := Lib.hid hnew
          have HRR := Lib.hid hR
          clear hfb hR hnew
          go_wp2_with (first
            | (refine wp_lookG _ (by rfl) _ _ TM rfl TI TB Try.underlying3 Try.underlying62 Try.underlying4 zero_bool bm m f rfl HS.out b rfl wfb ?_; rw [hfv])
            | fail)
          go_roundg gk
          case measure => omega
          case rel => exact ⟨k + 1, W, by omega, by go_num, rfl, by omega, .inr HRR.out, HN.out, L5.out⟩
        | false =>
          have hnew : ∀ j, j < k + 1 → Rch (pF zs) (pT zs) (pW zs) n (pW zs j) a b → pW zs j ≤ y := fun j hj h => by
            rcases (show j < k ∨ j = k from by omega) with h' | rfl
            · exact HY2.out j h' h
            · rw [HWk.out] at h
              have := hfb.2 h
              rw [hfv] at this
              cases this
          have HN := Lib.hid hnew
          clear hfb hnew
          go_wp2_with (first
            | (refine wp_lookG _ (by rfl) _ _ TM rfl TI TB Try.underlying3 Try.underlying62 Try.underlying4 zero_bool bm m f rfl HS.out b rfl wfb ?_; rw [hfv])
            | fail)
          go_roundg gk
          case measure => omega
          case rel => exact ⟨k + 1, y, by omega, by go_num, rfl, hy0, HY1.out, HN.out, L5.out⟩
      · have hnew : ∀ j, j < k + 1 → Rch (pF zs) (pT zs) (pW zs) n (pW zs j) a b → pW zs j ≤ y := fun j hj h => by
          rcases (show j < k ∨ j = k from by omega) with h' | rfl
          · exact HY2.out j h' h
          · rw [HWk.out]; omega
        have HN := Lib.hid hnew
        clear hnew
        go_wp2
        go_roundg gk
        case measure => omega
        case rel => exact ⟨k + 1, y, by omega, by go_num, rfl, hy0, HY1.out, HN.out, L4.out⟩
    · obtain rfl : k = n := by omega
      have e : y = x := (Wide.of_pipes (Ne.symm hab) hy0 HY1.out HY2.out).uniq HW.out
      subst e
      go_wp2
      go_ret
      exact ⟨rfl, HB.out.trans (hbel.mono HB.out.size)⟩
theorem impl_wide_no (w : World) (P : Int) (v : Value) (n : Nat) (zs : List Int) (hn : n ≤ 1048576) (hr : Row 3 w v n (IV zs)) (a b : Int) (no : ¬ Two P n zs a b) :
    Calls Try.prog 13 #[Nv P v, .int .i64 a, .int .i64 b] w (Gives w (.int .i64 (-1))) := by
  obtain ⟨av, ca, rfl⟩ := hr.shape
  have B0 : Below w.heap.size w (w.alloc (.cells #[.int .i64 P, .slice av n ca] TN)) := below_al (Below.refl _ _) _
  have HR := Lib.hid (hr.keep B0)
  have HB := Lib.hid B0
  have HX := Lib.hid (Blk.new w TN #[.int .i64 P, .slice av n ca])
  obtain ⟨p0, p1⟩ := stNet.blk_ HX.out
  have NN := Lib.hid no
  clear no hr B0
  go_enter Try.func13, Try.ntmps13
  go_wp2_with fail
  refine (impl_two _ _ _ n zs hn HR.out a b false ⟨fun h => (by cases h), fun h => absurd h NN.out⟩).mono ?_; rintro e w1 ⟨rfl, hq1⟩
  replace HB := Lib.hid (below_step HB.out hq1)
  clear hq1 p0 p1
  go_wp2
  go_ret
  exact ⟨rfl, HB.out⟩
end Go.Proofs.Ytenhdpemfdecfaa.nt
