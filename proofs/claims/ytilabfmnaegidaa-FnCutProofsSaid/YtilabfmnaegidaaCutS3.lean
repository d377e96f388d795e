/- Cuts: the specification's ProvesGreatest, NeededPipes. -/
import Derived.Test.YtilabfmnaegidaaCutS2
import Derived.Test.YtilabfmnaegidaaNetG2
namespace Go.Proofs.Ytilabfmnaegidaa.cut
open Go.RowKit Go.Proofs.Ytilabfmnaegidaa.kit Go.Proofs.Ytilabfmnaegidaa.lawi Go.Proofs.Ytilabfmnaegidaa.own Go.Proofs.Ytilabfmnaegidaa.rain Go.Proofs.Ytilabfmnaegidaa.yrl Go.Proofs.Ytilabfmnaegidaa.net Go.Proofs.Ytilabfmnaegidaa.nt Go.Proofs.Ytilabfmnaegidaa.flw Go.Proofs.Ytilabfmnaegidaa.fl_ Go.Proofs.Ytilabfmnaegidaa.bits_ Go.Proofs.Ytilabfmnaegidaa.later
/-- Where the flow and the cut are right, the sizes decide. -/
theorem pg_sizes {P : Int} {n m : Nat} {zs fs : List Int} {set a b s x : Int} {r : Bool} (hb : r = true ↔ Pg P n zs m fs set a b) (fk : FK P n zs m fs a b) (hc : IsC P n zs set a b) (hs : FSz P n zs m fs a b s) (hx : Cw P n zs set x) : (s == x) = r := by
  have e := hx.1 ⟨hc.2.1.1, hc.1⟩
  have h0 := (cwo_bd hc.2.1.1 set.toNat).1
  have h1 := hs.1 fk
  rw [Bool.eq_iff_iff, beq_iff_eq, hb]
  constructor
  · intro h
    refine ⟨fk, hc, ?_⟩
    split at h1 <;> omega
  · rintro ⟨_, _, h⟩
    rw [if_pos (by omega)] at h1
    omega
set_option maxHeartbeats 4000000 in
theorem spec_pg (w : World) (P : Int) (v u : Value) (n m : Nat) (zs fs : List Int) (set a b : Int) (hn : n ≤ 1048576) (hm : m ≤ 1048576) (hr : Row 3 w v n (IV zs)) (hf : Row 1 w u m (IV fs)) (r : Bool) (hb : r = true ↔ Pg P n zs m fs set a b) :
    Calls Try.prog 32 #[Nv P v, u, .int .i64 set, .int .i64 a, .int .i64 b] w (Gives w (.bool r)) := by
  obtain ⟨s, hs⟩ := FSz.ex P n zs m fs a b
  obtain ⟨x, hx⟩ := Cw.ex P n zs set
  obtain ⟨av, ca, rfl⟩ := hr.shape
  obtain ⟨au, cu, rfl⟩ := hf.shape
  obtain ⟨w0, hw0⟩ : ∃ w0, w.alloc (.cells #[.int .i64 P, .slice av n ca] TN) = w0 := ⟨_, rfl⟩
  have B0 : Below w.heap.size w w0 := hw0 ▸ below_al (Below.refl _ _) _
  have HX : Hid (Blk w0 w.heap.size TN #[.int .i64 P, .slice av n ca]) := Lib.hid (hw0 ▸ Blk.new w TN #[.int .i64 P, .slice av n ca])
  have HR := Lib.hid (hr.keep B0)
  have HF := Lib.hid (hf.keep B0)
  have HB := Lib.hid B0
  have HS := Lib.hid hs
  have HW := Lib.hid hx
  obtain ⟨p0, p1⟩ := stNet.blk_ HX.out
  have Lp0 := later.cell p0
  have Lp1 := later.cell p1
  clear hr hf B0 hs hx
  by_cases fk : FK P n zs m fs a b
  · have FKH := Lib.hid fk
    by_cases hc : IsC P n zs set a b
    · have HC := Lib.hid hc
      have hsx := pg_sizes hb fk hc HS.out HW.out
      clear hb fk hc
      go_enter Try.func32, Try.ntmps32
      go_wp2_with fail
      (try simp only [List.append])
      refine later.region (by kernel_rfl) (lex.lexB_of (by kernel_rfl) (lex.all_whole (by kernel_rfl))) ?_
      repeat (go_big_quiet_step ((first
        | (go_at_call 60; exact later.calls _ (spec_fok _ _ _ _ n m zs fs a b hn (HR.out.keep (Later.h _)) (HF.out.keep (Later.h _)) true ⟨fun _ => FKH.out, fun _ => rfl⟩))
        | (go_at_call 27; exact later.calls _ (spec_isc _ _ _ n zs set a b hn (HR.out.keep (Later.h _)) true ⟨fun _ => HC.out, fun _ => rfl⟩))
        | (go_at_call 40; exact later.calls _ (spec_fsz _ _ _ _ n m zs fs a b hn hm (HR.out.keep (Later.h _)) (HF.out.keep (Later.h _)) s HS.out))
        | (go_at_call 24; exact later.calls _ (spec_cw _ _ _ n zs set hn (HR.out.keep (Later.h _)) x HW.out))
        | fail)))
      refine wpQuiet_nil ?_
      intro _ hw'
      obtain ⟨g, rfl⟩ := hw'
      go_wp2
      go_ret
      exact ⟨by first | rfl | exact congrArg (fun z => Ending.returned (Value.bool z)) hsx, HB.out.trans (g.h.mono HB.out.size)⟩
    · have HC := Lib.hid hc
      have e : r = false := by
        cases r
        · rfl
        · exact absurd (hb.1 rfl).2.1 hc
      clear hb fk hc
      go_enter Try.func32, Try.ntmps32
      go_wp2_with fail
      (try simp only [List.append])
      refine later.region (by kernel_rfl) (lex.lexB_of (by kernel_rfl) (lex.all_whole (by kernel_rfl))) ?_
      repeat (go_big_quiet_step ((first
        | (go_at_call 60; exact later.calls _ (spec_fok _ _ _ _ n m zs fs a b hn (HR.out.keep (Later.h _)) (HF.out.keep (Later.h _)) true ⟨fun _ => FKH.out, fun _ => rfl⟩))
        | (go_at_call 27; exact later.calls _ (spec_isc _ _ _ n zs set a b hn (HR.out.keep (Later.h _)) false ⟨fun h => (by cases h), fun h => absurd h HC.out⟩))
        | fail)))
      refine wpQuiet_nil ?_
      intro _ hw'
      obtain ⟨g, rfl⟩ := hw'
      go_wp2
      go_ret
      exact ⟨by first | rfl | (rw [e]; rfl), HB.out.trans (g.h.mono HB.out.size)⟩
  · have FKH := Lib.hid fk
    have e : r = false := by
      cases r
      · rfl
      · exact absurd (hb.1 rfl).1 fk
    clear hb fk
    go_enter Try.func32, Try.ntmps32
    go_wp2_with fail
    (try simp only [List.append])
    refine later.region (by kernel_rfl) (lex.lexB_of (by kernel_rfl) (lex.all_whole (by kernel_rfl))) ?_
    repeat (go_big_quiet_step ((first
      | (go_at_call 60; exact later.calls _ (spec_fok _ _ _ _ n m zs fs a b hn (HR.out.keep (Later.h _)) (HF.out.keep (Later.h _)) false ⟨fun h => (by cases h), fun h => absurd h FKH.out⟩))
      | fail)))
    refine wpQuiet_nil ?_
    intro _ hw'
    obtain ⟨g, rfl⟩ := hw'
    go_wp2
    go_ret
    exact ⟨by first | rfl | (rw [e]; rfl), HB.out.trans (g.h.mono HB.out.size)⟩
set_option maxHeartbeats 4000000 in
theorem spec_np (w : World) (P : Int) (v : Value) (n : Nat) (zs : List Int) (a b g : Int) (q : Nat → Bool) (hcp : Cap v) (hr : Row 3 w v n (IV zs)) (two : Two P n zs a b) (hg : MF (pF zs) (pT zs) (pW zs) n P a b g) (hq : Np P n zs a b g q) :
    Calls Try.prog 33 #[Nv P v, .int .i64 a, .int .i64 b] w (GotR TI 1 w (dy q n).length (IV (dy q n))) := by
  obtain ⟨av, ca, rfl⟩ := hr.shape
  have hl : zs.length = n * 3 := by simpa using hr.1
  have hn := two.1.2.2.1
  have hg0 := hg.nonneg (fun k hk => (Two.wd two k hk).1)
  obtain ⟨w0, hw0⟩ : ∃ w0, w.alloc (.cells #[.int .i64 P, .slice av n ca] TN) = w0 := ⟨_, rfl⟩
  have B0 : Below w.heap.size w w0 := hw0 ▸ below_al (Below.refl _ _) _
  have HX : Hid (Blk w0 w.heap.size TN #[.int .i64 P, .slice av n ca]) := Lib.hid (hw0 ▸ Blk.new w TN #[.int .i64 P, .slice av n ca])
  have HR := Lib.hid (hr.keep B0)
  have TW := Lib.hid two
  have HB := Lib.hid B0
  have HG := Lib.hid hg
  have HQ := Lib.hid hq
  obtain ⟨w1, hw1⟩ : ∃ w1, w0.alloc (.cells #[] TI) = w1 := ⟨_, rfl⟩
  have B1 : Below w0.heap.size w0 w1 := hw1 ▸ below_al (Below.refl _ _) _
  have O1 : Hid (w1.ownsRow w0.heap.size TI 1 (.slice (some ⟨w0.heap.size, 0, none⟩) 0 0) (dy q 0).length (IV (dy q 0))) := by
    rw [← hw1]
    exact Lib.hid (World.ownsRow_made w0 #[] 0 (Nat.le_refl _) (by unfold maxLen; omega) (by simp))
  have HL := Lib.hid B1
  obtain ⟨p0, p1⟩ := stNet.blk_ (HX.out.step B1)
  obtain ⟨g0, hgg0⟩ : ∃ g0, w0.heap.size = g0 := ⟨_, rfl⟩
  rw [hgg0] at O1
  have hlen0 : Hid (w0.heap.size = g0) := Lib.hid hgg0
  clear hr two B0 hg hq B1
  go_enter Try.func33, Try.ntmps33
  go_wp2_with fail
  refine (spec_great _ _ _ n zs a b g (HR.out.keep HL.out) TW.out HG.out).mono ?_; rintro e w2 ⟨rfl, hb2⟩
  have O2 := Lib.hid (own_below O1.out hb2)
  have L2 := Lib.hid (below_step HL.out hb2)
  clear p0 p1 hb2 O1 HL hw0 hw1 hgg0
  go_wp2
  go_loopg [7, 9] n (fun gk s7 s9 wr => ∃ k : Nat, k + gk = n ∧ s9 = .int .i64 k ∧ wr.ownsRow g0 TI 1 s7 (dy q k).length (IV (dy q k)) ∧ Below w0.heap.size w0 wr)
  case atStart => exact ⟨0, by omega, rfl, O2.out, L2.out⟩
  case round =>
    clear O2 L2
    obtain ⟨k, hkg, rfl, hown, hbel⟩ := hrel
    obtain ⟨p0, p1⟩ := stNet.blk_ (HX.out.step hbel)
    have gb : decide (g ≥ 0) = true := decide_eq_true hg0
    have gb2 : decide (0 ≤ g) = true := decide_eq_true hg0
    by_cases hlt : k < n
    · obtain ⟨gk, rfl⟩ : ∃ g', gk = g' + 1 := ⟨gk - 1, by omega⟩
      obtain ⟨y, hy, hqy⟩ := HQ.out k hlt
      have TWL := Lib.hid (two_less TW.out hl hlt)
      obtain ⟨m, hm⟩ : ∃ m, n - 1 = m := ⟨_, rfl⟩
      rw [hm] at hy TWL
      have HM := Lib.hid hm
      have HY := Lib.hid hy
      have HQY := Lib.hid hqy
      obtain ⟨l, hl0⟩ : ∃ l, dy q k = l := ⟨_, rfl⟩
      have hds := dy_succ q k
      have hln := dy_len q k
      rw [hl0] at hown hds hln
      have HD := Lib.hid hds
      have HO := Lib.hid hown
      have HL := Lib.hid hbel
      clear hy hqy hm hl0 hds hown hbel
      go_wp2_with fail
      refine (spec_without_yes _ _ _ n k zs hcp (HR.out.keep HL.out) TW.out.1 hlt).mono ?_; rintro e w3 ⟨u3, lo3, hi3, rfl, ⟨o3, hlo3⟩, hb⟩
      rw [HM.out] at o3
      obtain ⟨a3, d3, rfl⟩ := own_shape o3.own
      obtain ⟨wB, hwB⟩ : ∃ wB, w3.alloc (.cells #[.int .i64 P, .slice a3 m d3] TN) = wB := ⟨_, rfl⟩
      have BB : Below w3.heap.size w3 wB := hwB ▸ below_al (Below.refl _ _) _
      have X3 := Lib.hid (hwB ▸ Blk.new w3 TN #[.int .i64 P, .slice a3 m d3] : Blk wB w3.heap.size TN #[.int .i64 P, .slice a3 m d3])
      have R3 := Lib.hid (o3.row.keep BB)
      replace HO := Lib.hid (own_below (own_below HO.out hb) BB)
      replace HL := Lib.hid (below_step (below_step HL.out hb) BB)
      clear o3 hlo3 hb BB p0 p1
      obtain ⟨x0, x1⟩ := stNet.blk_ X3.out
      go_wp2_with fail
      refine (spec_great _ _ _ m _ a b y R3.out TWL.out HY.out).mono ?_; rintro e w4 ⟨rfl, hb⟩
      replace HO := Lib.hid (own_below HO.out hb)
      replace HL := Lib.hid (below_step HL.out hb)
      clear hb x0 x1 hwB
      have hbase : g0 ≤ w4.heap.size := by have := HL.out.size; have := hlen0.out; omega
      by_cases hyg : y < g
      · have e : dy q (k + 1) = l ++ [(k : Int)] := by rw [HD.out, if_pos (HQY.out.2 hyg)]
        have E := Lib.hid e
        have HO2 := HO.out
        clear e HO
        go_wp2_with (first
          | (at_builtin
             refine app1 _ rfl _ _ rfl g0 k HO2 rfl rfl (by omega) hbase ?_; intro v' w5 hown5 hg5
             have O5 := Lib.hid hown5
             have L5 := Lib.hid (HL.out.grown hg5 HL.out.size (fun j hj => by have := (HO2.lt j hj).1; have := hlen0.out; omega))
             clear hown5 hg5)
          | fail)
        go_roundg gk
        case measure => omega
        case rel => exact ⟨k + 1, by omega, by go_num, by rw [E.out]; simpa using O5.out, L5.out⟩
      · have e : dy q (k + 1) = l := by rw [HD.out, if_neg (fun h => hyg (HQY.out.1 h))]
        have E := Lib.hid e
        clear e
        go_wp2
        go_roundg gk
        case measure => omega
        case rel => exact ⟨k + 1, by omega, by go_num, by rw [E.out]; exact HO.out, HL.out⟩
    · obtain rfl : k = n := by omega
      have HO := Lib.hid hown
      have HL := Lib.hid hbel
      clear hown hbel
      go_wp2
      go_ret
      exact ⟨_, rfl, own_mono HO.out (by have := hlen0.out; have := HB.out.size; omega), HB.out.trans (HL.out.mono HB.out.size)⟩
theorem spec_np_no (w : World) (P : Int) (v : Value) (n : Nat) (zs : List Int) (a b : Int) (hn : n ≤ 1048576) (hr : Row 3 w v n (IV zs)) (two : ¬ Two P n zs a b) :
    Calls Try.prog 33 #[Nv P v, .int .i64 a, .int .i64 b] w (GotR TI 1 w 0 []) := by
  obtain ⟨av, ca, rfl⟩ := hr.shape
  obtain ⟨w0, hw0⟩ : ∃ w0, w.alloc (.cells #[.int .i64 P, .slice av n ca] TN) = w0 := ⟨_, rfl⟩
  have B0 : Below w.heap.size w w0 := hw0 ▸ below_al (Below.refl _ _) _
  have HX : Hid (Blk w0 w.heap.size TN #[.int .i64 P, .slice av n ca]) := Lib.hid (hw0 ▸ Blk.new w TN #[.int .i64 P, .slice av n ca])
  have HR := Lib.hid (hr.keep B0)
  have TW := Lib.hid two
  have HB := Lib.hid B0
  obtain ⟨w1, hw1⟩ : ∃ w1, w0.alloc (.cells #[] TI) = w1 := ⟨_, rfl⟩
  have B1 : Below w0.heap.size w0 w1 := hw1 ▸ below_al (Below.refl _ _) _
  have O1 : Hid (w1.ownsRow w0.heap.size TI 1 (.slice (some ⟨w0.heap.size, 0, none⟩) 0 0) 0 []) := by
    rw [← hw1]
    exact Lib.hid (World.ownsRow_made w0 #[] 0 (Nat.le_refl _) (by unfold maxLen; omega) (by simp))
  have HL := Lib.hid B1
  obtain ⟨p0, p1⟩ := stNet.blk_ (HX.out.step B1)
  obtain ⟨g0, hgg0⟩ : ∃ g0, w0.heap.size = g0 := ⟨_, rfl⟩
  rw [hgg0] at O1
  have hlen0 : Hid (w0.heap.size = g0) := Lib.hid hgg0
  clear hr two B0 B1
  go_enter Try.func33, Try.ntmps33
  go_wp2_with fail
  refine (spec_great_no _ _ _ n zs a b hn (HR.out.keep HL.out) TW.out).mono ?_; rintro e w2 ⟨rfl, hb2⟩
  have O2 := Lib.hid (own_below O1.out hb2)
  have L2 := Lib.hid (below_step HL.out hb2)
  have hX2 := HX.out.step L2.out
  clear p0 p1 hb2 O1 HL hw0 hw1 hgg0
  obtain ⟨p0, p1⟩ := stNet.blk_ hX2
  clear hX2
  go_wp2
  refine wp_loop_rounds 1 ?_
  rw [rounds_succ]
  by_cases h0 : 0 < n
  · have j0 : (0 : Int) < (n : Int) := by omega
    go_wp2
    go_ret
    exact ⟨_, rfl, own_mono O2.out (by have := hlen0.out; have := HB.out.size; omega), HB.out.trans (L2.out.mono HB.out.size)⟩
  · obtain rfl : n = 0 := by omega
    go_wp2
    go_ret
    exact ⟨_, rfl, own_mono O2.out (by have := hlen0.out; have := HB.out.size; omega), HB.out.trans (L2.out.mono HB.out.size)⟩
end Go.Proofs.Ytilabfmnaegidaa.cut
