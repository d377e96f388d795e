/- FnSizes returns true. -/
import Derived.Test.YtojahddamdlcpaaSzI2
import Derived.Test.YtojahddamdlcpaaYrD
import Derived.BigQuiet
import Derived.Deep.RegionHeld3
import Derived.Deep.DeepCutAuto
set_option linter.unusedVariables false
namespace Go.Proofs.Ytojahddamdlcpaa.wFnSizes
open Go.RowKit Go.Proofs.Ytojahddamdlcpaa.kit Go.Proofs.Ytojahddamdlcpaa.lawi Go.Proofs.Ytojahddamdlcpaa.own Go.Proofs.Ytojahddamdlcpaa.rainl Go.Proofs.Ytojahddamdlcpaa.rain Go.Proofs.Ytojahddamdlcpaa.cis Go.Proofs.Ytojahddamdlcpaa.chl Go.Proofs.Ytojahddamdlcpaa.yrl Go.Proofs.Ytojahddamdlcpaa.yr Go.Proofs.Ytojahddamdlcpaa.draw Go.Proofs.Ytojahddamdlcpaa.szl Go.Proofs.Ytojahddamdlcpaa.sz
/-- What LeastRoom, LeastStart answer. -/
def RR (s d : Int) (n : Nat) (cs : List Int) (x : Int) : Prop := (x = -1 ∧ ¬ EnR s d n cs 100000) ∨ Least (EnR s d n cs) 1 100000 x
def SS (r d : Int) (n : Nat) (cs : List Int) (x : Int) : Prop := (x = -1 ∧ ¬ En r r d n cs) ∨ Least (fun x => En r x d n cs) 0 r x
theorem RR.ex (s d : Int) (n : Nat) (cs : List Int) : ∃ x, RR s d n cs x := by
  by_cases h : EnR s d n cs 100000
  · obtain ⟨x, hx⟩ := Least.ex (p := EnR s d n cs) (lo := 1) (hi := 100000) (by omega) h
    exact ⟨x, .inr hx⟩
  · exact ⟨-1, .inl ⟨rfl, h⟩⟩
theorem SS.ex (r d : Int) (n : Nat) (cs : List Int) (hr : 0 ≤ r) : ∃ x, SS r d n cs x := by
  by_cases h : En r r d n cs
  · obtain ⟨x, hx⟩ := Least.ex (p := fun x => En r x d n cs) (lo := 0) (hi := r) hr h
    exact ⟨x, .inr hx⟩
  · exact ⟨-1, .inl ⟨rfl, h⟩⟩
theorem room_any (w : World) (v : Value) (n : Nat) (cs : List Int) (r s d : Int) (hr : Row 1 w v n (IV cs)) (ok : YOk r s d n cs) (x : Int) (h : RR s d n cs x) : Calls Try.prog 27 #[Yv r s v d] w (Gives w (.int .i64 x)) := by
  rcases h with ⟨rfl, h⟩ | h
  · exact impl_leastRoom_none w v n cs r s d hr ok h
  · exact impl_leastRoom w v n cs r s d hr ok x h
theorem start_any (w : World) (v : Value) (n : Nat) (cs : List Int) (r s d : Int) (hr : Row 1 w v n (IV cs)) (ok : YOk r s d n cs) (x : Int) (h : SS r d n cs x) : Calls Try.prog 28 #[Yv r s v d] w (Gives w (.int .i64 x)) := by
  rcases h with ⟨rfl, h⟩ | h
  · exact impl_leastStart_none w v n cs r s d hr ok h
  · exact impl_leastStart w v n cs r s d hr ok x h
def SC (cs : List Int) (k : Nat) : Int := sm (fun j => cs.getD j 0) k
set_option maxRecDepth 10000000 in
set_option maxHeartbeats 4000000 in
theorem walk (w : World) (a0 : Option Addr) (len0 cap0 : Nat) (z0 : List Int) (w0 : IsRow .u8 w a0 len0 cap0 z0) :
    Calls Try.prog 4 #[.slice a0 len0 cap0] w fun e w' => e = .returned (.bool true) ∧ Below w.heap.size w w' := by
  classical
  by_cases hbig : 1048576 < len0
  · go_enter Try.func4, Try.ntmps4
    go_wp2_with fail
    refine (big_yes _ _ _ _ hbig).mono ?_; rintro e w1 ⟨rfl, rfl⟩
    go_wp2
    go_ret
    exact ⟨rfl, Below.refl _ _⟩
  · have hlen : len0 ≤ 1048576 := by omega
    have hby := w0.bytes
    have hlow : ∀ x, a0 = some x → 0 < len0 → x.block < w.heap.size := w0.lt
    have HL := Lib.hid hlow
    clear hbig w0 hlow
    go_enter Try.func4, Try.ntmps4
    go_wp2_with fail
    refine (big_no _ _ _ _ hlen).mono ?_; rintro e w1 ⟨rfl, rfl⟩
    go_wp2_with fail
    refine (drawYear _ _ _ _ hby hlen HL.out).mono ?_; rintro e w1 ⟨r, s, d, n, cs, v, rfl, hF, rC, B⟩
    obtain ⟨aC, cC, rfl⟩ := rC.shape
    have ok := hF.ok
    have hn1 : 1 ≤ n ∧ n ≤ 12 := hF.2.2.2.1
    obtain ⟨hn1, hn2⟩ := hn1
    have hr1 : 1 ≤ r ∧ r ≤ 250 := hF.1
    have hs1 : 0 ≤ s ∧ s ≤ r := hF.2.1
    have hd1 : 0 ≤ d ∧ d ≤ 39 := hF.2.2.1
    obtain ⟨hr1, hr2⟩ := hr1
    obtain ⟨hs1, hs2⟩ := hs1
    obtain ⟨hd1, hd2⟩ := hd1
    have hn3 : n ≤ 1048576 := by omega
    obtain ⟨m, hm⟩ := Most.ex (p := fun x => En r s x n cs) (lo := 0) (hi := 1000000) (by omega) (need_zero ok)
    obtain ⟨R, hR⟩ := RR.ex s d n cs
    obtain ⟨S, hS⟩ := SS.ex r d n cs (by omega)
    have B1 : Below w1.heap.size w1 (w1.alloc (.cells #[.int .i64 r, .int .i64 s, .slice aC n cC, .int .i64 d] TY)) := below_al (Below.refl _ _) _
    have HX := Lib.hid (Blk.new w1 TY #[.int .i64 r, .int .i64 s, .slice aC n cC, .int .i64 d])
    have RC := Lib.hid (rC.keep B1)
    have BL := Lib.hid (below_step B B1)
    have HO := Lib.hid ok
    have HF := Lib.hid hF
    have HM := Lib.hid hm
    have HR := Lib.hid hR
    have HS := Lib.hid hS
    clear hby HL hF rC B ok B1 hm hR hS
    go_wp2_with fail
    refine (impl_mostNeed _ _ n cs r s d RC.out HO.out m HM.out).mono ?_; rintro e w2 ⟨rfl, hb⟩
    replace HX := Lib.hid (HX.out.step hb)
    replace RC := Lib.hid (RC.out.keep hb)
    replace BL := Lib.hid (below_step BL.out hb)
    clear hb
    obtain ⟨g, hg⟩ : ∃ g, w1.heap.size = g := ⟨_, rfl⟩
    rw [hg] at HX
    rw [hg]
    clear hg
    obtain ⟨p0, p1, p2, p3⟩ := blk4 HX.out
    go_wp2_with fail
    refine (room_any _ _ n cs r s d RC.out HO.out R HR.out).mono ?_; rintro e w3 ⟨rfl, hb⟩
    replace HX := Lib.hid (HX.out.step hb)
    replace RC := Lib.hid (RC.out.keep hb)
    replace BL := Lib.hid (below_step BL.out hb)
    clear hb p0 p1 p2 p3
    obtain ⟨p0, p1, p2, p3⟩ := blk4 HX.out
    go_wp2_with fail
    refine (start_any _ _ n cs r s d RC.out HO.out S HS.out).mono ?_; rintro e wB ⟨rfl, hb⟩
    replace HX := Lib.hid (HX.out.step hb)
    replace RC := Lib.hid (RC.out.keep hb)
    replace BL := Lib.hid (below_step BL.out hb)
    clear hb p0 p1 p2 p3
    obtain ⟨p0, p1, p2, p3⟩ := blk4 HX.out
    -- the world is wB; the year's box is g
    have m0 : 0 ≤ m := HM.out.1
    have m1 : m ≤ 250 := by have := HM.out.2.2.1.fits; omega
    have no1 := Lib.hid (HM.out.2.2.2 (m + 1) (by omega) (by omega))
    have t0 : decide (m < 0) = false := decide_eq_false (by omega)
    have XM := Lib.hid (Blk.new wB TY #[.int .i64 r, .int .i64 s, .slice aC n cC, .int .i64 m])
    have BX := Lib.hid (below_al (Below.refl _ _) (.cells #[.int .i64 r, .int .i64 s, .slice aC n cC, .int .i64 m] TY) : Below wB.heap.size wB _)
    go_wp2_with fail
    refine (impl_enough _ _ n cs r s m hn3 (RC.out.keep BX.out) true (iff_of_true rfl HM.out.2.2.1)).mono ?_; rintro e w5 ⟨rfl, hb⟩
    replace XM := Lib.hid (XM.out.step hb)
    replace BX := Lib.hid (below_step BX.out hb)
    clear hb p0 p1 p2 p3
    obtain ⟨q0, q1, q2, q3⟩ := blk4 XM.out
    have f3 := XM.out.frozen 3
    have XM6 : Blk (w5.setCell ⟨wB.heap.size, 3, none⟩ (.int .i64 (m + 1))) wB.heap.size TY #[.int .i64 r, .int .i64 s, .slice aC n cC, .int .i64 (m + 1)] := by simpa using XM.out.set_ 3 (.int .i64 (m + 1))
    have BX6 : Below wB.heap.size wB (w5.setCell ⟨wB.heap.size, 3, none⟩ (.int .i64 (m + 1))) := BX.out.setCell (Nat.le_refl _) _
    go_upto_region 12 with fail
    obtain ⟨w6, hw6⟩ : ∃ w6, w5.setCell ⟨wB.heap.size, 3, none⟩ (.int .i64 (m + 1)) = w6 := ⟨_, rfl⟩
    rw [hw6] at XM6 BX6 ⊢
    clear hw6 XM BX q0 q1 q2 q3 f3
    obtain ⟨q0, q1, q2, q3⟩ := blk4 XM6
    obtain ⟨p0, p1, p2, p3⟩ := blk4 (HX.out.step BX6)
    have XM := Lib.hid XM6
    have BX := Lib.hid BX6
    clear XM6 BX6
    obtain ⟨b, hb⟩ : ∃ b, decide (En r s d n cs) = b := ⟨_, rfl⟩
    have tb : decide (d ≤ m) = b := by
      rw [← hb, Bool.eq_iff_iff, decide_eq_true_iff, decide_eq_true_iff]
      exact ⟨fun h => need_down HO.out d m hd1 h (by omega) HM.out.2.2.1, fun h => HM.out.ge (by omega) h⟩
    have HBE := Lib.hid (show b = true ↔ En r s d n cs by rw [← hb]; exact decide_eq_true_iff)
    clear hb
    go_cut [47] (fun c wx => c = .bool false ∧ Below wB.heap.size wB wx)
    case first =>
      go_region_held3 (fun W => W.cell? ⟨g, 0, none⟩ = some (.int .i64 r) ∧ W.cell? ⟨g, 1, none⟩ = some (.int .i64 s) ∧ W.cell? ⟨g, 2, none⟩ = some (.slice aC n cC) ∧ W.cell? ⟨g, 3, none⟩ = some (.int .i64 d) ∧ W.cell? ⟨wB.heap.size, 0, none⟩ = some (.int .i64 r) ∧ W.cell? ⟨wB.heap.size, 1, none⟩ = some (.int .i64 s) ∧ W.cell? ⟨wB.heap.size, 2, none⟩ = some (.slice aC n cC) ∧ W.cell? ⟨wB.heap.size, 3, none⟩ = some (.int .i64 (m + 1)))
        (first | assumption | exact ⟨p0, p1, p2, p3, q0, q1, q2, q3⟩ | (refine keep8 ⟨p0, p1, p2, p3, q0, q1, q2, q3⟩ ?_; (repeat (first | assumption | (with_reducible exact Below.refl _ _) | (with_reducible refine below_dr ?_) | (with_reducible refine below_al ?_ _) | (with_reducible refine below_step ?_ (by assumption)) | fail)); done) | fail)
        (first
          | (go_at_call 29; (fail_if_success (have _h := wC)); refine (impl_enough _ _ n cs r s (m + 1) hn3 (RC.out.keep (below_step BX.out (by repeat (first | assumption | (with_reducible exact Below.refl _ _) | (with_reducible refine below_dr ?_) | fail)))) false (iff_of_false Bool.false_ne_true no1.out)).mono ?_; rintro e wC ⟨rfl, hb⟩)
          | (go_at_call 29; refine (impl_enough _ _ n cs r s d hn3 (RC.out.keep (below_step BX.out (by repeat (first | assumption | (with_reducible exact Below.refl _ _) | (with_reducible refine below_dr ?_) | (with_reducible refine below_step ?_ (by assumption)) | fail)))) b HBE.out).mono ?_; rintro e wD ⟨rfl, hb2⟩)
          | fail)
      all_goals
        go_wp2_with fail
        go_meet
        exact ⟨by simp, below_step BX.out (by repeat (first | assumption | (with_reducible exact Below.refl _ _) | (with_reducible refine below_dr ?_) | (with_reducible refine below_step ?_ (by assumption)) | fail))⟩
    case rest =>
      obtain ⟨rfl, hB⟩ := hcut
      clear BX XM p0 p1 p2 p3 q0 q1 q2 q3
      have BX := Lib.hid hB
      clear hB
      go_upto_region 14 with fail
      go_cut [71] (fun c wx => c = .bool false ∧ Below wB.heap.size wB wx)
      case first =>
        rcases HR.out with ⟨hr0, _⟩ | hr0
        · subst hr0
          go_wp2_with fail
          go_meet
          exact ⟨by simp, BX.out⟩
        · obtain ⟨x1, x2, x3, x4⟩ := hr0
          have X3 := Lib.hid x3
          have X4 := Lib.hid x4
          clear x3 x4
          have u1 : decide (0 ≤ R) = true := decide_eq_true (by omega)
          have u2 : decide (R < 1) = false := decide_eq_false (by omega)
          obtain ⟨p0, p1, p2, p3⟩ := blk4 (HX.out.step BX.out)
          go_wp2_with fail
          refine (impl_WithRoom_yes _ _ n cs r s d R hn3 (RC.out.keep BX.out) HO.out x1 (by omega)).mono ?_; rintro e wa ⟨u, lo, hi, rfl, ⟨ho, _⟩, hb⟩
          clear p0 p1 p2 p3
          replace BX := Lib.hid (below_step BX.out hb)
          clear hb
          go_wp2_with fail
          refine (impl_enough _ _ n cs R (mn s R) d hn3 ho.row true (iff_of_true rfl X3.out)).mono ?_; rintro e wb ⟨rfl, hb⟩
          replace BX := Lib.hid (below_step BX.out hb)
          clear hb
          clear ho
          by_cases h1 : 1 < R
          · have u3 : decide (1 < R) = true := decide_eq_true h1
            have no2 := X4.out (R - 1) (by omega) (by omega)
            have NO2 := Lib.hid no2
            clear no2
            obtain ⟨p0, p1, p2, p3⟩ := blk4 (HX.out.step BX.out)
            go_wp2_with fail
            refine (impl_WithRoom_yes _ _ n cs r s d (R - 1) hn3 (RC.out.keep BX.out) HO.out (by omega) (by omega)).mono ?_; rintro e wa ⟨u, lo, hi, rfl, ⟨ho, _⟩, hb⟩
            clear p0 p1 p2 p3
            replace BX := Lib.hid (below_step BX.out hb)
            clear hb
            go_wp2_with fail
            refine (impl_enough _ _ n cs (R - 1) (mn s (R - 1)) d hn3 ho.row false (iff_of_false Bool.false_ne_true NO2.out)).mono ?_; rintro e wb ⟨rfl, hb⟩
            replace BX := Lib.hid (below_step BX.out hb)
            clear hb
            clear ho
            go_wp2_with fail
            go_meet
            exact ⟨by simp, BX.out⟩
          · have u3 : decide (1 < R) = false := decide_eq_false h1
            go_wp2_with fail
            go_meet
            exact ⟨by simp, BX.out⟩
      case rest =>
        obtain ⟨rfl, hB⟩ := hcut
        clear BX
        have BX := Lib.hid hB
        clear hB
        go_upto_region 16 with fail
        go_cut [93] (fun c wx => c = .bool false ∧ Below wB.heap.size wB wx)
        case first =>
          obtain ⟨p0, p1, p2, p3⟩ := blk4 (HX.out.step BX.out)
          go_wp2_with fail
          refine (impl_enough _ _ n cs r s d hn3 (RC.out.keep BX.out) b HBE.out).mono ?_; rintro e wb ⟨rfl, hb⟩
          replace BX := Lib.hid (below_step BX.out hb)
          clear hb p0 p1 p2 p3
          obtain ⟨p0, p1, p2, p3⟩ := blk4 (HX.out.step BX.out)
          cases b
          · go_wp2_with fail
            go_meet
            exact ⟨by simp, BX.out⟩
          · have he := HBE.out.1 rfl
            have hR1 : 1 ≤ R ∧ R ≤ r := by
              have e : EnR s d n cs r := by unfold EnR; rw [show mn s r = s by unfold mn; split <;> omega]; exact he
              rcases HR.out with ⟨_, h⟩ | h
              · exact absurd (EnR.up HO.out r 100000 (by omega) (by omega) (by omega) e) h
              · exact ⟨h.1, h.le (by omega) e⟩
            have hS1 : 0 ≤ S ∧ S ≤ s := by
              rcases HS.out with ⟨_, h⟩ | h
              · exact absurd (start_up HO.out s r (by omega) (by omega) (Int.le_refl _) he) h
              · exact ⟨h.1, h.le (by omega) he⟩
            obtain ⟨x1, x2⟩ := hR1
            obtain ⟨x3, x4⟩ := hS1
            have u2 : decide (R < 1) = false := decide_eq_false (by omega)
            have u3 : decide (r < R) = false := decide_eq_false (by omega)
            have u4 : decide (S < 0) = false := decide_eq_false (by omega)
            have u5 : decide (s < S) = false := decide_eq_false (by omega)
            clear he
            go_wp2_with fail
            go_meet
            exact ⟨by simp, BX.out⟩
        case rest =>
          obtain ⟨rfl, hB⟩ := hcut
          clear BX
          have BX := Lib.hid hB
          clear hB
          go_upto_if 95 with fail
          go_cut [8, 9] (fun _ _ wx => Below wB.heap.size wB wx)
          case first =>
            rcases HS.out with ⟨hs0, _⟩ | hs0
            · subst hs0
              go_wp2_with fail
              go_meet
              exact BX.out
            · obtain ⟨x1, x2, x3, x4⟩ := hs0
              have X3 := Lib.hid x3
              have X4 := Lib.hid x4
              clear x3 x4
              have u1 : decide (0 ≤ S) = true := decide_eq_true x1
              have P1 := HX.out.step BX.out
              have a1 : Below wc.heap.size wc (wc.alloc (.cells #[.int .i64 r, .int .i64 S, .slice aC n cC, .int .i64 d] TY)) := below_al (Below.refl _ _) _
              have a2 : Below wc.heap.size wc ((wc.alloc (.cells #[.int .i64 r, .int .i64 S, .slice aC n cC, .int .i64 d] TY)).alloc (.cells #[.int .i64 r, .int .i64 (S - 1), .slice aC n cC, .int .i64 d] TY)) := below_al a1 _
              obtain ⟨p0, p1, p2, p3⟩ := blk4 P1
              obtain ⟨y0, y1, y2, y3⟩ := blk4 (P1.step a1)
              have XL := Lib.hid (Blk.new1 wc TY #[.int .i64 r, .int .i64 (S - 1), .slice aC n cC, .int .i64 d] (.cells #[.int .i64 r, .int .i64 S, .slice aC n cC, .int .i64 d] TY))
              replace BX := Lib.hid (below_step BX.out a2)
              clear P1 a1 a2
              go_wp2_with fail
              refine (impl_enough _ _ n cs r S d hn3 (RC.out.keep BX.out) true (iff_of_true rfl X3.out)).mono ?_; rintro e wd ⟨rfl, hb⟩
              replace XL := Lib.hid (XL.out.step hb)
              replace BX := Lib.hid (below_step BX.out hb)
              clear hb p0 p1 p2 p3 y0 y1 y2 y3
              by_cases h1 : 0 < S
              · have u3 : decide (0 < S) = true := decide_eq_true h1
                have NO2 := Lib.hid (X4.out (S - 1) (by omega) (by omega))
                obtain ⟨y0, y1, y2, y3⟩ := blk4 XL.out
                go_wp2_with fail
                refine (impl_enough _ _ n cs r (S - 1) d hn3 (RC.out.keep BX.out) false (iff_of_false Bool.false_ne_true NO2.out)).mono ?_; rintro e we ⟨rfl, hb⟩
                replace BX := Lib.hid (below_step BX.out hb)
                clear hb y0 y1 y2 y3
                go_wp2_with fail
                go_meet
                exact BX.out
              · have u3 : decide (0 < S) = false := decide_eq_false h1
                go_wp2_with fail
                go_meet
                exact BX.out
          case rest =>
            clear BX
            have BX := Lib.hid hcut
            clear hcut
            obtain ⟨p0, p1, p2, p3⟩ := blk4 (HX.out.step BX.out)
            go_wp2_with fail
            refine (impl_WithRoom_yes _ _ n cs r s d 50 hn3 (RC.out.keep BX.out) HO.out (by omega) (by omega)).mono ?_; rintro e wa ⟨u, lo, hi, rfl, ⟨ho, _⟩, hb⟩
            obtain ⟨au, cu, rfl⟩ := own_shape ho.own
            have XW := Lib.hid (Blk.new wa TY #[.int .i64 50, .int .i64 (mn s 50), .slice au n cu, .int .i64 d])
            replace BX := Lib.hid (below_al (below_step BX.out hb) (.cells #[.int .i64 50, .int .i64 (mn s 50), .slice au n cu, .int .i64 d] TY))
            clear hb ho p0 p1 p2 p3
            obtain ⟨p0, p1, p2, p3⟩ := blk4 (HX.out.step BX.out)
            obtain ⟨q, hq⟩ : ∃ q, sm (fun j => cs.getD j 0) n / n = q := ⟨_, rfl⟩
            go_wp2_with fail
            refine (impl_average _ _ n cs r s d (RC.out.keep BX.out) HO.out q hq.symm).mono ?_; rintro e wd ⟨rfl, hb⟩
            replace XW := Lib.hid (XW.out.step hb)
            replace BX := Lib.hid (below_step BX.out hb)
            clear hb p0 p1 p2 p3
            obtain ⟨p0, p1, p2, p3⟩ := blk4 (HX.out.step BX.out)
            have HQ := Lib.hid hq
            have e12 : ∀ k, k ≤ n → 0 ≤ SC cs k ∧ SC cs k ≤ 99 * k := fun k hk => by
              unfold SC
              have := sm_bd (f := fun j => cs.getD j 0) (a := 0) (b := 99) k (fun i hi => HF.out.2.2.2.2.2 i (by omega))
              omega
            have HE := Lib.hid e12
            clear hq e12
            go_wp2
            go_loop [12, 13] (fun t i => ∃ k : Nat, k ≤ n ∧ i = .int .i64 k ∧ t = .int .i64 (SC cs k)) (fun _ i => n - (intOf i).toNat)
            case atStart => exact ⟨0, Nat.zero_le _, rfl, rfl⟩
            case round =>
              obtain ⟨k, hk, rfl, rfl⟩ := hrel
              by_cases hlt : k < n
              · obtain ⟨b1, o1, rfl, h1⟩ := (RC.out.keep BX.out).at_ (by omega)
                obtain ⟨z, hz⟩ : ∃ z, cs.getD k 0 = z := ⟨_, rfl⟩
                have g1 := h1 k _ (getI (by rw [HF.out.2.2.2.2.1]; exact hlt))
                rw [hz] at g1
                have c1 := HF.out.2.2.2.2.2 k hlt
                have c3 := HE.out k (by omega)
                rw [hz] at c1
                obtain ⟨z0, z1⟩ := c1
                obtain ⟨T, hT⟩ : ∃ T, SC cs k = T := ⟨_, rfl⟩
                have HT := Lib.hid (show SC cs (k + 1) = T + z by rw [SC, sm, hz, ← hT, SC])
                rw [hT] at c3
                have c4 : 0 ≤ T ∧ T ≤ 2000 := by omega
                obtain ⟨c4, c5⟩ := c4
                rw [hT]
                clear h1 hz hT c3
                go_wp2
                go_round
                case rel => exact ⟨k + 1, by omega, by go_num, by rw [HT.out]⟩
                case measure => simp [intOf]; omega
              · obtain rfl : k = n := by omega
                have e1 := HE.out k (Nat.le_refl _)
                have e2 := HM.out.2.2.1.sum
                have e3 := HQ.out
                have e4 : sm (fun j => cs.getD j 0) k = SC cs k := rfl
                rw [e4] at e2 e3
                obtain ⟨T, hT⟩ : ∃ T, SC cs k = T := ⟨_, rfl⟩
                rw [hT] at e1 e2 e3 ⊢
                have k1 : (1 : Int) ≤ k := by omega
                have k2 : (k : Int) ≤ 12 := by omega
                have T0 : 0 ≤ T := e1.1
                have T1 : T ≤ 1188 := by omega
                have q0 : 0 ≤ q := by rw [← e3]; exact Int.ediv_nonneg T0 (by omega)
                have q1 : q ≤ 1188 := by rw [← e3]; exact Int.ediv_le_of_le_mul (by omega) (by omega)
                have q2 : q * k ≤ T := by rw [← e3]; exact Int.ediv_mul_le T (by omega)
                have q3 : T < (q + 1) * k := by rw [← e3]; exact Int.lt_ediv_add_one_mul_self T (by omega)
                have q4 := mul_bd (x := q) (y := k) (X := 1188) (Y := 12) q0 q1 (by omega) k2
                have q5 := mul_bd (x := q + 1) (y := k) (X := 1189) (Y := 12) (by omega) (by omega) (by omega) k2
                have q6 := mul_bd (x := m) (y := k) (X := 250) (Y := 12) m0 m1 (by omega) k2
                obtain ⟨Q1, hQ1⟩ : ∃ Q1, q * (k : Int) = Q1 := ⟨_, rfl⟩
                obtain ⟨Q2, hQ2⟩ : ∃ Q2, (q + 1) * (k : Int) = Q2 := ⟨_, rfl⟩
                obtain ⟨M1, hM1⟩ : ∃ M1, m * (k : Int) = M1 := ⟨_, rfl⟩
                rw [hQ1] at q2 q4
                rw [hQ2] at q3 q5
                rw [hM1] at e2 q6
                obtain ⟨q4, q4'⟩ := q4
                obtain ⟨q5, q5'⟩ := q5
                obtain ⟨q6, q6'⟩ := q6
                have u1 : decide (Q1 ≤ T) = true := decide_eq_true q2
                have u2 : decide (T < Q2) = true := decide_eq_true q3
                have u3 : decide (M1 ≤ T + s) = true := decide_eq_true e2
                clear e1 e2 e3 e4 hT q2 q3
                rcases Int.lt_trichotomy s 50 with h | rfl | h
                · have e5 : mn s 50 = s := by unfold mn; split <;> omega
                  rw [e5] at XW
                  obtain ⟨y0, y1, y2, y3⟩ := blk4 XW.out
                  clear e5
                  go_wp2
                  go_ret
                  exact ⟨rfl, below_step BL.out BX.out⟩
                · have e5 : mn (50 : Int) 50 = 50 := rfl
                  rw [e5] at XW
                  obtain ⟨y0, y1, y2, y3⟩ := blk4 XW.out
                  clear e5
                  go_wp2
                  go_ret
                  exact ⟨rfl, below_step BL.out BX.out⟩
                · have e5 : mn s 50 = 50 := by unfold mn; split <;> omega
                  rw [e5] at XW
                  obtain ⟨y0, y1, y2, y3⟩ := blk4 XW.out
                  clear e5
                  go_wp2
                  go_ret
                  exact ⟨rfl, below_step BL.out BX.out⟩
end Go.Proofs.Ytojahddamdlcpaa.wFnSizes
