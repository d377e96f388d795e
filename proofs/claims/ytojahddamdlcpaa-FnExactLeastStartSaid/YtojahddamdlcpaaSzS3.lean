/- How large a cistern must be: the specification's searches by halving, and the average. -/
import Derived.Test.YtojahddamdlcpaaSzS2
namespace Go.Proofs.Ytojahddamdlcpaa.sz
open Go.RowKit Go.Proofs.Ytojahddamdlcpaa.kit Go.Proofs.Ytojahddamdlcpaa.lawi Go.Proofs.Ytojahddamdlcpaa.own Go.Proofs.Ytojahddamdlcpaa.rainl Go.Proofs.Ytojahddamdlcpaa.rain Go.Proofs.Ytojahddamdlcpaa.cis Go.Proofs.Ytojahddamdlcpaa.chl Go.Proofs.Ytojahddamdlcpaa.yrl Go.Proofs.Ytojahddamdlcpaa.yr Go.Proofs.Ytojahddamdlcpaa.szl Go.Proofs.Ytojahddamdlcpaa.cpy
set_option maxHeartbeats 1000000 in
theorem spec_leastRoom (w : World) (v : Value) (n : Nat) (cs : List Int) (r s d : Int) (hr : Row 1 w v n (IV cs)) (ok : YOk r s d n cs) (m : Int) (hm : Least (EnR s d n cs) 1 100000 m) :
    Calls Try.prog 42 #[Yv r s v d] w (Gives w (.int .i64 m)) := by
  obtain ⟨a, ca, rfl⟩ := hr.shape
  have hn : n ≤ 1048576 := by have := ok.2.2.1.2; omega
  have HX := Lib.hid (Blk.new w TY #[.int .i64 r, .int .i64 s, .slice a n ca, .int .i64 d])
  have HB := Lib.hid (below_al (Below.refl _ _) (.cells #[.int .i64 r, .int .i64 s, .slice a n ca, .int .i64 d] TY) : Below w.heap.size w _)
  have HR := Lib.hid hr
  have OK := Lib.hid ok
  have m1 := hm.1
  have m2 := hm.2.1
  have HT := Lib.hid (EnR.up ok m 100000 hm.1 hm.2.1 (by omega) hm.2.2.1)
  have HM := Lib.hid hm
  have UP := Lib.hid (fun (a b : Int) (h1 : 1 ≤ a) (h2 : a ≤ b) (h3 : b ≤ 100000) => EnR.up ok a b h1 h2 (by omega))
  clear hr ok hm
  go_enter Try.func42, Try.ntmps42
  obtain ⟨p0, p1, p2, p3⟩ := blk4 HX.out
  go_wp2_with fail
  refine (spec_withRoom_yes _ _ n cs r s d 100000 hn (HR.out.keep HB.out) OK.out (by omega) (by omega)).mono ?_; rintro e wa ⟨u, lo, hi, rfl, ⟨ho, _⟩, hb⟩
  clear p0 p1 p2 p3
  replace HX := Lib.hid (HX.out.step hb)
  replace HB := Lib.hid (below_step HB.out hb)
  clear hb
  go_wp2_with fail
  refine (spec_enough _ _ n cs 100000 (mn s 100000) d hn ho.row true (iff_of_true rfl HT.out)).mono ?_; rintro e wb ⟨rfl, hb⟩
  clear ho
  replace HX := Lib.hid (HX.out.step hb)
  replace HB := Lib.hid (below_step HB.out hb)
  clear hb
  go_wp2
  go_loopg [3, 4, 5] 99999 (fun g x y _ wr => ∃ l h, x = .int .i64 l ∧ y = .int .i64 h ∧ 1 ≤ l ∧ l ≤ m ∧ m ≤ h ∧ h ≤ 100000 ∧ (h - l).toNat = g ∧ Blk wr w.heap.size TY #[.int .i64 r, .int .i64 s, .slice a n ca, .int .i64 d] ∧ Below w.heap.size w wr)
  case atStart => exact ⟨1, 100000, rfl, rfl, Int.le_refl _, m1, m2, Int.le_refl _, by omega, HX.out, HB.out⟩
  case round =>
    clear HX HB
    obtain ⟨l, h, rfl, rfl, k1, k2, k3, k4, hg, hX, hB⟩ := hrel
    have HX := Lib.hid hX
    have HB := Lib.hid hB
    clear hX hB
    by_cases hlt : l < h
    · obtain ⟨x, hx⟩ : ∃ x, (l + h) / 2 = x := ⟨_, rfl⟩
      have e2 : (l + h).tdiv 2 = x := by rw [Int.tdiv_eq_ediv_of_nonneg (by omega)]; exact hx
      have x1 : l ≤ x := by omega
      have x2 : x < h := by omega
      clear hx
      obtain ⟨p0, p1, p2, p3⟩ := blk4 HX.out
      go_wp2_with fail
      refine (spec_withRoom_yes _ _ n cs r s d x hn (HR.out.keep HB.out) OK.out (by omega) (by omega)).mono ?_; rintro e wa ⟨u, lo, hi, rfl, ⟨ho, _⟩, hb⟩
      clear p0 p1 p2 p3
      replace HX := Lib.hid (HX.out.step hb)
      replace HB := Lib.hid (below_step HB.out hb)
      clear hb
      by_cases hp : EnR s d n cs x
      · have hmx := HM.out.le (by omega) hp
        have HP := Lib.hid hp
        clear hp
        go_wp2_with fail
        refine (spec_enough _ _ n cs x (mn s x) d hn ho.row true (iff_of_true rfl HP.out)).mono ?_; rintro e wb ⟨rfl, hb⟩
        clear ho
        replace HX := Lib.hid (HX.out.step hb)
        replace HB := Lib.hid (below_step HB.out hb)
        clear hb
        go_wp2
        go_roundg (x - l).toNat
        case rel => exact ⟨l, x, rfl, rfl, k1, k2, hmx, by omega, rfl, HX.out, HB.out⟩
        case measure => omega
      · have hmx := HM.out.lt UP.out (by omega) hp
        have HP := Lib.hid hp
        clear hp
        go_wp2_with fail
        refine (spec_enough _ _ n cs x (mn s x) d hn ho.row false (iff_of_false Bool.false_ne_true HP.out)).mono ?_; rintro e wb ⟨rfl, hb⟩
        clear ho
        replace HX := Lib.hid (HX.out.step hb)
        replace HB := Lib.hid (below_step HB.out hb)
        clear hb
        go_wp2
        go_roundg (h - (x + 1)).toNat
        case rel => exact ⟨x + 1, h, rfl, rfl, by omega, by omega, k3, k4, rfl, HX.out, HB.out⟩
        case measure => omega
    · obtain rfl : l = m := by omega
      go_wp2
      go_ret
      exact ⟨rfl, HB.out⟩
set_option maxHeartbeats 1000000 in
theorem spec_leastRoom_none (w : World) (v : Value) (n : Nat) (cs : List Int) (r s d : Int) (hr : Row 1 w v n (IV cs)) (ok : YOk r s d n cs) (hno : ¬ EnR s d n cs 100000) :
    Calls Try.prog 42 #[Yv r s v d] w (Gives w (.int .i64 (-1))) := by
  obtain ⟨a, ca, rfl⟩ := hr.shape
  have hn : n ≤ 1048576 := by have := ok.2.2.1.2; omega
  have HX := Lib.hid (Blk.new w TY #[.int .i64 r, .int .i64 s, .slice a n ca, .int .i64 d])
  have HB := Lib.hid (below_al (Below.refl _ _) (.cells #[.int .i64 r, .int .i64 s, .slice a n ca, .int .i64 d] TY) : Below w.heap.size w _)
  have HR := Lib.hid hr
  have OK := Lib.hid ok
  have HN := Lib.hid hno
  clear hr ok hno
  go_enter Try.func42, Try.ntmps42
  obtain ⟨p0, p1, p2, p3⟩ := blk4 HX.out
  go_wp2_with fail
  refine (spec_withRoom_yes _ _ n cs r s d 100000 hn (HR.out.keep HB.out) OK.out (by omega) (by omega)).mono ?_; rintro e wa ⟨u, lo, hi, rfl, ⟨ho, _⟩, hb⟩
  clear p0 p1 p2 p3
  replace HX := Lib.hid (HX.out.step hb)
  replace HB := Lib.hid (below_step HB.out hb)
  clear hb
  go_wp2_with fail
  refine (spec_enough _ _ n cs 100000 (mn s 100000) d hn ho.row false (iff_of_false Bool.false_ne_true HN.out)).mono ?_; rintro e wb ⟨rfl, hb⟩
  clear ho
  replace HX := Lib.hid (HX.out.step hb)
  replace HB := Lib.hid (below_step HB.out hb)
  clear hb
  go_wp2
  go_ret
  exact ⟨rfl, HB.out⟩
theorem spec_leastRoom_no (w : World) (v : Value) (n : Nat) (cs : List Int) (r s d : Int) (hn : n ≤ 1048576) (hr : Row 1 w v n (IV cs)) (no : ¬ YOk r s d n cs) : Calls Try.prog 42 #[Yv r s v d] w (Gives w (.int .i64 (-1))) := by
  obtain ⟨a, ca, rfl⟩ := hr.shape
  have HX := Lib.hid (Blk.new w TY #[.int .i64 r, .int .i64 s, .slice a n ca, .int .i64 d])
  have HB := Lib.hid (below_al (Below.refl _ _) (.cells #[.int .i64 r, .int .i64 s, .slice a n ca, .int .i64 d] TY) : Below w.heap.size w _)
  have HR := Lib.hid hr
  have NO := Lib.hid no
  clear no hr
  go_enter Try.func42, Try.ntmps42
  go_wp2_with fail
  refine (spec_withRoom_no _ _ n cs r s d 100000 hn (HR.out.keep HB.out) NO.out).mono ?_; rintro e wa ⟨u, lo, hi, rfl, ⟨ho, _⟩, hb⟩
  replace HX := Lib.hid (HX.out.step hb)
  replace HB := Lib.hid (below_step HB.out hb)
  clear hb
  go_wp2_with fail
  refine (spec_enough _ _ n cs r s d hn ho.row false (iff_of_false Bool.false_ne_true fun h => NO.out h.1)).mono ?_; rintro e wb ⟨rfl, hb⟩
  clear ho
  replace HX := Lib.hid (HX.out.step hb)
  replace HB := Lib.hid (below_step HB.out hb)
  clear hb
  go_wp2
  go_ret
  exact ⟨rfl, HB.out⟩
set_option maxHeartbeats 1000000 in
theorem spec_mostNeed (w : World) (v : Value) (n : Nat) (cs : List Int) (r s d : Int) (hr : Row 1 w v n (IV cs)) (ok : YOk r s d n cs) (m : Int) (hm : Most (fun x => En r s x n cs) 0 1000000 m) :
    Calls Try.prog 43 #[Yv r s v d] w (Gives w (.int .i64 m)) := by
  obtain ⟨a, ca, rfl⟩ := hr.shape
  have hn : n ≤ 1048576 := by have := ok.2.2.1.2; omega
  have HX := Lib.hid (Blk.new w TY #[.int .i64 r, .int .i64 s, .slice a n ca, .int .i64 d])
  have HB := Lib.hid (below_al (Below.refl _ _) (.cells #[.int .i64 r, .int .i64 s, .slice a n ca, .int .i64 d] TY) : Below w.heap.size w _)
  have HR := Lib.hid hr
  have OK := Lib.hid ok
  have m1 := hm.1
  have m2 := hm.2.1
  have HM := Lib.hid hm
  have DN := Lib.hid (fun (a b : Int) (h1 : 0 ≤ a) (h2 : a ≤ b) (h3 : b ≤ 1000000) => need_down ok a b h1 h2 h3)
  clear hr ok hm
  go_enter Try.func43, Try.ntmps43
  go_wp2_with fail
  refine (spec_yok_yes _ _ n cs r s d (HR.out.keep HB.out) OK.out).mono ?_; rintro e w1 ⟨rfl, hb⟩
  replace HX := Lib.hid (HX.out.step hb)
  replace HB := Lib.hid (below_step HB.out hb)
  clear hb
  go_wp2
  go_loopg [3, 4, 5] 1000000 (fun g x y _ wr => ∃ l h, x = .int .i64 l ∧ y = .int .i64 h ∧ 0 ≤ l ∧ l ≤ m ∧ m ≤ h ∧ h ≤ 1000000 ∧ (h - l).toNat = g ∧ Blk wr w.heap.size TY #[.int .i64 r, .int .i64 s, .slice a n ca, .int .i64 d] ∧ Below w.heap.size w wr)
  case atStart => exact ⟨0, 1000000, rfl, rfl, Int.le_refl _, m1, m2, Int.le_refl _, by omega, HX.out, HB.out⟩
  case round =>
    clear HX HB
    obtain ⟨l, h, rfl, rfl, k1, k2, k3, k4, hg, hX, hB⟩ := hrel
    have HX := Lib.hid hX
    have HB := Lib.hid hB
    clear hX hB
    by_cases hlt : l < h
    · obtain ⟨x, hx⟩ : ∃ x, (l + h + 1) / 2 = x := ⟨_, rfl⟩
      have e2 : (l + h + 1).tdiv 2 = x := by rw [Int.tdiv_eq_ediv_of_nonneg (by omega)]; exact hx
      have x1 : l < x := by omega
      have x2 : x ≤ h := by omega
      clear hx
      obtain ⟨p0, p1, p2, p3⟩ := blk4 HX.out
      go_wp2_with fail
      refine (spec_withNeed _ _ n cs r s d x hn (HR.out.keep HB.out)).mono ?_; rintro e wa ⟨u, lo, hi, rfl, ⟨ho, _⟩, hb⟩
      clear p0 p1 p2 p3
      replace HX := Lib.hid (HX.out.step hb)
      replace HB := Lib.hid (below_step HB.out hb)
      clear hb
      by_cases hp : En r s x n cs
      · have hmx := HM.out.ge (by omega) hp
        have HP := Lib.hid hp
        clear hp
        go_wp2_with fail
        refine (spec_enough _ _ n cs r s x hn ho.row true (iff_of_true rfl HP.out)).mono ?_; rintro e wb ⟨rfl, hb⟩
        clear ho
        replace HX := Lib.hid (HX.out.step hb)
        replace HB := Lib.hid (below_step HB.out hb)
        clear hb
        go_wp2
        go_roundg (h - x).toNat
        case rel => exact ⟨x, h, rfl, rfl, by omega, hmx, k3, k4, rfl, HX.out, HB.out⟩
        case measure => omega
      · have hmx := HM.out.gt DN.out (by omega) hp
        have HP := Lib.hid hp
        clear hp
        go_wp2_with fail
        refine (spec_enough _ _ n cs r s x hn ho.row false (iff_of_false Bool.false_ne_true HP.out)).mono ?_; rintro e wb ⟨rfl, hb⟩
        clear ho
        replace HX := Lib.hid (HX.out.step hb)
        replace HB := Lib.hid (below_step HB.out hb)
        clear hb
        go_wp2
        go_roundg (x - 1 - l).toNat
        case rel => exact ⟨l, x - 1, rfl, rfl, k1, k2, by omega, by omega, rfl, HX.out, HB.out⟩
        case measure => omega
    · obtain rfl : l = m := by omega
      go_wp2
      go_ret
      exact ⟨rfl, HB.out⟩
theorem spec_mostNeed_no (w : World) (v : Value) (n : Nat) (cs : List Int) (r s d : Int) (hn : n ≤ 1048576) (hr : Row 1 w v n (IV cs)) (no : ¬ YOk r s d n cs) : Calls Try.prog 43 #[Yv r s v d] w (Gives w (.int .i64 (-1))) := by
  obtain ⟨a, ca, rfl⟩ := hr.shape
  have B0 : Below w.heap.size w (w.alloc (.cells #[.int .i64 r, .int .i64 s, .slice a n ca, .int .i64 d] TY)) := below_al (Below.refl _ _) _
  have HR := Lib.hid hr
  have HB := Lib.hid B0
  have NO := Lib.hid no
  clear no hr B0
  go_enter Try.func43, Try.ntmps43
  go_wp2_with fail
  refine (spec_yok_no _ _ n cs r s d hn (HR.out.keep HB.out) NO.out).mono ?_; rintro e w1 ⟨rfl, hb⟩
  replace HB := Lib.hid (below_step HB.out hb)
  clear hb
  go_wp2
  go_ret
  exact ⟨rfl, HB.out⟩
set_option maxHeartbeats 1000000 in
theorem spec_leastStart (w : World) (v : Value) (n : Nat) (cs : List Int) (r s d : Int) (hr : Row 1 w v n (IV cs)) (ok : YOk r s d n cs) (m : Int) (hm : Least (fun x => En r x d n cs) 0 r m) :
    Calls Try.prog 44 #[Yv r s v d] w (Gives w (.int .i64 m)) := by
  obtain ⟨a, ca, rfl⟩ := hr.shape
  have hn : n ≤ 1048576 := by have := ok.2.2.1.2; omega
  obtain ⟨r1, r2⟩ := ok.1
  have HX := Lib.hid (Blk.new w TY #[.int .i64 r, .int .i64 s, .slice a n ca, .int .i64 d])
  have HB := Lib.hid (below_al (Below.refl _ _) (.cells #[.int .i64 r, .int .i64 s, .slice a n ca, .int .i64 d] TY) : Below w.heap.size w _)
  have HR := Lib.hid hr
  have OK := Lib.hid ok
  have m1 := hm.1
  have m2 := hm.2.1
  have HT := Lib.hid (start_up ok m r hm.1 hm.2.1 (Int.le_refl _) hm.2.2.1)
  have HM := Lib.hid hm
  have UP := Lib.hid (fun (a b : Int) (h1 : 0 ≤ a) (h2 : a ≤ b) (h3 : b ≤ r) => start_up ok a b h1 h2 h3)
  clear hr ok hm
  go_enter Try.func44, Try.ntmps44
  go_wp2_with fail
  refine (spec_yok_yes _ _ n cs r s d (HR.out.keep HB.out) OK.out).mono ?_; rintro e w1 ⟨rfl, hb⟩
  replace HX := Lib.hid (HX.out.step hb)
  replace HB := Lib.hid (below_step HB.out hb)
  clear hb
  obtain ⟨p0, p1, p2, p3⟩ := blk4 HX.out
  go_wp2_with fail
  refine (spec_withStart _ _ n cs r s d r hn (HR.out.keep HB.out)).mono ?_; rintro e wa ⟨u, lo, hi, rfl, ⟨ho, _⟩, hb⟩
  clear p0 p1 p2 p3
  replace HX := Lib.hid (HX.out.step hb)
  replace HB := Lib.hid (below_step HB.out hb)
  clear hb
  go_wp2_with fail
  refine (spec_enough _ _ n cs r r d hn ho.row true (iff_of_true rfl HT.out)).mono ?_; rintro e wb ⟨rfl, hb⟩
  clear ho
  replace HX := Lib.hid (HX.out.step hb)
  replace HB := Lib.hid (below_step HB.out hb)
  clear hb
  obtain ⟨p0, p1, p2, p3⟩ := blk4 HX.out
  go_wp2
  go_loopg [3, 4, 5] r.toNat (fun g x y _ wr => ∃ l h, x = .int .i64 l ∧ y = .int .i64 h ∧ 0 ≤ l ∧ l ≤ m ∧ m ≤ h ∧ h ≤ r ∧ (h - l).toNat = g ∧ Blk wr w.heap.size TY #[.int .i64 r, .int .i64 s, .slice a n ca, .int .i64 d] ∧ Below w.heap.size w wr)
  case atStart => exact ⟨0, r, rfl, rfl, Int.le_refl _, m1, m2, Int.le_refl _, by omega, HX.out, HB.out⟩
  case round =>
    clear HX HB
    obtain ⟨l, h, rfl, rfl, k1, k2, k3, k4, hg, hX, hB⟩ := hrel
    have HX := Lib.hid hX
    have HB := Lib.hid hB
    clear hX hB
    by_cases hlt : l < h
    · obtain ⟨x, hx⟩ : ∃ x, (l + h) / 2 = x := ⟨_, rfl⟩
      have e2 : (l + h).tdiv 2 = x := by rw [Int.tdiv_eq_ediv_of_nonneg (by omega)]; exact hx
      have x1 : l ≤ x := by omega
      have x2 : x < h := by omega
      clear hx
      obtain ⟨p0, p1, p2, p3⟩ := blk4 HX.out
      go_wp2_with fail
      refine (spec_withStart _ _ n cs r s d x hn (HR.out.keep HB.out)).mono ?_; rintro e wa ⟨u, lo, hi, rfl, ⟨ho, _⟩, hb⟩
      clear p0 p1 p2 p3
      replace HX := Lib.hid (HX.out.step hb)
      replace HB := Lib.hid (below_step HB.out hb)
      clear hb
      by_cases hp : En r x d n cs
      · have hmx := HM.out.le (by omega) hp
        have HP := Lib.hid hp
        clear hp
        go_wp2_with fail
        refine (spec_enough _ _ n cs r x d hn ho.row true (iff_of_true rfl HP.out)).mono ?_; rintro e wb ⟨rfl, hb⟩
        clear ho
        replace HX := Lib.hid (HX.out.step hb)
        replace HB := Lib.hid (below_step HB.out hb)
        clear hb
        go_wp2
        go_roundg (x - l).toNat
        case rel => exact ⟨l, x, rfl, rfl, k1, k2, hmx, by omega, rfl, HX.out, HB.out⟩
        case measure => omega
      · have hmx := HM.out.lt UP.out (by omega) hp
        have HP := Lib.hid hp
        clear hp
        go_wp2_with fail
        refine (spec_enough _ _ n cs r x d hn ho.row false (iff_of_false Bool.false_ne_true HP.out)).mono ?_; rintro e wb ⟨rfl, hb⟩
        clear ho
        replace HX := Lib.hid (HX.out.step hb)
        replace HB := Lib.hid (below_step HB.out hb)
        clear hb
        go_wp2
        go_roundg (h - (x + 1)).toNat
        case rel => exact ⟨x + 1, h, rfl, rfl, by omega, by omega, k3, k4, rfl, HX.out, HB.out⟩
        case measure => omega
    · obtain rfl : l = m := by omega
      go_wp2
      go_ret
      exact ⟨rfl, HB.out⟩
set_option maxHeartbeats 1000000 in
theorem spec_leastStart_none (w : World) (v : Value) (n : Nat) (cs : List Int) (r s d : Int) (hr : Row 1 w v n (IV cs)) (ok : YOk r s d n cs) (hno : ¬ En r r d n cs) :
    Calls Try.prog 44 #[Yv r s v d] w (Gives w (.int .i64 (-1))) := by
  obtain ⟨a, ca, rfl⟩ := hr.shape
  have hn : n ≤ 1048576 := by have := ok.2.2.1.2; omega
  have HX := Lib.hid (Blk.new w TY #[.int .i64 r, .int .i64 s, .slice a n ca, .int .i64 d])
  have HB := Lib.hid (below_al (Below.refl _ _) (.cells #[.int .i64 r, .int .i64 s, .slice a n ca, .int .i64 d] TY) : Below w.heap.size w _)
  have HR := Lib.hid hr
  have OK := Lib.hid ok
  have HN := Lib.hid hno
  clear hr ok hno
  go_enter Try.func44, Try.ntmps44
  go_wp2_with fail
  refine (spec_yok_yes _ _ n cs r s d (HR.out.keep HB.out) OK.out).mono ?_; rintro e w1 ⟨rfl, hb⟩
  replace HX := Lib.hid (HX.out.step hb)
  replace HB := Lib.hid (below_step HB.out hb)
  clear hb
  obtain ⟨p0, p1, p2, p3⟩ := blk4 HX.out
  go_wp2_with fail
  refine (spec_withStart _ _ n cs r s d r hn (HR.out.keep HB.out)).mono ?_; rintro e wa ⟨u, lo, hi, rfl, ⟨ho, _⟩, hb⟩
  clear p0 p1 p2 p3
  replace HX := Lib.hid (HX.out.step hb)
  replace HB := Lib.hid (below_step HB.out hb)
  clear hb
  go_wp2_with fail
  refine (spec_enough _ _ n cs r r d hn ho.row false (iff_of_false Bool.false_ne_true HN.out)).mono ?_; rintro e wb ⟨rfl, hb⟩
  clear ho
  replace HX := Lib.hid (HX.out.step hb)
  replace HB := Lib.hid (below_step HB.out hb)
  clear hb
  go_wp2
  go_ret
  exact ⟨rfl, HB.out⟩
theorem spec_leastStart_no (w : World) (v : Value) (n : Nat) (cs : List Int) (r s d : Int) (hn : n ≤ 1048576) (hr : Row 1 w v n (IV cs)) (no : ¬ YOk r s d n cs) : Calls Try.prog 44 #[Yv r s v d] w (Gives w (.int .i64 (-1))) := by
  obtain ⟨a, ca, rfl⟩ := hr.shape
  have B0 : Below w.heap.size w (w.alloc (.cells #[.int .i64 r, .int .i64 s, .slice a n ca, .int .i64 d] TY)) := below_al (Below.refl _ _) _
  have HR := Lib.hid hr
  have HB := Lib.hid B0
  have NO := Lib.hid no
  clear no hr B0
  go_enter Try.func44, Try.ntmps44
  go_wp2_with fail
  refine (spec_yok_no _ _ n cs r s d hn (HR.out.keep HB.out) NO.out).mono ?_; rintro e w1 ⟨rfl, hb⟩
  replace HB := Lib.hid (below_step HB.out hb)
  clear hb
  go_wp2
  go_ret
  exact ⟨rfl, HB.out⟩
end Go.Proofs.Ytojahddamdlcpaa.sz
