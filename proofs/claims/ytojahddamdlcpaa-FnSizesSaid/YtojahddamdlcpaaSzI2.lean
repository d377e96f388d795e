/- How large a cistern must be: the average of both sides, and the program's WithRoom. -/
import Derived.Test.YtojahddamdlcpaaSzI
import Derived.Test.YtojahddamdlcpaaSzS
namespace Go.Proofs.Ytojahddamdlcpaa.sz
open Go.RowKit Go.Proofs.Ytojahddamdlcpaa.kit Go.Proofs.Ytojahddamdlcpaa.lawi Go.Proofs.Ytojahddamdlcpaa.own Go.Proofs.Ytojahddamdlcpaa.rainl Go.Proofs.Ytojahddamdlcpaa.rain Go.Proofs.Ytojahddamdlcpaa.cis Go.Proofs.Ytojahddamdlcpaa.chl Go.Proofs.Ytojahddamdlcpaa.yrl Go.Proofs.Ytojahddamdlcpaa.yr Go.Proofs.Ytojahddamdlcpaa.szl Go.Proofs.Ytojahddamdlcpaa.cpy
theorem impl_sum2 (w : World) (v : Value) (m : Nat) (zs : List Int) (hm : m ≤ 400) (hr : Row 1 w v m (IV zs)) (hz : ∀ j, j < m → 0 ≤ zs.getD j 0 ∧ zs.getD j 0 ≤ 1000000) :
    Calls Try.prog 51 #[v] w fun e w' => e = .returned (.int .i64 (sm (fun j => zs.getD j 0) m)) ∧ w = w' := by
  obtain ⟨a, ca, rfl⟩ := hr.shape
  have hl : zs.length = m := by simpa using hr.1
  have HR := Lib.hid hr
  have HZ := Lib.hid hz
  clear hr hz
  go_enter Try.func51, Try.ntmps51
  go_wp2
  go_loop [3, 8] (fun t i => ∃ k : Nat, k ≤ m ∧ i = .int .i64 k ∧ t = .int .i64 (sm (fun j => zs.getD j 0) k)) (fun _ i => m - (intOf i).toNat)
  case atStart => exact ⟨0, Nat.zero_le _, rfl, rfl⟩
  case round =>
    obtain ⟨k, hk, rfl, rfl⟩ := hrel
    by_cases hlt : k < m
    · obtain ⟨b1, o1, rfl, h1⟩ := HR.out.at_ (by omega)
      obtain ⟨z, hz⟩ : ∃ z, zs.getD k 0 = z := ⟨_, rfl⟩
      have g1 := h1 k _ (getI (by omega))
      rw [hz] at g1
      obtain ⟨S, hS⟩ : ∃ S, sm (fun j => zs.getD j 0) k = S := ⟨_, rfl⟩
      have hb1 := sm_bd (f := fun j => zs.getD j 0) (a := 0) (b := 1000000) k (fun i hi => HZ.out i (by omega))
      have hb2 := HZ.out k hlt
      rw [hS] at hb1
      rw [hz] at hb2
      obtain ⟨c1, c2⟩ := hb2
      have c3 : 0 ≤ S ∧ S ≤ 400000000 := by omega
      obtain ⟨c3, c4⟩ := c3
      have HS := Lib.hid (show sm (fun j => zs.getD j 0) (k + 1) = S + z by rw [sm, hS, hz])
      rw [hS]
      clear hS hz hb1 h1
      go_wp2
      go_round
      case rel => exact ⟨k + 1, by omega, by go_num, by rw [HS.out]⟩
      case measure => simp [intOf]; omega
    · obtain rfl : k = m := by omega
      go_wp2
      go_ret
      exact ⟨rfl, rfl⟩
theorem impl_average (w : World) (v : Value) (n : Nat) (cs : List Int) (r s d : Int) (hr : Row 1 w v n (IV cs)) (ok : YOk r s d n cs) (q : Int) (hq : q = sm (fun j => cs.getD j 0) n / n) :
    Calls Try.prog 31 #[Yv r s v d] w (Gives w (.int .i64 q)) := by
  obtain ⟨a, ca, rfl⟩ := hr.shape
  have HX := Lib.hid (Blk.new w TY #[.int .i64 r, .int .i64 s, .slice a n ca, .int .i64 d])
  have HB := Lib.hid (below_al (Below.refl _ _) (.cells #[.int .i64 r, .int .i64 s, .slice a n ca, .int .i64 d] TY) : Below w.heap.size w _)
  have HR := Lib.hid hr
  have OK := Lib.hid ok
  obtain ⟨n1, n2⟩ := ok.2.2.1
  have hc : ∀ j, j < n → 0 ≤ cs.getD j 0 ∧ cs.getD j 0 ≤ 1000000 := fun j hj => by have := ok.2.2.2.2 j hj; omega
  have hb1 := sm_bd (f := fun j => cs.getD j 0) (a := 0) (b := 1000000) n hc
  obtain ⟨S, hS⟩ : ∃ S, sm (fun j => cs.getD j 0) n = S := ⟨_, rfl⟩
  rw [hS] at hb1 hq
  obtain ⟨s0, s1⟩ : 0 ≤ S ∧ S ≤ 400000000 := by omega
  have e2 : S.tdiv n = q := by rw [Int.tdiv_eq_ediv_of_nonneg (by omega)]; exact hq.symm
  have e3 : S / n = q := hq.symm
  have q0 : 0 ≤ q := by rw [hq]; exact Int.ediv_nonneg (by omega) (by omega)
  have q1 : q ≤ 1000000 := by rw [hq]; exact Int.ediv_le_of_le_mul (by omega) (by omega)
  have n0 : ¬ n = 0 := by omega
  have n3 : (1 : Int) ≤ n := by omega
  have HS := Lib.hid hS
  have HC := Lib.hid hc
  clear hr ok hc hS hq hb1
  go_enter Try.func31, Try.ntmps31
  go_wp2_with fail
  refine (impl_yok_yes _ _ n cs r s d (HR.out.keep HB.out) OK.out).mono ?_; rintro e w1 ⟨rfl, hb⟩
  replace HX := Lib.hid (HX.out.step hb)
  replace HB := Lib.hid (below_step HB.out hb)
  clear hb
  obtain ⟨p0, p1, p2, p3⟩ := blk4 HX.out
  have hsum : ∀ k, Calls Try.prog 51 #[.slice a n ca] (w1.drewN k) fun e w' => e = .returned (.int .i64 S) ∧ (w1.drewN k) = w' := fun k => by
    have h := impl_sum2 (w1.drewN k) _ n cs n2 (HR.out.keep (below_drN HB.out k)) HC.out
    rwa [HS.out] at h
  have HH := Lib.hid hsum
  clear hsum
  go_wp2
  go_quiet ((go_at_call 51; refine Calls.quiet_of_same ((HH.out _).mono fun _ _ ⟨h1, h2⟩ => ⟨h1, h2.symm⟩)))
  go_wp2
  go_ret
  exact ⟨rfl, below_drN HB.out _⟩
theorem spec_average (w : World) (v : Value) (n : Nat) (cs : List Int) (r s d : Int) (hr : Row 1 w v n (IV cs)) (ok : YOk r s d n cs) (q : Int) (hq : q = sm (fun j => cs.getD j 0) n / n) :
    Calls Try.prog 45 #[Yv r s v d] w (Gives w (.int .i64 q)) := by
  obtain ⟨a, ca, rfl⟩ := hr.shape
  have HX := Lib.hid (Blk.new w TY #[.int .i64 r, .int .i64 s, .slice a n ca, .int .i64 d])
  have HB := Lib.hid (below_al (Below.refl _ _) (.cells #[.int .i64 r, .int .i64 s, .slice a n ca, .int .i64 d] TY) : Below w.heap.size w _)
  have HR := Lib.hid hr
  have OK := Lib.hid ok
  obtain ⟨n1, n2⟩ := ok.2.2.1
  have hc : ∀ j, j < n → 0 ≤ cs.getD j 0 ∧ cs.getD j 0 ≤ 1000000 := fun j hj => by have := ok.2.2.2.2 j hj; omega
  have hb1 := sm_bd (f := fun j => cs.getD j 0) (a := 0) (b := 1000000) n hc
  obtain ⟨S, hS⟩ : ∃ S, sm (fun j => cs.getD j 0) n = S := ⟨_, rfl⟩
  rw [hS] at hb1 hq
  obtain ⟨s0, s1⟩ : 0 ≤ S ∧ S ≤ 400000000 := by omega
  have e2 : S.tdiv n = q := by rw [Int.tdiv_eq_ediv_of_nonneg (by omega)]; exact hq.symm
  have e3 : S / n = q := hq.symm
  have q0 : 0 ≤ q := by rw [hq]; exact Int.ediv_nonneg (by omega) (by omega)
  have q1 : q ≤ 1000000 := by rw [hq]; exact Int.ediv_le_of_le_mul (by omega) (by omega)
  have n0 : ¬ n = 0 := by omega
  have n3 : (1 : Int) ≤ n := by omega
  have HS := Lib.hid hS
  have HC := Lib.hid hc
  clear hr ok hc hS hq hb1
  go_enter Try.func45, Try.ntmps45
  go_wp2_with fail
  refine (spec_yok_yes _ _ n cs r s d (HR.out.keep HB.out) OK.out).mono ?_; rintro e w1 ⟨rfl, hb⟩
  replace HX := Lib.hid (HX.out.step hb)
  replace HB := Lib.hid (below_step HB.out hb)
  clear hb
  obtain ⟨p0, p1, p2, p3⟩ := blk4 HX.out
  have hsum : ∀ k, Calls Try.prog 71 #[.slice a n ca] (w1.drewN k) fun e w' => e = .returned (.int .i64 S) ∧ (w1.drewN k) = w' := fun k => by
    have h := spec_sum (w1.drewN k) _ n cs n2 (HR.out.keep (below_drN HB.out k)) HC.out
    rwa [HS.out] at h
  have HH := Lib.hid hsum
  clear hsum
  go_wp2
  go_quiet ((go_at_call 71; refine Calls.quiet_of_same ((HH.out _).mono fun _ _ ⟨h1, h2⟩ => ⟨h1, h2.symm⟩)))
  go_wp2
  go_ret
  exact ⟨rfl, below_drN HB.out _⟩
theorem spec_average_no (w : World) (v : Value) (n : Nat) (cs : List Int) (r s d : Int) (hn : n ≤ 1048576) (hr : Row 1 w v n (IV cs)) (no : ¬ YOk r s d n cs) : Calls Try.prog 45 #[Yv r s v d] w (Gives w (.int .i64 (-1))) := by
  obtain ⟨a, ca, rfl⟩ := hr.shape
  have B0 : Below w.heap.size w (w.alloc (.cells #[.int .i64 r, .int .i64 s, .slice a n ca, .int .i64 d] TY)) := below_al (Below.refl _ _) _
  have HR := Lib.hid hr
  have HB := Lib.hid B0
  have NO := Lib.hid no
  clear no hr B0
  go_enter Try.func45, Try.ntmps45
  go_wp2_with fail
  refine (spec_yok_no _ _ n cs r s d hn (HR.out.keep HB.out) NO.out).mono ?_; rintro e w1 ⟨rfl, hb⟩
  replace HB := Lib.hid (below_step HB.out hb)
  clear hb
  go_wp2
  go_ret
  exact ⟨rfl, HB.out⟩
theorem impl_WithRoom_no (w : World) (v : Value) (n : Nat) (cs : List Int) (r s d x : Int) (hn : n ≤ 1048576) (hr : Row 1 w v n (IV cs)) (no : ¬ YOk r s d n cs) :
    Calls Try.prog 30 #[Yv r s v d, .int .i64 x] w (stYear.Got w r s d n cs id) := by
  obtain ⟨a, ca, rfl⟩ := hr.shape
  have B0 : Below w.heap.size w ((w.alloc (.cells #[.int .i64 r, .int .i64 s, .slice a n ca, .int .i64 d] TY)).alloc (.cells #[.int .i64 0, .int .i64 0, .slice none 0 0, .int .i64 0] TY)) := below_al (below_al (Below.refl _ _) _) _
  have z0 : ((w.alloc (.cells #[.int .i64 r, .int .i64 s, .slice a n ca, .int .i64 d] TY)).alloc (.cells #[.int .i64 0, .int .i64 0, .slice none 0 0, .int .i64 0] TY)).heap.size = w.heap.size + 2 := by simp
  have HX := Lib.hid (Blk.new1 w TY #[.int .i64 0, .int .i64 0, .slice none 0 0, .int .i64 0] (.cells #[.int .i64 r, .int .i64 s, .slice a n ca, .int .i64 d] TY))
  have HY := Lib.hid ((Blk.new w TY #[.int .i64 r, .int .i64 s, .slice a n ca, .int .i64 d]).alloc (.cells #[.int .i64 0, .int .i64 0, .slice none 0 0, .int .i64 0] TY))
  have HR := Lib.hid hr
  have HB := Lib.hid B0
  have HZ := Lib.hid z0
  have NO := Lib.hid no
  clear no
  clear hr B0 z0
  go_enter Try.func30, Try.ntmps30
  go_wp2_with fail
  refine (clone_int _ _ n cs hn (HR.out.keep HB.out)).mono ?_; rintro e w1 ⟨u, rfl, ho, hb⟩
  obtain ⟨au, cu, rfl⟩ := own_shape ho
  rw [HZ.out] at ho
  have z1 := hb.size
  rw [HZ.out] at z1
  have hX := HX.out.step hb
  have hY := HY.out.step hb
  have hB := below_step HB.out hb
  obtain ⟨y0, y1, y2, y3⟩ := blk4 hY
  obtain ⟨g0, g1, g2, g3⟩ := stYear.fz4 hY
  have hX2 : Blk (w1.setCell ⟨w.heap.size, 2, none⟩ (.slice au n cu)) (w.heap.size + 1) TY #[.int .i64 0, .int .i64 0, .slice none 0 0, .int .i64 0] := hX.far (by simp) _
  have hY2 : Blk (w1.setCell ⟨w.heap.size, 2, none⟩ (.slice au n cu)) w.heap.size TY #[.int .i64 r, .int .i64 s, .slice au n cu, .int .i64 d] := by simpa using hY.set_ 2 (.slice au n cu)
  have hB2 : Below w.heap.size w (w1.setCell ⟨w.heap.size, 2, none⟩ (.slice au n cu)) := hB.setCell (Nat.le_refl _) _
  have hO2 : OwnR (w1.setCell ⟨w.heap.size, 2, none⟩ (.slice au n cu)) (w.heap.size + 2) w1.heap.size 3 1 (.slice au n cu) n (IV cs) := (OwnR.of_own ho).chg (lo' := w.heap.size) (hi' := w.heap.size + 1) (Chg.set _ _ _ (Nat.le_refl _) (by omega)) (.inr (by omega))
  replace HX := Lib.hid hX2
  replace HY := Lib.hid hY2
  replace HB := Lib.hid hB2
  have HO := Lib.hid hO2
  have zz : (w1.setCell ⟨w.heap.size, 2, none⟩ (.slice au n cu)).heap.size = w1.heap.size := by simp
  clear hX hY hB hX2 hY2 hB2 hO2 ho hb HZ
  go_wp2_with fail
  refine (impl_yok_no _ _ n cs r s d hn HO.out.row NO.out).mono ?_; rintro e w2 ⟨rfl, hb⟩
  have z2 := hb.size
  rw [zz] at z2
  replace HX := Lib.hid (HX.out.step hb)
  replace HY := Lib.hid (HY.out.step hb)
  replace HO := Lib.hid (HO.out.keep hb)
  replace HB := Lib.hid (below_step HB.out hb)
  clear hb zz y0 y1 y2 y3 g0 g1 g2 g3
  obtain ⟨y0, y1, y2, y3⟩ := blk4 HY.out
  obtain ⟨q0, q1, q2, q3⟩ := blk4 HX.out
  obtain ⟨f0, f1, f2, f3⟩ := stYear.fz4 HX.out
  clear HX HY
  go_wp2
  refine bodyPost_ret (v := Yv r s (.slice au n cu) d) (by simp [*, results, Try.results30, go_sem]) rfl ⟨_, w.heap.size + 2, w1.heap.size, rfl, ⟨HO.out.chg (lo' := w.heap.size + 1) (hi' := w.heap.size + 2) ?_ (.inr (by omega)), by omega⟩, ?_⟩
  · repeat (refine Chg.trans ?_ (Chg.set _ _ _ (by omega) (by omega)))
    exact Chg.refl
  · repeat (refine Below.setCell ?_ (by simp only []; omega) _)
    exact HB.out
theorem impl_WithRoom_out (w : World) (v : Value) (n : Nat) (cs : List Int) (r s d x : Int) (hn : n ≤ 1048576) (hr : Row 1 w v n (IV cs)) (ok : YOk r s d n cs) (h1 : ¬ (1 ≤ x ∧ x ≤ 1000000)) :
    Calls Try.prog 30 #[Yv r s v d, .int .i64 x] w (stYear.Got w r s d n cs id) := by
  obtain ⟨a, ca, rfl⟩ := hr.shape
  have B0 : Below w.heap.size w ((w.alloc (.cells #[.int .i64 r, .int .i64 s, .slice a n ca, .int .i64 d] TY)).alloc (.cells #[.int .i64 0, .int .i64 0, .slice none 0 0, .int .i64 0] TY)) := below_al (below_al (Below.refl _ _) _) _
  have z0 : ((w.alloc (.cells #[.int .i64 r, .int .i64 s, .slice a n ca, .int .i64 d] TY)).alloc (.cells #[.int .i64 0, .int .i64 0, .slice none 0 0, .int .i64 0] TY)).heap.size = w.heap.size + 2 := by simp
  have HX := Lib.hid (Blk.new1 w TY #[.int .i64 0, .int .i64 0, .slice none 0 0, .int .i64 0] (.cells #[.int .i64 r, .int .i64 s, .slice a n ca, .int .i64 d] TY))
  have HY := Lib.hid ((Blk.new w TY #[.int .i64 r, .int .i64 s, .slice a n ca, .int .i64 d]).alloc (.cells #[.int .i64 0, .int .i64 0, .slice none 0 0, .int .i64 0] TY))
  have HR := Lib.hid hr
  have HB := Lib.hid B0
  have HZ := Lib.hid z0
  have OK := Lib.hid ok
  have H1 := Lib.hid h1
  clear ok h1
  clear hr B0 z0
  go_enter Try.func30, Try.ntmps30
  go_wp2_with fail
  refine (clone_int _ _ n cs hn (HR.out.keep HB.out)).mono ?_; rintro e w1 ⟨u, rfl, ho, hb⟩
  obtain ⟨au, cu, rfl⟩ := own_shape ho
  rw [HZ.out] at ho
  have z1 := hb.size
  rw [HZ.out] at z1
  have hX := HX.out.step hb
  have hY := HY.out.step hb
  have hB := below_step HB.out hb
  obtain ⟨y0, y1, y2, y3⟩ := blk4 hY
  obtain ⟨g0, g1, g2, g3⟩ := stYear.fz4 hY
  have hX2 : Blk (w1.setCell ⟨w.heap.size, 2, none⟩ (.slice au n cu)) (w.heap.size + 1) TY #[.int .i64 0, .int .i64 0, .slice none 0 0, .int .i64 0] := hX.far (by simp) _
  have hY2 : Blk (w1.setCell ⟨w.heap.size, 2, none⟩ (.slice au n cu)) w.heap.size TY #[.int .i64 r, .int .i64 s, .slice au n cu, .int .i64 d] := by simpa using hY.set_ 2 (.slice au n cu)
  have hB2 : Below w.heap.size w (w1.setCell ⟨w.heap.size, 2, none⟩ (.slice au n cu)) := hB.setCell (Nat.le_refl _) _
  have hO2 : OwnR (w1.setCell ⟨w.heap.size, 2, none⟩ (.slice au n cu)) (w.heap.size + 2) w1.heap.size 3 1 (.slice au n cu) n (IV cs) := (OwnR.of_own ho).chg (lo' := w.heap.size) (hi' := w.heap.size + 1) (Chg.set _ _ _ (Nat.le_refl _) (by omega)) (.inr (by omega))
  replace HX := Lib.hid hX2
  replace HY := Lib.hid hY2
  replace HB := Lib.hid hB2
  have HO := Lib.hid hO2
  have zz : (w1.setCell ⟨w.heap.size, 2, none⟩ (.slice au n cu)).heap.size = w1.heap.size := by simp
  clear hX hY hB hX2 hY2 hB2 hO2 ho hb HZ
  go_wp2_with fail
  refine (impl_yok_yes _ _ n cs r s d HO.out.row OK.out).mono ?_; rintro e w2 ⟨rfl, hb⟩
  have z2 := hb.size
  rw [zz] at z2
  replace HX := Lib.hid (HX.out.step hb)
  replace HY := Lib.hid (HY.out.step hb)
  replace HO := Lib.hid (HO.out.keep hb)
  replace HB := Lib.hid (below_step HB.out hb)
  clear hb zz y0 y1 y2 y3 g0 g1 g2 g3
  go_wp2_with fail
  refine (inR_no _ _ _ _ H1.out).mono ?_; rintro e w3 ⟨rfl, rfl⟩
  obtain ⟨y0, y1, y2, y3⟩ := blk4 HY.out
  obtain ⟨q0, q1, q2, q3⟩ := blk4 HX.out
  obtain ⟨f0, f1, f2, f3⟩ := stYear.fz4 HX.out
  clear HX HY
  go_wp2
  refine bodyPost_ret (v := Yv r s (.slice au n cu) d) (by simp [*, results, Try.results30, go_sem]) rfl ⟨_, w.heap.size + 2, w1.heap.size, rfl, ⟨HO.out.chg (lo' := w.heap.size + 1) (hi' := w.heap.size + 2) ?_ (.inr (by omega)), by omega⟩, ?_⟩
  · repeat (refine Chg.trans ?_ (Chg.set _ _ _ (by omega) (by omega)))
    exact Chg.refl
  · repeat (refine Below.setCell ?_ (by simp only []; omega) _)
    exact HB.out
theorem impl_WithRoom_yes (w : World) (v : Value) (n : Nat) (cs : List Int) (r s d x : Int) (hn : n ≤ 1048576) (hr : Row 1 w v n (IV cs)) (ok : YOk r s d n cs) (h1 : 1 ≤ x) (h2 : x ≤ 1000000) :
    Calls Try.prog 30 #[Yv r s v d, .int .i64 x] w (stYear.Got w x (mn s x) d n cs id) := by
  obtain ⟨a, ca, rfl⟩ := hr.shape
  have B0 : Below w.heap.size w ((w.alloc (.cells #[.int .i64 r, .int .i64 s, .slice a n ca, .int .i64 d] TY)).alloc (.cells #[.int .i64 0, .int .i64 0, .slice none 0 0, .int .i64 0] TY)) := below_al (below_al (Below.refl _ _) _) _
  have z0 : ((w.alloc (.cells #[.int .i64 r, .int .i64 s, .slice a n ca, .int .i64 d] TY)).alloc (.cells #[.int .i64 0, .int .i64 0, .slice none 0 0, .int .i64 0] TY)).heap.size = w.heap.size + 2 := by simp
  have HX := Lib.hid (Blk.new1 w TY #[.int .i64 0, .int .i64 0, .slice none 0 0, .int .i64 0] (.cells #[.int .i64 r, .int .i64 s, .slice a n ca, .int .i64 d] TY))
  have HY := Lib.hid ((Blk.new w TY #[.int .i64 r, .int .i64 s, .slice a n ca, .int .i64 d]).alloc (.cells #[.int .i64 0, .int .i64 0, .slice none 0 0, .int .i64 0] TY))
  have HR := Lib.hid hr
  have HB := Lib.hid B0
  have HZ := Lib.hid z0
  have OK := Lib.hid ok
  clear ok
  clear hr B0 z0
  go_enter Try.func30, Try.ntmps30
  go_wp2_with fail
  refine (clone_int _ _ n cs hn (HR.out.keep HB.out)).mono ?_; rintro e w1 ⟨u, rfl, ho, hb⟩
  obtain ⟨au, cu, rfl⟩ := own_shape ho
  rw [HZ.out] at ho
  have z1 := hb.size
  rw [HZ.out] at z1
  have hX := HX.out.step hb
  have hY := HY.out.step hb
  have hB := below_step HB.out hb
  obtain ⟨y0, y1, y2, y3⟩ := blk4 hY
  obtain ⟨g0, g1, g2, g3⟩ := stYear.fz4 hY
  have hX2 : Blk (w1.setCell ⟨w.heap.size, 2, none⟩ (.slice au n cu)) (w.heap.size + 1) TY #[.int .i64 0, .int .i64 0, .slice none 0 0, .int .i64 0] := hX.far (by simp) _
  have hY2 : Blk (w1.setCell ⟨w.heap.size, 2, none⟩ (.slice au n cu)) w.heap.size TY #[.int .i64 r, .int .i64 s, .slice au n cu, .int .i64 d] := by simpa using hY.set_ 2 (.slice au n cu)
  have hB2 : Below w.heap.size w (w1.setCell ⟨w.heap.size, 2, none⟩ (.slice au n cu)) := hB.setCell (Nat.le_refl _) _
  have hO2 : OwnR (w1.setCell ⟨w.heap.size, 2, none⟩ (.slice au n cu)) (w.heap.size + 2) w1.heap.size 3 1 (.slice au n cu) n (IV cs) := (OwnR.of_own ho).chg (lo' := w.heap.size) (hi' := w.heap.size + 1) (Chg.set _ _ _ (Nat.le_refl _) (by omega)) (.inr (by omega))
  replace HX := Lib.hid hX2
  replace HY := Lib.hid hY2
  replace HB := Lib.hid hB2
  have HO := Lib.hid hO2
  have zz : (w1.setCell ⟨w.heap.size, 2, none⟩ (.slice au n cu)).heap.size = w1.heap.size := by simp
  clear hX hY hB hX2 hY2 hB2 hO2 ho hb HZ
  go_wp2_with fail
  refine (impl_yok_yes _ _ n cs r s d HO.out.row OK.out).mono ?_; rintro e w2 ⟨rfl, hb⟩
  have z2 := hb.size
  rw [zz] at z2
  replace HX := Lib.hid (HX.out.step hb)
  replace HY := Lib.hid (HY.out.step hb)
  replace HO := Lib.hid (HO.out.keep hb)
  replace HB := Lib.hid (below_step HB.out hb)
  clear hb zz y0 y1 y2 y3 g0 g1 g2 g3
  go_wp2_with fail
  refine (inR_yes _ _ _ _ h1 h2).mono ?_; rintro e w3 ⟨rfl, rfl⟩
  obtain ⟨y0, y1, y2, y3⟩ := blk4 HY.out
  go_wp2_with fail
  refine (impl_withRoom _ r s d x au n cu).mono ?_; rintro e w4 ⟨rfl, hb⟩
  clear y0 y1 y2 y3
  replace HX := Lib.hid (HX.out.step hb)
  replace HY := Lib.hid (HY.out.step hb)
  replace HO := Lib.hid (HO.out.keep hb)
  replace HB := Lib.hid (below_step HB.out hb)
  clear hb
  obtain ⟨q0, q1, q2, q3⟩ := blk4 HX.out
  obtain ⟨f0, f1, f2, f3⟩ := stYear.fz4 HX.out
  clear HX HY
  go_wp2
  refine bodyPost_ret (v := Yv x (mn s x) (.slice au n cu) d) (by simp [*, results, Try.results30, go_sem]) rfl ⟨_, w.heap.size + 2, w1.heap.size, rfl, ⟨HO.out.chg (lo' := w.heap.size + 1) (hi' := w.heap.size + 2) ?_ (.inr (by omega)), by omega⟩, ?_⟩
  · repeat (refine Chg.trans ?_ (Chg.set _ _ _ (by omega) (by omega)))
    exact Chg.refl
  · repeat (refine Below.setCell ?_ (by simp only []; omega) _)
    exact HB.out
end Go.Proofs.Ytojahddamdlcpaa.sz
