/- How large a cistern must be: the specification's years with another number, and its searches. -/
import Derived.Test.YtojahddamdlcpaaSzS
namespace Go.Proofs.Ytojahddamdlcpaa.sz
open Go.RowKit Go.Proofs.Ytojahddamdlcpaa.kit Go.Proofs.Ytojahddamdlcpaa.lawi Go.Proofs.Ytojahddamdlcpaa.own Go.Proofs.Ytojahddamdlcpaa.rainl Go.Proofs.Ytojahddamdlcpaa.rain Go.Proofs.Ytojahddamdlcpaa.cis Go.Proofs.Ytojahddamdlcpaa.chl Go.Proofs.Ytojahddamdlcpaa.yrl Go.Proofs.Ytojahddamdlcpaa.yr Go.Proofs.Ytojahddamdlcpaa.szl Go.Proofs.Ytojahddamdlcpaa.cpy
abbrev W2 (w : World) (r s d : Int) (v : Value) : World := (w.alloc (.cells #[.int .i64 r, .int .i64 s, v, .int .i64 d] TY)).alloc (.cells #[.int .i64 0, .int .i64 0, .slice none 0 0, .int .i64 0] TY)
theorem spec_withNeed (w : World) (v : Value) (n : Nat) (cs : List Int) (r s d x : Int) (hn : n ≤ 1048576) (hr : Row 1 w v n (IV cs)) :
    Calls Try.prog 69 #[Yv r s v d, .int .i64 x] w (stYear.Got w r s x n cs id) := by
  obtain ⟨a, ca, rfl⟩ := hr.shape
  have B0 : Below w.heap.size w (W2 w r s d (.slice a n ca)) := below_al (below_al (Below.refl _ _) _) _
  have z0 : (W2 w r s d (.slice a n ca)).heap.size = w.heap.size + 2 := by simp
  have XR : Blk (W2 w r s d (.slice a n ca)) (w.heap.size + 1) TY #[.int .i64 0, .int .i64 0, .slice none 0 0, .int .i64 0] := Blk.new1 w TY _ _
  have HR := Lib.hid hr
  have HB := Lib.hid B0
  have HZ := Lib.hid z0
  have HX := Lib.hid XR
  clear hr B0 z0 XR
  go_enter Try.func69, Try.ntmps69
  go_wp2_with fail
  refine (spec_copy _ _ n cs r s d hn (HR.out.keep HB.out)).mono ?_; rintro e w1 ⟨u, lo, hi, rfl, ⟨ho, hlo⟩, hb⟩
  obtain ⟨au, cu, rfl⟩ := own_shape ho.own
  have z1 := hb.size
  rw [HZ.out] at hlo z1
  have HO := Lib.hid (ho.keep (below_al (Below.refl _ _) (.cells #[.int .i64 r, .int .i64 s, .slice au n cu, .int .i64 x] TY)))
  have hi1 := ho.2.2
  have XR := (HX.out.step hb).alloc (.cells #[.int .i64 r, .int .i64 s, .slice au n cu, .int .i64 x] TY)
  replace HB := Lib.hid (below_al (below_step HB.out hb) (.cells #[.int .i64 r, .int .i64 s, .slice au n cu, .int .i64 x] TY))
  obtain ⟨q0, q1, q2, q3⟩ := blk4 XR
  obtain ⟨f0, f1, f2, f3⟩ := stYear.fz4 XR
  clear XR HX HZ hb ho
  go_wp2
  refine bodyPost_ret (v := Yv r s (.slice au n cu) x) (by simp [*, results, Try.results69, go_sem]) rfl ⟨_, lo, hi, rfl, ⟨HO.out.chg (lo' := w.heap.size + 1) (hi' := w.heap.size + 2) ?_ (.inr (by omega)), by omega⟩, ?_⟩
  · repeat (refine Chg.trans ?_ (Chg.set _ _ _ (by omega) (by omega)))
    exact Chg.refl
  · repeat (refine Below.setCell ?_ (by simp only []; omega) _)
    exact HB.out
theorem spec_withStart (w : World) (v : Value) (n : Nat) (cs : List Int) (r s d x : Int) (hn : n ≤ 1048576) (hr : Row 1 w v n (IV cs)) :
    Calls Try.prog 70 #[Yv r s v d, .int .i64 x] w (stYear.Got w r x d n cs id) := by
  obtain ⟨a, ca, rfl⟩ := hr.shape
  have B0 : Below w.heap.size w (W2 w r s d (.slice a n ca)) := below_al (below_al (Below.refl _ _) _) _
  have z0 : (W2 w r s d (.slice a n ca)).heap.size = w.heap.size + 2 := by simp
  have XR : Blk (W2 w r s d (.slice a n ca)) (w.heap.size + 1) TY #[.int .i64 0, .int .i64 0, .slice none 0 0, .int .i64 0] := Blk.new1 w TY _ _
  have HR := Lib.hid hr
  have HB := Lib.hid B0
  have HZ := Lib.hid z0
  have HX := Lib.hid XR
  clear hr B0 z0 XR
  go_enter Try.func70, Try.ntmps70
  go_wp2_with fail
  refine (spec_copy _ _ n cs r s d hn (HR.out.keep HB.out)).mono ?_; rintro e w1 ⟨u, lo, hi, rfl, ⟨ho, hlo⟩, hb⟩
  obtain ⟨au, cu, rfl⟩ := own_shape ho.own
  have z1 := hb.size
  rw [HZ.out] at hlo z1
  have HO := Lib.hid (ho.keep (below_al (Below.refl _ _) (.cells #[.int .i64 r, .int .i64 x, .slice au n cu, .int .i64 d] TY)))
  have hi1 := ho.2.2
  have XR := (HX.out.step hb).alloc (.cells #[.int .i64 r, .int .i64 x, .slice au n cu, .int .i64 d] TY)
  replace HB := Lib.hid (below_al (below_step HB.out hb) (.cells #[.int .i64 r, .int .i64 x, .slice au n cu, .int .i64 d] TY))
  obtain ⟨q0, q1, q2, q3⟩ := blk4 XR
  obtain ⟨f0, f1, f2, f3⟩ := stYear.fz4 XR
  clear XR HX HZ hb ho
  go_wp2
  refine bodyPost_ret (v := Yv r x (.slice au n cu) d) (by simp [*, results, Try.results70, go_sem]) rfl ⟨_, lo, hi, rfl, ⟨HO.out.chg (lo' := w.heap.size + 1) (hi' := w.heap.size + 2) ?_ (.inr (by omega)), by omega⟩, ?_⟩
  · repeat (refine Chg.trans ?_ (Chg.set _ _ _ (by omega) (by omega)))
    exact Chg.refl
  · repeat (refine Below.setCell ?_ (by simp only []; omega) _)
    exact HB.out
theorem spec_withRoom_no (w : World) (v : Value) (n : Nat) (cs : List Int) (r s d x : Int) (hn : n ≤ 1048576) (hr : Row 1 w v n (IV cs)) (no : ¬ YOk r s d n cs) :
    Calls Try.prog 46 #[Yv r s v d, .int .i64 x] w (stYear.Got w r s d n cs id) := by
  obtain ⟨a, ca, rfl⟩ := hr.shape
  have B0 : Below w.heap.size w (W2 w r s d (.slice a n ca)) := below_al (below_al (Below.refl _ _) _) _
  have z0 : (W2 w r s d (.slice a n ca)).heap.size = w.heap.size + 2 := by simp
  have XR : Blk (W2 w r s d (.slice a n ca)) (w.heap.size + 1) TY #[.int .i64 0, .int .i64 0, .slice none 0 0, .int .i64 0] := Blk.new1 w TY _ _
  have X0 : Blk (W2 w r s d (.slice a n ca)) w.heap.size TY #[.int .i64 r, .int .i64 s, .slice a n ca, .int .i64 d] := (Blk.new w TY _).alloc _
  have HR := Lib.hid hr
  have HB := Lib.hid B0
  have HZ := Lib.hid z0
  have HX := Lib.hid XR
  have HY := Lib.hid X0
  have NO := Lib.hid no
  clear no
  clear hr B0 z0 XR X0
  go_enter Try.func46, Try.ntmps46
  go_wp2_with fail
  refine (spec_copy _ _ n cs r s d hn (HR.out.keep HB.out)).mono ?_; rintro e w1 ⟨u, lo, hi, rfl, ⟨ho, hlo⟩, hb⟩
  obtain ⟨au, cu, rfl⟩ := own_shape ho.own
  have z1 := hb.size
  rw [HZ.out] at hlo z1
  have zi := ho.2.2
  have hal : Below w1.heap.size w1 (w1.alloc (.cells #[.int .i64 r, .int .i64 s, .slice au n cu, .int .i64 d] TY)) := below_al (Below.refl _ _) _
  have za : (w1.alloc (.cells #[.int .i64 r, .int .i64 s, .slice au n cu, .int .i64 d] TY)).heap.size = w1.heap.size + 1 := by simp
  have HO := Lib.hid (ho.keep hal)
  have HN := Lib.hid (Blk.new w1 TY #[.int .i64 r, .int .i64 s, .slice au n cu, .int .i64 d])
  replace HX := Lib.hid ((HX.out.step hb).step hal)
  replace HY := Lib.hid ((HY.out.step hb).step hal)
  replace HB := Lib.hid (below_step (below_step HB.out hb) hal)
  obtain ⟨p0, p1, p2, p3⟩ := blk4 HY.out
  clear HZ hb ho hal
  go_wp2_with fail
  refine (spec_yok_no _ _ n cs r s d hn (HR.out.keep HB.out) NO.out).mono ?_; rintro e w2 ⟨rfl, hb⟩
  clear p0 p1 p2 p3
  have HO := Lib.hid (HO.out.keep hb)
  have zs := hb.size
  replace HX := Lib.hid (HX.out.step hb)
  replace HY := Lib.hid (HY.out.step hb)
  replace HN := Lib.hid (HN.out.step hb)
  replace HB := Lib.hid (below_step HB.out hb)
  clear hb
  obtain ⟨p0, p1, p2, p3⟩ := blk4 HY.out
  obtain ⟨o0, o1, o2, o3⟩ := blk4 HN.out
  obtain ⟨g0, g1, g2, g3⟩ := stYear.fz4 HN.out
  obtain ⟨q0, q1, q2, q3⟩ := blk4 HX.out
  obtain ⟨f0, f1, f2, f3⟩ := stYear.fz4 HX.out
  clear HX HY HN
  go_wp2
  refine bodyPost_ret (v := Yv r s (.slice au n cu) d) (by simp [*, results, Try.results46, go_sem]) rfl ⟨_, lo, hi, rfl, ⟨HO.out.chg (lo' := w.heap.size + 1) (hi' := w.heap.size + 2) ?_ (.inr (by omega)), by omega⟩, ?_⟩
  · repeat (refine Chg.trans ?_ (Chg.set _ _ _ (by omega) (by omega)))
    exact Chg.refl
  · repeat (refine Below.setCell ?_ (by simp only []; omega) _)
    exact HB.out
theorem spec_withRoom_out (w : World) (v : Value) (n : Nat) (cs : List Int) (r s d x : Int) (hn : n ≤ 1048576) (hr : Row 1 w v n (IV cs)) (ok : YOk r s d n cs) (h1 : ¬ (1 ≤ x ∧ x ≤ 1000000)) :
    Calls Try.prog 46 #[Yv r s v d, .int .i64 x] w (stYear.Got w r s d n cs id) := by
  obtain ⟨a, ca, rfl⟩ := hr.shape
  have B0 : Below w.heap.size w (W2 w r s d (.slice a n ca)) := below_al (below_al (Below.refl _ _) _) _
  have z0 : (W2 w r s d (.slice a n ca)).heap.size = w.heap.size + 2 := by simp
  have XR : Blk (W2 w r s d (.slice a n ca)) (w.heap.size + 1) TY #[.int .i64 0, .int .i64 0, .slice none 0 0, .int .i64 0] := Blk.new1 w TY _ _
  have X0 : Blk (W2 w r s d (.slice a n ca)) w.heap.size TY #[.int .i64 r, .int .i64 s, .slice a n ca, .int .i64 d] := (Blk.new w TY _).alloc _
  have HR := Lib.hid hr
  have HB := Lib.hid B0
  have HZ := Lib.hid z0
  have HX := Lib.hid XR
  have HY := Lib.hid X0
  have OK := Lib.hid ok
  have H1 := Lib.hid h1
  clear ok h1
  clear hr B0 z0 XR X0
  go_enter Try.func46, Try.ntmps46
  go_wp2_with fail
  refine (spec_copy _ _ n cs r s d hn (HR.out.keep HB.out)).mono ?_; rintro e w1 ⟨u, lo, hi, rfl, ⟨ho, hlo⟩, hb⟩
  obtain ⟨au, cu, rfl⟩ := own_shape ho.own
  have z1 := hb.size
  rw [HZ.out] at hlo z1
  have zi := ho.2.2
  have hal : Below w1.heap.size w1 (w1.alloc (.cells #[.int .i64 r, .int .i64 s, .slice au n cu, .int .i64 d] TY)) := below_al (Below.refl _ _) _
  have za : (w1.alloc (.cells #[.int .i64 r, .int .i64 s, .slice au n cu, .int .i64 d] TY)).heap.size = w1.heap.size + 1 := by simp
  have HO := Lib.hid (ho.keep hal)
  have HN := Lib.hid (Blk.new w1 TY #[.int .i64 r, .int .i64 s, .slice au n cu, .int .i64 d])
  replace HX := Lib.hid ((HX.out.step hb).step hal)
  replace HY := Lib.hid ((HY.out.step hb).step hal)
  replace HB := Lib.hid (below_step (below_step HB.out hb) hal)
  obtain ⟨p0, p1, p2, p3⟩ := blk4 HY.out
  clear HZ hb ho hal
  go_wp2_with fail
  refine (spec_yok_yes _ _ n cs r s d (HR.out.keep HB.out) OK.out).mono ?_; rintro e w2 ⟨rfl, hb⟩
  clear p0 p1 p2 p3
  have HO := Lib.hid (HO.out.keep hb)
  have zs := hb.size
  replace HX := Lib.hid (HX.out.step hb)
  replace HY := Lib.hid (HY.out.step hb)
  replace HN := Lib.hid (HN.out.step hb)
  replace HB := Lib.hid (below_step HB.out hb)
  clear hb
  go_wp2_with fail
  refine (in_no _ _ _ _ H1.out).mono ?_; rintro e w3 ⟨rfl, rfl⟩
  obtain ⟨p0, p1, p2, p3⟩ := blk4 HY.out
  obtain ⟨o0, o1, o2, o3⟩ := blk4 HN.out
  obtain ⟨g0, g1, g2, g3⟩ := stYear.fz4 HN.out
  obtain ⟨q0, q1, q2, q3⟩ := blk4 HX.out
  obtain ⟨f0, f1, f2, f3⟩ := stYear.fz4 HX.out
  clear HX HY HN
  go_wp2
  refine bodyPost_ret (v := Yv r s (.slice au n cu) d) (by simp [*, results, Try.results46, go_sem]) rfl ⟨_, lo, hi, rfl, ⟨HO.out.chg (lo' := w.heap.size + 1) (hi' := w.heap.size + 2) ?_ (.inr (by omega)), by omega⟩, ?_⟩
  · repeat (refine Chg.trans ?_ (Chg.set _ _ _ (by omega) (by omega)))
    exact Chg.refl
  · repeat (refine Below.setCell ?_ (by simp only []; omega) _)
    exact HB.out
theorem spec_withRoom_yes (w : World) (v : Value) (n : Nat) (cs : List Int) (r s d x : Int) (hn : n ≤ 1048576) (hr : Row 1 w v n (IV cs)) (ok : YOk r s d n cs) (h1 : 1 ≤ x) (h2 : x ≤ 1000000) :
    Calls Try.prog 46 #[Yv r s v d, .int .i64 x] w (stYear.Got w x (mn s x) d n cs id) := by
  obtain ⟨a, ca, rfl⟩ := hr.shape
  have B0 : Below w.heap.size w (W2 w r s d (.slice a n ca)) := below_al (below_al (Below.refl _ _) _) _
  have z0 : (W2 w r s d (.slice a n ca)).heap.size = w.heap.size + 2 := by simp
  have XR : Blk (W2 w r s d (.slice a n ca)) (w.heap.size + 1) TY #[.int .i64 0, .int .i64 0, .slice none 0 0, .int .i64 0] := Blk.new1 w TY _ _
  have X0 : Blk (W2 w r s d (.slice a n ca)) w.heap.size TY #[.int .i64 r, .int .i64 s, .slice a n ca, .int .i64 d] := (Blk.new w TY _).alloc _
  have HR := Lib.hid hr
  have HB := Lib.hid B0
  have HZ := Lib.hid z0
  have HX := Lib.hid XR
  have HY := Lib.hid X0
  have OK := Lib.hid ok
  clear ok
  clear hr B0 z0 XR X0
  go_enter Try.func46, Try.ntmps46
  go_wp2_with fail
  refine (spec_copy _ _ n cs r s d hn (HR.out.keep HB.out)).mono ?_; rintro e w1 ⟨u, lo, hi, rfl, ⟨ho, hlo⟩, hb⟩
  obtain ⟨au, cu, rfl⟩ := own_shape ho.own
  have z1 := hb.size
  rw [HZ.out] at hlo z1
  have zi := ho.2.2
  have hal : Below w1.heap.size w1 (w1.alloc (.cells #[.int .i64 r, .int .i64 s, .slice au n cu, .int .i64 d] TY)) := below_al (Below.refl _ _) _
  have za : (w1.alloc (.cells #[.int .i64 r, .int .i64 s, .slice au n cu, .int .i64 d] TY)).heap.size = w1.heap.size + 1 := by simp
  have HO := Lib.hid (ho.keep hal)
  have HN := Lib.hid (Blk.new w1 TY #[.int .i64 r, .int .i64 s, .slice au n cu, .int .i64 d])
  replace HX := Lib.hid ((HX.out.step hb).step hal)
  replace HY := Lib.hid ((HY.out.step hb).step hal)
  replace HB := Lib.hid (below_step (below_step HB.out hb) hal)
  obtain ⟨p0, p1, p2, p3⟩ := blk4 HY.out
  clear HZ hb ho hal
  go_wp2_with fail
  refine (spec_yok_yes _ _ n cs r s d (HR.out.keep HB.out) OK.out).mono ?_; rintro e w2 ⟨rfl, hb⟩
  clear p0 p1 p2 p3
  have HO := Lib.hid (HO.out.keep hb)
  have zs := hb.size
  replace HX := Lib.hid (HX.out.step hb)
  replace HY := Lib.hid (HY.out.step hb)
  replace HN := Lib.hid (HN.out.step hb)
  replace HB := Lib.hid (below_step HB.out hb)
  clear hb
  go_wp2_with fail
  refine (in_yes _ _ _ _ h1 h2).mono ?_; rintro e w3 ⟨rfl, rfl⟩
  obtain ⟨p0, p1, p2, p3⟩ := blk4 HY.out
  obtain ⟨o0, o1, o2, o3⟩ := blk4 HN.out
  obtain ⟨g0, g1, g2, g3⟩ := stYear.fz4 HN.out
  obtain ⟨q0, q1, q2, q3⟩ := blk4 HX.out
  obtain ⟨f0, f1, f2, f3⟩ := stYear.fz4 HX.out
  clear HX HY HN
  have fin : ∀ y : Int, y = mn s x → stYear.Got w x (mn s x) d n cs id (.returned (Yv x y (.slice au n cu) d)) ((((((w2.setCell ⟨w1.heap.size, 0, none⟩ (.int .i64 x)).setCell ⟨w1.heap.size, 1, none⟩ (.int .i64 y)).setCell ⟨w.heap.size + 1, 0, none⟩ (.int .i64 x)).setCell ⟨w.heap.size + 1, 1, none⟩ (.int .i64 y)).setCell ⟨w.heap.size + 1, 2, none⟩ (.slice au n cu)).setCell ⟨w.heap.size + 1, 3, none⟩ (.int .i64 d)) := fun y hy => by
    subst hy
    refine ⟨_, lo, hi, rfl, ⟨(HO.out.chg (lo' := w1.heap.size) (hi' := w1.heap.size + 1) (w' := (w2.setCell ⟨w1.heap.size, 0, none⟩ (.int .i64 x)).setCell ⟨w1.heap.size, 1, none⟩ (.int .i64 (mn s x))) ?_ (.inl (by omega))).chg (lo' := w.heap.size + 1) (hi' := w.heap.size + 2) ?_ (.inr (by omega)), by omega⟩, ?_⟩
    · repeat (refine Chg.trans ?_ (Chg.set _ _ _ (by omega) (by omega)))
      exact Chg.refl
    · repeat (refine Chg.trans ?_ (Chg.set _ _ _ (by omega) (by omega)))
      exact Chg.refl
    · repeat (refine Below.setCell ?_ (by simp only []; omega) _)
      exact HB.out
  have FIN := Lib.hid fin
  clear fin HO HB HR
  rcases Int.lt_trichotomy s x with h | rfl | h
  · have e : s = mn s x := by unfold mn; split <;> omega
    have FIN := Lib.hid (FIN.out s e)
    clear e
    go_wp2
    exact bodyPost_ret (v := Yv x s (.slice au n cu) d) (by simp [*, results, Try.results46, go_sem]) rfl FIN.out
  · have e : s = mn s s := by unfold mn; split <;> omega
    have FIN := Lib.hid (FIN.out s e)
    clear e
    go_wp2
    exact bodyPost_ret (v := Yv s s (.slice au n cu) d) (by simp [*, results, Try.results46, go_sem]) rfl FIN.out
  · have e : x = mn s x := by unfold mn; split <;> omega
    have FIN := Lib.hid (FIN.out x e)
    clear e
    go_wp2
    exact bodyPost_ret (v := Yv x x (.slice au n cu) d) (by simp [*, results, Try.results46, go_sem]) rfl FIN.out
end Go.Proofs.Ytojahddamdlcpaa.sz
