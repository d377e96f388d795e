/- Rights: the program's afterSale, SellShare. -/
import Derived.Test.YtopbeacfljoacaaRgtV
import Derived.Test.YtopbeacfljoacaaRgtS5
namespace Go.Proofs.Ytopbeacfljoacaa.rgt
open Go.RowKit Go.Maps Go.Proofs.Ytopbeacfljoacaa.kit Go.Proofs.Ytopbeacfljoacaa.lawi Go.Proofs.Ytopbeacfljoacaa.own Go.Proofs.Ytopbeacfljoacaa.rain Go.Proofs.Ytopbeacfljoacaa.yrl Go.Proofs.Ytopbeacfljoacaa.frc Go.Proofs.Ytopbeacfljoacaa.stRight Go.Proofs.Ytopbeacfljoacaa.later Go.Proofs.Ytopbeacfljoacaa.apart Go.Proofs.Ytopbeacfljoacaa.mapv Go.Proofs.Ytopbeacfljoacaa.cpy
theorem clone_right (w : World) (v : Value) (n : Nat) (zs : List Int) (hn : n ≤ 1048576) (h : Row 3 w v n (IV zs)) :
    Calls Try.prog 46 #[v] w (GotR TR 3 w n (IV zs)) := by
  obtain ⟨i0, hi, hz0, hz1, hz2⟩ := info_parts stRight.info
  obtain ⟨a, ca, rfl⟩ := h.shape
  cases a with
  | none =>
    have hnil : IV zs = [] := by
      obtain ⟨hl, a, ca, he, ha⟩ := h
      cases he
      rcases ha with h | ⟨b, off, h, _⟩
      · exact List.eq_nil_of_length_eq_zero (by rw [hl, h])
      · cases h
    have h0 : n = 0 := by
      have := h.1
      rw [hnil] at this
      simp at this
      omega
    subst h0
    rw [hnil]
    clear h hnil
    have he : ∀ W : World, (binOp .eql 24 (.slice none 0 ca) (.slice none 0 0)).run Try.prog W = .ok (.bool true) W := fun W => Lib.run_eql_slice_nil (P := Try.prog) W 24 TR none 0 ca 0 0 Try.underlying24
    go_enter Try.func46, Try.ntmps46
    go_wp2
    go_ret
    exact ⟨_, rfl, World.ownsRow_nil _ _ _ _, Below.refl _ _⟩
  | some ad =>
    have HR := Lib.hid (h.keep (below_al (Below.refl _ _) (.cells #[] TR)))
    clear h
    have he : ∀ W : World, (binOp .eql 24 (.slice (some ad) n ca) (.slice none 0 0)).run Try.prog W = .ok (.bool false) W := fun W => Lib.run_eql_slice_nil (P := Try.prog) W 24 TR (some ad) n ca 0 0 Try.underlying24
    go_enter Try.func46, Try.ntmps46
    go_wp2_with (at_builtin; refine wp_copy rfl _ _ 24 rfl TR i0 (R 0 0 0) 3 24 Try.underlying24 hi hz0 hz1 hz2 rfl (by decide) w.heap.size (Blk.new _ _ _) _ n zs HR.out hn (by decide) rfl rfl ?_; intro v' w1 hown1 hg1 _)
    go_ret
    exact ⟨_, rfl, hown1, below_grown (grown_trans (World.grownBy_alloc w _ _) hg1) (Nat.le_refl _) (fun k hk => by cases hk; exact Nat.le_refl _)⟩
theorem impl_as_no (w : World) (v : Value) (n : Nat) (zs : List Int) (fr tw pt pb : Int) (hn : n ≤ 1048576) (hr : Row 3 w v n (IV zs)) (no : ¬ Sok n zs fr tw pt pb) :
    Calls Try.prog 45 #[v, .int .i64 fr, .int .i64 tw, stFraction.R pt pb] w (Gives w (.tuple #[.slice none 0 0, .bool false])) := by
  obtain ⟨av, ca, rfl⟩ := hr.shape
  obtain ⟨w0, hw0⟩ : ∃ w0, w.alloc (.cells #[.int .i64 pt, .int .i64 pb] TF) = w0 := ⟨_, rfl⟩
  have B0 : Below w.heap.size w w0 := hw0 ▸ below_al (Below.refl _ _) _
  have X0 := Lib.hid (hw0 ▸ Blk.new w TF _ : Blk w0 w.heap.size TF #[.int .i64 pt, .int .i64 pb])
  have HR := Lib.hid (hr.keep B0)
  have HB := Lib.hid B0
  clear hr B0
  by_cases ok : Ro n zs
  · have OK := Lib.hid ok
    by_cases c1 : fr = tw
    · subst c1
      clear no ok
      go_enter Try.func45, Try.ntmps45
      go_wp2_with fail
      refine (impl_ro _ _ n zs hn HR.out true ⟨fun _ => OK.out, fun _ => rfl⟩).mono ?_; rintro e w1 ⟨rfl, hb⟩
      have B1 := Lib.hid (below_step HB.out hb)
      clear hb
      go_wp2
      go_ret2
      exact ⟨rfl, B1.out⟩
    · have u1 : (fr == tw) = false := beq_false_of_ne c1
      by_cases c2 : 1 ≤ tw ∧ tw ≤ 999
      · by_cases c3 : Fk pt pb
        · have c4 : pb < pt := by
            refine Classical.byContradiction fun h => no ⟨ok, c3, by omega, c1, c2.1, c2.2⟩
          have C3 := Lib.hid c3
          have u4 : decide (pb < pt) = true := decide_eq_true c4
          clear no ok c3
          go_enter Try.func45, Try.ntmps45
          go_wp2_with fail
          refine (impl_ro _ _ n zs hn HR.out true ⟨fun _ => OK.out, fun _ => rfl⟩).mono ?_; rintro e w1 ⟨rfl, hb⟩
          have B1 := Lib.hid (below_step HB.out hb)
          have X1 := Lib.hid (X0.out.step hb)
          clear hb
          go_wp2_with fail
          refine (inR_yes _ _ _ _ c2.1 c2.2).mono ?_; rintro e w2 ⟨rfl, rfl⟩
          obtain ⟨a0, a1, _⟩ := fcell X1.out
          go_wp2_with fail
          refine (impl_fok _ pt pb true ⟨fun _ => C3.out, fun _ => rfl⟩).mono ?_; rintro e w3 ⟨rfl, hb⟩
          have B3 := Lib.hid (below_step B1.out hb)
          obtain ⟨b0, b1, _⟩ := fcell (X1.out.step hb)
          clear hb a0 a1
          go_wp2
          go_ret2
          exact ⟨rfl, B3.out⟩
        · have C3 := Lib.hid c3
          clear no ok c3
          go_enter Try.func45, Try.ntmps45
          go_wp2_with fail
          refine (impl_ro _ _ n zs hn HR.out true ⟨fun _ => OK.out, fun _ => rfl⟩).mono ?_; rintro e w1 ⟨rfl, hb⟩
          have B1 := Lib.hid (below_step HB.out hb)
          have X1 := Lib.hid (X0.out.step hb)
          clear hb
          go_wp2_with fail
          refine (inR_yes _ _ _ _ c2.1 c2.2).mono ?_; rintro e w2 ⟨rfl, rfl⟩
          obtain ⟨a0, a1, _⟩ := fcell X1.out
          go_wp2_with fail
          refine (impl_fok _ pt pb false ⟨fun h => (by cases h), fun h => absurd h C3.out⟩).mono ?_; rintro e w3 ⟨rfl, hb⟩
          have B3 := Lib.hid (below_step B1.out hb)
          clear hb a0 a1
          go_wp2
          go_ret2
          exact ⟨rfl, B3.out⟩
      · clear no ok
        go_enter Try.func45, Try.ntmps45
        go_wp2_with fail
        refine (impl_ro _ _ n zs hn HR.out true ⟨fun _ => OK.out, fun _ => rfl⟩).mono ?_; rintro e w1 ⟨rfl, hb⟩
        have B1 := Lib.hid (below_step HB.out hb)
        clear hb
        go_wp2_with fail
        refine (inR_no _ _ _ _ c2).mono ?_; rintro e w2 ⟨rfl, rfl⟩
        go_wp2
        go_ret2
        exact ⟨rfl, B1.out⟩
  · have OK := Lib.hid ok
    clear no ok
    go_enter Try.func45, Try.ntmps45
    go_wp2_with fail
    refine (impl_ro _ _ n zs hn HR.out false ⟨fun h => (by cases h), fun h => absurd h OK.out⟩).mono ?_; rintro e w1 ⟨rfl, hb⟩
    have B1 := Lib.hid (below_step HB.out hb)
    clear hb
    go_wp2
    go_ret2
    exact ⟨rfl, B1.out⟩
/-- What afterSale gives where all that is asked ahead holds. -/
def After (w : World) (n : Nat) (zs : List Int) (fr tw pt pb : Int) (e : Ending) (w' : World) : Prop :=
  ∃ t m ys ok, e = .returned (.tuple #[t, .bool ok]) ∧ m ≤ 1048576 ∧ w'.ownsRow w.heap.size TR 3 t m (IV ys) ∧ Below w.heap.size w w' ∧
    (ok = true → (Ro m ys → Sell n zs fr tw pt pb m ys) ∧ ∀ m' ys', Sell n zs fr tw pt pb m' ys' → m' = m ∧ ys' = ys) ∧ (ok = false → ∀ m' ys', ¬ Sell n zs fr tw pt pb m' ys')
set_option maxRecDepth 100000 in
set_option maxHeartbeats 2000000 in
theorem impl_as (w : World) (v : Value) (n : Nat) (zs : List Int) (fr tw pt pb : Int) (hr : Row 3 w v n (IV zs)) (wff : (Lit.int .i64 fr).wf = true) (sok : Sok n zs fr tw pt pb) :
    Calls Try.prog 45 #[v, .int .i64 fr, .int .i64 tw, stFraction.R pt pb] w (After w n zs fr tw pt pb) := by
  obtain ⟨av, ca, rfl⟩ := hr.shape
  have hl : zs.length = n * 3 := by simpa using hr.1
  obtain ⟨w0, hw0⟩ : ∃ w0, w.alloc (.cells #[.int .i64 pt, .int .i64 pb] TF) = w0 := ⟨_, rfl⟩
  have B0 : Below w.heap.size w w0 := hw0 ▸ below_al (Below.refl _ _) _
  have X0 := Lib.hid (hw0 ▸ Blk.new w TF _ : Blk w0 w.heap.size TF #[.int .i64 pt, .int .i64 pb])
  have HR := Lib.hid (hr.keep B0)
  have HB := Lib.hid B0
  have SOK := Lib.hid sok
  obtain ⟨ok, c3, c4, c1, c2, c2'⟩ := sok
  have OK := Lib.hid ok
  have C3 := Lib.hid c3
  have hn12 := ok.1.2
  have wft := wf_owner c2 c2'
  have hwr : IntKind.i64.wrap (pb - pt) = pb - pt := by
    have a := c3.1
    have b := c3.2.1
    exact IntWalk.i64_in _ (by omega)
  have u1 : (fr == tw) = false := beq_false_of_ne c1
  have u4 : decide (pb < pt) = false := decide_eq_false (by omega)
  have hasc := Lib.hid (Asc.of_ro ok hl)
  obtain ⟨f, hf, hfind⟩ := ok.find fr
  have HF := Lib.hid hfind
  clear hr B0 c3 hfind
  go_enter Try.func45, Try.ntmps45
  go_wp2_with fail
  refine (impl_ro _ _ n zs (by omega) HR.out true ⟨fun _ => OK.out, fun _ => rfl⟩).mono ?_; rintro e w1 ⟨rfl, hb⟩
  have B1 := Lib.hid (below_step HB.out hb)
  have X1 := Lib.hid (X0.out.step hb)
  replace HR := Lib.hid (HR.out.keep hb)
  clear hb hw0 HB X0 ok
  go_wp2_with fail
  refine (inR_yes _ _ _ _ c2 c2').mono ?_; rintro e w2 ⟨rfl, rfl⟩
  obtain ⟨a0, a1, _⟩ := fcell X1.out
  go_wp2_with fail
  refine (impl_fok _ pt pb true ⟨fun _ => C3.out, fun _ => rfl⟩).mono ?_; rintro e w3 ⟨rfl, hb⟩
  replace B1 := Lib.hid (below_step B1.out hb)
  replace X1 := Lib.hid (X1.out.step hb)
  replace HR := Lib.hid (HR.out.keep hb)
  clear hb a0 a1
  obtain ⟨a0, a1, _⟩ := fcell X1.out
  go_wp2_with fail
  refine (impl_sbo _ _ n zs (by omega) HR.out hasc.out.2.1).mono ?_; rintro e w4 ⟨b, rfl, hwb, hM, hb⟩
  have HWB := Lib.hid (Nat.le_trans B1.out.size hwb)
  replace B1 := Lib.hid (below_step B1.out hb)
  replace X1 := Lib.hid (X1.out.step hb)
  have M4 := Lib.hid hM
  clear hb a0 a1 hM HR hwb
  obtain ⟨a0, a1, _⟩ := fcell X1.out
  by_cases hfn : f < n
  · have hlk := lk_at hasc.out.2.2 (Nat.le_refl n) hfn
    have hwo := (HF.out f hfn).2 rfl
    rw [hwo] at hlk
    obtain ⟨bt, bb, hhad⟩ := Had.ex (lk zs n) tw
    obtain ⟨mt, mb, s1, k1⟩ := Ti.ex (wT zs f) (wB zs f) pt pb
    obtain ⟨rt, rb, s2, k2⟩ := Ti.ex (wT zs f) (wB zs f) (pb - pt) pb
    obtain ⟨xt, xb, s3, k3⟩ := Ad.ex bt bb mt mb
    have K1 := Lib.hid k1
    have K2 := Lib.hid k2
    have K3 := Lib.hid k3
    have HH := Lib.hid hhad
    have HWO := Lib.hid hwo
    go_wp2_with fail
    refine (impl_mv _ b n (lk zs n) fr tw pt pb (wT zs f) (wB zs f) bt bb mt mb rt rb xt xb s1 s2 s3 M4.out (by omega) wff wft hlk hhad k1 k2 k3 hwr).mono ?_; rintro e w5 ⟨rfl, hM5, hC5⟩
    have M5 := Lib.hid hM5
    have B5 := Lib.hid (B1.out.trans (hC5.below B1.out.size HWB.out))
    clear hM5 hC5 a0 a1 X1 M4 B1 k1 k2 k3 hhad hlk hwo
    cases hall : (s1 && s2 && s3) with
    | true =>
      obtain ⟨⟨rfl, rfl⟩, rfl⟩ : (s1 = true ∧ s2 = true) ∧ s3 = true := by simpa using hall
      have hmk : Fk mt mb := ti_ok K1.out
      have hrk : Fk rt rb := ti_ok K2.out
      obtain ⟨m, ys, hm, hput, hmp⟩ := sold_mp OK.out hl hfn (by rw [HWO.out]; exact c1) c2 c2' hmk hrk.2.1.1 HH.out K3.out
      rw [HWO.out] at hmp
      have HMP := Lib.hid hmp
      have HPUT := Lib.hid hput
      have M6 : Hid (MapV Try.prog TI w5 b (n + 2) (Fm (setS (setS (lk zs n) fr rt rb) tw xt xb))) := Lib.hid (by have := M5.out; rw [hall, if_pos rfl] at this; exact this)
      clear hput hmp
      go_wp2_with fail
      refine (impl_rbo w5 b (n + 2) m _ ys M6.out (by omega) HMP.out (by omega)).mono ?_; rintro e w6 ⟨t, rfl, ho, hb⟩
      have O6 := Lib.hid (own_mono ho B5.out.size)
      have B6 := Lib.hid (below_step B5.out hb)
      clear ho hb
      go_wp2
      go_ret2
      refine ⟨t, m, ys, true, rfl, by omega, O6.out, B6.out, fun _ => ⟨fun hro => ⟨SOK.out, f, mt, mb, rt, rb, hfn, HWO.out, K1.out, K2.out, HPUT.out, hro⟩, fun m' ys' hs => ?_⟩, (fun h => by cases h)⟩
      obtain ⟨_, mt', mb', rt', rb', e1, e2, e3, _⟩ := hs.parts HF.out
      obtain ⟨rfl, rfl, _⟩ := ti_uniq K1.out e1
      obtain ⟨rfl, rfl, _⟩ := ti_uniq K2.out e2
      exact e3.uniq HPUT.out
    | false =>
      have M6 : Hid (MapV Try.prog TI w5 b (n + 2) (Fm (lk zs n))) := Lib.hid (by have := M5.out; rw [hall, if_neg (by simp)] at this; exact this)
      have HALL := Lib.hid hall
      clear hall M5
      go_wp2_with fail
      refine (impl_rbo w5 b (n + 2) n _ zs M6.out (by omega) (Mp.self hasc.out) (by omega)).mono ?_; rintro e w6 ⟨t, rfl, ho, hb⟩
      have O6 := Lib.hid (own_mono ho B5.out.size)
      have B6 := Lib.hid (below_step B5.out hb)
      clear ho hb
      go_wp2
      go_ret2
      refine ⟨t, n, zs, false, rfl, by omega, O6.out, B6.out, (fun h => by cases h), fun _ m' ys' hs => ?_⟩
      obtain ⟨_, mt', mb', rt', rb', e1, e2, e3, _⟩ := hs.parts HF.out
      obtain ⟨rfl, rfl, rfl⟩ := ti_uniq K1.out e1
      obtain ⟨rfl, rfl, rfl⟩ := ti_uniq K2.out e2
      have : s3 = false := by simpa using HALL.out
      subst this
      exact no_put OK.out hl hfn (by rw [HWO.out]; exact c1) (ti_ok K1.out) HH.out K3.out e3
  · have hnone : lk zs n fr = none := lk_none fun j hj e => by
      have := (HF.out j hj).1 e
      omega
    go_wp2_with fail
    refine (impl_mv_none _ b n (lk zs n) fr tw pt pb M4.out wff hnone).mono ?_; rintro e w5 ⟨rfl, hb⟩
    have M5 := Lib.hid (M4.out.keep hb)
    have B5 := Lib.hid (below_step B1.out hb)
    clear hb a0 a1 X1 M4 B1
    go_wp2_with fail
    refine (impl_rbo w5 b n n _ zs M5.out (by omega) (Mp.self hasc.out) (by omega)).mono ?_; rintro e w6 ⟨t, rfl, ho, hb⟩
    have O6 := Lib.hid (own_mono ho B5.out.size)
    have B6 := Lib.hid (below_step B5.out hb)
    clear ho hb
    go_wp2
    go_ret2
    refine ⟨t, n, zs, false, rfl, by omega, O6.out, B6.out, (fun h => by cases h), fun _ m' ys' hs => ?_⟩
    exact hfn (hs.parts HF.out).1
theorem impl_sell (w : World) (v : Value) (n : Nat) (zs : List Int) (fr tw pt pb : Int) (hn : n ≤ 1048576) (wff : (Lit.int .i64 fr).wf = true) (hr : Row 3 w v n (IV zs)) (m : Nat) (ys : List Int) (r : Bool) (h : Sla n zs fr tw pt pb m ys r) :
    Calls Try.prog 16 #[v, .int .i64 fr, .int .i64 tw, stFraction.R pt pb] w (Sold w m ys r) := by
  obtain ⟨av, ca, rfl⟩ := hr.shape
  obtain ⟨w0, hw0⟩ : ∃ w0, w.alloc (.cells #[.int .i64 pt, .int .i64 pb] TF) = w0 := ⟨_, rfl⟩
  have B0 : Below w.heap.size w w0 := hw0 ▸ below_al (Below.refl _ _) _
  have X0 := Lib.hid (hw0 ▸ Blk.new w TF _ : Blk w0 w.heap.size TF #[.int .i64 pt, .int .i64 pb])
  have HR := Lib.hid (hr.keep B0)
  have HB := Lib.hid B0
  have HS := Lib.hid h
  clear hr B0 h
  obtain ⟨a0, a1, _⟩ := fcell X0.out
  by_cases sok : Sok n zs fr tw pt pb
  · go_enter Try.func16, Try.ntmps16
    go_wp2_with fail
    refine (impl_as _ _ n zs fr tw pt pb HR.out wff sok).mono ?_; rintro e w1 ⟨t, m', ys', ok, rfl, hm', ho, hb, ht, hf⟩
    have O1 := Lib.hid ho
    have B1 := Lib.hid (below_step HB.out hb)
    have HT := Lib.hid ht
    have HF := Lib.hid hf
    replace HR := Lib.hid (HR.out.keep hb)
    have hsz := HB.out.size
    clear ho hb ht hf a0 a1 hw0 sok
    cases ok with
    | false =>
      obtain ⟨rfl, rfl, rfl⟩ := HS.out.no (HF.out rfl)
      go_wp2_with fail
      refine (clone_right _ _ m ys hn HR.out).mono ?_; rintro e w2 ⟨u, rfl, ho, hb⟩
      have O2 := Lib.hid (own_mono ho B1.out.size)
      have B2 := Lib.hid (below_step B1.out hb)
      clear ho hb
      go_wp2
      go_ret2
      exact ⟨u, rfl, O2.out, B2.out⟩
    | true =>
      obtain ⟨q1, q2⟩ := HT.out rfl
      have Q1 := Lib.hid q1
      have Q2 := Lib.hid q2
      clear q1 q2
      by_cases hro : Ro m' ys'
      · have RO := Lib.hid hro
        obtain ⟨rfl, rfl, rfl⟩ := HS.out.yes (Q1.out hro)
        clear hro
        go_wp2_with fail
        refine (impl_ro _ _ m ys hm' (Row.of_own O1.out) true ⟨fun _ => RO.out, fun _ => rfl⟩).mono ?_; rintro e w2 ⟨rfl, hb⟩
        have O2 := Lib.hid (own_mono (own_below O1.out hb) hsz)
        have B2 := Lib.hid (below_step B1.out hb)
        clear hb
        go_wp2
        go_ret2
        exact ⟨t, rfl, O2.out, B2.out⟩
      · have RO := Lib.hid hro
        obtain ⟨rfl, rfl, rfl⟩ := HS.out.no (fun m2 ys2 h2 => by
          obtain ⟨rfl, rfl⟩ := Q2.out m2 ys2 h2
          obtain ⟨_, _, _, _, _, _, _, _, _, _, _, h3⟩ := h2
          exact hro h3)
        clear hro
        go_wp2_with fail
        refine (impl_ro _ _ m' ys' hm' (Row.of_own O1.out) false ⟨fun h => (by cases h), fun h => absurd h RO.out⟩).mono ?_; rintro e w2 ⟨rfl, hb⟩
        replace HR := Lib.hid (HR.out.keep hb)
        replace B1 := Lib.hid (below_step B1.out hb)
        clear hb
        go_wp2_with fail
        refine (clone_right _ _ m ys hn HR.out).mono ?_; rintro e w3 ⟨u, rfl, ho, hb⟩
        have O3 := Lib.hid (own_mono ho B1.out.size)
        have B3 := Lib.hid (below_step B1.out hb)
        clear ho hb
        go_wp2
        go_ret2
        exact ⟨u, rfl, O3.out, B3.out⟩
  · obtain ⟨rfl, rfl, rfl⟩ := HS.out.no (fun m2 ys2 h2 => sok h2.1)
    go_enter Try.func16, Try.ntmps16
    go_wp2_with fail
    refine (impl_as_no _ _ m ys fr tw pt pb hn HR.out sok).mono ?_; rintro e w1 ⟨rfl, hb⟩
    replace HR := Lib.hid (HR.out.keep hb)
    have B1 := Lib.hid (below_step HB.out hb)
    clear hb a0 a1 hw0 sok
    go_wp2_with fail
    refine (clone_right _ _ m ys hn HR.out).mono ?_; rintro e w2 ⟨u, rfl, ho, hb⟩
    have O2 := Lib.hid (own_mono ho B1.out.size)
    have B2 := Lib.hid (below_step B1.out hb)
    clear ho hb
    go_wp2
    go_ret2
    exact ⟨u, rfl, O2.out, B2.out⟩
end Go.Proofs.Ytopbeacfljoacaa.rgt
