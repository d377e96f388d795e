/- Rights: the program's Divide. -/
import Derived.Test.YtopbeacfljoacaaRgtN
namespace Go.Proofs.Ytopbeacfljoacaa.rgt
open Go.RowKit Go.Proofs.Ytopbeacfljoacaa.kit Go.Proofs.Ytopbeacfljoacaa.lawi Go.Proofs.Ytopbeacfljoacaa.own Go.Proofs.Ytopbeacfljoacaa.rain Go.Proofs.Ytopbeacfljoacaa.yrl Go.Proofs.Ytopbeacfljoacaa.frc Go.Proofs.Ytopbeacfljoacaa.stRight Go.Proofs.Ytopbeacfljoacaa.later Go.Proofs.Ytopbeacfljoacaa.apart Go.Proofs.Ytopbeacfljoacaa.take Go.Proofs.Ytopbeacfljoacaa.srt
theorem own_set1 {w : World} {g n ca : Nat} {zs : List Int} (h : OwnR w g (g + 1) TI 1 (.slice (some ⟨g, 0, none⟩) n ca) n (IV zs)) (j : Nat) (x : Int) : OwnR (w.setCell ⟨g, j, none⟩ (.int .i64 x)) g (g + 1) TI 1 (.slice (some ⟨g, 0, none⟩) n ca) n (IV (zs.set j x)) := by
  rw [← ivset]
  exact ⟨own_set h.1 rfl j _, h.2.1, by simpa using h.2.2⟩
set_option maxHeartbeats 4000000 in
theorem impl_dv_yes (w : World) (v : Value) (n : Nat) (zs : List Int) (m : Int) (hr : Row 3 w v n (IV zs)) (ok : Ro n zs) (h0 : 0 ≤ m) (h1 : m ≤ 1000000) (U : Nat → Bool) (hU : Dv n zs m U) :
    Calls Try.prog 12 #[v, .int .i64 m] w (GotR TI 1 w n (IV (dvr n zs m U))) := by
  obtain ⟨iI, hiI, hz0I, hz1I, hz2I⟩ := info_parts infoI
  obtain ⟨av, ca, rfl⟩ := hr.shape
  have hl : zs.length = n * 3 := by simpa using hr.1
  have hn1 := ok.1.1
  have hn12 := ok.1.2
  have HR := Lib.hid hr
  have OK := Lib.hid ok
  have HU := Lib.hid hU
  clear hr ok hU
  go_enter Try.func12, Try.ntmps12
  go_wp2_with fail
  refine (impl_ro _ _ n zs (by omega) HR.out true ⟨fun _ => OK.out, fun _ => rfl⟩).mono ?_; rintro e w1 ⟨rfl, hb⟩
  have B1 := Lib.hid hb
  clear hb
  go_wp2_with fail
  refine (inR_yes _ _ _ _ h0 h1).mono ?_; rintro e w2 ⟨rfl, rfl⟩
  go_wp2_with (first
    | (at_make; refine wpList_make_full _ rfl _ _ 27 rfl w1.heap.size TI iI (.int .i64 0) 1 Try.underlying27 hiI hz0I hz1I _ _ _ _ n rfl rfl rfl rfl (by rw [hz2I]; omega) (by unfold maxLen; omega) (Nat.le_refl _) ?_; intro w2 hown hg
       have B2 := Lib.hid (below_grown hg (Nat.le_refl _) (by simp))
       have O2 := Lib.hid hown
       clear hown hg)
    | fail)
  have hg1 := (O2.out.lt _ rfl).2
  have e1 : rw_ (fun _ => (0 : Int)) n = rw_ (fun v => if v < 0 then fd zs m v else 0) n := rwcongr fun v _ => by rw [if_neg (by omega)]
  have O3 : Hid (OwnR w2 w1.heap.size (w1.heap.size + 1) TI 1 (.slice (some ⟨w1.heap.size, 0, none⟩) n n) n (IV (rw_ (fun v => if v < 0 then fd zs m v else 0) n))) := by
    have k1 := O2.out
    rw [made1, e1] at k1
    exact Lib.hid ⟨k1, fun b hb => by cases hb; exact Nat.lt_succ_self _, hg1⟩
  have BW := Lib.hid (below_step B1.out B2.out)
  have HG := Lib.hid B1.out.size
  clear O2 B2 B1 hg1 e1 hz0I hz1I hz2I hiI
  generalize w1.heap.size = G at O3 HG ⊢
  go_loopg [6, 25] n (fun g s6 s25 wr => ∃ k : Nat, k + g = n ∧ s25 = .int .i64 k ∧ s6 = .int .i64 (m - sm (fd zs m) k) ∧ OwnR wr G (G + 1) TI 1 (.slice (some ⟨G, 0, none⟩) n n) n (IV (rw_ (fun v => if v < k then fd zs m v else 0) n)) ∧ Below w.heap.size w wr)
  case atStart => exact ⟨0, by omega, rfl, by simp [sm], O3.out, BW.out⟩
  case round =>
    clear O3 BW
    obtain ⟨k, hkg, rfl, rfl, ho, hbel⟩ := hrel
    have HO := Lib.hid ho
    have BL := Lib.hid hbel
    clear ho hbel
    by_cases hlt : k < n
    · obtain ⟨gk, rfl⟩ : ∃ g', gk = g' + 1 := ⟨gk - 1, by omega⟩
      obtain ⟨b1, o1, rfl, hc⟩ := (HR.out.keep BL.out).at_ (by omega)
      obtain ⟨g1, g2, g3⟩ := right_at hc hl hlt
      have fk := OK.out.fk hlt
      obtain ⟨_, _, _, ⟨q4, q5⟩, _⟩ := part_bd fk h0 h1
      have HPO : Hid (Po (wT zs k) (wB zs k) m (fd zs m k)) := Lib.hid ⟨fun _ => rfl, fun hn => absurd ⟨OK.out.fk hlt, h0, h1⟩ hn⟩
      have sb := sm_bd (f := fd zs m) (a := 0) (b := 10000000000) k (fun j hj => by
        have := (part_bd (OK.out.fk (show j < n by omega)) h0 h1).2.2.2.1
        exact this)
      have hs1 : Hid (sm (fd zs m) (k + 1) = sm (fd zs m) k + fd zs m k) := Lib.hid rfl
      have hset := Lib.hid (fd_set (zs := zs) (w := m) (n := n) (k := k))
      have hfd : Hid (fd zs m k = m * wT zs k / wB zs k) := Lib.hid rfl
      rw [← hfd.out] at q4 q5
      obtain ⟨FD, hFD⟩ : ∃ x, fd zs m k = x := ⟨_, rfl⟩
      rw [hFD] at q4 q5 HPO hs1 hset
      obtain ⟨S, hS⟩ : ∃ S, sm (fd zs m) k = S := ⟨_, rfl⟩
      rw [hS] at sb hs1 ⊢
      generalize wO zs k = O at g1
      generalize wT zs k = T at g2 HPO
      generalize wB zs k = B at g3 HPO
      have k4 : IntKind.i64.wrap (m - S - FD) = m - S - FD := IntWalk.i64_in _ (by omega)
      obtain ⟨wa, hwa⟩ : ∃ wa, wr.alloc (.cells #[.int .i64 O, .int .i64 T, .int .i64 B] TR) = wa := ⟨_, rfl⟩
      have ba : Below wr.heap.size wr wa := hwa ▸ below_al (Below.refl _ _) _
      have XA : Blk wa wr.heap.size TR #[.int .i64 O, .int .i64 T, .int .i64 B] := hwa ▸ Blk.new wr TR _
      have a1 := XA.cell 1
      have a2 := XA.cell 2
      have i0 : (0 : Int) ≤ (k : Int) := by omega
      have i1 : (k : Int) < (n : Int) := by omega
      have HO2 := Lib.hid (HO.out.keep ba)
      have BL2 := Lib.hid (below_step BL.out ba)
      clear hc fk hfd hFD hS sb XA ba
      go_wp2_with fail
      refine (impl_po _ _ _ _ _ HPO.out).mono ?_; rintro e w3 ⟨rfl, hb3⟩
      replace HO2 := Lib.hid (HO2.out.keep hb3)
      replace BL2 := Lib.hid (below_step BL2.out hb3)
      clear hb3 a1 a2 g1 g2 g3 hwa
      have c0 := own_cell HO2.out.own (g := G) rfl k _ (getI (by rw [rw_len]; exact hlt))
      have f0 := own_free HO2.out.own (g := G) rfl k
      have HO3 := own_set1 HO2.out k FD
      rw [hset.out] at HO3
      have O4 := Lib.hid HO3
      have B4 := Lib.hid (BL2.out.setCell (p := ⟨G, k, none⟩) (show w.heap.size ≤ G from HG.out) (.int .i64 FD))
      clear HO2 BL2 HO3
      go_wp2
      go_roundg gk
      case measure => omega
      case rel => exact ⟨k + 1, by omega, by go_num, by rw [hs1.out]; congr 1; omega, O4.out, B4.out⟩
    · obtain rfl : k = n := by omega
      obtain ⟨l0, l1⟩ := OK.out.left h0
      obtain ⟨L0, hL0⟩ : ∃ L0 : Nat, m - sm (fd zs m) k = L0 := ⟨(m - sm (fd zs m) k).toNat, by omega⟩
      have HL0 := Lib.hid hL0
      rw [hL0] at l0 l1 ⊢
      clear hL0
      go_wp2_with fail
      refine (impl_br _ _ k zs m (HR.out.keep BL.out) OK.out h0 h1).mono ?_; rintro e w3 ⟨G2, f, rfl, hG2, hs, hor, hb3⟩
      have HS := Lib.hid hs
      have OR := Lib.hid hor
      have hGG : Hid (G < G2) := Lib.hid (Nat.lt_of_lt_of_le (HO.out.own.lt G rfl).2 hG2)
      have O4 : Hid (OwnR w3 G (G + 1) TI 1 (.slice (some ⟨G, 0, none⟩) k k) k (IV (rw_ (fun v => fd zs m v + if uf f 0 v = true then 1 else 0) k))) := by
        have h := HO.out.keep hb3
        rw [rwcongr (g := fun v => fd zs m v + if uf f 0 v = true then 1 else 0) fun v hv => by rw [if_pos hv]; simp [uf]] at h
        exact Lib.hid h
      have B4 := Lib.hid (below_step BL.out hb3)
      clear hs hor hG2 hb3 HO BL
      have u0 : decide ((0 : Int) ≤ (L0 : Int)) = true := decide_eq_true (by omega)
      have u1 : decide ((L0 : Int) ≤ (k : Int)) = true := decide_eq_true (by omega)
      go_wp2
      go_loopg [50] L0 (fun g s50 wq => ∃ j : Nat, j + g = L0 ∧ s50 = .int .i64 j ∧ OwnR wq G (G + 1) TI 1 (.slice (some ⟨G, 0, none⟩) k k) k (IV (rw_ (fun v => fd zs m v + if uf f j v = true then 1 else 0) k)) ∧
        OwnR wq G2 (G2 + 1) TI 1 (.slice (some ⟨G2, 0, none⟩) k k) k (IV (rw_ (fun v => (f v : Int)) k)) ∧ Below w.heap.size w wq)
      case atStart => exact ⟨0, by omega, rfl, O4.out, OR.out, B4.out⟩
      case round =>
        clear O4 OR B4
        obtain ⟨j, hjg, rfl, ho, hor, hbel⟩ := hrel
        have HO := Lib.hid ho
        have OR := Lib.hid hor
        have BL := Lib.hid hbel
        clear ho hor hbel
        by_cases hlt : j < L0
        · obtain ⟨gk, rfl⟩ : ∃ g', gk = g' + 1 := ⟨gk - 1, by omega⟩
          have hfj := HS.out.2.1 j (by omega)
          have hfr := uf_fresh HS.out (fun a => Ah.irr) (show j < k by omega)
          have c0 := own_cell OR.out.own (g := G2) rfl j _ (getI (by rw [rw_len]; omega))
          rw [rw_at _ (by omega)] at c0
          have c1 := own_cell HO.out.own (g := G) rfl (f j) _ (getI (by rw [rw_len]; omega))
          rw [rw_at _ hfj, hfr, if_neg (by simp), Int.add_zero] at c1
          have f1 := own_free HO.out.own (g := G) rfl (f j)
          have pb := (part_bd (OK.out.fk hfj) h0 h1).2.2.2.1
          have hfd : Hid (fd zs m (f j) = m * wT zs (f j) / wB zs (f j)) := Lib.hid rfl
          rw [← hfd.out] at pb
          have hstep := Lib.hid (dv_step (zs := zs) (w := m) (n := k) hfr)
          obtain ⟨FD, hFD⟩ : ∃ z, fd zs m (f j) = z := ⟨_, rfl⟩
          rw [hFD] at c1 pb hstep
          have HO3 := own_set1 HO.out (f j) (FD + 1)
          rw [hstep.out] at HO3
          have O4 : Hid (OwnR _ G (G + 1) TI 1 (.slice (some ⟨G, 0, none⟩) k k) k (IV (rw_ (fun v => fd zs m v + if uf f (j + 1) v = true then 1 else 0) k))) := Lib.hid HO3
          have hgg := hGG.out
          have OR4 := Lib.hid (OR.out.chg (Chg.set (w := wr) G (f j) (.int .i64 (FD + 1)) (Nat.le_refl _) (Nat.lt_succ_self _)) (.inr (by omega)))
          have B4 := Lib.hid (BL.out.setCell (p := ⟨G, f j, none⟩) (show w.heap.size ≤ G from HG.out) (.int .i64 (FD + 1)))
          have k1 : IntKind.i64.wrap (FD + 1) = FD + 1 := IntWalk.i64_in _ (by omega)
          obtain ⟨b, hb⟩ : ∃ b, f j = b := ⟨_, rfl⟩
          rw [hb] at c0 c1 f1 hfj O4 OR4 B4
          have i0 : (0 : Int) ≤ (b : Int) := by omega
          have i1 : (b : Int) < (k : Int) := by omega
          clear hfr hfd hFD hstep HO3 pb hb hgg
          go_wp2
          go_roundg gk
          case measure => omega
          case rel => exact ⟨j + 1, by omega, by go_num, O4.out, OR4.out, B4.out⟩
        · obtain rfl : j = L0 := by omega
          obtain ⟨u1, u2⟩ := uf_fr HS.out j (by omega)
          have hVU := u1.uniq HU.out.1 (by have := HU.out.2; have := HL0.out; omega)
          have E : rw_ (fun v => fd zs m v + if uf f j v = true then 1 else 0) k = dvr k zs m U := rwcongr fun u hu => by rw [hVU u hu]
          have h := HO.out.own
          rw [E] at h
          have HOO := Lib.hid (own_mono h HG.out)
          clear h E hVU u1 u2
          go_wp2
          go_ret
          exact ⟨_, rfl, HOO.out, BL.out⟩
theorem impl_dv_no (w : World) (v : Value) (n : Nat) (zs : List Int) (m : Int) (hn : n ≤ 1048576) (hr : Row 3 w v n (IV zs)) (no : ¬ (Ro n zs ∧ 0 ≤ m ∧ m ≤ 1000000)) :
    Calls Try.prog 12 #[v, .int .i64 m] w (GotR TI 1 w 0 []) := by
  have HR := Lib.hid hr
  have O0 : ∀ w' : World, w'.ownsRow w.heap.size TI 1 (.slice none 0 0) 0 [] := fun w' => ⟨rfl, .inl ⟨rfl, rfl⟩⟩
  clear hr
  by_cases ok : Ro n zs
  · have OK := Lib.hid ok
    have hm : ¬ (0 ≤ m ∧ m ≤ 1000000) := fun h => no ⟨ok, h⟩
    clear ok no
    go_enter Try.func12, Try.ntmps12
    go_wp2_with fail
    refine (impl_ro _ _ n zs hn HR.out true ⟨fun _ => OK.out, fun _ => rfl⟩).mono ?_; rintro e w1 ⟨rfl, hb⟩
    have B1 := Lib.hid hb
    clear hb
    go_wp2_with fail
    refine (inR_no _ _ _ _ hm).mono ?_; rintro e w2 ⟨rfl, rfl⟩
    clear hm
    go_wp2
    go_ret
    exact ⟨_, rfl, O0 _, B1.out⟩
  · have OK := Lib.hid ok
    clear ok no
    go_enter Try.func12, Try.ntmps12
    go_wp2_with fail
    refine (impl_ro _ _ n zs hn HR.out false ⟨fun h => (by cases h), fun h => absurd h OK.out⟩).mono ?_; rintro e w1 ⟨rfl, hb⟩
    have B1 := Lib.hid hb
    clear hb
    go_wp2
    go_ret
    exact ⟨_, rfl, O0 _, B1.out⟩
theorem impl_dv (w : World) (v : Value) (n : Nat) (zs : List Int) (m : Int) (ys : List Int) (hn : n ≤ 1048576) (hr : Row 3 w v n (IV zs)) (h : Dva n zs m ys) :
    Calls Try.prog 12 #[v, .int .i64 m] w (GotR TI 1 w ys.length (IV ys)) := by
  by_cases hc : Ro n zs ∧ 0 ≤ m ∧ m ≤ 1000000
  · obtain ⟨hl, U, hU, rfl⟩ := h.1 hc
    rw [hl]
    exact impl_dv_yes w v n zs m hr hc.1 hc.2.1 hc.2.2 U hU
  · rw [h.2 hc]
    exact impl_dv_no w v n zs m hn hr hc
end Go.Proofs.Ytopbeacfljoacaa.rgt
