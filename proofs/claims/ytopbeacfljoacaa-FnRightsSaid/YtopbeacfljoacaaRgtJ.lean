/- Rights: the program's SumOfShares, RightsOk. -/
import Derived.Test.YtopbeacfljoacaaRgtS2
import Derived.Test.YtopbeacfljoacaaFrcI
namespace Go.Proofs.Ytopbeacfljoacaa.rgt
open Go.RowKit Go.Proofs.Ytopbeacfljoacaa.kit Go.Proofs.Ytopbeacfljoacaa.lawi Go.Proofs.Ytopbeacfljoacaa.own Go.Proofs.Ytopbeacfljoacaa.rain Go.Proofs.Ytopbeacfljoacaa.yrl Go.Proofs.Ytopbeacfljoacaa.frc Go.Proofs.Ytopbeacfljoacaa.stRight Go.Proofs.Ytopbeacfljoacaa.later
set_option maxHeartbeats 1000000 in
theorem impl_ns (w : World) : Calls Try.prog 38 #[] w (Gives w (stFraction.R 0 1)) := by
  obtain ⟨w0, hw0⟩ : ∃ w0, w.alloc (.cells #[.int .i64 0, .int .i64 0] TF) = w0 := ⟨_, rfl⟩
  have HB : Hid (Below w.heap.size w w0) := Lib.hid (hw0 ▸ below_al (Below.refl _ _) _)
  have HX : Hid (Blk w0 w.heap.size TF #[.int .i64 0, .int .i64 0]) := Lib.hid (hw0 ▸ Blk.new w TF #[.int .i64 0, .int .i64 0])
  obtain ⟨p0, p1, p2, p3⟩ := fcell HX.out
  go_enter Try.func38, Try.ntmps38
  go_wp2
  refine bodyPost_ret (v := stFraction.R 0 1) (by simp [*, results, Try.results38, go_sem]) rfl ⟨rfl, ?_⟩
  have B1 := HB.out
  go_grown
set_option maxHeartbeats 4000000 in
theorem impl_sum (w : World) (v : Value) (n : Nat) (zs : List Int) (hn : n ≤ 1048576) (hr : Row 3 w v n (IV zs)) (x y : Int) (r : Bool) (h : Su n zs x y r) :
    Calls Try.prog 13 #[v] w (Gives w (.tuple #[stFraction.R x y, .bool r])) := by
  obtain ⟨av, ca, rfl⟩ := hr.shape
  have hl : zs.length = n * 3 := by simpa using hr.1
  obtain ⟨w0, hw0⟩ : ∃ w0, w.alloc (.cells #[.int .i64 0, .int .i64 0] TF) = w0 := ⟨_, rfl⟩
  have XR : Hid (Blk w0 w.heap.size TF #[.int .i64 0, .int .i64 0]) := Lib.hid (hw0 ▸ Blk.new w TF #[.int .i64 0, .int .i64 0])
  have HB : Hid (Below w.heap.size w w0) := Lib.hid (hw0 ▸ below_al (Below.refl _ _) _)
  have HR := Lib.hid hr
  have HS := Lib.hid h
  clear hr h
  by_cases h12 : n ≤ 12
  · go_enter Try.func13, Try.ntmps13
    go_wp2_with fail
    refine (impl_ns _).mono ?_; rintro e w1 ⟨rfl, hb⟩
    replace XR := Lib.hid ((XR.out.step hb).alloc (.cells #[.int .i64 0, .int .i64 1] TF))
    have B0 := Lib.hid (below_al (HB.out.trans (hb.mono HB.out.size)) (.cells #[.int .i64 0, .int .i64 1] TF))
    have XS := Lib.hid (Blk.new w1 TF #[.int .i64 0, .int .i64 1])
    have hlow : Hid (w.heap.size < w1.heap.size) := Lib.hid (Nat.lt_of_lt_of_le (by rw [← hw0]; simp) hb.size)
    clear hw0 hb HB
    go_upto_region 4 with fail
    obtain ⟨G, hG⟩ : ∃ G, w1.heap.size = G := ⟨_, rfl⟩
    rw [hG] at hlow XS ⊢
    generalize w1.alloc (.cells #[.int .i64 0, .int .i64 1] TF) = w2 at B0 XR XS ⊢
    clear hG
    go_wp2
    go_loopg [16] n (fun g s16 wr => ∃ (k : Nat) (p q : Int), k + g = n ∧ s16 = .int .i64 k ∧ Sm (wT zs) (wB zs) k p q ∧ Blk wr w.heap.size TF #[.int .i64 0, .int .i64 0] ∧ Blk wr G TF #[.int .i64 p, .int .i64 q] ∧ Below w.heap.size w wr)
    case atStart => exact ⟨0, 0, 1, by omega, rfl, .zero, XR.out, XS.out, B0.out⟩
    case round =>
      clear XR XS B0
      obtain ⟨k, p, q, hkg, rfl, hsm, hxr, hxs, hbel⟩ := hrel
      have SM := Lib.hid hsm
      have XR := Lib.hid hxr
      have XS := Lib.hid hxs
      have BL := Lib.hid hbel
      clear hsm hxr hxs hbel
      by_cases hlt : k < n
      · obtain ⟨gk, rfl⟩ : ∃ g', gk = g' + 1 := ⟨gk - 1, by omega⟩
        obtain ⟨b1, o1, rfl, h1⟩ := (HR.out.keep BL.out).at_ (by omega)
        obtain ⟨g1, g2, g3⟩ := right_at h1 hl hlt
        obtain ⟨q0, q1, _⟩ := fcell XS.out
        obtain ⟨x', y', r', ha⟩ := Ad.ex p q (wT zs k) (wB zs k)
        have HA := Lib.hid ha
        have HAD := Lib.hid ha
        obtain ⟨O, hO⟩ : ∃ O, wO zs k = O := ⟨_, rfl⟩
        obtain ⟨T, hT⟩ : ∃ T, wT zs k = T := ⟨_, rfl⟩
        obtain ⟨B, hB⟩ : ∃ B, wB zs k = B := ⟨_, rfl⟩
        rw [hO] at g1
        rw [hT] at g2 HAD
        rw [hB] at g3 HAD
        obtain ⟨wa, hwa⟩ : ∃ wa, wr.alloc (.cells #[.int .i64 O, .int .i64 T, .int .i64 B] TR) = wa := ⟨_, rfl⟩
        have BA : Hid (Below wr.heap.size wr wa) := Lib.hid (hwa ▸ below_al (Below.refl _ _) _)
        have XA : Hid (Blk wa wr.heap.size TR #[.int .i64 O, .int .i64 T, .int .i64 B]) := Lib.hid (hwa ▸ Blk.new wr TR #[.int .i64 O, .int .i64 T, .int .i64 B])
        have a0 := XA.out.cell 0
        have a1 := XA.out.cell 1
        have a2 := XA.out.cell 2
        obtain ⟨q2, q3, _⟩ := fcell (XS.out.step BA.out)
        clear h1 ha hT hB hO
        go_wp2_with fail
        refine (impl_add _ _ _ _ _ _ _ _ HAD.out).mono ?_; rintro e w2 ⟨rfl, hb2⟩
        obtain ⟨w3, hw3⟩ : ∃ w3, w2.alloc (.cells #[.int .i64 x', .int .i64 y'] TF) = w3 := ⟨_, rfl⟩
        have BW : Below wr.heap.size wr w3 := hw3 ▸ below_al (below_step BA.out hb2) _
        have XN : Hid (Blk w3 w2.heap.size TF #[.int .i64 x', .int .i64 y']) := Lib.hid (hw3 ▸ Blk.new w2 TF #[.int .i64 x', .int .i64 y'])
        replace XR := Lib.hid (XR.out.step BW)
        replace XS := Lib.hid (XS.out.step BW)
        replace BL := Lib.hid (BL.out.trans (BW.mono BL.out.size))
        clear q0 q1 q2 q3 a0 a1 a2 hwa g1 g2 g3 hb2 BW
        cases r' with
        | false =>
          obtain ⟨e1, e2, e3⟩ : x = 0 ∧ y = 0 ∧ r = false := by
            rcases HS.out with ⟨_, h2, _⟩ | ⟨_, h2⟩
            · exact absurd h2 (SM.out.stop HA.out hlt _ _)
            · exact h2
          subst e1 e2 e3
          obtain ⟨p0, p1, p2, p3⟩ := fcell XR.out
          go_wp2
          refine bodyPost_ret (v := .tuple #[stFraction.R 0 0, .bool false]) (by simp [*, results, Try.results13, go_sem]) rfl ⟨rfl, ?_⟩
          have B1 := BL.out
          go_grown
        | true =>
          have HN := Lib.hid (Sm.step k p q x' y' SM.out HA.out)
          obtain ⟨n0, n1, n2, n3⟩ := fcell XN.out
          obtain ⟨s0, s1, s2, s3⟩ := fcell XS.out
          have hgs : G ≠ w.heap.size := by have := hlow.out; omega
          have X1 : Hid (Blk ((w3.setCell ⟨G, 0, none⟩ (.int .i64 x')).setCell ⟨G, 1, none⟩ (.int .i64 y')) G TF #[.int .i64 x', .int .i64 y']) := Lib.hid (by simpa using (XS.out.set_ 0 (.int .i64 x')).set_ 1 (.int .i64 y'))
          have X2 : Hid (Blk ((w3.setCell ⟨G, 0, none⟩ (.int .i64 x')).setCell ⟨G, 1, none⟩ (.int .i64 y')) w.heap.size TF #[.int .i64 0, .int .i64 0]) := Lib.hid ((XR.out.far (p := ⟨G, 0, none⟩) (by show w.heap.size ≠ G; omega) _).far (p := ⟨G, 1, none⟩) (by show w.heap.size ≠ G; omega) _)
          have X3 : Hid (Below w.heap.size w ((w3.setCell ⟨G, 0, none⟩ (.int .i64 x')).setCell ⟨G, 1, none⟩ (.int .i64 y'))) := Lib.hid ((BL.out.setCell (by show w.heap.size ≤ G; have := hlow.out; omega) _).setCell (by show w.heap.size ≤ G; have := hlow.out; omega) _)
          go_wp2
          go_roundg gk
          case measure => omega
          case rel => exact ⟨k + 1, x', y', by omega, by go_num, HN.out, X2.out, X1.out, X3.out⟩
      · obtain rfl : k = n := by omega
        obtain ⟨e1, e2, e3⟩ : x = p ∧ y = q ∧ r = true := by
          rcases HS.out with ⟨_, h2, h3⟩ | ⟨h2, _⟩
          · exact ⟨(h2.uniq SM.out).1, (h2.uniq SM.out).2, h3⟩
          · exact absurd SM.out (h2 h12 _ _)
        subst e1 e2 e3
        obtain ⟨p0, p1, p2, p3⟩ := fcell XR.out
        obtain ⟨s0, s1, _⟩ := fcell XS.out
        go_wp2
        refine bodyPost_ret (v := .tuple #[stFraction.R x y, .bool true]) (by simp [*, results, Try.results13, go_sem]) rfl ⟨rfl, ?_⟩
        have B1 := BL.out
        go_grown
  · obtain ⟨e1, e2, e3⟩ : x = 0 ∧ y = 0 ∧ r = false := by
      rcases HS.out with ⟨h2, _⟩ | ⟨_, h2⟩
      · exact absurd h2 h12
      · exact h2
    subst e1 e2 e3
    obtain ⟨p0, p1, p2, p3⟩ := fcell XR.out
    go_enter Try.func13, Try.ntmps13
    go_wp2
    refine bodyPost_ret (v := .tuple #[stFraction.R 0 0, .bool false]) (by simp [*, results, Try.results13, go_sem]) rfl ⟨rfl, ?_⟩
    have B1 := HB.out
    go_grown
/-- The owner ahead of right k; 0: there is none. -/
def Bf (zs : List Int) (k : Nat) (b : Int) : Prop := (k = 0 ∧ b = 0) ∨ (0 < k ∧ b = wO zs (k - 1) ∧ 1 ≤ b ∧ b ≤ 999)
theorem Bf.own {zs : List Int} {k : Nat} {b : Int} (h : Bf zs k b) : Own1 zs k ↔ (b + 1 ≤ wO zs k ∧ wO zs k ≤ 999) ∧ 1 ≤ wT zs k := by
  unfold Own1
  rcases h with ⟨rfl, rfl⟩ | ⟨h1, h2, h3, h4⟩
  · constructor
    · rintro ⟨a, b, _⟩; exact ⟨by omega, b⟩
    · rintro ⟨a, b⟩; exact ⟨by omega, b, fun h => by omega⟩
  · constructor
    · rintro ⟨a, b, c⟩; have := c h1; exact ⟨by omega, b⟩
    · rintro ⟨a, b⟩; exact ⟨by omega, b, fun _ => by omega⟩
theorem Bf.rg {zs : List Int} {k : Nat} {b : Int} (h : Bf zs k b) : 0 ≤ b ∧ b ≤ 999 := by
  rcases h with ⟨_, rfl⟩ | ⟨_, _, h3, h4⟩ <;> omega
theorem Bf.next {zs : List Int} {k : Nat} (h1 : 1 ≤ wO zs k) (h2 : wO zs k ≤ 999) : Bf zs (k + 1) (wO zs k) := .inr ⟨by omega, by rw [Nat.add_sub_cancel], h1, h2⟩
set_option maxHeartbeats 4000000 in
theorem impl_ro (w : World) (v : Value) (n : Nat) (zs : List Int) (hn : n ≤ 1048576) (hr : Row 3 w v n (IV zs)) (r : Bool) (hb : r = true ↔ Ro n zs) :
    Calls Try.prog 17 #[v] w (Gives w (.bool r)) := by
  obtain ⟨av, ca, rfl⟩ := hr.shape
  have hl : zs.length = n * 3 := by simpa using hr.1
  have HR := Lib.hid hr
  have HBB := Lib.hid hb
  clear hr hb
  by_cases h12 : 1 ≤ (n : Int) ∧ (n : Int) ≤ 12
  · have H12 := Lib.hid h12
    go_enter Try.func17, Try.ntmps17
    go_wp2_with fail
    refine (inR_yes _ _ _ _ h12.1 h12.2).mono ?_; rintro e w1 ⟨rfl, rfl⟩
    go_wp2
    go_loopg [3, 14] n (fun g s3 s14 wr => ∃ (k : Nat) (b : Int), k + g = n ∧ s14 = .int .i64 k ∧ s3 = .int .i64 b ∧ Bf zs k b ∧ (∀ j, j < k → Own1 zs j) ∧ Below w.heap.size w wr)
    case atStart => exact ⟨0, 0, by omega, rfl, rfl, .inl ⟨rfl, rfl⟩, fun j hj => by omega, Below.refl _ _⟩
    case round =>
      obtain ⟨k, b, hkg, rfl, rfl, hbf, hg, hbel⟩ := hrel
      have HF := Lib.hid hbf
      have HG := Lib.hid hg
      have BL := Lib.hid hbel
      have RW := Lib.hid (HR.out.keep hbel)
      have hbr := hbf.rg
      clear hbf hg hbel
      by_cases hlt : k < n
      · obtain ⟨gk, rfl⟩ : ∃ g', gk = g' + 1 := ⟨gk - 1, by omega⟩
        have bad : Hid (¬ (Own1 zs k ∧ Fk (wT zs k) (wB zs k)) → r = false) := Lib.hid fun h => by
          cases r
          · rfl
          · exact absurd ⟨(HBB.out.1 rfl).2.1 k hlt, (HBB.out.1 rfl).fk hlt⟩ h
        have hown := Lib.hid HF.out.own
        have hnx : Hid (1 ≤ wO zs k → wO zs k ≤ 999 → Bf zs (k + 1) (wO zs k)) := Lib.hid Bf.next
        obtain ⟨b1, o1, rfl, h1⟩ := RW.out.at_ (by omega)
        obtain ⟨g1, g2, g3⟩ := right_at h1 hl hlt
        generalize wO zs k = O at g1 hown hnx
        generalize wT zs k = T at g2 hown bad
        generalize wB zs k = B at g3 bad
        have e1 : IntKind.i64.wrap (b + 1) = b + 1 := IntWalk.i64_in _ (by omega)
        obtain ⟨w2, hw2⟩ : ∃ w2, wr.alloc (.cells #[.int .i64 O, .int .i64 T, .int .i64 B] TR) = w2 := ⟨_, rfl⟩
        have BW : Below wr.heap.size wr w2 := hw2 ▸ below_al (Below.refl _ _) _
        have XN : Hid (Blk w2 wr.heap.size TR #[.int .i64 O, .int .i64 T, .int .i64 B]) := Lib.hid (hw2 ▸ Blk.new wr TR #[.int .i64 O, .int .i64 T, .int .i64 B])
        have B2 := Lib.hid (BL.out.trans (BW.mono BL.out.size))
        have n0 := XN.out.cell 0
        have n1 := XN.out.cell 1
        have n2 := XN.out.cell 2
        clear h1
        by_cases c1 : b + 1 ≤ O ∧ O ≤ 999
        · have C1 := Lib.hid c1
          go_wp2_with fail
          refine (inR_yes _ _ _ _ c1.1 c1.2).mono ?_; rintro e w3 ⟨rfl, rfl⟩
          clear g1 g2 g3 hw2 BW
          by_cases c2 : Fk T B
          · have C2 := Lib.hid c2
            clear c2
            go_wp2_with fail
            refine (impl_fok _ T B true ⟨fun _ => C2.out, fun _ => rfl⟩).mono ?_; rintro e w3 ⟨rfl, hb3⟩
            obtain ⟨m0, m1, m2⟩ : w3.cell? ⟨wr.heap.size, 0, none⟩ = some (.int .i64 O) ∧ w3.cell? ⟨wr.heap.size, 1, none⟩ = some (.int .i64 T) ∧ w3.cell? ⟨wr.heap.size, 2, none⟩ = some (.int .i64 B) := by
              have X := XN.out.step hb3
              exact ⟨X.cell 0, X.cell 1, X.cell 2⟩
            replace B2 := Lib.hid (below_step B2.out hb3)
            clear hb3 n0 n1 n2
            by_cases c3 : T = 0
            · obtain rfl := bad.out (fun h => by have := (hown.out.1 h.1).2; omega)
              subst c3
              clear bad hown hnx
              go_wp2
              go_ret
              exact ⟨rfl, B2.out⟩
            · have u3 : (T == 0) = false := beq_false_of_ne c3
              have HN := Lib.hid (own_succ HG.out (hown.out.2 ⟨C1.out, by have := C2.out.2.1.1; omega⟩))
              have HX := Lib.hid (hnx.out (by omega) c1.2)
              clear bad hown hnx
              go_wp2
              go_roundg gk
              case measure => omega
              case rel => exact ⟨k + 1, O, by omega, by go_num, rfl, HX.out, HN.out, B2.out⟩
          · obtain rfl := bad.out (fun h => c2 h.2)
            clear bad hown hnx
            go_wp2_with fail
            refine (impl_fok _ T B false ⟨fun h => (by cases h), fun h => absurd h c2⟩).mono ?_; rintro e w3 ⟨rfl, hb3⟩
            replace B2 := Lib.hid (below_step B2.out hb3)
            clear hb3 n0 n1 n2 c2
            go_wp2
            go_ret
            exact ⟨rfl, B2.out⟩
        · obtain rfl := bad.out (fun h => c1 (hown.out.1 h.1).1)
          clear bad hown hnx
          go_wp2_with fail
          refine (inR_no _ _ _ _ c1).mono ?_; rintro e w3 ⟨rfl, rfl⟩
          go_wp2
          go_ret
          exact ⟨rfl, B2.out⟩
      · obtain rfl : k = n := by omega
        obtain ⟨x, y, s, hs⟩ := Su.ex k zs
        have HRO := Lib.hid (hs.ro HG.out)
        have HS := Lib.hid hs
        clear hs HG HF
        go_wp2_with fail
        refine (impl_sum _ _ k zs hn RW.out x y s HS.out).mono ?_; rintro e w2 ⟨rfl, hb⟩
        have B2 := Lib.hid (below_al (BL.out.trans (hb.mono BL.out.size)) (.cells #[.int .i64 x, .int .i64 y] TF))
        clear hb
        have hn12 : 1 ≤ k ∧ k ≤ 12 := by have := H12.out; omega
        have HN := Lib.hid hn12
        clear hn12
        cases s with
        | false =>
          have e : r = false := by
            cases r
            · rfl
            · cases (HRO.out.1 (HBB.out.1 rfl)).2.1
          subst e
          go_wp2
          go_ret
          exact ⟨rfl, B2.out⟩
        | true =>
          obtain ⟨r1, h1⟩ : ∃ r, (x == 1) = r := ⟨_, rfl⟩
          obtain ⟨r2, h2⟩ : ∃ r, (y == 1) = r := ⟨_, rfl⟩
          have e : r = (r1 && r2) := by
            rw [Bool.eq_iff_iff, HBB.out, HRO.out, ← h1, ← h2, Bool.and_eq_true, beq_iff_eq, beq_iff_eq]
            exact ⟨fun h => h.2.2, fun h => ⟨HN.out, rfl, h⟩⟩
          clear HRO HBB
          cases r1 <;> cases r2 <;> simp only [Bool.and_self, Bool.and_true, Bool.and_false] at e <;> subst e
          all_goals
            go_wp2
            go_ret
            exact ⟨rfl, B2.out⟩
  · have e : r = false := by
      cases r
      · rfl
      · exact absurd (HBB.out.1 rfl).1 (fun h => h12 (by omega))
    subst e
    go_enter Try.func17, Try.ntmps17
    go_wp2_with fail
    refine (inR_no _ _ _ _ h12).mono ?_; rintro e w1 ⟨rfl, rfl⟩
    go_wp2
    go_ret
    exact ⟨rfl, Below.refl _ _⟩
end Go.Proofs.Ytopbeacfljoacaa.rgt
