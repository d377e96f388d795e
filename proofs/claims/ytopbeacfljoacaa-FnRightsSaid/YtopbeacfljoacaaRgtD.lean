/- Drawn rights. -/
import Derived.Test.YtopbeacfljoacaaRgtS5
import Derived.Test.YtopbeacfljoacaaRgtP2
import Derived.Test.YtopbeacfljoacaaFrcD
namespace Go.Proofs.Ytopbeacfljoacaa.rgt
open Go.RowKit Go.Proofs.Ytopbeacfljoacaa.kit Go.Proofs.Ytopbeacfljoacaa.lawi Go.Proofs.Ytopbeacfljoacaa.own Go.Proofs.Ytopbeacfljoacaa.rain Go.Proofs.Ytopbeacfljoacaa.yrl Go.Proofs.Ytopbeacfljoacaa.frc Go.Proofs.Ytopbeacfljoacaa.stRight Go.Proofs.Ytopbeacfljoacaa.draw Go.Proofs.Ytopbeacfljoacaa.take
/-- While rights are drawn: the row and the cursor. -/
structure RS (w wr : World) (c : Nat) (a : Option Addr) (len cap : Nat) (v : Value) (n : Nat) (zs : List Int) : Prop where
  oo : wr.ownsRow w.heap.size TR 3 v n (IV zs)
  cu : Cur wr c a len cap
  gr : w.grownBy wr (some c)
  lc : c < w.heap.size
  lo : ∀ x, a = some x → 0 < len → x.block < w.heap.size
section
variable {w wr wr' : World} {c : Nat} {a : Option Addr} {len cap : Nat} {v : Value} {n : Nat} {zs : List Int}
theorem RS.size (h : RS w wr c a len cap v n zs) : w.heap.size ≤ wr.heap.size := h.gr.size
theorem RS.draw (h : RS w wr c a len cap v n zs) (hc : Cur wr' c a len cap) (hg : wr.grownBy wr' (some c)) : RS w wr' c a len cap v n zs :=
  have lc := h.lc
  ⟨h.oo.kept hg (own_not h.oo (by omega)), hc, grown_trans h.gr hg, h.lc, h.lo⟩
theorem RS.below (h : RS w wr c a len cap v n zs) (hb : Below wr.heap.size wr wr') : RS w wr' c a len cap v n zs :=
  ⟨own_below h.oo hb, h.cu.above (grown_of hb) (B := w.heap.size) (by simp) h.lc h.lo, grown_above h.gr (grown_of hb) (by simp), h.lc, h.lo⟩
theorem RS.row (h : RS w wr c a len cap v n zs) (hb : Below wr.heap.size wr wr') {v' : Value} {n' : Nat} {zs' : List Int} (ho : wr'.ownsRow wr.heap.size TR 3 v' n' (IV zs')) : RS w wr' c a len cap v' n' zs' :=
  have h1 := h.below hb
  ⟨own_mono ho h.size, h1.cu, h1.gr, h.lc, h.lo⟩
end
theorem own_right {w : World} {lo g : Nat} {x y z : Int} (h : Blk w g TR #[.int .i64 x, .int .i64 y, .int .i64 z]) (hl : lo ≤ g) : w.ownsRow lo TR 3 (.slice (some ⟨g, 0, none⟩) 1 1) 1 (IV [x, y, z]) :=
  ⟨rfl, .inr ⟨g, 1, _, rfl, hl, h, Nat.le_refl _, by unfold maxLen; omega, rfl, rfl⟩⟩
theorem quarter {x : Int} (x0 : 0 ≤ x) (x1 : x < 3) : ∃ p q, Mk (1 + x) 4 p q true ∧ p < q ∧ ∃ e, q * e = 4 := by
  have key : ∀ X : Nat, X < 4 → 0 < X → rT X 4 ≤ 10000 ∧ rB X 4 ≤ 10000 ∧ rT X 4 < rB X 4 ∧ ∃ e : Nat, rB X 4 * e = 4 := by
    intro X h1 h2
    rcases (show X = 1 ∨ X = 2 ∨ X = 3 by omega) with rfl | rfl | rfl
    · exact ⟨by decide, by decide, by decide, 1, by decide⟩
    · exact ⟨by decide, by decide, by decide, 2, by decide⟩
    · exact ⟨by decide, by decide, by decide, 1, by decide⟩
  obtain ⟨X, hX⟩ : ∃ X : Nat, 1 + x = X := ⟨(1 + x).toNat, by omega⟩
  obtain ⟨k1, k2, k3, e, k4⟩ := key X (by omega) (by omega)
  refine ⟨rT X 4, rB X 4, ⟨fun _ => ?_, fun hn => absurd ⟨⟨by omega, by omega⟩, by decide, by decide⟩ hn⟩, by omega, e, int_mul (c := 4) k4⟩
  rw [hX, Int.toNat_natCast, show (4 : Int).toNat = 4 from rfl]
  exact ⟨fun _ => ⟨rfl, rfl, rfl⟩, fun g => absurd ⟨k1, k2⟩ g⟩
theorem FairR.one {x : Int} (x0 : 0 ≤ x) (x1 : x < 9) : FairR 1 [1 + x, 1, 1] := by
  refine ⟨rfl, ⟨⟨by decide, by decide⟩, fun k hk => ?_, ?_⟩, fun k hk => ?_⟩
  · obtain rfl : k = 0 := by omega
    unfold Own1
    refine ⟨⟨?_, ?_⟩, (show (1 : Int) ≤ 1 by decide), fun h => by omega⟩
    · show 1 ≤ 1 + x; omega
    · show 1 + x ≤ 999; omega
  · refine .step 0 0 1 1 1 .zero ⟨fun _ => ?_, fun g => absurd ⟨by exact ⟨by decide, by decide, by decide⟩, fk11⟩ g⟩
    show Red (0 * 1 + 1 * 1 : Int).toNat (1 * 1 : Int).toNat 1 1 true
    exact ⟨fun _ => ⟨by decide, by decide, rfl⟩, fun g => absurd (by decide) g⟩
  · obtain rfl : k = 0 := by omega
    refine ⟨?_, 8192, by decide, (show (1 : Int) * 8192 = 8192 from rfl)⟩
    show 1 + x ≤ 12
    omega
/-- What a draw of rights leaves. -/
def DrewR (w : World) (c : Nat) (a : Option Addr) (len cap : Nat) (e : Ending) (w' : World) : Prop :=
  ∃ (n : Nat) (zs : List Int) (v : Value), e = .returned v ∧ n ≤ 6 ∧ FairR n zs ∧ w'.ownsRow w.heap.size TR 3 v n (IV zs) ∧ Cur w' c a len cap ∧ w.grownBy w' (some c)
set_option maxHeartbeats 4000000 in
theorem rights_any (w : World) (c : Nat) (a : Option Addr) (len cap : Nat) (hcur : Cur w c a len cap) :
    Calls Try.prog 33 #[.pointer (some ⟨c, 0, none⟩)] w (DrewR w c a len cap) := by
  have hclt := hcur.lt
  have hlow := hcur.low
  go_enter Try.func33, Try.ntmps33
  go_wp2_with fail
  refine (below_any _ c a len cap 9 (by omega) hcur).mono ?_; rintro e w1 ⟨x, hx, rfl, hc1, hg1⟩
  obtain ⟨x0, x1⟩ := hx.of (by omega)
  have hF1 := Lib.hid (FairR.one x0 x1)
  have hz1 := hg1.size
  obtain ⟨wa, hwa⟩ : ∃ wa, w1.alloc (.cells #[.int .i64 (1 + x), .int .i64 1, .int .i64 1] TR) = wa := ⟨_, rfl⟩
  obtain ⟨g0, hg0⟩ : ∃ g, w1.heap.size = g := ⟨_, rfl⟩
  have ba : Below w1.heap.size w1 wa := hwa ▸ below_al (Below.refl _ _) _
  have D0 : RS w wa c a len cap (.slice (some ⟨g0, 0, none⟩) 1 1) 1 [1 + x, 1, 1] := by
    refine ⟨?_, hc1.above (grown_of ba) (B := w.heap.size) (by simp) hclt hlow, grown_above hg1 (grown_of ba) (by simp), hclt, hlow⟩
    exact own_right (by rw [← hwa, ← hg0]; exact Blk.new w1 TR _) (by omega)
  have HD := Lib.hid D0
  have e1 : IntKind.i64.wrap (1 + x) = 1 + x := IntWalk.i64_in _ (by omega)
  clear hx x0 x1 hc1 hg1 D0 ba hcur hz1
  go_wp2_with fail
  refine (below_any _ c a len cap 6 (by omega) HD.out.cu).mono ?_; rintro e w2 ⟨m, hm, rfl, hc2, hg2⟩
  obtain ⟨m1, m2⟩ := hm.of (by omega)
  replace HD := Lib.hid (HD.out.draw hc2 hg2)
  obtain ⟨M, hM⟩ : ∃ M : Nat, m = (M : Int) := ⟨m.toNat, by omega⟩
  subst hM
  have hM5 : M ≤ 5 := by omega
  clear hc2 hg2 hm m1 m2
  go_wp2
  clear hwa hg0 e1
  go_loopg [3, 4] M (fun gh s3 s4 wr => ∃ (n : Nat) (zs : List Int), s4 = .int .i64 (gh : Nat) ∧ n + gh ≤ 6 ∧ FairR n zs ∧ RS w wr c a len cap s3 n zs)
  case atStart => exact ⟨1, _, rfl, by omega, hF1.out, HD.out⟩
  case round =>
    clear HD hF1
    obtain ⟨n, zs, rfl, hng, hf, hrs⟩ := hrel
    have HD := Lib.hid hrs
    have HF := Lib.hid hf
    have hn1 := hf.2.1.1.1
    have hl := hf.1
    clear hrs hf
    by_cases hlt : 0 < gk
    · obtain ⟨gl, rfl⟩ : ∃ g', gk = g' + 1 := ⟨gk - 1, by omega⟩
      obtain ⟨b, cb, rfl, _, _⟩ := own_some HD.out.oo (by omega)
      go_wp2_with fail
      refine (below_any _ c a len cap (n : Int) (by omega) HD.out.cu).mono ?_; rintro e w3 ⟨k, hk, rfl, hc3, hg3⟩
      obtain ⟨k0, k1⟩ := hk.of (by omega)
      replace HD := Lib.hid (HD.out.draw hc3 hg3)
      obtain ⟨J, hK⟩ : ∃ J : Nat, k = (J : Int) := ⟨k.toNat, by omega⟩
      subst hK
      have hJn : J < n := by omega
      clear hk hc3 hg3
      go_upto_region 6 with fail
      go_cut [6, 7] (fun s6 s7 wx => ∃ (g : Nat) (p q : Int), s6 = .pointer (some ⟨g, 0, none⟩) ∧ g ≠ c ∧ (p < q ∧ ∃ e, q * e = 4) ∧ wx.cell? ⟨g, 0, none⟩ = some (.int .i64 p) ∧ wx.cell? ⟨g, 1, none⟩ = some (.int .i64 q) ∧ RS w wx c a len cap (.slice (some ⟨b, 0, none⟩) n cb) n zs)
      case first =>
        go_wp2_with fail
        refine (below_any _ c a len cap 3 (by omega) HD.out.cu).mono ?_; rintro e w4 ⟨y, hy, rfl, hc4, hg4⟩
        obtain ⟨y0, y1⟩ := hy.of (by omega)
        replace HD := Lib.hid (HD.out.draw hc4 hg4)
        obtain ⟨p, q, hmk, hpq⟩ := quarter y0 y1
        have HMK := Lib.hid hmk
        have HPQ := Lib.hid hpq
        have e2 : IntKind.i64.wrap (1 + y) = 1 + y := IntWalk.i64_in _ (by omega)
        clear hy hc4 hg4 y0 y1 hmk hpq
        go_wp2_with fail
        refine (spec_mk _ _ _ _ _ _ HMK.out).mono ?_; rintro e w5 ⟨rfl, hb5⟩
        replace HD := Lib.hid (HD.out.below hb5)
        have hcg : w5.heap.size ≠ c := by have := HD.out.cu.lt; omega
        clear hb5
        go_wp2_with fail
        go_meet
        refine ⟨_, p, q, rfl, hcg, HPQ.out, ?_, ?_, HD.out.below ?_⟩
        · go_simp
        · go_simp
        · go_simp
          exact below_al (Below.refl _ _) _
      case rest =>
        obtain ⟨g, p, q, rfl, hgc, hpq, c0, c1, hrs⟩ := hcut
        have HD := Lib.hid hrs
        have HPQ := Lib.hid hpq
        have hbc : b ≠ c := by
          have := (hrs.oo.lt b (by simp [Value.ownBlock])).1
          have := hrs.lc
          omega
        clear hrs hpq
        have q0 : wc.cell? ⟨b, J * 3, none⟩ = some (.int .i64 (wO zs J)) := own_cell HD.out.oo (g := b) rfl (J * 3) _ (getI (by omega))
        go_upto_region 7 with fail
        refine wp_region_held_drew (S := fun V => V.cell? ⟨b, J * 3, none⟩ = some (.int .i64 (wO zs J)) ∧ V.cell? ⟨g, 0, none⟩ = some (.int .i64 p) ∧ V.cell? ⟨g, 1, none⟩ = some (.int .i64 q)) (by kernel_rfl) ⟨q0, c0, c1⟩ (fun hHeld => ?_)
        refine takeH 0 (by simp only [List.getElem?_toArray, List.getElem?_cons_zero]; rfl) (by kernel_rfl) (by kernel_rfl) (by kernel_rfl) (by rfl) (by intro w hSw; (try dsimp only at hSw); go_simp; first | done | with_reducible rfl) (by intro _ _ _ h; exact h) (by assumption) ?_
        (try simp only [Act.put, List.setIfInBounds_toArray, List.set_cons_zero, List.set_cons_succ])
        refine takeH 1 (by simp only [List.getElem?_toArray, List.getElem?_cons_succ, List.getElem?_cons_zero]; rfl) (by kernel_rfl) (by kernel_rfl) (by kernel_rfl) (by rfl) (by intro w hSw; (try dsimp only at hSw); go_simp; first | done | with_reducible rfl) (by intro _ _ _ h; exact h) (by assumption) ?_
        (try simp only [Act.put, List.setIfInBounds_toArray, List.set_cons_zero, List.set_cons_succ])
        refine takeH 2 (by simp only [List.getElem?_toArray, List.getElem?_cons_succ, List.getElem?_cons_zero]; rfl) (by kernel_rfl) (by kernel_rfl) (by kernel_rfl) (by rfl) (by intro w hSw; (try dsimp only at hSw); go_simp; first | done | with_reducible rfl) (by intro _ _ _ h; exact h) (by assumption) ?_
        (try simp only [Act.put, List.setIfInBounds_toArray, List.set_cons_zero, List.set_cons_succ])
        refine takeH 3 (by simp only [List.getElem?_toArray, List.getElem?_cons_succ, List.getElem?_cons_zero]; rfl) (by kernel_rfl) (by kernel_rfl) (by kernel_rfl) (by rfl) (by intro w hSw; (try dsimp only at hSw); go_simp; first | done | with_reducible rfl) (by intro _ _ _ h; exact h) (by assumption) ?_
        (try simp only [Act.put, List.setIfInBounds_toArray, List.set_cons_zero, List.set_cons_succ])
        refine takeH 4 (by simp only [List.getElem?_toArray, List.getElem?_cons_succ, List.getElem?_cons_zero]; rfl) (by kernel_rfl) (by kernel_rfl) (by kernel_rfl) (by rfl) (by intro w hSw; (try dsimp only at hSw); go_simp; first | done | with_reducible rfl) (by intro _ _ _ h; exact h) (by assumption) ?_
        (try simp only [Act.put, List.setIfInBounds_toArray, List.set_cons_zero, List.set_cons_succ])
        refine takeH 5 (by simp only [List.getElem?_toArray, List.getElem?_cons_succ, List.getElem?_cons_zero]; rfl) (by kernel_rfl) (by kernel_rfl) (by kernel_rfl) (by rfl) (by intro w hSw; (try dsimp only at hSw); go_simp; first | done | with_reducible rfl) (by intro _ _ _ h; exact h) (by assumption) ?_
        (try simp only [Act.put, List.setIfInBounds_toArray, List.set_cons_zero, List.set_cons_succ])
        refine takeH 6 (by simp only [List.getElem?_toArray, List.getElem?_cons_succ, List.getElem?_cons_zero]; rfl) (by kernel_rfl) (by kernel_rfl) (by kernel_rfl) (by rfl) (by intro w hSw; (try dsimp only at hSw); go_simp; first | done | with_reducible rfl) (by intro _ _ _ h; exact h) (by assumption) ?_
        (try simp only [Act.put, List.setIfInBounds_toArray, List.set_cons_zero, List.set_cons_succ])
        refine takeH 9 (by simp only [List.getElem?_toArray, List.getElem?_cons_succ, List.getElem?_cons_zero]; rfl) (by kernel_rfl) (by kernel_rfl) (by kernel_rfl) (by rfl) (by intro w hSw; (try dsimp only at hSw); go_simp; first | done | with_reducible rfl) (by intro _ _ _ h; exact h) (by assumption) ?_
        (try simp only [Act.put, List.setIfInBounds_toArray, List.set_cons_zero, List.set_cons_succ])
        refine wpAnyH_ready (rs := [7]) (by kernel_rfl) (by simp) (AllReadyH.cons (by simp only [List.getElem?_toArray, List.getElem?_cons_succ, List.getElem?_cons_zero]; rfl) (fun K hK => ?_) AllReadyH.nil)
        go_simp
        go_at_call 53
        refine (below_any _ c a len cap 12 (by omega) (HD.out.below (below_dr (Below.refl _ _))).cu).mono ?_; rintro e w7 ⟨y, hy, rfl, hc7, hg7⟩
        have HD7 := Lib.hid ((HD.out.below (below_dr (Below.refl _ _))).draw hc7 hg7)
        obtain ⟨y0, y1⟩ := hy.of (by omega)
        have r0 : w7.cell? ⟨b, J * 3, none⟩ = some (.int .i64 (wO zs J)) := own_cell HD7.out.oo (g := b) rfl (J * 3) _ (getI (by omega))
        have r1 : w7.cell? ⟨g, 0, none⟩ = some (.int .i64 p) := hg7.cell c0 (by simp; omega)
        have r2 : w7.cell? ⟨g, 1, none⟩ = some (.int .i64 q) := hg7.cell c1 (by simp; omega)
        have e3 : IntKind.i64.wrap (1 + y) = 1 + y := IntWalk.i64_in _ (by omega)
        obtain ⟨m', ys, r, hsla⟩ := Sla.ex n zs (wO zs J) (1 + y) p q
        obtain ⟨hF2, hm'⟩ := HF.out.sell hJn (by omega) HPQ.out.1 HPQ.out.2 hsla
        have HSL := Lib.hid hsla
        have HF2 := Lib.hid hF2
        (try go_simp)
        refine hK.out _ _ (⟨r0, r1, r2⟩) (fun hHeld => ?_)
        clear hK K
        (try simp only [Act.put, List.setIfInBounds_toArray, List.set_cons_zero, List.set_cons_succ])
        clear hy hc7 hg7 hsla hF2 c0 c1 q0
        refine takeH 8 (by simp only [List.getElem?_toArray, List.getElem?_cons_succ, List.getElem?_cons_zero]; rfl) (by kernel_rfl) (by kernel_rfl) (by kernel_rfl) (by rfl) (by intro w hSw; (try dsimp only at hSw); go_simp; first | done | with_reducible rfl) (by intro _ _ _ h; exact h) (by assumption) ?_
        (try simp only [Act.put, List.setIfInBounds_toArray, List.set_cons_zero, List.set_cons_succ])
        refine wpAnyH_ready (rs := [10]) (by kernel_rfl) (by simp) (AllReadyH.cons (by simp only [List.getElem?_toArray, List.getElem?_cons_succ, List.getElem?_cons_zero]; rfl) (fun K hK => ?_) AllReadyH.nil)
        go_simp
        go_at_call 29
        refine (spec_sell _ _ n zs _ _ _ _ (by omega) (Row.of_own HD7.out.oo) m' ys r HSL.out).mono ?_; rintro e w8 ⟨t, rfl, ho, hb⟩
        have HD8 := Lib.hid (HD7.out.row hb ho)
        (try go_simp)
        refine hK.out _ _ (⟨keep1 r0 hb, keep2 ⟨r1, r2⟩ hb⟩) (fun hHeld => ?_)
        clear hK K
        (try simp only [Act.put, List.setIfInBounds_toArray, List.set_cons_zero, List.set_cons_succ])
        clear ho hb r0 r1 r2
        refine takeH 11 (by simp only [List.getElem?_toArray, List.getElem?_cons_succ, List.getElem?_cons_zero]; rfl) (by kernel_rfl) (by kernel_rfl) (by kernel_rfl) (by rfl) (by intro w hSw; (try dsimp only at hSw); go_simp; first | done | with_reducible rfl) (by intro _ _ _ h; exact h) (by assumption) ?_
        (try simp only [Act.put, List.setIfInBounds_toArray, List.set_cons_zero, List.set_cons_succ])
        refine takeH 12 (by simp only [List.getElem?_toArray, List.getElem?_cons_succ, List.getElem?_cons_zero]; rfl) (by kernel_rfl) (by kernel_rfl) (by kernel_rfl) (by rfl) (by intro w hSw; (try dsimp only at hSw); go_simp; first | done | with_reducible rfl) (by intro _ _ _ h; exact h) (by assumption) ?_
        (try simp only [Act.put, List.setIfInBounds_toArray, List.set_cons_zero, List.set_cons_succ])
        refine takeH 13 (by simp only [List.getElem?_toArray, List.getElem?_cons_succ, List.getElem?_cons_zero]; rfl) (by kernel_rfl) (by kernel_rfl) (by kernel_rfl) (by rfl) (by intro w hSw; (try dsimp only at hSw); go_simp; first | done | with_reducible rfl) (by intro _ _ _ h; exact h) (by assumption) ?_
        (try simp only [Act.put, List.setIfInBounds_toArray, List.set_cons_zero, List.set_cons_succ])
        refine takeH 14 (by simp only [List.getElem?_toArray, List.getElem?_cons_succ, List.getElem?_cons_zero]; rfl) (by kernel_rfl) (by kernel_rfl) (by kernel_rfl) (by rfl) (by intro w hSw; (try dsimp only at hSw); go_simp; first | done | with_reducible rfl) (by intro _ _ _ h; exact h) (by assumption) ?_
        (try simp only [Act.put, List.setIfInBounds_toArray, List.set_cons_zero, List.set_cons_succ])
        refine wpAnyH_done (by kernel_rfl) ?_ _
        clear hHeld
        go_wp2
        go_roundg gl
        case measure => omega
        case rel => exact ⟨m', ys, by go_num, by omega, HF2.out, HD8.out⟩
    · obtain rfl : gk = 0 := by omega
      go_wp2
      go_ret
      exact ⟨n, zs, _, rfl, by omega, HF.out, HD.out.oo, HD.out.cu, HD.out.gr⟩
/-- Drawn rights, from a row of bytes. -/
def DrewRs (w : World) (e : Ending) (w' : World) : Prop :=
  ∃ (n : Nat) (zs : List Int) (v : Value), e = .returned v ∧ n ≤ 6 ∧ FairR n zs ∧ w'.ownsRow w.heap.size TR 3 v n (IV zs) ∧ Below w.heap.size w w'
theorem drawRights (w : World) (a : Option Addr) (len cap : Nat) (hb : Bytes w a len) (hl : len ≤ 1048576) (hx : ∀ x, a = some x → 0 < len → x.block < w.heap.size) :
    Calls Try.prog 10 #[.slice a len cap] w (DrewRs w) := by
  go_enter Try.func10, Try.ntmps10
  go_wp2_with fail
  refine (new_any _ a len cap hb hl hx).mono ?_; rintro e w1 ⟨c, rfl, hlc, hc1, hg1⟩
  have hb1 : Below w.heap.size w w1 := (Below.refl _ _).grown hg1 (Nat.le_refl _) (by simp)
  go_wp2_with fail
  refine (rights_any w1 c a len cap hc1).mono ?_; rintro e w2 ⟨n, zs, v, rfl, hn, hF, oo, hc2, hg2⟩
  have HO := Lib.hid (own_mono oo hb1.size)
  have HB := Lib.hid (hb1.grown hg2 hb1.size (by rintro k ⟨⟩; omega))
  clear hc1 hg1 hc2 hg2 oo
  go_wp2
  go_ret
  exact ⟨n, zs, v, rfl, hn, hF, HO.out, HB.out⟩
end Go.Proofs.Ytopbeacfljoacaa.rgt
