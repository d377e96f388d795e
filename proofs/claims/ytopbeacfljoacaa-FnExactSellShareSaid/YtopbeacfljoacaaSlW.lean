/- The exact law on rights that are sold returns true. -/
import Derived.Test.YtopbeacfljoacaaRgtI
import Derived.Test.YtopbeacfljoacaaTake
set_option linter.unusedVariables false
namespace Go.Proofs.Ytopbeacfljoacaa.wFnExactSellShare
open Go.RowKit Go.Proofs.Ytopbeacfljoacaa.kit Go.Proofs.Ytopbeacfljoacaa.lawi Go.Proofs.Ytopbeacfljoacaa.own Go.Proofs.Ytopbeacfljoacaa.rain Go.Proofs.Ytopbeacfljoacaa.frc Go.Proofs.Ytopbeacfljoacaa.rgt Go.Proofs.Ytopbeacfljoacaa.take

set_option maxRecDepth 100000 in
set_option maxHeartbeats 4000000 in
theorem core (w : World) (v0 : Value) (n0 : Nat) (zs0 : List Int) (hn0 : n0 ≤ 1048576) (h0 : Row 3 w v0 n0 (zs0.map (Value.int .i64))) (a1 : Int) (a2 : Int) (pt pb : Int) (m0 : Nat) (ys0 : List Int) (hm0 : m0 ≤ 1048576) (r1 : Bool)
    (hsum : n0 ≤ 1048576)
    (hs : ∀ W u0, Row 3 W u0 n0 (zs0.map (Value.int .i64)) → Calls Try.prog 29 #[u0, .int .i64 a1, .int .i64 a2, stFraction.R pt pb] W (fun e W' => ∃ t, e = .returned (.tuple #[t, .bool r1]) ∧ W'.ownsRow W.heap.size 35 3 t m0 (ys0.map (Value.int .i64)) ∧ Below W.heap.size W W'))
    (hi : ∀ W u0, Row 3 W u0 n0 (zs0.map (Value.int .i64)) → Calls Try.prog 16 #[u0, .int .i64 a1, .int .i64 a2, stFraction.R pt pb] W (fun e W' => ∃ t, e = .returned (.tuple #[t, .bool r1]) ∧ W'.ownsRow W.heap.size 35 3 t m0 (ys0.map (Value.int .i64)) ∧ Below W.heap.size W W')) :
    Calls Try.prog 7 #[v0, .int .i64 a1, .int .i64 a2, stFraction.R pt pb] w (Gives w (.bool true)) := by
  obtain ⟨b0, c0, rfl⟩ := h0.shape
  have H0 := Lib.hid h0
  clear h0
  have HS := Lib.hid hs
  have HI := Lib.hid hi
  clear hs hi
  obtain ⟨W0, hW0⟩ : ∃ W, w.alloc (.cells #[.int .i64 pt, .int .i64 pb] 50) = W := ⟨_, rfl⟩
  have XP : Blk W0 w.heap.size 50 #[.int .i64 pt, .int .i64 pb] := hW0 ▸ Blk.new w 50 _
  have B : Below w.heap.size w W0 := hW0 ▸ below_al (Below.refl _ _) _
  go_enter Try.func7, Try.ntmps7
  go_wp2_with fail
  refine (stRight.szS_yes _ _ n0 c0 _ (by omega) (by omega)).mono ?_; rintro e w' ⟨rfl, rfl⟩
  have XP1 := Lib.hid XP
  have B1 := Lib.hid B
  clear XP B
  obtain ⟨p0, p1, _⟩ := fcell XP1.out
  go_upto_region 5 with fail
  clear hW0
  refine wp_region_held_drew (S := fun V => V.cell? ⟨w.heap.size, 0, none⟩ = some (.int .i64 pt) ∧ V.cell? ⟨w.heap.size, 1, none⟩ = some (.int .i64 pb)) (by kernel_rfl) ⟨p0, p1⟩ (fun hHeld => ?_)
  refine takeH 0 (by simp only [List.getElem?_toArray, List.getElem?_cons_zero]; rfl) (by kernel_rfl) (by kernel_rfl) (by kernel_rfl) (by rfl) (by intro w hSw; (try dsimp only at hSw); go_simp; first | done | with_reducible rfl) (by intro _ _ _ h; exact h) (by assumption) ?_
  (try simp only [Act.put, List.setIfInBounds_toArray, List.set_cons_zero, List.set_cons_succ])
  refine takeH 2 (by simp only [List.getElem?_toArray, List.getElem?_cons_succ, List.getElem?_cons_zero]; rfl) (by kernel_rfl) (by kernel_rfl) (by kernel_rfl) (by rfl) (by intro w hSw; (try dsimp only at hSw); go_simp; first | done | with_reducible rfl) (by intro _ _ _ h; exact h) (by assumption) ?_
  (try simp only [Act.put, List.setIfInBounds_toArray, List.set_cons_zero, List.set_cons_succ])
  refine takeH 3 (by simp only [List.getElem?_toArray, List.getElem?_cons_succ, List.getElem?_cons_zero]; rfl) (by kernel_rfl) (by kernel_rfl) (by kernel_rfl) (by rfl) (by intro w hSw; (try dsimp only at hSw); go_simp; first | done | with_reducible rfl) (by intro _ _ _ h; exact h) (by assumption) ?_
  (try simp only [Act.put, List.setIfInBounds_toArray, List.set_cons_zero, List.set_cons_succ])
  refine takeH 4 (by simp only [List.getElem?_toArray, List.getElem?_cons_succ, List.getElem?_cons_zero]; rfl) (by kernel_rfl) (by kernel_rfl) (by kernel_rfl) (by rfl) (by intro w hSw; (try dsimp only at hSw); go_simp; first | done | with_reducible rfl) (by intro _ _ _ h; exact h) (by assumption) ?_
  (try simp only [Act.put, List.setIfInBounds_toArray, List.set_cons_zero, List.set_cons_succ])
  refine wpAnyH_ready (rs := [1]) (by kernel_rfl) (by simp) (AllReadyH.cons (by simp only [List.getElem?_toArray, List.getElem?_cons_succ, List.getElem?_cons_zero]; rfl) (fun K hK => ?_) AllReadyH.nil)
  go_simp
  go_at_call 20
  refine (stRight.toS_got _ _ n0 zs0 hn0 (H0.out.keep (below_dr B1.out))).mono ?_; rintro e wX ⟨t1, rfl, ho, hb⟩
  have hb1 : Below W0.heap.size W0 wX := below_step (below_dr (Below.refl _ _)) hb
  (try go_simp)
  refine hK.out _ _ (keep2 ⟨p0, p1⟩ hb1) (fun hHeld => ?_)
  clear hK K
  (try simp only [Act.put, List.setIfInBounds_toArray, List.set_cons_zero, List.set_cons_succ])
  refine wpAnyH_ready (rs := [5]) (by kernel_rfl) (by simp) (AllReadyH.cons (by simp only [List.getElem?_toArray, List.getElem?_cons_succ, List.getElem?_cons_zero]; rfl) (fun K hK => ?_) AllReadyH.nil)
  go_simp
  go_at_call 30
  refine (stFraction.to_any _ _ _).mono ?_; rintro e wY ⟨rfl, hb⟩
  have hb2 := below_step hb1 hb
  have hrow := (Row.of_own ho).keep hb
  (try go_simp)
  refine hK.out _ _ (keep2 ⟨p0, p1⟩ hb2) (fun hHeld => ?_)
  clear hK K
  (try simp only [Act.put, List.setIfInBounds_toArray, List.set_cons_zero, List.set_cons_succ])
  clear ho hb hb1
  refine wpAnyH_ready (rs := [6]) (by kernel_rfl) (by simp) (AllReadyH.cons (by simp only [List.getElem?_toArray, List.getElem?_cons_succ, List.getElem?_cons_zero]; rfl) (fun K hK => ?_) AllReadyH.nil)
  go_simp
  go_at_call 29
  refine (HS.out _ _ hrow).mono ?_; rintro e wZ ⟨t2, rfl, ho, hb⟩
  have hb3 := below_step hb2 hb
  (try go_simp)
  refine hK.out _ _ (keep2 ⟨p0, p1⟩ hb3) (fun hHeld => ?_)
  clear hK K
  (try simp only [Act.put, List.setIfInBounds_toArray, List.set_cons_zero, List.set_cons_succ])
  have HO := Lib.hid (own_mono ho hb2.size)
  have H3 := Lib.hid hb3
  clear ho hb hb2 hb3 hrow
  refine takeH 7 (by simp only [List.getElem?_toArray, List.getElem?_cons_succ, List.getElem?_cons_zero]; rfl) (by kernel_rfl) (by kernel_rfl) (by kernel_rfl) (by rfl) (by intro w hSw; (try dsimp only at hSw); go_simp; first | done | with_reducible rfl) (by intro _ _ _ h; exact h) (by assumption) ?_
  (try simp only [Act.put, List.setIfInBounds_toArray, List.set_cons_zero, List.set_cons_succ])
  refine takeH 8 (by simp only [List.getElem?_toArray, List.getElem?_cons_succ, List.getElem?_cons_zero]; rfl) (by kernel_rfl) (by kernel_rfl) (by kernel_rfl) (by rfl) (by intro w hSw; (try dsimp only at hSw); go_simp; first | done | with_reducible rfl) (by intro _ _ _ h; exact h) (by assumption) ?_
  (try simp only [Act.put, List.setIfInBounds_toArray, List.set_cons_zero, List.set_cons_succ])
  refine takeH 9 (by simp only [List.getElem?_toArray, List.getElem?_cons_succ, List.getElem?_cons_zero]; rfl) (by kernel_rfl) (by kernel_rfl) (by kernel_rfl) (by rfl) (by intro w hSw; (try dsimp only at hSw); go_simp; first | done | with_reducible rfl) (by intro _ _ _ h; exact h) (by assumption) ?_
  (try simp only [Act.put, List.setIfInBounds_toArray, List.set_cons_zero, List.set_cons_succ])
  refine takeH 10 (by simp only [List.getElem?_toArray, List.getElem?_cons_succ, List.getElem?_cons_zero]; rfl) (by kernel_rfl) (by kernel_rfl) (by kernel_rfl) (by rfl) (by intro w hSw; (try dsimp only at hSw); go_simp; first | done | with_reducible rfl) (by intro _ _ _ h; exact h) (by assumption) ?_
  (try simp only [Act.put, List.setIfInBounds_toArray, List.set_cons_zero, List.set_cons_succ])
  refine takeH 11 (by simp only [List.getElem?_toArray, List.getElem?_cons_succ, List.getElem?_cons_zero]; rfl) (by kernel_rfl) (by kernel_rfl) (by kernel_rfl) (by rfl) (by intro w hSw; (try dsimp only at hSw); go_simp; first | done | with_reducible rfl) (by intro _ _ _ h; exact h) (by assumption) ?_
  (try simp only [Act.put, List.setIfInBounds_toArray, List.set_cons_zero, List.set_cons_succ])
  refine wpAnyH_done (by kernel_rfl) ?_ _
  clear hHeld
  have ho := HO.out
  have hb := H3.out
  clear HO H3
  have s := OwnR.of_own ho
  replace XP1 := Lib.hid (XP1.out.step hb)
  have B := below_step B1.out hb
  have zz2 := hb.size
  clear ho hb p0 p1 B1
  have zzl := XP1.out.lt
  go_wp2_with fail
  refine (stRight.toS_got _ _ n0 zs0 hn0 (H0.out.keep B)).mono ?_; rintro e w3 ⟨t3, rfl, ho, hb⟩
  replace s := s.keep hb
  replace B := below_step B hb
  have zz3 := hb.size
  replace XP1 := Lib.hid (XP1.out.step hb)
  have x0 := OwnR.of_own ho
  clear hb ho
  obtain ⟨p0, p1, _⟩ := fcell XP1.out
  go_wp2_with fail
  refine (stFraction.to_any _ _ _).mono ?_; rintro e w3b ⟨rfl, hb⟩
  replace s := s.keep hb
  replace x0 := x0.keep hb
  replace B := below_step B hb
  have zz3b := hb.size
  replace XP1 := Lib.hid (XP1.out.step hb)
  clear hb p0 p1
  go_wp2_with fail
  refine (HI.out _ _ x0.row).mono ?_; rintro e w4 ⟨t4, rfl, ho, hb⟩
  replace s := s.keep hb
  replace x0 := x0.keep hb
  replace B := below_step B hb
  have zz4 := hb.size
  replace XP1 := Lib.hid (XP1.out.step hb)
  have g := OwnR.of_own ho
  clear hb ho
  go_wp2_with fail
  refine (stRight.eqS_yes _ _ _ m0 ys0 hm0 g.row s.row).mono ?_; rintro e w5 ⟨rfl, hb⟩
  replace s := s.keep hb
  replace x0 := x0.keep hb
  replace g := g.keep hb
  replace B := below_step B hb
  have zz5 := hb.size
  replace XP1 := Lib.hid (XP1.out.step hb)
  clear hb
  go_wp2_with fail
  refine (stRight.toS_got _ _ n0 zs0 hn0 (H0.out.keep B)).mono ?_; rintro e w6 ⟨t5, rfl, ho, hb⟩
  replace s := s.keep hb
  replace x0 := x0.keep hb
  replace g := g.keep hb
  replace B := below_step B hb
  have zz6 := hb.size
  replace XP1 := Lib.hid (XP1.out.step hb)
  have oe0 := OwnR.of_own ho
  clear hb ho
  go_wp2_with fail
  refine (stRight.eqS_yes _ _ _ n0 zs0 hn0 x0.row oe0.row).mono ?_; rintro e w7 ⟨rfl, hb⟩
  replace s := s.keep hb
  replace x0 := x0.keep hb
  replace g := g.keep hb
  replace oe0 := oe0.keep hb
  replace B := below_step B hb
  have zz7 := hb.size
  replace XP1 := Lib.hid (XP1.out.step hb)
  clear hb
  clear oe0
  go_wp2_with fail
  refine (stRight.markS_own _ _ _ _ n0 _ 1 _ (by omega) (by omega) x0).mono ?_; rintro e w8 ⟨rfl, om, ch⟩
  have zz8_0 := ch.size
  replace s := s.chg ch (by omega)
  replace g := g.chg ch (by omega)
  replace XP1 := Lib.hid (XP1.out.chg ch (by omega))
  replace B := B.trans (ch.below (B := w.heap.size) (by omega) (by omega))
  replace x0 := om
  clear om ch
  go_wp2_with fail
  refine (stRight.eqS_yes _ _ _ m0 ys0 hm0 g.row s.row).mono ?_; rintro e w9 ⟨rfl, hb⟩
  replace s := s.keep hb
  replace x0 := x0.keep hb
  replace g := g.keep hb
  replace B := below_step B hb
  have zz9 := hb.size
  replace XP1 := Lib.hid (XP1.out.step hb)
  clear hb
  clear x0
  go_wp2_with fail
  refine (stRight.markS_own _ _ _ _ m0 _ 1 _ (by omega) (by omega) g).mono ?_; rintro e w10 ⟨rfl, om, ch⟩
  have zz10_0 := ch.size
  replace s := s.chg ch (by omega)
  replace XP1 := Lib.hid (XP1.out.chg ch (by omega))
  replace B := B.trans (ch.below (B := w.heap.size) (by omega) (by omega))
  replace g := om
  clear om ch
  go_wp2_with fail
  refine (stRight.heldS_gives _ _ m0 1 _ rfl (by omega) g.row).mono ?_; rintro e w11 ⟨rfl, hb⟩
  replace s := s.keep hb
  replace g := g.keep hb
  replace B := below_step B hb
  have zz11 := hb.size
  replace XP1 := Lib.hid (XP1.out.step hb)
  clear hb
  have B1 := Lib.hid B
  clear B
  obtain ⟨p0, p1, _⟩ := fcell XP1.out
  go_upto_region 24 with fail
  obtain ⟨W0, rfl⟩ : ∃ W, W = w11 := ⟨_, rfl⟩
  refine wp_region_held_drew (S := fun V => V.cell? ⟨w.heap.size, 0, none⟩ = some (.int .i64 pt) ∧ V.cell? ⟨w.heap.size, 1, none⟩ = some (.int .i64 pb)) (by kernel_rfl) ⟨p0, p1⟩ (fun hHeld => ?_)
  refine takeH 0 (by simp only [List.getElem?_toArray, List.getElem?_cons_zero]; rfl) (by kernel_rfl) (by kernel_rfl) (by kernel_rfl) (by rfl) (by intro w hSw; (try dsimp only at hSw); go_simp; first | done | with_reducible rfl) (by intro _ _ _ h; exact h) (by assumption) ?_
  (try simp only [Act.put, List.setIfInBounds_toArray, List.set_cons_zero, List.set_cons_succ])
  refine takeH 2 (by simp only [List.getElem?_toArray, List.getElem?_cons_succ, List.getElem?_cons_zero]; rfl) (by kernel_rfl) (by kernel_rfl) (by kernel_rfl) (by rfl) (by intro w hSw; (try dsimp only at hSw); go_simp; first | done | with_reducible rfl) (by intro _ _ _ h; exact h) (by assumption) ?_
  (try simp only [Act.put, List.setIfInBounds_toArray, List.set_cons_zero, List.set_cons_succ])
  refine takeH 3 (by simp only [List.getElem?_toArray, List.getElem?_cons_succ, List.getElem?_cons_zero]; rfl) (by kernel_rfl) (by kernel_rfl) (by kernel_rfl) (by rfl) (by intro w hSw; (try dsimp only at hSw); go_simp; first | done | with_reducible rfl) (by intro _ _ _ h; exact h) (by assumption) ?_
  (try simp only [Act.put, List.setIfInBounds_toArray, List.set_cons_zero, List.set_cons_succ])
  refine takeH 4 (by simp only [List.getElem?_toArray, List.getElem?_cons_succ, List.getElem?_cons_zero]; rfl) (by kernel_rfl) (by kernel_rfl) (by kernel_rfl) (by rfl) (by intro w hSw; (try dsimp only at hSw); go_simp; first | done | with_reducible rfl) (by intro _ _ _ h; exact h) (by assumption) ?_
  (try simp only [Act.put, List.setIfInBounds_toArray, List.set_cons_zero, List.set_cons_succ])
  refine wpAnyH_ready (rs := [1]) (by kernel_rfl) (by simp) (AllReadyH.cons (by simp only [List.getElem?_toArray, List.getElem?_cons_succ, List.getElem?_cons_zero]; rfl) (fun K hK => ?_) AllReadyH.nil)
  go_simp
  go_at_call 20
  refine (stRight.toS_got _ _ n0 zs0 hn0 (H0.out.keep (below_dr B1.out))).mono ?_; rintro e wX ⟨t1, rfl, ho, hb⟩
  have hb1 : Below W0.heap.size W0 wX := below_step (below_dr (Below.refl _ _)) hb
  (try go_simp)
  refine hK.out _ _ (keep2 ⟨p0, p1⟩ hb1) (fun hHeld => ?_)
  clear hK K
  (try simp only [Act.put, List.setIfInBounds_toArray, List.set_cons_zero, List.set_cons_succ])
  refine wpAnyH_ready (rs := [5]) (by kernel_rfl) (by simp) (AllReadyH.cons (by simp only [List.getElem?_toArray, List.getElem?_cons_succ, List.getElem?_cons_zero]; rfl) (fun K hK => ?_) AllReadyH.nil)
  go_simp
  go_at_call 30
  refine (stFraction.to_any _ _ _).mono ?_; rintro e wY ⟨rfl, hb⟩
  have hb2 := below_step hb1 hb
  have hrow := (Row.of_own ho).keep hb
  (try go_simp)
  refine hK.out _ _ (keep2 ⟨p0, p1⟩ hb2) (fun hHeld => ?_)
  clear hK K
  (try simp only [Act.put, List.setIfInBounds_toArray, List.set_cons_zero, List.set_cons_succ])
  clear ho hb hb1
  refine wpAnyH_ready (rs := [6]) (by kernel_rfl) (by simp) (AllReadyH.cons (by simp only [List.getElem?_toArray, List.getElem?_cons_succ, List.getElem?_cons_zero]; rfl) (fun K hK => ?_) AllReadyH.nil)
  go_simp
  go_at_call 16
  refine (HI.out _ _ hrow).mono ?_; rintro e wZ ⟨t2, rfl, ho, hb⟩
  have hb3 := below_step hb2 hb
  (try go_simp)
  refine hK.out _ _ (keep2 ⟨p0, p1⟩ hb3) (fun hHeld => ?_)
  clear hK K
  (try simp only [Act.put, List.setIfInBounds_toArray, List.set_cons_zero, List.set_cons_succ])
  have HO := Lib.hid (own_mono ho hb2.size)
  have H3 := Lib.hid hb3
  clear ho hb hb2 hb3 hrow
  refine takeH 7 (by simp only [List.getElem?_toArray, List.getElem?_cons_succ, List.getElem?_cons_zero]; rfl) (by kernel_rfl) (by kernel_rfl) (by kernel_rfl) (by rfl) (by intro w hSw; (try dsimp only at hSw); go_simp; first | done | with_reducible rfl) (by intro _ _ _ h; exact h) (by assumption) ?_
  (try simp only [Act.put, List.setIfInBounds_toArray, List.set_cons_zero, List.set_cons_succ])
  refine takeH 8 (by simp only [List.getElem?_toArray, List.getElem?_cons_succ, List.getElem?_cons_zero]; rfl) (by kernel_rfl) (by kernel_rfl) (by kernel_rfl) (by rfl) (by intro w hSw; (try dsimp only at hSw); go_simp; first | done | with_reducible rfl) (by intro _ _ _ h; exact h) (by assumption) ?_
  (try simp only [Act.put, List.setIfInBounds_toArray, List.set_cons_zero, List.set_cons_succ])
  refine takeH 9 (by simp only [List.getElem?_toArray, List.getElem?_cons_succ, List.getElem?_cons_zero]; rfl) (by kernel_rfl) (by kernel_rfl) (by kernel_rfl) (by rfl) (by intro w hSw; (try dsimp only at hSw); go_simp; first | done | with_reducible rfl) (by intro _ _ _ h; exact h) (by assumption) ?_
  (try simp only [Act.put, List.setIfInBounds_toArray, List.set_cons_zero, List.set_cons_succ])
  refine takeH 10 (by simp only [List.getElem?_toArray, List.getElem?_cons_succ, List.getElem?_cons_zero]; rfl) (by kernel_rfl) (by kernel_rfl) (by kernel_rfl) (by rfl) (by intro w hSw; (try dsimp only at hSw); go_simp; first | done | with_reducible rfl) (by intro _ _ _ h; exact h) (by assumption) ?_
  (try simp only [Act.put, List.setIfInBounds_toArray, List.set_cons_zero, List.set_cons_succ])
  refine takeH 11 (by simp only [List.getElem?_toArray, List.getElem?_cons_succ, List.getElem?_cons_zero]; rfl) (by kernel_rfl) (by kernel_rfl) (by kernel_rfl) (by rfl) (by intro w hSw; (try dsimp only at hSw); go_simp; first | done | with_reducible rfl) (by intro _ _ _ h; exact h) (by assumption) ?_
  (try simp only [Act.put, List.setIfInBounds_toArray, List.set_cons_zero, List.set_cons_succ])
  refine wpAnyH_done (by kernel_rfl) ?_ _
  clear hHeld
  have ho := HO.out
  have hb := H3.out
  clear HO H3
  replace s := s.keep hb
  replace g := g.keep hb
  have B := below_step B1.out hb
  have h := OwnR.of_own ho
  have zz13 := hb.size
  clear ho hb p0 p1 B1 XP1
  go_wp2_with fail
  refine (stRight.eqS_yes _ _ _ m0 ys0 hm0 h.row s.row).mono ?_; rintro e w14 ⟨rfl, hb⟩
  replace s := s.keep hb
  replace g := g.keep hb
  replace h := h.keep hb
  replace B := below_step B hb
  have zz14 := hb.size
  clear hb
  clear h
  clear s
  go_wp2_with fail
  refine (stRight.heldS_gives _ _ m0 1 _ rfl (by omega) g.row).mono ?_; rintro e w15 ⟨rfl, hb⟩
  replace g := g.keep hb
  replace B := below_step B hb
  have zz15 := hb.size
  clear hb
  go_wp2
  go_ret
  exact ⟨rfl, B⟩

theorem walk (w : World) (v0 : Value) (n0 : Nat) (zs0 : List Int) (h0 : Row 3 w v0 n0 (zs0.map (Value.int .i64))) (hm0 : n0 ≤ 9223372036854775807) (a1 : Int) (wf1 : (Lit.int .i64 a1).wf = true) (a2 : Int) (_ : (Lit.int .i64 a2).wf = true) (x3 y3 : Int) (_ : (Lit.int .i64 x3).wf = true) (_ : (Lit.int .i64 y3).wf = true) : Calls Try.prog 7 #[v0, .int .i64 a1, .int .i64 a2, stFraction.R x3 y3] w fun e w' => e = .returned (.bool true) ∧ Below w.heap.size w w' := by
  by_cases hl : n0 ≤ 1048576
  · obtain ⟨m, ys, r, h⟩ := Sla.ex n0 zs0 a1 a2 x3 y3
    have hml : m ≤ 1048576 := by
      rcases h with ⟨_, _, f, _, _, _, _, _, _, _, _, _, hro⟩ | ⟨_, hm, _⟩
      · have := hro.1.2; omega
      · omega
    exact core w v0 n0 zs0 hl h0 a1 a2 x3 y3 m ys hml r hl (fun W u hu => spec_sell W u n0 zs0 a1 a2 x3 y3 hl hu m ys r h) (fun W u hu => impl_sell W u n0 zs0 a1 a2 x3 y3 hl wf1 hu m ys r h)
  · obtain ⟨a, c, rfl⟩ := h0.shape
    go_enter Try.func7, Try.ntmps7
    go_wp2_with fail
    refine (stRight.szS_no _ _ n0 c _ (by omega) (by omega) hm0).mono ?_; rintro e w' ⟨rfl, rfl⟩
    go_wp2
    go_ret
    exact ⟨rfl, below_al (Below.refl _ _) _⟩
end Go.Proofs.Ytopbeacfljoacaa.wFnExactSellShare
