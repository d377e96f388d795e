/- Nets of pipes: TurnNet of both sides. -/
import Derived.Test.YtenhdpemfdecfaaNetB
import Derived.Test.YtenhdpemfdecfaaNetD
namespace Go.Proofs.Ytenhdpemfdecfaa.nt
open Go.RowKit Go.Proofs.Ytenhdpemfdecfaa.kit Go.Proofs.Ytenhdpemfdecfaa.lawi Go.Proofs.Ytenhdpemfdecfaa.own Go.Proofs.Ytenhdpemfdecfaa.rain Go.Proofs.Ytenhdpemfdecfaa.yrl Go.Proofs.Ytenhdpemfdecfaa.net Go.Proofs.Ytenhdpemfdecfaa.cpy
/-- A net's own box and row, beside the argument's box and the answer's. -/
structure TS (w : World) (P : Int) (va u : Value) (g3 lo hi n : Nat) (ys : List Int) (wr : World) : Prop where
  own : OwnR wr lo hi TP 3 u n (IV ys)
  arg : Blk wr w.heap.size TN #[.int .i64 P, va]
  res : Blk wr (w.heap.size + 1) TN #[.int .i64 0, .slice none 0 0]
  out : Blk wr g3 TN #[.int .i64 P, u]
  bel : Below w.heap.size w wr
section
variable {w wr w' : World} {P : Int} {va u : Value} {g3 lo hi n : Nat} {ys : List Int}
theorem TS.step (h : TS w P va u g3 lo hi n ys wr) (hb : Below wr.heap.size wr w') : TS w P va u g3 lo hi n ys w' :=
  ⟨h.own.keep hb, h.arg.step hb, h.res.step hb, h.out.step hb, below_step h.bel hb⟩
theorem TS.drew (h : TS w P va u g3 lo hi n ys wr) : TS w P va u g3 lo hi n ys wr.drew := h.step (below_dr (Below.refl _ _))
theorem TS.set_ (h : TS w P va u g3 lo hi n ys wr) {g : Nat} (hg : u.ownBlock = some g) (h1 : w.heap.size + 2 ≤ lo) (h2 : hi ≤ g3) (j : Nat) (x : Int) (xs : List Int) (e : ys.set j x = xs) : TS w P va u g3 lo hi n xs (wr.setCell ⟨g, j, none⟩ (.int .i64 x)) := by
  have hb := h.own.2.1 g hg
  have hl := (h.own.1.lt g hg).1
  subst e
  refine ⟨⟨?_, h.own.2.1, by simpa using h.own.2.2⟩, h.arg.far (by show w.heap.size ≠ g; omega) _, h.res.far (by show w.heap.size + 1 ≠ g; omega) _, h.out.far (by show g3 ≠ g; omega) _, h.bel.setCell (by show w.heap.size ≤ g; omega) _⟩
  have := own_set h.own.1 hg j (.int .i64 x)
  rwa [← List.map_set] at this
end
theorem set_same {zs : List Int} {m k : Nat} {f t g : Int} (hl : zs.length = m * 3) (hk : k < m) (hg : pW zs k = g) (ys : List Int) (e : (zs.set (k * 3) t).set (k * 3 + 1) f = ys) : ((zs.set (k * 3) t).set (k * 3 + 1) f).set (k * 3 + 2) g = ys := by
  rw [← e, ← hg]
  refine List.ext_getElem? fun i => ?_
  simp only [List.getElem?_set, List.length_set]
  by_cases h : k * 3 + 2 = i
  · subst h
    simp only [show ¬ k * 3 = k * 3 + 2 by omega, show ¬ k * 3 + 1 = k * 3 + 2 by omega, ↓reduceIte, hl, show k * 3 + 2 < m * 3 by omega]
    unfold pW
    rw [List.getD_eq_getElem?_getD, List.getElem?_eq_getElem (by omega)]
    rfl
  · simp [h]
set_option maxHeartbeats 4000000 in
theorem spec_turn_yes (w : World) (P : Int) (v : Value) (n : Nat) (zs : List Int) (hr : Row 3 w v n (IV zs)) (ok : NO P n zs) :
    Calls Try.prog 27 #[Nv P v] w (stNet.Got w P n (turned zs n) id) := by
  obtain ⟨a, ca, rfl⟩ := hr.shape
  have hl : zs.length = n * 3 := by simpa using hr.1
  have hn := ok.2.2.1
  obtain ⟨w0, hw0⟩ : ∃ w0, (w.alloc (.cells #[.int .i64 P, .slice a n ca] TN)).alloc (.cells #[.int .i64 0, .slice none 0 0] TN) = w0 := ⟨_, rfl⟩
  have X0 : Hid (Blk w0 w.heap.size TN #[.int .i64 P, .slice a n ca]) := Lib.hid (hw0 ▸ (Blk.new _ _ _).alloc _)
  have X1 : Hid (Blk w0 (w.heap.size + 1) TN #[.int .i64 0, .slice none 0 0]) := Lib.hid (hw0 ▸ Blk.new1 w TN #[.int .i64 0, .slice none 0 0] _)
  have B0 : Hid (Below w.heap.size w w0) := Lib.hid (hw0 ▸ below_al (below_al (Below.refl _ _) _) _)
  have z0 : w0.heap.size = w.heap.size + 2 := by rw [← hw0]; simp
  have HR := Lib.hid hr
  have OK := Lib.hid ok
  have HW := Lib.hid hw0
  have HZ := Lib.hid z0
  obtain ⟨p0, p1⟩ := stNet.blk_ X0.out
  clear hr ok z0
  go_enter Try.func27, Try.ntmps27
  go_wp2_with fail
  refine (spec_copy _ _ _ n zs (by omega) (HR.out.keep B0.out)).mono ?_; rintro e w1 ⟨u, lo, hi, rfl, ⟨ho, hlo⟩, hb⟩
  obtain ⟨au, cu, rfl⟩ := own_shape ho.own
  have hz0 := HZ.out
  have hz1 := hb.size
  have S0 : TS w P (.slice a n ca) (.slice au n cu) w1.heap.size lo hi n (half zs n 0) (w1.alloc (.cells #[.int .i64 P, .slice au n cu] TN)) := by
    rw [half_zero hl]
    exact ⟨ho.keep (below_al (Below.refl _ _) _), (X0.out.step hb).alloc _, (X1.out.step hb).alloc _, Blk.new _ _ _, below_al (below_step B0.out hb) _⟩
  have h1 : w.heap.size + 2 ≤ lo := by omega
  have h2 : hi ≤ w1.heap.size := ho.2.2
  have HS := Lib.hid S0
  obtain ⟨G3, hG3⟩ : ∃ G3, w1.heap.size = G3 := ⟨_, rfl⟩
  clear hw0 p0 p1 S0 ho hb hz0 hz1 X0 X1 B0 HW HZ hlo
  go_wp2
  rw [hG3] at HS h2
  go_loopg [4] n (fun g s4 wr => ∃ k : Nat, k + g = n ∧ s4 = .int .i64 k ∧ TS w P (.slice a n ca) (.slice au n cu) G3 lo hi n (half zs n k) wr)
  case atStart => exact ⟨0, by omega, rfl, HS.out⟩
  case round =>
    clear HS
    obtain ⟨k, hkg, rfl, hS⟩ := hrel
    obtain ⟨p0, p1⟩ := stNet.blk_ hS.arg
    obtain ⟨q0, q1⟩ := stNet.blk_ hS.out
    by_cases hlt : k < n
    · obtain ⟨gk, rfl⟩ : ∃ g', gk = g' + 1 := ⟨gk - 1, by omega⟩
      obtain ⟨b1, o1, rfl, hc⟩ := HR.out.at_ (by omega)
      have hc3 := pipe_at hc hl hlt
      obtain ⟨g, cg, eg, hg1, hg2⟩ := own_some hS.own.own (by omega)
      cases eg
      have hH := half_succ zs hlt
      generalize pF zs k = F at hc3 hH
      generalize pT zs k = T at hc3 hH
      generalize pW zs k = W at hc3
      have HC := Lib.hid hc3
      have HH := Lib.hid hH
      have HS := Lib.hid hS
      clear hc hc3 hH hS
      go_wp2_with fail
      refine (spec_nok _ _ _ n zs (by omega) (HR.out.keep HS.out.bel) true ⟨fun _ => OK.out, fun _ => rfl⟩).mono ?_; rintro e w2 ⟨rfl, hb2⟩
      clear p0 p1 q0 q1
      have S2 := HS.out.step hb2
      obtain ⟨p0, p1⟩ := stNet.blk_ S2.arg
      obtain ⟨q0, q1⟩ := stNet.blk_ S2.out
      obtain ⟨c0, c1, c2⟩ := keep3 HC.out S2.bel
      have hlen := half_len zs n k
      have r0 := own_cell S2.own.own (g := g) rfl (k * 3) _ (getI (by omega))
      have f0 := own_free S2.own.own (g := g) rfl (k * 3)
      have S3 := (S2.set_ (g := g) rfl h1 h2 (k * 3) T _ rfl).drew
      obtain ⟨s0, s1⟩ := stNet.blk_ S3.arg
      obtain ⟨t0, t1⟩ := stNet.blk_ S3.out
      obtain ⟨d0, d1, d2⟩ := keep3 HC.out S3.bel
      have HS2 := Lib.hid S2
      have HS3 := Lib.hid S3
      clear hb2 S2 S3 HS
      have i0 : (0 : Int) ≤ (k : Int) := by omega
      have i1 : (k : Int) < (n : Int) := by omega
      go_wp2
      go_region_held3 (fun W => W.cell? ⟨G3, 1, none⟩ = some (.slice (some ⟨g, 0, none⟩) n cu) ∧ W.cell? ⟨w.heap.size, 1, none⟩ = some (.slice (some ⟨b1, o1, none⟩) n ca) ∧ W.cell? ⟨b1, o1 + k * 3 + 1, none⟩ = some (.int .i64 T))
        (first | assumption | exact ⟨q1, p1, c1⟩ | exact ⟨t1, s1, d1⟩ | fail) (fail)
      all_goals
        clear r0 f0 p0 p1 q0 q1 c0 c1 c2
        have r0 := own_cell HS3.out.own.own (g := g) rfl (k * 3 + 1) _ (getI (by simp [hlen]; omega))
        have f0 := own_free HS3.out.own.own (g := g) rfl (k * 3 + 1)
        have S4 := (HS3.out.set_ (g := g) rfl h1 h2 (k * 3 + 1) F _ HH.out).drew
        obtain ⟨p0, p1⟩ := stNet.blk_ S4.arg
        obtain ⟨q0, q1⟩ := stNet.blk_ S4.out
        obtain ⟨c0, c1, c2⟩ := keep3 HC.out S4.bel
        have HS4 := Lib.hid S4
        clear S4
        go_wp2
        go_region_held3 (fun W => W.cell? ⟨G3, 1, none⟩ = some (.slice (some ⟨g, 0, none⟩) n cu) ∧ W.cell? ⟨w.heap.size, 1, none⟩ = some (.slice (some ⟨b1, o1, none⟩) n ca) ∧ W.cell? ⟨b1, o1 + k * 3, none⟩ = some (.int .i64 F))
          (first | assumption | exact ⟨t1, s1, d0⟩ | exact ⟨q1, p1, c0⟩ | fail) (fail)
        all_goals
          clear r0 f0 p0 p1 q0 q1 c0 c1 c2 s0 s1 t0 t1 d0 d1 d2
          go_wp2
          go_roundg gk
          case measure => omega
          case rel => exact ⟨k + 1, by omega, by go_num, HS4.out⟩
    · obtain rfl : k = n := by omega
      rw [half_full] at hS
      obtain ⟨r0, r1⟩ := stNet.blk_ hS.res
      obtain ⟨f0, f1⟩ := stNet.fz_ hS.res
      have HS := Lib.hid hS
      clear hS
      go_wp2
      refine bodyPost_ret (v := Nv P (.slice au k cu)) (by simp [*, results, Try.results27, go_sem]) rfl ⟨_, lo, hi, rfl, ⟨HS.out.own.chg (lo' := w.heap.size + 1) (hi' := w.heap.size + 2) ?_ (.inr (by omega)), by omega⟩, ?_⟩
      · repeat (refine Chg.trans ?_ (Chg.set _ _ _ (by omega) (by omega)))
        exact Chg.refl
      · repeat (refine Below.setCell ?_ (by simp only []; omega) _)
        exact HS.out.bel
end Go.Proofs.Ytenhdpemfdecfaa.nt
