/- Nets of pipes: the program's search, a set as a map. -/
import Derived.Test.YtenhdpemfdecfaaNetB
import Derived.Test.YtenhdpemfdecfaaSetM
import Derived.Carry
import Derived.WalkArith
namespace Go.Proofs.Ytenhdpemfdecfaa.nt
open Go.RowKit Go.Proofs.Ytenhdpemfdecfaa.kit Go.Proofs.Ytenhdpemfdecfaa.lawi Go.Proofs.Ytenhdpemfdecfaa.own Go.Proofs.Ytenhdpemfdecfaa.rain Go.Proofs.Ytenhdpemfdecfaa.yrl Go.Proofs.Ytenhdpemfdecfaa.net Go.Proofs.Ytenhdpemfdecfaa.setm
abbrev TM : TypeId := 62
abbrev TI : TypeId := 3
abbrev TB : TypeId := 4
theorem zero_bool : ∀ w : World, (zeroValue TB).run Try.prog w = .ok (.bool false) w := fun w => by unfold TB; go_simp
theorem wf_small {x : Int} (h1 : 0 ≤ x) (h2 : x ≤ 1000000) : (Lit.int .i64 x).wf = true := WalkArith.wf_i64 ⟨by omega, by omega⟩
/-- What the program's search answers. -/
def Reached (w : World) (n : Nat) (zs : List Int) (a x : Int) (e : Ending) (w' : World) : Prop :=
  ∃ b m f, e = .returned (.map (some b)) ∧ w.heap.size ≤ b ∧ SetB Try.prog TI TB w' b m f ∧ m ≤ 200 ∧ (∀ u, (Lit.int .i64 u).wf = true → (f u = true ↔ Rch (pF zs) (pT zs) (pW zs) n x a u)) ∧ Below w.heap.size w w'
set_option maxHeartbeats 4000000 in
theorem impl_reach (w : World) (P : Int) (v : Value) (n : Nat) (zs : List Int) (hr : Row 3 w v n (IV zs)) (ok : NO P n zs) (a x : Int) (ha0 : 0 ≤ a) (ha1 : a < P) :
    Calls Try.prog 45 #[Nv P v, .int .i64 a, .int .i64 x] w (Reached w n zs a x) := by
  obtain ⟨av, ca, rfl⟩ := hr.shape
  have hl : zs.length = n * 3 := by simpa using hr.1
  have hn := ok.2.2.1
  obtain ⟨R, hR⟩ : ∃ R : Nat, P - 1 = (R : Int) := ⟨(P - 1).toNat, by have := ok.1; omega⟩
  have hR8 : R ≤ 7 := by have := ok.2.1; omega
  have hQ := wrap_sub ok.1 ok.2.1
  rw [hR] at hQ
  obtain ⟨w0, hw0⟩ : ∃ w0, w.alloc (.cells #[.int .i64 P, .slice av n ca] TN) = w0 := ⟨_, rfl⟩
  have B0 : Below w.heap.size w w0 := hw0 ▸ below_al (Below.refl _ _) _
  have z0 : w0.heap.size = w.heap.size + 1 := by rw [← hw0]; simp
  have HX : Hid (Blk w0 w.heap.size TN #[.int .i64 P, .slice av n ca]) := Lib.hid (hw0 ▸ Blk.new w TN #[.int .i64 P, .slice av n ca])
  have M0 := SetB.made w0 Try.prog TI TB
  rw [z0] at M0
  have hmm := @run_makeMap Try.prog
  have HR := Lib.hid hr
  have OK := Lib.hid ok
  have HB := Lib.hid B0
  have wfa := wf_small ha0 (by have := ok.2.1; omega : a ≤ 1000000)
  clear hr ok B0
  go_enter Try.func45, Try.ntmps45
  go_wp2_with (refine wp_ins _ rfl _ _ _ TM rfl TI TB Try.underlying3 Try.underlying62 Try.underlying4 (w.heap.size + 1) 0 (by decide) _ rfl M0 a rfl wfa rfl ?_; intro w1 hS hg
               replace hS : SetB Try.prog TI TB w1 (w.heap.size + 1) 1 (rnd (pF zs) (pT zs) (pW zs) n x a 0) := hS.congr fun y _ => by simp [rnd]
               have hb1 : Below w0.heap.size w0 w1 := (below_al (Below.refl _ _) (.map #[] 0)).grown hg (by simp) (fun k hk => by cases hk; omega)
               have H1 := Lib.hid hS
               have HL := Lib.hid hb1
               obtain ⟨p0, p1⟩ := stNet.blk_ (HX.out.step hb1)
               have HZ := Lib.hid z0
               clear hS hg hb1 M0 hmm hw0 z0)
  clear p0 p1
  go_loopg [16] R (fun g s16 wr => ∃ r m : Nat, r + g = R ∧ s16 = .int .i64 r ∧ m ≤ 1 + r * 20 ∧ SetB Try.prog TI TB wr (w.heap.size + 1) m (rnd (pF zs) (pT zs) (pW zs) n x a r) ∧ Below w0.heap.size w0 wr)
  case atStart => exact ⟨0, 1, by omega, rfl, by omega, H1.out, HL.out⟩
  case round =>
    clear H1 HL
    obtain ⟨r, m, hrg, rfl, hm, hS, hbel⟩ := hrel
    obtain ⟨p0, p1⟩ := stNet.blk_ (HX.out.step hbel)
    by_cases hlt : r < R
    · obtain ⟨gko, rfl⟩ : ∃ g', gk = g' + 1 := ⟨gk - 1, by omega⟩
      have HS := Lib.hid hS
      have HL := Lib.hid hbel
      clear hS hbel
      go_wp2
      clear p0 p1
      go_loopg [21] n (fun g s21 wr => ∃ k m : Nat, k + g = n ∧ s21 = .int .i64 k ∧ m ≤ 1 + r * 20 + k ∧ SetB Try.prog TI TB wr (w.heap.size + 1) m (sc (pF zs) (pT zs) (pW zs) x (rnd (pF zs) (pT zs) (pW zs) n x a r) k) ∧ Below w0.heap.size w0 wr)
      case atStart => exact ⟨0, m, by omega, rfl, by omega, HS.out, HL.out⟩
      case round =>
        clear HS HL hm m
        obtain ⟨k, m, hkg, rfl, hm, hS, hbel⟩ := hrel
        by_cases hlt2 : k < n
        · obtain ⟨gk2, rfl⟩ : ∃ g', gk = g' + 1 := ⟨gk - 1, by omega⟩
          obtain ⟨b1, o1, rfl, h1⟩ := (HR.out.keep (HB.out.trans (hbel.mono HB.out.size))).at_ (by omega)
          obtain ⟨g1, g2, g3⟩ := pipe_at h1 hl hlt2
          have hp := OK.out.2.2.2 k hlt2
          obtain ⟨⟨F0, F1⟩, ⟨T0, T1⟩, _, W0, W1⟩ := hp
          have wfF := wf_small F0 (by omega : pF zs k ≤ 1000000)
          have wfT := wf_small T0 (by omega : pT zs k ≤ 1000000)
          have hsc : sc (pF zs) (pT zs) (pW zs) x (rnd (pF zs) (pT zs) (pW zs) n x a r) (k + 1) = if x ≤ pW zs k ∧ sc (pF zs) (pT zs) (pW zs) x (rnd (pF zs) (pT zs) (pW zs) n x a r) k (pF zs k) = true then fun v => decide (v = pT zs k) || sc (pF zs) (pT zs) (pW zs) x (rnd (pF zs) (pT zs) (pW zs) n x a r) k v else sc (pF zs) (pT zs) (pW zs) x (rnd (pF zs) (pT zs) (pW zs) n x a r) k := rfl
          obtain ⟨f', hf'⟩ : ∃ f', sc (pF zs) (pT zs) (pW zs) x (rnd (pF zs) (pT zs) (pW zs) n x a r) (k + 1) = f' := ⟨_, rfl⟩
          rw [hf'] at hsc
          have HF := Lib.hid hf'
          clear hf'
          generalize sc (pF zs) (pT zs) (pW zs) x (rnd (pF zs) (pT zs) (pW zs) n x a r) k = f at hsc hS
          generalize pF zs k = F at g1 hsc F0 F1 wfF
          generalize pT zs k = T at g2 hsc T0 T1 wfT
          generalize pW zs k = W at g3 hsc W0 W1
          obtain ⟨w4, hw4⟩ : ∃ w4, wr.alloc (.cells #[.int .i64 F, .int .i64 T, .int .i64 W] TP) = w4 := ⟨_, rfl⟩
          obtain ⟨d0, d1, d2⟩ := stPipe3 (hw4 ▸ Blk.new wr TP #[.int .i64 F, .int .i64 T, .int .i64 W] : Blk w4 wr.heap.size TP #[.int .i64 F, .int .i64 T, .int .i64 W])
          have b4 : Below wr.heap.size wr w4 := hw4 ▸ below_al (Below.refl _ _) _
          have S4 := Lib.hid (hS.keep b4)
          have L4 := Lib.hid (below_step hbel b4)
          clear h1 hS hbel b4
          by_cases hx : x ≤ W
          · cases hf : f F with
            | true =>
              rw [if_pos ⟨hx, hf⟩] at hsc
              have HSC := Lib.hid hsc
              clear hsc
              go_wp2_with (first
                | (refine wp_lookG _ (by rfl) _ _ TM rfl TI TB Try.underlying3 Try.underlying62 Try.underlying4 zero_bool (w.heap.size + 1) m f rfl S4.out F rfl wfF ?_; rw [hf])
                | (refine wp_put _ rfl _ _ _ TM rfl TI TB Try.underlying3 Try.underlying62 Try.underlying4 (w.heap.size + 1) m (by omega) f rfl S4.out T rfl wfT rfl ?_; intro w5 hS5 hg5
                   have S5 := Lib.hid hS5
                   have L5 := Lib.hid (L4.out.grown hg5 L4.out.size (fun k hk => by cases hk; have := HZ.out; omega))
                   clear hS5 hg5)
                | fail)
              go_roundg gk2
              case measure => omega
              case rel => exact ⟨k + 1, m + 1, by omega, by go_num, by omega, by rw [HF.out, HSC.out]; exact S5.out, L5.out⟩
            | false =>
              rw [if_neg (by rw [hf]; simp)] at hsc
              have HSC := Lib.hid hsc
              clear hsc
              go_wp2_with (first
                | (refine wp_lookG _ (by rfl) _ _ TM rfl TI TB Try.underlying3 Try.underlying62 Try.underlying4 zero_bool (w.heap.size + 1) m f rfl S4.out F rfl wfF ?_; rw [hf])
                | fail)
              go_roundg gk2
              case measure => omega
              case rel => exact ⟨k + 1, m, by omega, by go_num, by omega, by rw [HF.out, HSC.out]; exact S4.out, L4.out⟩
          · rw [if_neg (fun h => hx h.1)] at hsc
            have HSC := Lib.hid hsc
            clear hsc
            go_wp2
            go_roundg gk2
            case measure => omega
            case rel => exact ⟨k + 1, m, by omega, by go_num, by omega, by rw [HF.out, HSC.out]; exact S4.out, L4.out⟩
        · obtain rfl : k = n := by omega
          have HS := Lib.hid hS
          have HL := Lib.hid hbel
          clear hS hbel
          go_wp2
          go_roundg gko
          case measure => omega
          case rel => exact ⟨r + 1, m, by omega, by go_num, by omega, HS.out, HL.out⟩
    · obtain rfl : r = R := by omega
      have hT : ∀ k, k < n → 0 ≤ pT zs k ∧ pT zs k < (r : Int) + 1 := fun k hk => by
        have := (OK.out.2.2.2 k hk).2.1
        omega
      have hfin := fun u => rnd_iff1 (F := pF zs) (T := pT zs) (W := pW zs) (x := x) (m := n) (P := r) (a := a) ⟨ha0, by omega⟩ hT u
      have HS := Lib.hid hS
      have HL := Lib.hid hbel
      clear hS hbel
      go_wp2
      go_ret
      exact ⟨_, m, _, rfl, by omega, HS.out, by omega, fun u _ => hfin u, HB.out.trans (HL.out.mono HB.out.size)⟩
end Go.Proofs.Ytenhdpemfdecfaa.nt
