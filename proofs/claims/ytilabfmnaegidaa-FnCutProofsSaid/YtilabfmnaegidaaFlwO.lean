/- Flows: the program's search (shortestWays). -/
import Derived.Test.YtilabfmnaegidaaFlwM
namespace Go.Proofs.Ytilabfmnaegidaa.fl_
open Go.RowKit Go.Proofs.Ytilabfmnaegidaa.kit Go.Proofs.Ytilabfmnaegidaa.lawi Go.Proofs.Ytilabfmnaegidaa.own Go.Proofs.Ytilabfmnaegidaa.rain Go.Proofs.Ytilabfmnaegidaa.yrl Go.Proofs.Ytilabfmnaegidaa.net Go.Proofs.Ytilabfmnaegidaa.nt Go.Proofs.Ytilabfmnaegidaa.flw Go.Proofs.Ytilabfmnaegidaa.take Go.Proofs.Ytilabfmnaegidaa.mapv
section
variable {F T W f : Nat → Int} {m k : Nat} {a t : Int} {s : List Int × (Int → Int)}
theorem scn_fw (hF : F k = t) (hT : T k ≠ t) : scn F T W f t s (k + 1) = one (decide (0 < room W f (k, true))) (T k) (stepx k true) (scn F T W f t s k) := by
  have h1 : bwd T f t k = false := decide_eq_false (fun h => hT h.1)
  have h2 : fwd F W f t k = decide (0 < room W f (k, true)) := by
    unfold fwd room
    rw [if_pos rfl]
    exact decide_eq_decide.2 ⟨fun h => by have := h.2; simp only []; omega, fun h => ⟨hF, by simp only [] at h; omega⟩⟩
  show stp F T W f t k (scn F T W f t s k) = _
  unfold stp
  rw [one_no (.inl h1), h2]
  rfl
theorem scn_bw (hF : F k ≠ t) (hT : T k = t) : scn F T W f t s (k + 1) = one (decide (0 < room W f (k, false))) (F k) (stepx k false) (scn F T W f t s k) := by
  have h1 : fwd F W f t k = false := decide_eq_false (fun h => hF h.1)
  have h2 : bwd T f t k = decide (0 < room W f (k, false)) := by
    unfold bwd room
    rw [if_neg (by simp)]
    exact decide_eq_decide.2 ⟨fun h => h.2, fun h => ⟨hT, h⟩⟩
  show stp F T W f t k (scn F T W f t s k) = _
  unfold stp
  rw [one_no (s := scn F T W f t s k) (.inl h1), h2]
  rfl
theorem scn_skip (hF : F k ≠ t) (hT : T k ≠ t) : scn F T W f t s (k + 1) = scn F T W f t s k := by
  have h1 : fwd F W f t k = false := decide_eq_false (fun h => hF h.1)
  have h2 : bwd T f t k = false := decide_eq_false (fun h => hT h.1)
  show stp F T W f t k (scn F T W f t s k) = _
  unfold stp
  rw [one_no (s := scn F T W f t s k) (.inl h1), one_no (.inl h2)]
end
theorem SW.start {w0 w1 : World} {F T : Nat → Int} {m mb : Nat} {a : Int} (hm : MapV Try.prog TI w1 mb 1 (fun y => if y = a then some (.slice none 0 0) else none)) (hb : Below w0.heap.size w0 w1) (hmb : w0.heap.size ≤ mb) :
    SW w0 (((w1.alloc (.cells #[.map (some mb)] TW)).alloc (.cells #[.int .i64 a] TI)).alloc (.cells #[.slice (some ⟨w1.heap.size + 1, 0, none⟩) 1 1] TR)) F T m a w1.heap.size mb (w1.heap.size + 2) (w1.heap.size + 1) ([a], fun _ => -1) (fun y => if y = a then some (.slice none 0 0) else none) := by
  have hl := hm.lt
  have B1 : Below w1.heap.size w1 (((w1.alloc (.cells #[.map (some mb)] TW)).alloc (.cells #[.int .i64 a] TI)).alloc (.cells #[.slice (some ⟨w1.heap.size + 1, 0, none⟩) 1 1] TR)) := below_al (below_al (below_al (Below.refl _ _) _) _) _
  have hs := hb.size
  have X3 : Blk (((w1.alloc (.cells #[.map (some mb)] TW)).alloc (.cells #[.int .i64 a] TI)).alloc (.cells #[.slice (some ⟨w1.heap.size + 1, 0, none⟩) 1 1] TR)) (w1.heap.size + 2) TR #[.slice (some ⟨w1.heap.size + 1, 0, none⟩) 1 1] := by
    have h := Blk.new ((w1.alloc (.cells #[.map (some mb)] TW)).alloc (.cells #[.int .i64 a] TI)) TR #[.slice (some ⟨w1.heap.size + 1, 0, none⟩) 1 1]
    simpa using h
  have X2 : Blk (((w1.alloc (.cells #[.map (some mb)] TW)).alloc (.cells #[.int .i64 a] TI)).alloc (.cells #[.slice (some ⟨w1.heap.size + 1, 0, none⟩) 1 1] TR)) (w1.heap.size + 1) TI #[.int .i64 a] := (Blk.new1 w1 TI #[.int .i64 a] _).alloc _
  refine ⟨below_step hb B1, ((Blk.new _ _ _).alloc _).alloc _, ⟨1, X3, ?_⟩, hm.keep B1, fun u hu => ?_, fun u hu => ?_, ⟨by omega, hmb, by omega⟩, ⟨by omega, by omega, by omega, by omega, by omega, by omega⟩⟩
  · exact ⟨by simp [IV], .inr ⟨w1.heap.size + 1, 1, #[.int .i64 a], rfl, by omega, X2, Nat.le_refl _, by unfold maxLen; omega, by simp, by simp [IV]⟩⟩
  · obtain rfl : u = a := List.mem_singleton.1 hu
    exact ⟨[], .slice none 0 0, if_pos rfl, .nil, by simp, World.ownsRow_nil _ _ _ _, fun b hb => (by cases hb)⟩
  · exact if_neg (fun e => hu (by simp [e]))
/-- What the search gives: the way to each place that can be reached. -/
def Ways (w : World) (P : Nat) (n : Nat) (zs fs : List Int) (a : Int) (e : Ending) (w' : World) : Prop :=
  ∃ mb f, e = .returned (.map (some mb)) ∧ MapV Try.prog TI w' mb 8 f ∧ (∀ u, RR (pF zs) (pT zs) (pW zs) (gd fs) n a u → ∃ r rv, f u = some rv ∧ Pth (pF zs) (pT zs) n a (fin_ (pF zs) (pT zs) (pW zs) (gd fs) n P a).2 u r ∧ r.length ≤ 8 ∧ w'.ownsRow w.heap.size TS 2 rv r.length (IV (enc r.reverse))) ∧
    (∀ u, ¬ RR (pF zs) (pT zs) (pW zs) (gd fs) n a u → f u = none) ∧ Below w.heap.size w w'
set_option maxHeartbeats 8000000 in
theorem impl_ways (w : World) (P : Nat) (v u : Value) (n : Nat) (zs fs : List Int) (a : Nat) (hr : Row 3 w v n (IV zs)) (hf : Row 1 w u n (IV fs)) (ok : NO (P : Int) n zs) (ha : a < P) (hc : ∀ k, k < n → 0 ≤ gd fs k ∧ gd fs k ≤ 1000) :
    Calls Try.prog 46 #[Nv P v, u, .int .i64 a] w (Ways w P n zs fs a) := by
  obtain ⟨av, ca, rfl⟩ := hr.shape
  obtain ⟨au, cu, rfl⟩ := hf.shape
  have hl : zs.length = n * 3 := by simpa using hr.1
  have hn := ok.2.2.1
  have hP8 : P ≤ 8 := by have := ok.2.1; omega
  have wfa := wf_small (by omega : (0 : Int) ≤ (a : Int)) (by omega : (a : Int) ≤ 1000000)
  obtain ⟨w0, hw0⟩ : ∃ w0, (w.alloc (.cells #[.int .i64 (P : Int), .slice av n ca] TN)).alloc (.cells #[.slice au n cu] TR) = w0 := ⟨_, rfl⟩
  have XN : Hid (Blk w0 w.heap.size TN #[.int .i64 (P : Int), .slice av n ca]) := Lib.hid (hw0 ▸ (Blk.new _ _ _).alloc _)
  have XF : Hid (Blk w0 (w.heap.size + 1) TR #[.slice au n cu]) := Lib.hid (hw0 ▸ Blk.new1 w TR #[.slice au n cu] _)
  have B0 : Below w.heap.size w w0 := hw0 ▸ below_al (below_al (Below.refl _ _) _) _
  have z0 : w0.heap.size = w.heap.size + 2 := by rw [← hw0]; simp
  have M0 := MapV.made w0 Try.prog TI
  rw [z0] at M0
  have hmm := @run_makeMap Try.prog
  have HR := Lib.hid (hr.keep B0)
  have HF := Lib.hid (hf.keep B0)
  have OK := Lib.hid ok
  have HB := Lib.hid B0
  have HC := Lib.hid hc
  have hpl : Hid (Pl (pF zs) (pT zs) n (P : Int)) := Lib.hid fun j hj => by
    obtain ⟨⟨F0, F1⟩, ⟨T0, T1⟩, _⟩ := ok.2.2.2 j hj
    exact ⟨⟨F0, by omega⟩, ⟨T0, by omega⟩⟩
  have hBI : Hid (∀ i, BI (pF zs) (pT zs) (pW zs) (gd fs) n P a (bfs (pF zs) (pT zs) (pW zs) (gd fs) n a i)) := Lib.hid fun i => BI.bfs (by omega) (by omega) hpl.out i
  have hmf : ∀ (fn : Fn) (first cap : Array Value) (w : World), (Instr.makeFunc fn first cap).run Try.prog w = .ok (.func fn first cap) w := fun _ _ _ _ => rfl
  clear hr hf ok B0 hc
  go_enter Try.func46, Try.ntmps46
  go_wp2_with (refine wp_insV _ rfl _ _ _ TW rfl TI TL Try.underlying3 Try.underlying66 (w.heap.size + 2) 0 (by decide) _ rfl M0 a rfl wfa (.slice none 0 0) rfl ?_; intro w1 hM1 hg1
               have hb1 : Below w0.heap.size w0 w1 := (below_al (Below.refl _ _) (.map #[] 0)).grown hg1 (by simp) (fun k hk => by cases hk; omega)
               have S1 := Lib.hid (SW.start (F := pF zs) (T := pT zs) (m := n) hM1 hb1 (by omega))
               have HZ := Lib.hid z0
               obtain ⟨wb, hwb⟩ : ∃ wb, w1.heap.size = wb := ⟨_, rfl⟩
               clear hM1 hg1 hb1 M0 hmm hw0 z0)
  have S0 := S1.out
  obtain ⟨pb, hpb⟩ : ∃ pb, wb + 1 + 1 = pb := ⟨_, rfl⟩
  obtain ⟨mb, hmb⟩ : ∃ mb, w.heap.size + 2 = mb := ⟨_, rfl⟩
  rw [hwb, hmb, show wb + 2 = pb from hpb] at S0
  rw [hpb, hmb]
  replace S1 := Lib.hid S0
  clear S0 hwb hpb hmb
  go_loopg [9] P (fun gk s9 wr => ∃ (i g : Nat) (f : Int → Option Value), i + gk = P ∧ s9 = .int .i64 i ∧ SW w0 wr (pF zs) (pT zs) n a wb mb pb g (bfs (pF zs) (pT zs) (pW zs) (gd fs) n a i) f)
  case atStart => exact ⟨0, _, _, by omega, rfl, S1.out⟩
  case round =>
    clear S1
    obtain ⟨i, g, f, hig, rfl, hst⟩ := hrel
    have HBI := hBI.out i
    have hlen := HBI.len
    obtain ⟨s, hs⟩ : ∃ s, bfs (pF zs) (pT zs) (pW zs) (gd fs) n a i = s := ⟨_, rfl⟩
    rw [hs] at hst HBI hlen
    obtain ⟨cA, X1, O1⟩ := hst.pv
    have q1 : wr.cell? ⟨pb, 0, none⟩ = some (.slice (some ⟨g, 0, none⟩) s.1.length cA) := X1.cell 0
    have q2 : wr.cell? ⟨wb, 0, none⟩ = some (.map (some mb)) := hst.wv.cell 0
    by_cases hlt : i < s.1.length
    · obtain ⟨gko, rfl⟩ : ∃ g', gk = g' + 1 := ⟨gk - 1, by omega⟩
      obtain ⟨t, ht⟩ : ∃ t, s.1.getD i 0 = t := ⟨_, rfl⟩
      have c1 := own_cell O1 (g := g) rfl i _ (getI (by omega))
      rw [ht] at c1
      have htm : t ∈ s.1 := mem_get.2 ⟨i, hlt, ht⟩
      have ham : (a : Int) ∈ s.1 := mem_get.2 ⟨0, HBI.hd.1, HBI.hd.2⟩
      obtain ⟨t0, t1⟩ := HBI.rg i hlt
      rw [ht] at t0 t1
      obtain ⟨p0, p1⟩ := stNet.blk_ (XN.out.step hst.bw)
      have j0 : (0 : Int) ≤ (i : Int) := by omega
      have j1 : (i : Int) < (s.1.length : Int) := by omega
      obtain ⟨w4, hw4⟩ : ∃ w4, wr.alloc (.cells #[.int .i64 t] TI) = w4 := ⟨_, rfl⟩
      have XA : Hid (Blk w4 wr.heap.size TI #[.int .i64 t]) := Lib.hid (hw4 ▸ Blk.new wr TI #[.int .i64 t])
      have b4 : Below wr.heap.size wr w4 := hw4 ▸ below_al (Below.refl _ _) _
      have S4 := Lib.hid (hst.keep b4)
      have HSB := Lib.hid hs
      have HT := Lib.hid ht
      have hBS : Hid (∀ k, k ≤ n → BI (pF zs) (pT zs) (pW zs) (gd fs) n P a (scn (pF zs) (pT zs) (pW zs) (gd fs) t s k)) := Lib.hid fun k hk => by rw [← ht]; exact HBI.scn hpl.out hlt k hk
      obtain ⟨d0, d1⟩ := stNet.blk_ (XN.out.step S4.out.bw)
      obtain ⟨ab, hab⟩ : ∃ ab, wr.heap.size = ab := ⟨_, rfl⟩
      have n1 : ab ≠ mb := by have := hst.mp.lt; omega
      have n2 : ab ≠ pb := by have := X1.lt; omega
      have n3 : ab ≠ g := by have := (O1.lt g rfl).2; omega
      rw [hab] at XA
      clear b4 hst X1 O1 hs ht
      go_wp2
      clear q1 q2 c1 p0 p1 d0 d1 hw4
      go_loopg [33] n (fun gk s33 wq => ∃ (k g : Nat) (f : Int → Option Value), k + gk = n ∧ s33 = .int .i64 k ∧ SW w0 wq (pF zs) (pT zs) n a wb mb pb g (scn (pF zs) (pT zs) (pW zs) (gd fs) t s k) f ∧ Blk wq ab TI #[.int .i64 t] ∧ ab ≠ g)
      case atStart => exact ⟨0, g, f, by omega, rfl, S4.out, XA.out, n3⟩
      case round =>
        clear S4 XA
        obtain ⟨k, g, f, hkg, rfl, hst, hxa, hne⟩ := hrel
        have HBK := hBS.out k (by omega)
        have hlen2 := HBK.len
        by_cases hlt2 : k < n
        · obtain ⟨gk2, rfl⟩ : ∃ g', gk = g' + 1 := ⟨gk - 1, by omega⟩
          obtain ⟨b1, o1, rfl, h1⟩ := (HR.out.keep hst.bw).at_ (by omega)
          obtain ⟨g1, g2, g3⟩ := pipe_at h1 hl hlt2
          have hp := OK.out.2.2.2 k hlt2
          obtain ⟨⟨F0, F1⟩, ⟨T0, T1⟩, FT, W0, W1⟩ := hp
          have hcc := HC.out k hlt2
          have hg := scn_grow (F := pF zs) (T := pT zs) (W := pW zs) (f := gd fs) (t := t) s k
          have ht' := hg.2.2.1 t htm
          have ha' := hg.2.2.1 _ ham
          have E1 := fun h1 h2 => scn_fw (F := pF zs) (T := pT zs) (W := pW zs) (f := gd fs) (t := t) (s := s) (k := k) h1 h2
          have E2 := fun h1 h2 => scn_bw (F := pF zs) (T := pT zs) (W := pW zs) (f := gd fs) (t := t) (s := s) (k := k) h1 h2
          have E3 := fun h1 h2 => scn_skip (F := pF zs) (T := pT zs) (W := pW zs) (f := gd fs) (t := t) (s := s) (k := k) h1 h2
          have e1 := Lib.hid E1
          have e2 := Lib.hid E2
          have e3 := Lib.hid E3
          clear E1 E2 E3 hg
          generalize hsk : scn (pF zs) (pT zs) (pW zs) (gd fs) t s k = sk at hst HBK hlen2 ht' ha' e1 e2 e3
          obtain ⟨F, hF0⟩ : ∃ F, pF zs k = F := ⟨_, rfl⟩
          obtain ⟨T, hT0⟩ : ∃ T, pT zs k = T := ⟨_, rfl⟩
          rw [hF0, hT0] at e1 e2 e3
          have HF0 := Lib.hid hF0
          have HT0 := Lib.hid hT0
          rw [hF0] at g1 F0 F1 FT
          rw [hT0] at g2 T0 T1 FT
          have hww : Hid (0 ≤ pW zs k ∧ pW zs k ≤ 1000) := Lib.hid (by omega)
          clear hF0 hT0
          generalize pW zs k = W at g3 W0 W1
          obtain ⟨w5, hw5⟩ : ∃ w5, wr.alloc (.cells #[.int .i64 F, .int .i64 T, .int .i64 W] TP) = w5 := ⟨_, rfl⟩
          have XP : Hid (Blk w5 wr.heap.size TP #[.int .i64 F, .int .i64 T, .int .i64 W]) := Lib.hid (hw5 ▸ Blk.new wr TP #[.int .i64 F, .int .i64 T, .int .i64 W])
          have b5 : Below wr.heap.size wr w5 := hw5 ▸ below_al (Below.refl _ _) _
          have S5 := Lib.hid (hst.keep b5)
          have X5 := Lib.hid (hxa.step b5)
          obtain ⟨d0, d1, d2⟩ := stPipe3 XP.out
          have qa : w5.cell? ⟨ab, 0, none⟩ = some (.int .i64 t) := X5.out.cell 0
          have m1 : wr.heap.size ≠ mb := by have := hst.mp.lt; omega
          have m2 : wr.heap.size ≠ pb := by have := hst.pv; obtain ⟨_, h, _⟩ := this; have := h.lt; omega
          have m3 : wr.heap.size ≠ g := by have := hst.pv; obtain ⟨_, _, h⟩ := this; have := (h.lt g rfl).2; omega
          have m4 : wr.heap.size ≤ w5.heap.size := b5.size
          have m5 : ab < w5.heap.size := X5.out.lt
          obtain ⟨xb, hxb⟩ : ∃ xb, wr.heap.size = xb := ⟨_, rfl⟩
          rw [hxb] at XP d0 d1 d2 m1 m2 m3 m4
          have m6 : xb < w5.heap.size := XP.out.lt
          clear h1 hst hxa b5 hsk
          by_cases hF : F = t
          · have hT : T ≠ t := fun e => FT (hF.trans e.symm)
            have e := e1.out hF hT
            have put := clo_put w0 w5 P n (some ⟨b1, o1, none⟩) ca (.slice au n cu) zs fs a t T k true w.heap.size (w.heap.size + 1) ab wb mb pb g sk f S5.out hn (XN.out.step S5.out.bw) (HR.out.keep S5.out.bw) (XF.out.step S5.out.bw) (HF.out.keep S5.out.bw) X5.out n1
              ht' ha' hlt2 (by rw [if_pos rfl]; exact ⟨HF0.out.trans hF, HT0.out⟩) hww.out hcc (by omega) T0 (by omega) t0 (by omega)
            have PUT := Lib.hid put
            have EE := Lib.hid e
            have hFb : (F == t) = true := by simpa using hF
            have hTb : (T == t) = false := by simpa using hT
            clear put e e1 e2 e3 ht' ha' hcc hF hT FT
            go_wp2_with fail
            refine (PUT.out).mono ?_; rintro e w6 ⟨rfl, g', f', hs6, hk6, hg6⟩
            have X6 := hk6.blk XP.out m1 m2 m3
            have A6 := hk6.blk X5.out n1 n2 hne
            have hne' : ab ≠ g' := by omega
            have S6 : Hid (SW w0 w6 (pF zs) (pT zs) n a wb mb pb g' (scn (pF zs) (pT zs) (pW zs) (gd fs) t s (k + 1)) f') := Lib.hid (by rw [EE.out]; exact hs6)
            clear d0 d1 d2 qa hs6 hk6 PUT EE
            obtain ⟨d0, d1, d2⟩ := stPipe3 X6
            have qa : w6.cell? ⟨ab, 0, none⟩ = some (.int .i64 t) := A6.cell 0
            have HA6 := Lib.hid A6
            clear X6 A6
            go_wp2
            go_roundg gk2
            case measure => omega
            case rel => exact ⟨k + 1, g', f', by omega, by go_num, S6.out, HA6.out, hne'⟩
          · have hFb : (F == t) = false := by simpa using hF
            by_cases hT : T = t
            · have e := e2.out hF hT
              have put := clo_put w0 w5 P n (some ⟨b1, o1, none⟩) ca (.slice au n cu) zs fs a t F k false w.heap.size (w.heap.size + 1) ab wb mb pb g sk f S5.out hn (XN.out.step S5.out.bw) (HR.out.keep S5.out.bw) (XF.out.step S5.out.bw) (HF.out.keep S5.out.bw) X5.out n1
                ht' ha' hlt2 (by rw [if_neg (by simp)]; exact ⟨HT0.out.trans hT, HF0.out⟩) hww.out hcc (by omega) F0 (by omega) t0 (by omega)
              rw [if_neg (by simp)] at put
              have PUT := Lib.hid put
              have EE := Lib.hid e
              have hTb : (T == t) = true := by simpa using hT
              clear put e e1 e2 e3 ht' ha' hcc hF hT FT
              go_wp2_with fail
              refine (PUT.out).mono ?_; rintro e w6 ⟨rfl, g', f', hs6, hk6, hg6⟩
              have A6 := hk6.blk X5.out n1 n2 hne
              have hne' : ab ≠ g' := by omega
              have S6 : Hid (SW w0 w6 (pF zs) (pT zs) n a wb mb pb g' (scn (pF zs) (pT zs) (pW zs) (gd fs) t s (k + 1)) f') := Lib.hid (by rw [EE.out]; exact hs6)
              have HA6 := Lib.hid A6
              clear d0 d1 d2 qa hs6 hk6 PUT EE A6
              go_wp2
              go_roundg gk2
              case measure => omega
              case rel => exact ⟨k + 1, g', f', by omega, by go_num, S6.out, HA6.out, hne'⟩
            · have hTb : (T == t) = false := by simpa using hT
              have EE := Lib.hid (e3.out hF hT)
              clear e1 e2 e3 ht' ha' hcc hF hT FT
              go_wp2
              go_roundg gk2
              case measure => omega
              case rel => exact ⟨k + 1, g, f, by omega, by go_num, by rw [EE.out]; exact S5.out, X5.out, hne⟩
        · obtain rfl : k = n := by omega
          have HST : Hid (SW w0 wr (pF zs) (pT zs) k a wb mb pb g (bfs (pF zs) (pT zs) (pW zs) (gd fs) k a (i + 1)) f) := Lib.hid (by rw [bfs_succ i (by rw [HSB.out]; exact hlt), HSB.out, HT.out]; exact hst)
          clear hst hxa hne
          go_wp2
          go_roundg gko
          case measure => omega
          case rel => exact ⟨i + 1, g, f, by omega, by go_num, HST.out⟩
    · have hfin := fin_of (F := pF zs) (T := pT zs) (W := pW zs) (f := gd fs) (m := n) (P := (P : Int)) (a := (a : Int)) (by omega) (by omega) hpl.out (i := i) (by rw [hs]; omega)
      rw [hs] at hfin
      have HFIN := Lib.hid hfin
      have HST := Lib.hid hst
      have hin := Lib.hid (fun u => fin_iff (F := pF zs) (T := pT zs) (W := pW zs) (f := gd fs) (m := n) (P := (P : Int)) (a := (a : Int)) (by omega) (by omega) hpl.out u)
      clear hfin hst hs X1 O1
      go_wp2
      go_ret
      refine ⟨mb, f, rfl, HST.out.mp.more (by omega), fun u hu => ?_, fun u hu => ?_, ?_⟩
      · obtain ⟨r, rv, h1, h2, h3, h4, _⟩ := HST.out.ys u (by rw [HFIN.out]; exact (hin.out u).2 hu)
        exact ⟨r, rv, h1, by rw [← HFIN.out]; exact h2.pth, by omega, own_mono h4 HB.out.size⟩
      · exact HST.out.no u (fun h => hu ((hin.out u).1 (by rw [← HFIN.out]; exact h)))
      · exact HB.out.trans (HST.out.bw.mono HB.out.size)
end Go.Proofs.Ytilabfmnaegidaa.fl_
