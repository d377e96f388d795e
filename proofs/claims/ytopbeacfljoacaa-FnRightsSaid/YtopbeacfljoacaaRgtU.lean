/- Rights: the program's map from owners to shares: made, changed. -/
import Derived.Test.YtopbeacfljoacaaRgtQ
import Derived.Test.YtopbeacfljoacaaRgtJ
namespace Go.Proofs.Ytopbeacfljoacaa.rgt
open Go.RowKit Go.Maps Go.Proofs.Ytopbeacfljoacaa.kit Go.Proofs.Ytopbeacfljoacaa.lawi Go.Proofs.Ytopbeacfljoacaa.own Go.Proofs.Ytopbeacfljoacaa.rain Go.Proofs.Ytopbeacfljoacaa.yrl Go.Proofs.Ytopbeacfljoacaa.frc Go.Proofs.Ytopbeacfljoacaa.stRight Go.Proofs.Ytopbeacfljoacaa.later Go.Proofs.Ytopbeacfljoacaa.apart Go.Proofs.Ytopbeacfljoacaa.mapv
theorem make_hint (c : Int) (w : World) : (Instr.makeMap TM (some (.int .i64 c))).run Try.prog w = .ok (.map (some w.heap.size)) (w.alloc (.map #[] 0)) := by
  kernel_rfl
theorem fm_lk (zs : List Int) (k : Nat) (x : Int) : (if x = wO zs k then some (stFraction.R (wT zs k) (wB zs k)) else Fm (lk zs k) x) = Fm (lk zs (k + 1)) x := by
  unfold Fm
  rw [lk]
  by_cases e : x = wO zs k
  · rw [if_pos e, if_pos e]; rfl
  · rw [if_neg e, if_neg e]
theorem fm_del (g : Int → Option (Int × Int)) (o fb x : Int) : (if x = o then none else Fm g x) = Fm (setS g o 0 fb) x := by
  unfold Fm setS
  by_cases e : x = o
  · rw [if_pos e, if_pos e, if_pos rfl]; rfl
  · rw [if_neg e, if_neg e]
theorem fm_put (g : Int → Option (Int × Int)) (o t fb x : Int) (h : ¬ t = 0) : (if x = o then some (stFraction.R t fb) else Fm g x) = Fm (setS g o t fb) x := by
  unfold Fm setS
  by_cases e : x = o
  · rw [if_pos e, if_pos e, if_neg h]; rfl
  · rw [if_neg e, if_neg e]
/-- What sharesByOwner gives. -/
def Shares (w : World) (n : Nat) (zs : List Int) (e : Ending) (w' : World) : Prop := ∃ b, e = .returned (.map (some b)) ∧ w.heap.size ≤ b ∧ MapV Try.prog TI w' b n (Fm (lk zs n)) ∧ Below w.heap.size w w'
set_option maxRecDepth 100000 in
set_option maxHeartbeats 2000000 in
theorem impl_sbo (w : World) (v : Value) (n : Nat) (zs : List Int) (hn : n ≤ 1000) (hr : Row 3 w v n (IV zs)) (ho : ∀ k, k < n → 1 ≤ wO zs k ∧ wO zs k ≤ 999) : Calls Try.prog 63 #[v] w (Shares w n zs) := by
  obtain ⟨av, ca, rfl⟩ := hr.shape
  have hl : zs.length = n * 3 := by simpa using hr.1
  have hmm := make_hint (n : Int)
  obtain ⟨w0, hw0⟩ : ∃ w0, w.alloc (.map #[] 0) = w0 := ⟨_, rfl⟩
  have M0 : Hid (MapV Try.prog TI w0 w.heap.size 0 (Fm (lk zs 0))) := Lib.hid (hw0 ▸ MapV.made w Try.prog TI)
  have HB : Hid (Below w.heap.size w w0) := Lib.hid (hw0 ▸ below_al (Below.refl _ _) _)
  obtain ⟨G, hG⟩ : ∃ G, w.heap.size = G := ⟨_, rfl⟩
  have HG := Lib.hid hG
  have HR := Lib.hid hr
  have HO := Lib.hid ho
  rw [hG] at M0
  clear hr ho
  go_enter Try.func63, Try.ntmps63
  go_wp2
  clear hw0 hmm
  go_loopg [11] n (fun g s11 wr => ∃ k : Nat, k + g = n ∧ s11 = .int .i64 k ∧ MapV Try.prog TI wr G k (Fm (lk zs k)) ∧ Below w.heap.size w wr)
  case atStart => exact ⟨0, by omega, rfl, M0.out, HB.out⟩
  case round =>
    clear M0 HB
    obtain ⟨k, hkg, rfl, hm, hbel⟩ := hrel
    have HM := Lib.hid hm
    have BL := Lib.hid hbel
    clear hm hbel
    by_cases hlt : k < n
    · obtain ⟨gk, rfl⟩ : ∃ g', gk = g' + 1 := ⟨gk - 1, by omega⟩
      obtain ⟨b1, o1, rfl, hc⟩ := (HR.out.keep BL.out).at_ (by omega)
      obtain ⟨g1, g2, g3⟩ := right_at hc hl hlt
      have hrg := HO.out k hlt
      have wfx := wf_owner hrg.1 hrg.2
      have hfm := Lib.hid (fm_lk zs k)
      generalize wO zs k = O at *
      generalize wT zs k = T at *
      generalize wB zs k = B at *
      obtain ⟨wa, hwa⟩ : ∃ wa, wr.alloc (.cells #[.int .i64 O, .int .i64 T, .int .i64 B] TR) = wa := ⟨_, rfl⟩
      have ba : Below wr.heap.size wr wa := hwa ▸ below_al (Below.refl _ _) _
      have XA : Blk wa wr.heap.size TR #[.int .i64 O, .int .i64 T, .int .i64 B] := hwa ▸ Blk.new wr TR _
      have a0 := XA.cell 0
      have a1 := XA.cell 1
      have a2 := XA.cell 2
      have MA := Lib.hid (HM.out.keep ba)
      have BA := Lib.hid (below_step BL.out ba)
      have hGw := HG.out
      clear hc hrg XA ba HM BL
      go_wp2_with (first
        | (refine wp_putV _ rfl _ _ _ TM rfl TI TF Try.underlying3 Try.underlying83 G k (by omega) _ rfl MA.out O rfl wfx (stFraction.R T B) rfl ?_; intro w5 hM5 hg5
           have M5 := Lib.hid (hM5.congr (g := Fm (lk zs (k + 1))) fun x _ => hfm.out x)
           have B5 := Lib.hid (BA.out.grown hg5 BA.out.size (fun j hj => by cases hj; omega))
           clear hM5 hg5)
        | fail)
      go_roundg gk
      case measure => omega
      case rel => exact ⟨k + 1, by omega, by go_num, M5.out, B5.out⟩
    · obtain rfl : k = n := by omega
      have hGw := HG.out
      go_wp2
      go_ret
      exact ⟨G, rfl, by omega, HM.out, BL.out⟩
set_option maxRecDepth 100000 in
theorem impl_ss (w : World) (b n : Nat) (g : Int → Option (Int × Int)) (o t fb : Int) (hM : MapV Try.prog TI w b n (Fm g)) (hn : n ≤ 1000) (wf : (Lit.int .i64 o).wf = true) :
    Calls Try.prog 72 #[.map (some b), .int .i64 o, stFraction.R t fb] w fun e w' => e = .returned (.tuple #[]) ∧ MapV Try.prog TI w' b (n + 1) (Fm (setS g o t fb)) ∧ Chg b (b + 1) w w' := by
  obtain ⟨w0, hw0⟩ : ∃ w0, w.alloc (.cells #[.int .i64 t, .int .i64 fb] TF) = w0 := ⟨_, rfl⟩
  have B0 : Below w.heap.size w w0 := hw0 ▸ below_al (Below.refl _ _) _
  have XA : Blk w0 w.heap.size TF #[.int .i64 t, .int .i64 fb] := hw0 ▸ Blk.new w TF _
  obtain ⟨a0, a1, _⟩ := fcell XA
  have M0 := Lib.hid (hM.keep B0)
  have C0 := Lib.hid (Chg.of_below (lo := b) (hi := b + 1) B0)
  clear XA B0 hM
  by_cases h0 : t = 0
  · subst h0
    go_enter Try.func72, Try.ntmps72
    go_wp2_with (first
      | (refine wp_delV _ rfl _ _ TM TI rfl TF Try.underlying3 Try.underlying83 b n _ rfl M0.out o rfl wf ?_; intro w5 hM5 hg5
         have M5 := Lib.hid ((hM5.more (Nat.le_succ n)).congr (g := Fm (setS g o 0 fb)) fun x _ => fm_del g o fb x)
         have C5 := Lib.hid (C0.out.trans (Chg.of_grown hg5 (fun j hj => by cases hj; omega)))
         clear hM5 hg5)
      | fail)
    exact bodyPost_ret (results_none rfl _ _ _) rfl ⟨rfl, M5.out, C5.out⟩
  · have u1 : (t == 0) = false := beq_false_of_ne h0
    go_enter Try.func72, Try.ntmps72
    go_wp2_with (first
      | (refine wp_putV _ rfl _ _ _ TM rfl TI TF Try.underlying3 Try.underlying83 b n (by omega) _ rfl M0.out o rfl wf (stFraction.R t fb) rfl ?_; intro w5 hM5 hg5
         have M5 := Lib.hid (hM5.congr (g := Fm (setS g o t fb)) fun x _ => fm_put g o t fb x h0)
         have C5 := Lib.hid (C0.out.trans (Chg.of_grown hg5 (fun j hj => by cases hj; omega)))
         clear hM5 hg5)
      | fail)
    go_end0
    exact ⟨rfl, M5.out, C5.out⟩
theorem impl_op (w : World) (t b : Int) (h : IntKind.i64.wrap (b - t) = b - t) : Calls Try.prog 71 #[stFraction.R t b] w (Gives w (stFraction.R (b - t) b)) := by
  obtain ⟨w0, hw0, XA, XB, HB⟩ := box2 w (.int .i64 t) (.int .i64 b) (.int .i64 0) (.int .i64 0)
  obtain ⟨a0, a1, _⟩ := fcell XA.out
  obtain ⟨b0, b1, b2, b3⟩ := fcell XB.out
  go_enter Try.func71, Try.ntmps71
  go_wp2
  refine bodyPost_ret (v := stFraction.R (b - t) b) (by simp [*, results, Try.results71, go_sem]) rfl ⟨rfl, ?_⟩
  have B1 := HB.out
  go_grown
end Go.Proofs.Ytopbeacfljoacaa.rgt
