/- slices.SortStableFunc of a short row of the numbers below n, by whatever closure tells an order. -/
import Derived.Test.YtopbeacfljoacaaSrtL
import Derived.Test.YtopbeacfljoacaaOwn
import Derived.Test.YtopbeacfljoacaaLater
import Derived.Test.YtopbeacfljoacaaLex
import Derived.Test.YtopbeacfljoacaaApart
import Derived.Deep.DeepCutAuto
import Derived.Deep.DrawnRows
import Derived.Deep.RegionHeld3
import Derived.Handy
import Derived.Outline
import Derived.Deep.LoopGhost
import Derived.Carry
import Derived.WalkArith
namespace Go.Proofs.Ytopbeacfljoacaa.srt
open Go.RowKit Go.Proofs.Ytopbeacfljoacaa.kit Go.Proofs.Ytopbeacfljoacaa.lawi Go.Proofs.Ytopbeacfljoacaa.own Go.Proofs.Ytopbeacfljoacaa.rain Go.Proofs.Ytopbeacfljoacaa.yrl Go.Proofs.Ytopbeacfljoacaa.later Go.Proofs.Ytopbeacfljoacaa.apart
abbrev TI : TypeId := 3
/-- The row of the numbers f 0, f 1, .. -/
abbrev NV (f : Nat → Nat) (n : Nat) : List Value := IV (rw_ (fun k => (f k : Int)) n)
theorem nv_at (f : Nat → Nat) {n k : Nat} (h : k < n) : (NV f n)[k]? = some (.int .i64 (f k)) := by
  rw [getI (by rw [rw_len]; exact h), rw_at _ h]
theorem nv_swap (f : Nat → Nat) {n j : Nat} : ((NV f n).set (j + 1) (.int .i64 (f j))).set j (.int .i64 (f (j + 1))) = NV (swf f j) n := by
  show ((IV _).set _ _).set _ _ = IV _
  have h1 : ∀ (xs : List Int) (j : Nat) (x : Int), (IV xs).set j (.int .i64 x) = IV (xs.set j x) := fun xs j x => by simp [List.map_set]
  rw [h1, h1, rwset, rwset]
  refine congrArg IV (rwcongr fun v _ => ?_)
  unfold swf
  by_cases a : v = j
  · rw [if_pos a, if_pos a]
  · rw [if_neg a, if_neg a]
    by_cases b : v = j + 1
    · rw [if_pos b, if_pos b]
    · rw [if_neg b, if_neg b]
theorem rset {w : World} {g n ca : Nat} {xs : List Value} (h : OwnR w g (g + 1) TI 1 (.slice (some ⟨g, 0, none⟩) n ca) n xs) (j : Nat) (u : Value) : OwnR (w.setCell ⟨g, j, none⟩ u) g (g + 1) TI 1 (.slice (some ⟨g, 0, none⟩) n ca) n (xs.set j u) :=
  ⟨own_set h.1 rfl j u, h.2.1, by simpa using h.2.2⟩
set_option maxHeartbeats 4000000 in
theorem isort (w : World) (F : Nat) (p : Value) (hF : ∀ args W, (callFunc F args).run Try.prog W = .ok (.enter F args) W) (n : Nat) (h1n : 1 ≤ n) (hn : n ≤ 1000) (go ca : Nat)
    (hrow : OwnR w go (go + 1) TI 1 (.slice (some ⟨go, 0, none⟩) n ca) n (NV (fun k => k) n)) (cf : Nat → Nat → Int) (L : Nat → Nat → Prop)
    (hto : ∀ a b, a ≠ b → L a b ∨ L b a) (htr : ∀ a b c, a < n → b < n → c < n → L a b → L b c → L a c) (hcf : ∀ x y : Nat, y < x → x < n → (cf x y < 0 ↔ L x y))
    (hcl : ∀ W (x y : Nat), Chg go (go + 1) w W → x < n → y < n → Calls Try.prog F #[.int .i64 x, .int .i64 y, p] W (Gives W (.int .i64 (cf x y)))) :
    Calls Try.prog 75 #[.slice (some ⟨go, 0, none⟩) n ca, .int .i64 0, .int .i64 n, .func (.func F) #[] #[p]] w fun e w' => e = .returned (.tuple #[]) ∧
      ∃ f, Srt L f n ∧ OwnR w' go (go + 1) TI 1 (.slice (some ⟨go, 0, none⟩) n ca) n (NV f n) ∧ Chg go (go + 1) w w' := by
  have HR := Lib.hid hrow
  have HTO := Lib.hid hto
  have HTR := Lib.hid htr
  have HCF := Lib.hid hcf
  have HCL := Lib.hid hcl
  clear hrow hto htr hcf hcl
  go_enter Try.func75, Try.ntmps75
  go_wp2
  go_loopg [8] n (fun g s8 wr => ∃ (i : Nat) (f : Nat → Nat), s8 = .int .i64 i ∧ 1 ≤ i ∧ i ≤ n ∧ i + g = n + 1 ∧ Srt L f i ∧ OwnR wr go (go + 1) TI 1 (.slice (some ⟨go, 0, none⟩) n ca) n (NV f n) ∧ Chg go (go + 1) w wr)
  case atStart => exact ⟨1, fun k => k, by go_num, Nat.le_refl _, h1n, by omega, .one, HR.out, .refl⟩
  case round =>
    clear HR
    obtain ⟨i, f, rfl, hi1, hin, hig, hs, ho, hc⟩ := hrel
    have HS := Lib.hid hs
    have HO := Lib.hid ho
    have HC := Lib.hid hc
    clear hs ho hc
    by_cases hlt : i < n
    · obtain ⟨gk, rfl⟩ : ∃ g', gk = g' + 1 := ⟨gk - 1, by omega⟩
      go_wp2
      go_loopg [9] i (fun g s9 wi => ∃ (j : Nat) (f : Nat → Nat), s9 = .int .i64 j ∧ j = g ∧ j ≤ i ∧ Sin L f i j ∧ OwnR wi go (go + 1) TI 1 (.slice (some ⟨go, 0, none⟩) n ca) n (NV f n) ∧ Chg go (go + 1) w wi)
      case atStart => exact ⟨i, f, rfl, rfl, Nat.le_refl _, HS.out.start, HO.out, HC.out⟩
      case round =>
        clear HS HO HC
        obtain ⟨j, f, rfl, rfl, hji, hs, ho, hc⟩ := hrel
        have HS := Lib.hid hs
        have HO := Lib.hid ho
        have HC := Lib.hid hc
        clear hs ho hc
        by_cases h0 : j = 0
        · subst h0
          have HN := Lib.hid HS.out.first
          go_wp2_with fail
          (try simp only [List.append])
          refine later.region (by kernel_rfl) (lex.lexB_of (by kernel_rfl) (lex.all_whole (by kernel_rfl))) ?_
          repeat (go_big_quiet_step (fail))
          refine wpQuiet_nil ?_
          intro _ hw'
          obtain ⟨g, rfl⟩ := hw'
          have B7 := Lib.hid g.h
          go_wp2
          go_roundg gk
          case measure => omega
          case rel => exact ⟨i + 1, f, by go_num, by omega, by omega, by omega, HN.out, HO.out.keep B7.out, HC.out.trans (.of_below B7.out)⟩
        · obtain ⟨q, rfl⟩ : ∃ q, j = q + 1 := ⟨j - 1, by omega⟩
          have fq := HS.out.2.2.2.1 q (by omega) (by omega)
          have c0 := own_cell HO.out.own (g := go) rfl (q + 1) _ (nv_at f (by omega))
          have c1 := own_cell HO.out.own (g := go) rfl q _ (nv_at f (by omega))
          have hfj := HS.out.at_
          have hcf := HCF.out i (f q) fq hlt
          have hcl := fun W hW => HCL.out W i (f q) hW hlt (by omega)
          have HNX := Lib.hid HS.out.step
          have HST := Lib.hid (fun h : ¬ L i (f q) => HS.out.stop HTO.out HTR.out hlt h)
          have hsw := Lib.hid (nv_swap f (n := n) (j := q))
          obtain ⟨C, hC⟩ : ∃ C, cf i (f q) = C := ⟨_, rfl⟩
          rw [hC] at hcf hcl
          rw [hfj] at c0 hsw
          have HQ := Lib.hid (fun h => HNX.out (hcf.1 h))
          have HQ2 := Lib.hid (fun h : ¬ C < 0 => HST.out (fun g => h (hcf.2 g)))
          obtain ⟨z, hz⟩ : ∃ z, f q = z := ⟨_, rfl⟩
          have HFJ := Lib.hid (And.intro hfj.symm hz.symm)
          rw [hz] at c1 hcl hsw
          have HCL2 := Lib.hid hcl
          have L0 := later.cell c0
          have L1 := later.cell c1
          have k1 : IntKind.i64.wrap (((q + 1 : Nat) : Int) - 1) = (q : Int) := by rw [IntWalk.i64_in _ (by omega)]; omega
          have i0 : (0 : Int) ≤ ((q + 1 : Nat) : Int) := by omega
          have i1 : ((q + 1 : Nat) : Int) < (n : Int) := by omega
          have i2 : (0 : Int) ≤ (q : Int) := by omega
          have i3 : (q : Int) < (n : Int) := by omega
          have u0 : decide ((0 : Int) < ((q + 1 : Nat) : Int)) = true := decide_eq_true (by omega)
          have u0' : decide (0 < q + 1) = true := decide_eq_true (by omega)
          clear hC hcf hcl hz hfj HNX HST fq h0
          by_cases hneg : C < 0
          · have HN := Lib.hid (HQ.out hneg)
            have u1 : decide (C < 0) = true := decide_eq_true hneg
            clear HQ HQ2
            go_wp2_with fail
            (try simp only [List.append])
            refine later.region (by kernel_rfl) (lex.lexB_of (by kernel_rfl) (lex.all_whole (by kernel_rfl))) ?_
            repeat (go_big_quiet_step ((first
              | (refine later.calls _ (HCL2.out _ (HC.out.trans (.of_below (Later.h _)))))
              | fail)))
            refine wpQuiet_nil ?_
            intro _ hw'
            obtain ⟨g, rfl⟩ := hw'
            have B7 := Lib.hid g.h
            replace HO := Lib.hid (HO.out.keep B7.out)
            replace HC := Lib.hid (HC.out.trans (.of_below B7.out))
            generalize g.w = w2 at HO HC ⊢
            clear c0 c1 L0 L1 B7
            have c0 := own_cell HO.out.own (g := go) rfl (q + 1) (.int .i64 (i : Int)) (by rw [HFJ.out.1]; exact nv_at f (by omega))
            have c1 := own_cell HO.out.own (g := go) rfl q (.int .i64 (z : Int)) (by rw [HFJ.out.2]; exact nv_at f (by omega))
            have f0 := own_free HO.out.own (g := go) rfl (q + 1)
            have f1 := own_free HO.out.own (g := go) rfl q
            have c2 : (w2.setCell ⟨go, q + 1, none⟩ (.int .i64 z)).cell? ⟨go, q, none⟩ = some (.int .i64 z) := by
              rw [World.cell?_setCell_other _ _ _ _ (by intro e'; simp only [Addr.mk.injEq] at e'; omega)]
              exact c1
            have HO2 := Lib.hid (rset (rset HO.out (q + 1) (.int .i64 z)) q (.int .i64 i))
            rw [hsw.out] at HO2
            have HC2 := Lib.hid ((HC.out.trans (.set go (q + 1) (.int .i64 z) (Nat.le_refl _) (by omega))).trans (.set go q (.int .i64 i) (Nat.le_refl _) (by omega)))
            clear hsw
            go_wp2_with fail
            go_region
            go_wp2
            go_roundg q
            case measure => omega
            case rel => exact ⟨q, swf f q, by go_num, rfl, by omega, HN.out, HO2.out, HC2.out⟩
          · have HN := Lib.hid (HQ2.out hneg)
            have u1 : decide (C < 0) = false := decide_eq_false hneg
            clear HQ HQ2
            go_wp2_with fail
            (try simp only [List.append])
            refine later.region (by kernel_rfl) (lex.lexB_of (by kernel_rfl) (lex.all_whole (by kernel_rfl))) ?_
            repeat (go_big_quiet_step ((first
              | (refine later.calls _ (HCL2.out _ (HC.out.trans (.of_below (Later.h _)))))
              | fail)))
            refine wpQuiet_nil ?_
            intro _ hw'
            obtain ⟨g, rfl⟩ := hw'
            have B7 := Lib.hid g.h
            clear c0 c1 L0 L1
            go_wp2
            go_roundg gk
            case measure => omega
            case rel => exact ⟨i + 1, f, by go_num, by omega, by omega, by omega, HN.out, HO.out.keep B7.out, HC.out.trans (.of_below B7.out)⟩
    · obtain rfl : i = n := by omega
      go_wp2
      go_end0
      exact ⟨rfl, f, HS.out, HO.out, HC.out⟩
/-- What the sort is told: the row, the closure, the order. -/
structure Asks (w : World) (F : Nat) (p : Value) (n go ca : Nat) (cf : Nat → Nat → Int) (L : Nat → Nat → Prop) : Prop where
  enters : ∀ args W, (callFunc F args).run Try.prog W = .ok (.enter F args) W
  one : 1 ≤ n
  few : n ≤ 12
  row : OwnR w go (go + 1) TI 1 (.slice (some ⟨go, 0, none⟩) n ca) n (NV (fun k => k) n)
  total : ∀ a b, a ≠ b → L a b ∨ L b a
  trans : ∀ a b c, a < n → b < n → c < n → L a b → L b c → L a c
  less : ∀ x y : Nat, y < x → x < n → (cf x y < 0 ↔ L x y)
  calls : ∀ W (x y : Nat), Chg go (go + 1) w W → x < n → y < n → Calls Try.prog F #[.int .i64 x, .int .i64 y, p] W (Gives W (.int .i64 (cf x y)))
/-- The row behind the sort. -/
def Sorted (w : World) (n go ca : Nat) (L : Nat → Nat → Prop) (e : Ending) (w' : World) : Prop :=
  e = .returned (.tuple #[]) ∧ ∃ f, Srt L f n ∧ OwnR w' go (go + 1) TI 1 (.slice (some ⟨go, 0, none⟩) n ca) n (NV f n) ∧ Chg go (go + 1) w w'
set_option maxHeartbeats 1000000 in
theorem stable (w : World) (F : Nat) (p : Value) (n go ca : Nat) (cf : Nat → Nat → Int) (L : Nat → Nat → Prop) (h : Asks w F p n go ca cf L) :
    Calls Try.prog 68 #[.slice (some ⟨go, 0, none⟩) n ca, .int .i64 n, .func (.func F) #[] #[p]] w (Sorted w n go ca L) := by
  have H := Lib.hid h
  have hn := h.few
  have u0 : decide ((20 : Int) ≤ (n : Int)) = false := decide_eq_false (by omega)
  have u1 : decide ((20 : Int) < (n : Int)) = false := decide_eq_false (by omega)
  clear h
  go_enter Try.func68, Try.ntmps68
  go_wp2
  refine wp_loop_rounds 1 ?_
  rw [rounds_succ]
  go_wp2_with fail
  refine (isort w F p H.out.enters n H.out.one (by omega) go ca H.out.row cf L H.out.total H.out.trans H.out.less H.out.calls).mono ?_; rintro e w1 ⟨rfl, hs⟩
  have HS := Lib.hid hs
  clear hs
  go_wp2
  refine wp_loop_rounds 1 ?_
  rw [rounds_succ]
  go_wp2
  go_end0
  exact ⟨rfl, HS.out⟩
theorem ssort (w : World) (F : Nat) (p : Value) (n go ca : Nat) (cf : Nat → Nat → Int) (L : Nat → Nat → Prop) (h : Asks w F p n go ca cf L) :
    Calls Try.prog 57 #[.slice (some ⟨go, 0, none⟩) n ca, .func (.func F) #[] #[p]] w (Sorted w n go ca L) := by
  go_enter Try.func57, Try.ntmps57
  go_wp2_with fail
  refine (stable w F p n go ca cf L h).mono ?_; rintro e w1 ⟨rfl, hs⟩
  have HS := Lib.hid hs
  clear hs h
  go_wp2
  go_end0
  exact ⟨rfl, HS.out⟩
end Go.Proofs.Ytopbeacfljoacaa.srt
