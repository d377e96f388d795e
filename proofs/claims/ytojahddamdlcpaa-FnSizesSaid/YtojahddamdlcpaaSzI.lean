/- How large a cistern must be: the program's functions; a search with a function value. -/
import Derived.Test.YtojahddamdlcpaaYrI
import Derived.Test.YtojahddamdlcpaaSzL
import Derived.Test.YtojahddamdlcpaaCpy
import Derived.Laws.ByValue
namespace Go.Proofs.Ytojahddamdlcpaa.sz
open Go.RowKit Go.Proofs.Ytojahddamdlcpaa.kit Go.Proofs.Ytojahddamdlcpaa.lawi Go.Proofs.Ytojahddamdlcpaa.own Go.Proofs.Ytojahddamdlcpaa.rainl Go.Proofs.Ytojahddamdlcpaa.rain Go.Proofs.Ytojahddamdlcpaa.cis Go.Proofs.Ytojahddamdlcpaa.chl Go.Proofs.Ytojahddamdlcpaa.yrl Go.Proofs.Ytojahddamdlcpaa.yr Go.Proofs.Ytojahddamdlcpaa.szl Go.Proofs.Ytojahddamdlcpaa.cpy
theorem impl_enough (w : World) (v : Value) (n : Nat) (cs : List Int) (r s d : Int) (hn : n ≤ 1048576) (hr : Row 1 w v n (IV cs)) (b : Bool) (hb : b = true ↔ En r s d n cs) :
    Calls Try.prog 29 #[Yv r s v d] w (Gives w (.bool b)) := by
  obtain ⟨a, ca, rfl⟩ := hr.shape
  have B0 : Below w.heap.size w (w.alloc (.cells #[.int .i64 r, .int .i64 s, .slice a n ca, .int .i64 d] TY)) := below_al (Below.refl _ _) _
  have HR := Lib.hid hr
  have HB := Lib.hid B0
  have HX := Lib.hid (Blk.new w TY #[.int .i64 r, .int .i64 s, .slice a n ca, .int .i64 d])
  by_cases ok : YOk r s d n cs
  · have h0 := en_iff ok
    obtain ⟨L, hL⟩ : ∃ L, dy (fun k => decide (tk r d s cs k < d)) n = L := ⟨_, rfl⟩
    have hle : L.length ≤ n := hL ▸ dy_len _ _
    have hn4 := ok.2.2.1.2
    rw [hL] at h0
    have hbL : b = decide (L.length = 0) := by
      cases b
      · have : ¬ L = [] := fun e => by have := hb.2 (h0.2 e); cases this
        symm
        rw [decide_eq_false_iff_not]
        intro e
        exact this (List.eq_nil_of_length_eq_zero e)
      · have : L = [] := h0.1 (hb.1 rfl)
        subst this
        rfl
    have HL := Lib.hid hL
    have OK := Lib.hid ok
    clear ok hr B0 hn h0 hb hL
    go_enter Try.func29, Try.ntmps29
    go_wp2_with fail
    refine (impl_yok_yes _ _ n cs r s d (HR.out.keep HB.out) OK.out).mono ?_; rintro e w1 ⟨rfl, hb⟩
    replace HX := Lib.hid (HX.out.step hb)
    replace HB := Lib.hid (below_step HB.out hb)
    clear hb
    obtain ⟨p0, p1, p2, p3⟩ := blk4 HX.out
    go_wp2_with fail
    refine (impl_short_yes _ _ n cs r s d (HR.out.keep HB.out) OK.out).mono ?_; rintro e w2 ⟨v2, rfl, ho, hb⟩
    rw [HL.out] at ho
    obtain ⟨a2, c2, rfl⟩ := own_shape ho
    replace HB := Lib.hid (below_step HB.out hb)
    clear hb ho p0 p1 p2 p3
    obtain ⟨m, hm⟩ : ∃ m, L.length = m := ⟨_, rfl⟩
    rw [hm] at hbL hle
    rw [hm]
    clear hm HL
    have e : ((m : Int) == 0) = b := by
      rw [hbL, Bool.eq_iff_iff]
      simp
    go_wp2
    go_ret
    exact ⟨by rw [hbL]; rfl, HB.out⟩
  · have NO := Lib.hid ok
    have hbf : b = false := by
      cases b
      · rfl
      · exact absurd (hb.1 rfl).1 ok
    subst hbf
    clear ok hr B0 hb
    go_enter Try.func29, Try.ntmps29
    go_wp2_with fail
    refine (impl_yok_no _ _ n cs r s d hn (HR.out.keep HB.out) NO.out).mono ?_; rintro e w1 ⟨rfl, hb⟩
    replace HB := Lib.hid (below_step HB.out hb)
    clear hb
    go_wp2
    go_ret
    exact ⟨rfl, HB.out⟩
theorem impl_withRoom (w : World) (r s d x : Int) (a : Option Addr) (n ca : Nat) :
    Calls Try.prog 59 #[Yv r s (.slice a n ca) d, .int .i64 x] w (Gives w (Yv x (mn s x) (.slice a n ca) d)) := by
  go_enter Try.func59, Try.ntmps59
  rcases Int.lt_trichotomy s x with h | rfl | h
  · have e : mn s x = s := by unfold mn; split <;> omega
    rw [e]
    go_wp2
    refine bodyPost_ret (v := Yv x s (.slice a n ca) d) (by simp [*, results, Try.results59, go_sem]) rfl ⟨rfl, ?_⟩
    go_grown
  · have e : mn s s = s := by unfold mn; split <;> omega
    rw [e]
    go_wp2
    refine bodyPost_ret (v := Yv s s (.slice a n ca) d) (by simp [*, results, Try.results59, go_sem]) rfl ⟨rfl, ?_⟩
    go_grown
  · have e : mn s x = x := by unfold mn; split <;> omega
    rw [e]
    go_wp2
    refine bodyPost_ret (v := Yv x x (.slice a n ca) d) (by simp [*, results, Try.results59, go_sem]) rfl ⟨rfl, ?_⟩
    go_grown
theorem impl_least (w : World) (F : Nat) (p : Value) (I : World → Prop) (q : Int → Bool) (lo hi m : Int) (h0 : 0 ≤ lo) (h1 : lo ≤ hi) (h2 : hi ≤ 1000000)
    (up : ∀ a b, lo ≤ a → a ≤ b → b ≤ hi → q a = true → q b = true) (hm : Least (fun x => q x = true) lo hi m)
    (hF : ∀ args W, (callFunc F args).run Try.prog W = .ok (.enter F args) W)
    (hq : ∀ x W, lo ≤ x → x ≤ hi → I W → Calls Try.prog F #[.int .i64 x, p] W fun e W' => e = .returned (.bool (q x)) ∧ I W') (hI : I w) :
    Calls Try.prog 56 #[.int .i64 lo, .int .i64 hi, .func (.func F) #[] #[p]] w fun e w' => e = .returned (.int .i64 m) ∧ I w' := by
  have HQ := Lib.hid hq
  have HI := Lib.hid hI
  have UP := Lib.hid up
  have HM := Lib.hid hm
  have hhi : q hi = true := up m hi hm.1 hm.2.1 (Int.le_refl _) hm.2.2.1
  have m1 := hm.1
  have m2 := hm.2.1
  clear hq hI up hm
  go_enter Try.func56, Try.ntmps56
  go_wp2_with fail
  refine (HQ.out hi _ h1 (Int.le_refl _) HI.out).mono ?_; rintro e w1 ⟨rfl, hi1⟩
  rw [hhi]
  have HI := Lib.hid hi1
  clear hi1 hhi
  go_wp2
  go_loopg [0, 1, 7] (hi - lo).toNat (fun g a b c wr => ∃ l h, a = .int .i64 l ∧ b = .int .i64 h ∧ lo ≤ l ∧ l ≤ m ∧ m ≤ h ∧ h ≤ hi ∧ (h - l).toNat = g ∧ I wr)
  case atStart => exact ⟨lo, hi, rfl, rfl, Int.le_refl _, m1, m2, Int.le_refl _, rfl, HI.out⟩
  case round =>
    clear HI
    obtain ⟨l, h, rfl, rfl, k1, k2, k3, k4, hg, hI⟩ := hrel
    have HI := Lib.hid hI
    clear hI
    by_cases hlt : l < h
    · obtain ⟨x, hx⟩ : ∃ x, (l + h) / 2 = x := ⟨_, rfl⟩
      have e2 : (l + h).tdiv 2 = x := by rw [Int.tdiv_eq_ediv_of_nonneg (by omega)]; exact hx
      have x1 : l ≤ x := by omega
      have x2 : x < h := by omega
      clear hx
      go_wp2_with fail
      refine (HQ.out x _ (by omega) (by omega) HI.out).mono ?_; rintro e w2 ⟨rfl, hi2⟩
      have HI := Lib.hid hi2
      clear hi2
      by_cases hb : q x = true
      · have hmx := HM.out.le (by omega) hb
        rw [hb]
        go_wp2
        go_roundg (x - l).toNat
        case rel => exact ⟨l, x, rfl, rfl, k1, k2, hmx, by omega, rfl, HI.out⟩
        case measure => omega
      · have hmx := HM.out.lt UP.out (by omega) hb
        have hb : q x = false := by simpa using hb
        rw [hb]
        go_wp2
        go_roundg (h - (x + 1)).toNat
        case rel => exact ⟨x + 1, h, rfl, rfl, by omega, by omega, k3, k4, rfl, HI.out⟩
        case measure => omega
    · obtain rfl : l = m := by omega
      go_wp2
      go_ret
      exact ⟨rfl, HI.out⟩
theorem impl_least_no (w : World) (F : Nat) (p : Value) (I : World → Prop) (lo hi : Int)
    (hF : ∀ args W, (callFunc F args).run Try.prog W = .ok (.enter F args) W)
    (hq : ∀ W, I W → Calls Try.prog F #[.int .i64 hi, p] W fun e W' => e = .returned (.bool false) ∧ I W') (hI : I w) :
    Calls Try.prog 56 #[.int .i64 lo, .int .i64 hi, .func (.func F) #[] #[p]] w fun e w' => e = .returned (.int .i64 (-1)) ∧ I w' := by
  have HI := Lib.hid hI
  have HQ := Lib.hid hq
  clear hq hI
  go_enter Try.func56, Try.ntmps56
  go_wp2_with fail
  refine (HQ.out _ HI.out).mono ?_; rintro e w1 ⟨rfl, hi1⟩
  go_wp2
  go_ret
  exact ⟨rfl, hi1⟩
theorem enters {P : Program} {f : FuncId} {fn : Func} {c : Code} (hf : P.funcs[f]? = some fn) (hname : (fn.name == "runtime.NumGoroutine") = false) (hb : fn.body = some c) (args : Array Value) (w : World) :
    (callFunc f args).run P w = .ok (.enter f args) w := by
  have h1 : fn.name ≠ "runtime.NumGoroutine" := by simpa using hname
  simp [callFunc, hf, h1, hb]
theorem clo_room (w0 : World) (g : Nat) (v : Value) (n : Nat) (cs : List Int) (r s d : Int) (hn : n ≤ 1048576) (hr : Row 1 w0 v n (IV cs)) (x : Int) (q : Bool) (hq : q = true ↔ EnR s d n cs x) (W : World)
    (hW : Blk W g TY #[.int .i64 r, .int .i64 s, v, .int .i64 d] ∧ Below w0.heap.size w0 W) :
    Calls Try.prog 58 #[.int .i64 x, .pointer (some ⟨g, 0, none⟩)] W fun e W' => e = .returned (.bool q) ∧ Blk W' g TY #[.int .i64 r, .int .i64 s, v, .int .i64 d] ∧ Below w0.heap.size w0 W' := by
  obtain ⟨a, ca, rfl⟩ := hr.shape
  obtain ⟨hX, hB⟩ := hW
  have HX := Lib.hid hX
  have HB := Lib.hid hB
  have HR := Lib.hid hr
  have HQ := Lib.hid hq
  obtain ⟨p0, p1, p2, p3⟩ := blk4 hX
  clear hX hB hr hq
  go_enter Try.func58, Try.ntmps58
  go_wp2_with fail
  refine (impl_withRoom _ r s d x a n ca).mono ?_; rintro e w1 ⟨rfl, hb⟩
  replace HX := Lib.hid (HX.out.step hb)
  replace HB := Lib.hid (below_step HB.out hb)
  clear hb p0 p1 p2 p3
  go_wp2_with fail
  refine (impl_enough _ _ n cs x (mn s x) d hn (HR.out.keep HB.out) q HQ.out).mono ?_; rintro e w2 ⟨rfl, hb⟩
  replace HX := Lib.hid (HX.out.step hb)
  replace HB := Lib.hid (below_step HB.out hb)
  clear hb
  go_wp2
  go_ret
  exact ⟨rfl, HX.out, HB.out⟩
theorem clo_need (w0 : World) (g : Nat) (hg : w0.heap.size ≤ g) (v : Value) (n : Nat) (cs : List Int) (r s : Int) (hn : n ≤ 1048576) (hr : Row 1 w0 v n (IV cs)) (x : Int) (h0 : 0 ≤ x) (h1 : x ≤ 1000000) (q : Bool) (hq : q = true ↔ En r s (1000000 - x) n cs) (W : World)
    (hW : ∃ d, Blk W g TY #[.int .i64 r, .int .i64 s, v, .int .i64 d] ∧ Below w0.heap.size w0 W) :
    Calls Try.prog 57 #[.int .i64 x, .pointer (some ⟨g, 0, none⟩)] W fun e W' => e = .returned (.bool q) ∧ ∃ d, Blk W' g TY #[.int .i64 r, .int .i64 s, v, .int .i64 d] ∧ Below w0.heap.size w0 W' := by
  obtain ⟨a, ca, rfl⟩ := hr.shape
  obtain ⟨d, hX, hB⟩ := hW
  have HB := Lib.hid (hB.setCell (show w0.heap.size ≤ (⟨g, 3, none⟩ : Addr).block from hg) (.int .i64 (1000000 - x)))
  have HX := Lib.hid (by simpa using hX.set_ 3 (.int .i64 (1000000 - x)) : Blk (W.setCell ⟨g, 3, none⟩ (.int .i64 (1000000 - x))) g TY #[.int .i64 r, .int .i64 s, .slice a n ca, .int .i64 (1000000 - x)])
  have HR := Lib.hid hr
  have HQ := Lib.hid hq
  obtain ⟨p0, p1, p2, p3⟩ := blk4 hX
  have f3 := hX.frozen 3
  clear hX hB hr hq
  go_enter Try.func57, Try.ntmps57
  go_wp2_with fail
  refine (impl_enough _ _ n cs r s (1000000 - x) hn (HR.out.keep HB.out) q HQ.out).mono ?_; rintro e w2 ⟨rfl, hb⟩
  replace HX := Lib.hid (HX.out.step hb)
  replace HB := Lib.hid (below_step HB.out hb)
  clear hb
  go_wp2
  go_ret
  exact ⟨rfl, _, HX.out, HB.out⟩
theorem clo_start (w0 : World) (g : Nat) (hg : w0.heap.size ≤ g) (v : Value) (n : Nat) (cs : List Int) (r d : Int) (hn : n ≤ 1048576) (hr : Row 1 w0 v n (IV cs)) (x : Int) (q : Bool) (hq : q = true ↔ En r x d n cs) (W : World)
    (hW : ∃ s, Blk W g TY #[.int .i64 r, .int .i64 s, v, .int .i64 d] ∧ Below w0.heap.size w0 W) :
    Calls Try.prog 60 #[.int .i64 x, .pointer (some ⟨g, 0, none⟩)] W fun e W' => e = .returned (.bool q) ∧ ∃ s, Blk W' g TY #[.int .i64 r, .int .i64 s, v, .int .i64 d] ∧ Below w0.heap.size w0 W' := by
  obtain ⟨a, ca, rfl⟩ := hr.shape
  obtain ⟨s, hX, hB⟩ := hW
  have HB := Lib.hid (hB.setCell (show w0.heap.size ≤ (⟨g, 1, none⟩ : Addr).block from hg) (.int .i64 x))
  have HX := Lib.hid (by simpa using hX.set_ 1 (.int .i64 x) : Blk (W.setCell ⟨g, 1, none⟩ (.int .i64 x)) g TY #[.int .i64 r, .int .i64 x, .slice a n ca, .int .i64 d])
  have HR := Lib.hid hr
  have HQ := Lib.hid hq
  obtain ⟨p0, p1, p2, p3⟩ := blk4 hX
  have f1 := hX.frozen 1
  clear hX hB hr hq
  go_enter Try.func60, Try.ntmps60
  go_wp2_with fail
  refine (impl_enough _ _ n cs r x d hn (HR.out.keep HB.out) q HQ.out).mono ?_; rintro e w2 ⟨rfl, hb⟩
  replace HX := Lib.hid (HX.out.step hb)
  replace HB := Lib.hid (below_step HB.out hb)
  clear hb
  go_wp2
  go_ret
  exact ⟨rfl, _, HX.out, HB.out⟩
theorem impl_leastRoom (w : World) (v : Value) (n : Nat) (cs : List Int) (r s d : Int) (hr : Row 1 w v n (IV cs)) (ok : YOk r s d n cs) (m : Int) (hm : Least (EnR s d n cs) 1 100000 m) :
    Calls Try.prog 27 #[Yv r s v d] w (Gives w (.int .i64 m)) := by
  classical
  have hn : n ≤ 1048576 := by have := ok.2.2.1.2; omega
  have key := fun wa (hX : Blk wa w.heap.size TY #[.int .i64 r, .int .i64 s, v, .int .i64 d]) (hB : Below w.heap.size w wa) =>
    impl_least wa 58 (.pointer (some ⟨w.heap.size, 0, none⟩)) (fun W => Blk W w.heap.size TY #[.int .i64 r, .int .i64 s, v, .int .i64 d] ∧ Below w.heap.size w W)
      (fun x => decide (EnR s d n cs x)) 1 100000 m (by omega) (by omega) (by omega)
      (fun a b h1 h2 h3 h => decide_eq_true (EnR.up ok a b h1 h2 (by omega) (of_decide_eq_true h)))
      ⟨hm.1, hm.2.1, decide_eq_true hm.2.2.1, fun j h1 h2 h => hm.2.2.2 j h1 h2 (of_decide_eq_true h)⟩
      (enters Try.func58 (by kernel_rfl) rfl)
      (fun x W _ _ hW => clo_room w _ v n cs r s d hn hr x _ decide_eq_true_iff W hW) ⟨hX, hB⟩
  obtain ⟨a, ca, rfl⟩ := hr.shape
  have HX := Lib.hid (Blk.new w TY #[.int .i64 r, .int .i64 s, .slice a n ca, .int .i64 d])
  have HB := Lib.hid (below_al (Below.refl _ _) (.cells #[.int .i64 r, .int .i64 s, .slice a n ca, .int .i64 d] TY) : Below w.heap.size w _)
  have HR := Lib.hid hr
  have OK := Lib.hid ok
  have KEY := Lib.hid key
  clear hr ok key hm
  go_enter Try.func27, Try.ntmps27
  go_wp2_with fail
  refine (impl_yok_yes _ _ n cs r s d (HR.out.keep HB.out) OK.out).mono ?_; rintro e w1 ⟨rfl, hb⟩
  replace HX := Lib.hid (HX.out.step hb)
  replace HB := Lib.hid (below_step HB.out hb)
  clear hb
  go_wp2_with fail
  refine (KEY.out _ HX.out HB.out).mono ?_; rintro e w2 ⟨rfl, _, hb⟩
  go_wp2
  go_ret
  exact ⟨rfl, hb⟩
theorem impl_leastRoom_none (w : World) (v : Value) (n : Nat) (cs : List Int) (r s d : Int) (hr : Row 1 w v n (IV cs)) (ok : YOk r s d n cs) (hno : ¬ EnR s d n cs 100000) :
    Calls Try.prog 27 #[Yv r s v d] w (Gives w (.int .i64 (-1))) := by
  classical
  have hn : n ≤ 1048576 := by have := ok.2.2.1.2; omega
  have key := fun wa (hX : Blk wa w.heap.size TY #[.int .i64 r, .int .i64 s, v, .int .i64 d]) (hB : Below w.heap.size w wa) =>
    impl_least_no wa 58 (.pointer (some ⟨w.heap.size, 0, none⟩)) (fun W => Blk W w.heap.size TY #[.int .i64 r, .int .i64 s, v, .int .i64 d] ∧ Below w.heap.size w W) 1 100000
      (enters Try.func58 (by kernel_rfl) rfl)
      (fun W hW => clo_room w _ v n cs r s d hn hr 100000 false (iff_of_false Bool.false_ne_true hno) W hW) ⟨hX, hB⟩
  obtain ⟨a, ca, rfl⟩ := hr.shape
  have HX := Lib.hid (Blk.new w TY #[.int .i64 r, .int .i64 s, .slice a n ca, .int .i64 d])
  have HB := Lib.hid (below_al (Below.refl _ _) (.cells #[.int .i64 r, .int .i64 s, .slice a n ca, .int .i64 d] TY) : Below w.heap.size w _)
  have HR := Lib.hid hr
  have OK := Lib.hid ok
  have KEY := Lib.hid key
  clear hr ok key 
  go_enter Try.func27, Try.ntmps27
  go_wp2_with fail
  refine (impl_yok_yes _ _ n cs r s d (HR.out.keep HB.out) OK.out).mono ?_; rintro e w1 ⟨rfl, hb⟩
  replace HX := Lib.hid (HX.out.step hb)
  replace HB := Lib.hid (below_step HB.out hb)
  clear hb
  obtain ⟨p0, p1, p2, p3⟩ := blk4 HX.out
  go_wp2_with fail
  refine (KEY.out _ HX.out HB.out).mono ?_; rintro e w2 ⟨rfl, _, hb⟩
  clear p0 p1 p2 p3
  go_wp2
  go_ret
  exact ⟨rfl, hb⟩
theorem impl_mostNeed (w : World) (v : Value) (n : Nat) (cs : List Int) (r s d : Int) (hr : Row 1 w v n (IV cs)) (ok : YOk r s d n cs) (m : Int) (hm : Most (fun x => En r s x n cs) 0 1000000 m) :
    Calls Try.prog 26 #[Yv r s v d] w (Gives w (.int .i64 m)) := by
  classical
  have hn : n ≤ 1048576 := by have := ok.2.2.1.2; omega
  have key := fun wa (hX : Blk wa w.heap.size TY #[.int .i64 r, .int .i64 s, v, .int .i64 d]) (hB : Below w.heap.size w wa) =>
    impl_least wa 57 (.pointer (some ⟨w.heap.size, 0, none⟩)) (fun W => ∃ d, Blk W w.heap.size TY #[.int .i64 r, .int .i64 s, v, .int .i64 d] ∧ Below w.heap.size w W)
      (fun x => decide (En r s (1000000 - x) n cs)) 0 1000000 (1000000 - m) (by omega) (by omega) (by omega)
      (fun a b h1 h2 h3 h => decide_eq_true (need_down ok _ _ (by omega) (by omega) (by omega) (of_decide_eq_true h)))
      ⟨by have := hm.2.1; omega, by have := hm.1; omega, decide_eq_true (by rw [show (1000000 : Int) - (1000000 - m) = m by omega]; exact hm.2.2.1), fun j h1 h2 h => hm.2.2.2 (1000000 - j) (by omega) (by omega) (of_decide_eq_true h)⟩
      (enters Try.func57 (by kernel_rfl) rfl)
      (fun x W h1 h2 hW => clo_need w _ (Nat.le_refl _) v n cs r s hn hr x h1 h2 _ decide_eq_true_iff W hW) ⟨d, hX, hB⟩
  obtain ⟨a, ca, rfl⟩ := hr.shape
  have HX := Lib.hid (Blk.new w TY #[.int .i64 r, .int .i64 s, .slice a n ca, .int .i64 d])
  have HB := Lib.hid (below_al (Below.refl _ _) (.cells #[.int .i64 r, .int .i64 s, .slice a n ca, .int .i64 d] TY) : Below w.heap.size w _)
  have HR := Lib.hid hr
  have OK := Lib.hid ok
  have KEY := Lib.hid key
  have m1 := hm.1
  have m2 := hm.2.1
  have e9 : (1000000 : Int) - (1000000 - m) = m := by omega
  clear hr ok key hm
  go_enter Try.func26, Try.ntmps26
  go_wp2_with fail
  refine (impl_yok_yes _ _ n cs r s d (HR.out.keep HB.out) OK.out).mono ?_; rintro e w1 ⟨rfl, hb⟩
  replace HX := Lib.hid (HX.out.step hb)
  replace HB := Lib.hid (below_step HB.out hb)
  clear hb
  obtain ⟨p0, p1, p2, p3⟩ := blk4 HX.out
  go_wp2_with fail
  refine (KEY.out _ HX.out HB.out).mono ?_; rintro e w2 ⟨rfl, _, _, hb⟩
  clear p0 p1 p2 p3
  go_wp2
  go_ret
  exact ⟨rfl, hb⟩
theorem impl_leastStart (w : World) (v : Value) (n : Nat) (cs : List Int) (r s d : Int) (hr : Row 1 w v n (IV cs)) (ok : YOk r s d n cs) (m : Int) (hm : Least (fun x => En r x d n cs) 0 r m) :
    Calls Try.prog 28 #[Yv r s v d] w (Gives w (.int .i64 m)) := by
  classical
  have hn : n ≤ 1048576 := by have := ok.2.2.1.2; omega
  have key := fun wa (hX : Blk wa w.heap.size TY #[.int .i64 r, .int .i64 s, v, .int .i64 d]) (hB : Below w.heap.size w wa) =>
    impl_least wa 60 (.pointer (some ⟨w.heap.size, 0, none⟩)) (fun W => ∃ s, Blk W w.heap.size TY #[.int .i64 r, .int .i64 s, v, .int .i64 d] ∧ Below w.heap.size w W)
      (fun x => decide (En r x d n cs)) 0 r m (by omega) (by have := ok.1.1; omega) ok.1.2
      (fun a b h1 h2 h3 h => decide_eq_true (start_up ok a b h1 h2 h3 (of_decide_eq_true h)))
      ⟨hm.1, hm.2.1, decide_eq_true hm.2.2.1, fun j h1 h2 h => hm.2.2.2 j h1 h2 (of_decide_eq_true h)⟩
      (enters Try.func60 (by kernel_rfl) rfl)
      (fun x W _ _ hW => clo_start w _ (Nat.le_refl _) v n cs r d hn hr x _ decide_eq_true_iff W hW) ⟨s, hX, hB⟩
  obtain ⟨a, ca, rfl⟩ := hr.shape
  have HX := Lib.hid (Blk.new w TY #[.int .i64 r, .int .i64 s, .slice a n ca, .int .i64 d])
  have HB := Lib.hid (below_al (Below.refl _ _) (.cells #[.int .i64 r, .int .i64 s, .slice a n ca, .int .i64 d] TY) : Below w.heap.size w _)
  have HR := Lib.hid hr
  have OK := Lib.hid ok
  have KEY := Lib.hid key
  have r1 := ok.1.1
  have r2 := ok.1.2
  clear hr ok key hm
  go_enter Try.func28, Try.ntmps28
  go_wp2_with fail
  refine (impl_yok_yes _ _ n cs r s d (HR.out.keep HB.out) OK.out).mono ?_; rintro e w1 ⟨rfl, hb⟩
  replace HX := Lib.hid (HX.out.step hb)
  replace HB := Lib.hid (below_step HB.out hb)
  clear hb
  obtain ⟨p0, p1, p2, p3⟩ := blk4 HX.out
  go_wp2_with fail
  refine (KEY.out _ HX.out HB.out).mono ?_; rintro e w2 ⟨rfl, _, _, hb⟩
  clear p0 p1 p2 p3
  go_wp2
  go_ret
  exact ⟨rfl, hb⟩
theorem impl_leastStart_none (w : World) (v : Value) (n : Nat) (cs : List Int) (r s d : Int) (hr : Row 1 w v n (IV cs)) (ok : YOk r s d n cs) (hno : ¬ En r r d n cs) :
    Calls Try.prog 28 #[Yv r s v d] w (Gives w (.int .i64 (-1))) := by
  classical
  have hn : n ≤ 1048576 := by have := ok.2.2.1.2; omega
  have key := fun wa (hX : Blk wa w.heap.size TY #[.int .i64 r, .int .i64 s, v, .int .i64 d]) (hB : Below w.heap.size w wa) =>
    impl_least_no wa 60 (.pointer (some ⟨w.heap.size, 0, none⟩)) (fun W => ∃ s, Blk W w.heap.size TY #[.int .i64 r, .int .i64 s, v, .int .i64 d] ∧ Below w.heap.size w W) 0 r
      (enters Try.func60 (by kernel_rfl) rfl)
      (fun W hW => clo_start w _ (Nat.le_refl _) v n cs r d hn hr r false (iff_of_false Bool.false_ne_true hno) W hW) ⟨s, hX, hB⟩
  obtain ⟨a, ca, rfl⟩ := hr.shape
  have HX := Lib.hid (Blk.new w TY #[.int .i64 r, .int .i64 s, .slice a n ca, .int .i64 d])
  have HB := Lib.hid (below_al (Below.refl _ _) (.cells #[.int .i64 r, .int .i64 s, .slice a n ca, .int .i64 d] TY) : Below w.heap.size w _)
  have HR := Lib.hid hr
  have OK := Lib.hid ok
  have KEY := Lib.hid key
  clear hr ok key 
  go_enter Try.func28, Try.ntmps28
  go_wp2_with fail
  refine (impl_yok_yes _ _ n cs r s d (HR.out.keep HB.out) OK.out).mono ?_; rintro e w1 ⟨rfl, hb⟩
  replace HX := Lib.hid (HX.out.step hb)
  replace HB := Lib.hid (below_step HB.out hb)
  clear hb
  obtain ⟨p0, p1, p2, p3⟩ := blk4 HX.out
  go_wp2_with fail
  refine (KEY.out _ HX.out HB.out).mono ?_; rintro e w2 ⟨rfl, _, _, hb⟩
  clear p0 p1 p2 p3
  go_wp2
  go_ret
  exact ⟨rfl, hb⟩
theorem impl_leastRoom_no (w : World) (v : Value) (n : Nat) (cs : List Int) (r s d : Int) (hn : n ≤ 1048576) (hr : Row 1 w v n (IV cs)) (no : ¬ YOk r s d n cs) : Calls Try.prog 27 #[Yv r s v d] w (Gives w (.int .i64 (-1))) := by
  obtain ⟨a, ca, rfl⟩ := hr.shape
  have B0 : Below w.heap.size w (w.alloc (.cells #[.int .i64 r, .int .i64 s, .slice a n ca, .int .i64 d] TY)) := below_al (Below.refl _ _) _
  have HR := Lib.hid hr
  have HB := Lib.hid B0
  have NO := Lib.hid no
  clear no hr B0
  go_enter Try.func27, Try.ntmps27
  go_wp2_with fail
  refine (impl_yok_no _ _ n cs r s d hn (HR.out.keep HB.out) NO.out).mono ?_; rintro e w1 ⟨rfl, hb⟩
  replace HB := Lib.hid (below_step HB.out hb)
  clear hb
  go_wp2
  go_ret
  exact ⟨rfl, HB.out⟩
theorem impl_mostNeed_no (w : World) (v : Value) (n : Nat) (cs : List Int) (r s d : Int) (hn : n ≤ 1048576) (hr : Row 1 w v n (IV cs)) (no : ¬ YOk r s d n cs) : Calls Try.prog 26 #[Yv r s v d] w (Gives w (.int .i64 (-1))) := by
  obtain ⟨a, ca, rfl⟩ := hr.shape
  have B0 : Below w.heap.size w (w.alloc (.cells #[.int .i64 r, .int .i64 s, .slice a n ca, .int .i64 d] TY)) := below_al (Below.refl _ _) _
  have HR := Lib.hid hr
  have HB := Lib.hid B0
  have NO := Lib.hid no
  clear no hr B0
  go_enter Try.func26, Try.ntmps26
  go_wp2_with fail
  refine (impl_yok_no _ _ n cs r s d hn (HR.out.keep HB.out) NO.out).mono ?_; rintro e w1 ⟨rfl, hb⟩
  replace HB := Lib.hid (below_step HB.out hb)
  clear hb
  go_wp2
  go_ret
  exact ⟨rfl, HB.out⟩
theorem impl_leastStart_no (w : World) (v : Value) (n : Nat) (cs : List Int) (r s d : Int) (hn : n ≤ 1048576) (hr : Row 1 w v n (IV cs)) (no : ¬ YOk r s d n cs) : Calls Try.prog 28 #[Yv r s v d] w (Gives w (.int .i64 (-1))) := by
  obtain ⟨a, ca, rfl⟩ := hr.shape
  have B0 : Below w.heap.size w (w.alloc (.cells #[.int .i64 r, .int .i64 s, .slice a n ca, .int .i64 d] TY)) := below_al (Below.refl _ _) _
  have HR := Lib.hid hr
  have HB := Lib.hid B0
  have NO := Lib.hid no
  clear no hr B0
  go_enter Try.func28, Try.ntmps28
  go_wp2_with fail
  refine (impl_yok_no _ _ n cs r s d hn (HR.out.keep HB.out) NO.out).mono ?_; rintro e w1 ⟨rfl, hb⟩
  replace HB := Lib.hid (below_step HB.out hb)
  clear hb
  go_wp2
  go_ret
  exact ⟨rfl, HB.out⟩
theorem impl_average_no (w : World) (v : Value) (n : Nat) (cs : List Int) (r s d : Int) (hn : n ≤ 1048576) (hr : Row 1 w v n (IV cs)) (no : ¬ YOk r s d n cs) : Calls Try.prog 31 #[Yv r s v d] w (Gives w (.int .i64 (-1))) := by
  obtain ⟨a, ca, rfl⟩ := hr.shape
  have B0 : Below w.heap.size w (w.alloc (.cells #[.int .i64 r, .int .i64 s, .slice a n ca, .int .i64 d] TY)) := below_al (Below.refl _ _) _
  have HR := Lib.hid hr
  have HB := Lib.hid B0
  have NO := Lib.hid no
  clear no hr B0
  go_enter Try.func31, Try.ntmps31
  go_wp2_with fail
  refine (impl_yok_no _ _ n cs r s d hn (HR.out.keep HB.out) NO.out).mono ?_; rintro e w1 ⟨rfl, hb⟩
  replace HB := Lib.hid (below_step HB.out hb)
  clear hb
  go_wp2
  go_ret
  exact ⟨rfl, HB.out⟩
end Go.Proofs.Ytojahddamdlcpaa.sz
