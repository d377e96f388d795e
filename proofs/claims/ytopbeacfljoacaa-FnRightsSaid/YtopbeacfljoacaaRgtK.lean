/- Rights: the program's LargestOwner (slices.MaxFunc at rights). -/
import Derived.Test.YtopbeacfljoacaaRgtJ
import Derived.Laws.ByValue
namespace Go.Proofs.Ytopbeacfljoacaa.rgt
open Go.RowKit Go.Proofs.Ytopbeacfljoacaa.kit Go.Proofs.Ytopbeacfljoacaa.lawi Go.Proofs.Ytopbeacfljoacaa.own Go.Proofs.Ytopbeacfljoacaa.rain Go.Proofs.Ytopbeacfljoacaa.yrl Go.Proofs.Ytopbeacfljoacaa.frc Go.Proofs.Ytopbeacfljoacaa.stRight Go.Proofs.Ytopbeacfljoacaa.later
/-- A function value whose function has a body enters it. -/
theorem enters_ {P : Program} {f : FuncId} {fn : Func} {c : Code} (hf : P.funcs[f]? = some fn) (hname : (fn.name == "runtime.NumGoroutine") = false) (hb : fn.body = some c) (args : Array Value) (w : World) :
    (callFunc f args).run P w = .ok (.enter f args) w := by
  have h1 : fn.name ≠ "runtime.NumGoroutine" := by simpa using hname
  simp [callFunc, hf, h1, hb]
theorem clo_lo (w : World) (o t b o' t' b' c : Int) (h : Cp t b t' b' c) : Calls Try.prog 43 #[stRight.R o t b, stRight.R o' t' b'] w (Gives w (.int .i64 c)) := by
  obtain ⟨w0, hw0⟩ : ∃ w0, (w.alloc (.cells #[.int .i64 o, .int .i64 t, .int .i64 b] TR)).alloc (.cells #[.int .i64 o', .int .i64 t', .int .i64 b'] TR) = w0 := ⟨_, rfl⟩
  have XA : Blk w0 w.heap.size TR #[.int .i64 o, .int .i64 t, .int .i64 b] := hw0 ▸ (Blk.new w TR _).alloc _
  have XB : Blk w0 (w.heap.size + 1) TR #[.int .i64 o', .int .i64 t', .int .i64 b'] := hw0 ▸ Blk.new1 w TR _ _
  have HB : Hid (Below w.heap.size w w0) := Lib.hid (hw0 ▸ below_al (below_al (Below.refl _ _) _) _)
  have a1 := XA.cell 1
  have a2 := XA.cell 2
  have b1 := XB.cell 1
  have b2 := XB.cell 2
  clear XA XB
  go_enter Try.func43, Try.ntmps43
  go_wp2_with fail
  refine (impl_cp _ _ _ _ _ _ h).mono ?_; rintro e w1 ⟨rfl, hb⟩
  clear a1 a2 b1 b2
  go_wp2
  go_ret
  exact ⟨rfl, HB.out.trans (hb.mono HB.out.size)⟩
theorem rcell6 {w : World} {g : Nat} {a b c : Value} (h : Blk w g TR #[a, b, c]) : (w.cell? ⟨g, 0, none⟩ = some a ∧ w.cell? ⟨g, 1, none⟩ = some b ∧ w.cell? ⟨g, 2, none⟩ = some c) ∧ w.frozen? ⟨g, 0, none⟩ = false ∧ w.frozen? ⟨g, 1, none⟩ = false ∧ w.frozen? ⟨g, 2, none⟩ = false :=
  ⟨⟨h.cell 0, h.cell 1, h.cell 2⟩, h.frozen 0, h.frozen 1, h.frozen 2⟩
set_option maxHeartbeats 4000000 in
theorem impl_mf (w : World) (v : Value) (n : Nat) (zs : List Int) (hn : n ≤ 1048576) (hr : Row 3 w v n (IV zs)) (h1 : 1 ≤ n) (hfk : ∀ k, k < n → Fk (wT zs k) (wB zs k)) (d : Nat) (hd : Fg (wT zs) (wB zs) n d) :
    Calls Try.prog 42 #[v, .func (.func 43) #[] #[]] w (Gives w (stRight.R (wO zs d) (wT zs d) (wB zs d))) := by
  obtain ⟨av, ca, rfl⟩ := hr.shape
  have hl : zs.length = n * 3 := by simpa using hr.1
  have he := enters_ (P := Try.prog) Try.func43 (by kernel_rfl) rfl
  obtain ⟨w9, hw9⟩ : ∃ w9, w.alloc (.cells #[.int .i64 0, .int .i64 0, .int .i64 0] TR) = w9 := ⟨_, rfl⟩
  have B9 : Below w.heap.size w w9 := hw9 ▸ below_al (Below.refl _ _) _
  have s9 : w9.heap.size = w.heap.size + 1 := by rw [← hw9]; simp
  have X9 : Blk w9 w.heap.size TR #[.int .i64 0, .int .i64 0, .int .i64 0] := hw9 ▸ Blk.new w TR _
  obtain ⟨b1, o1, rfl, hc⟩ := (hr.keep B9).at_ (by omega)
  obtain ⟨g1, g2, g3⟩ := right_at hc hl (k := 0) (by omega)
  obtain ⟨O0, hO⟩ : ∃ O, wO zs 0 = O := ⟨_, rfl⟩
  obtain ⟨T0, hT⟩ : ∃ T, wT zs 0 = T := ⟨_, rfl⟩
  obtain ⟨B0, hB⟩ : ∃ B, wB zs 0 = B := ⟨_, rfl⟩
  rw [hO] at g1
  rw [hT] at g2
  rw [hB] at g3
  simp only [Nat.zero_mul, Nat.add_zero] at g1 g2 g3
  obtain ⟨w0, hw0⟩ : ∃ w0, w9.alloc (.cells #[.int .i64 O0, .int .i64 T0, .int .i64 B0] TR) = w0 := ⟨_, rfl⟩
  have XR : Hid (Blk w0 w.heap.size TR #[.int .i64 0, .int .i64 0, .int .i64 0]) := Lib.hid (hw0 ▸ X9.alloc _)
  have XS : Hid (Blk w0 (w.heap.size + 1) TR #[.int .i64 O0, .int .i64 T0, .int .i64 B0]) := Lib.hid (by rw [← hw0, ← s9]; exact Blk.new w9 TR _)
  have HB : Hid (Below w.heap.size w w0) := Lib.hid (hw0 ▸ below_al B9 _)
  have H0 := Lib.hid (And.intro hO (And.intro hT hB))
  have HR := Lib.hid hr
  have HD := Lib.hid hd
  have HFK := Lib.hid hfk
  have u0 : decide ((n : Int) < 1) = false := decide_eq_false (by omega)
  clear hr hd hfk hc hO hT hB X9 B9
  go_enter Try.func42, Try.ntmps42
  go_wp2
  clear hw0 hw9 s9 g1 g2 g3
  go_loopg [6] n (fun g s6 wr => ∃ k b : Nat, 1 ≤ k ∧ k ≤ n ∧ k + g = n + 1 ∧ s6 = .int .i64 k ∧ Fg (wT zs) (wB zs) k b ∧ Blk wr w.heap.size TR #[.int .i64 0, .int .i64 0, .int .i64 0] ∧ Blk wr (w.heap.size + 1) TR #[.int .i64 (wO zs b), .int .i64 (wT zs b), .int .i64 (wB zs b)] ∧ Below w.heap.size w wr)
  case atStart => exact ⟨1, 0, Nat.le_refl _, h1, by omega, rfl, .one, XR.out, by rw [H0.out.1, H0.out.2.1, H0.out.2.2]; exact XS.out, HB.out⟩
  case round =>
    clear XR XS HB H0
    obtain ⟨k, b, hk1, hkn, hkg, rfl, hfg, hxr, hxs, hbel⟩ := hrel
    have HF := Lib.hid hfg
    have XR := Lib.hid hxr
    have XS := Lib.hid hxs
    have BL := Lib.hid hbel
    have hbk := hfg.1
    clear hfg hxr hxs hbel
    by_cases hlt : k < n
    · obtain ⟨gk, rfl⟩ : ∃ g', gk = g' + 1 := ⟨gk - 1, by omega⟩
      have RW := Lib.hid (HR.out.keep BL.out)
      obtain ⟨b2, o2, e2, hc⟩ := RW.out.at_ (by omega)
      cases e2
      obtain ⟨g1, g2, g3⟩ := right_at hc hl hlt
      obtain ⟨⟨q1, q2, q3⟩, f1, f2, f3⟩ := rcell6 XS.out
      have fk1 := Lib.hid (HFK.out k hlt)
      have fk2 := Lib.hid (HFK.out b (by omega))
      have HCP : Hid (Cp (wT zs k) (wB zs k) (wT zs b) (wB zs b) (sg (wT zs k * wB zs b) (wT zs b * wB zs k))) := Lib.hid ⟨fun _ => rfl, fun hn => absurd ⟨fk1.out, fk2.out⟩ hn⟩
      have hnew : Hid (fl_ (wT zs b) (wB zs b) (wT zs k) (wB zs k) → Fg (wT zs) (wB zs) (k + 1) k) := Lib.hid fun h => HF.out.new (fun j hj => by have := (HFK.out j (by omega)).1.1; omega) h
      have hold : Hid (¬ fl_ (wT zs b) (wB zs b) (wT zs k) (wB zs k) → Fg (wT zs) (wB zs) (k + 1) b) := Lib.hid fun h => HF.out.old h
      obtain ⟨S, hS⟩ : ∃ S, sg (wT zs k * wB zs b) (wT zs b * wB zs k) = S := ⟨_, rfl⟩
      have hSf : Hid (0 < S ↔ fl_ (wT zs b) (wB zs b) (wT zs k) (wB zs k)) := Lib.hid (by
        rw [← hS]
        unfold sg fl_
        split
        · omega
        · split <;> omega)
      rw [hS] at HCP
      obtain ⟨Ok, hOk⟩ : ∃ O, wO zs k = O := ⟨_, rfl⟩
      obtain ⟨Tk, hTk⟩ : ∃ T, wT zs k = T := ⟨_, rfl⟩
      obtain ⟨Bk, hBk⟩ : ∃ B, wB zs k = B := ⟨_, rfl⟩
      obtain ⟨Ob, hOb⟩ : ∃ O, wO zs b = O := ⟨_, rfl⟩
      obtain ⟨Tb, hTb⟩ : ∃ T, wT zs b = T := ⟨_, rfl⟩
      obtain ⟨Bb, hBb⟩ : ∃ B, wB zs b = B := ⟨_, rfl⟩
      have HK := Lib.hid (And.intro hOk (And.intro hTk hBk))
      have HBb := Lib.hid (And.intro hOb (And.intro hTb hBb))
      rw [hOk] at g1
      rw [hTk] at g2 HCP
      rw [hBk] at g3 HCP
      rw [hOb] at q1 XS
      rw [hTb] at q2 XS HCP
      rw [hBb] at q3 XS HCP
      have L1 := later.cell g1
      have L2 := later.cell g2
      have L3 := later.cell g3
      have L4 := later.cell q1
      have L5 := later.cell q2
      have L6 := later.cell q3
      have i0 : (0 : Int) ≤ (k : Int) := by omega
      have i1 : (k : Int) < (n : Int) := by omega
      clear hc hS hOk hTk hBk hOb hTb hBb f1 f2 f3
      by_cases h0 : 0 < S
      · have HN := Lib.hid (hnew.out (hSf.out.1 h0))
        have u1 : decide (0 < S) = true := decide_eq_true h0
        clear hnew hold hSf
        go_wp2_with fail
        (try simp only [List.append])
        refine later.region (by kernel_rfl) (lex.lexB_of (by kernel_rfl) (lex.all_whole (by kernel_rfl))) ?_
        repeat (go_big_quiet_step ((first
          | (go_at_call 43; exact later.calls _ (clo_lo _ _ _ _ _ _ _ _ HCP.out))
          | fail)))
        refine wpQuiet_nil ?_
        intro _ hw'
        obtain ⟨g, rfl⟩ := hw'
        have B7 := g.h
        have g1' := L1 g
        have g2' := L2 g
        have g3' := L3 g
        have XS7 := XS.out.step B7
        have XR7 := XR.out.step B7
        have BL7 := below_step BL.out B7
        obtain ⟨⟨q1, q2, q3⟩, f1, f2, f3⟩ := rcell6 XS7
        have X1 : Hid (Blk (((g.w.setCell ⟨w.heap.size + 1, 0, none⟩ (.int .i64 Ok)).setCell ⟨w.heap.size + 1, 1, none⟩ (.int .i64 Tk)).setCell ⟨w.heap.size + 1, 2, none⟩ (.int .i64 Bk)) (w.heap.size + 1) TR #[.int .i64 Ok, .int .i64 Tk, .int .i64 Bk]) := Lib.hid (by simpa using ((XS7.set_ 0 (.int .i64 Ok)).set_ 1 (.int .i64 Tk)).set_ 2 (.int .i64 Bk))
        have X2 : Hid (Blk (((g.w.setCell ⟨w.heap.size + 1, 0, none⟩ (.int .i64 Ok)).setCell ⟨w.heap.size + 1, 1, none⟩ (.int .i64 Tk)).setCell ⟨w.heap.size + 1, 2, none⟩ (.int .i64 Bk)) w.heap.size TR #[.int .i64 0, .int .i64 0, .int .i64 0]) := Lib.hid (((XR7.far (p := ⟨w.heap.size + 1, 0, none⟩) (by show w.heap.size ≠ w.heap.size + 1; omega) _).far (p := ⟨w.heap.size + 1, 1, none⟩) (by show w.heap.size ≠ w.heap.size + 1; omega) _).far (p := ⟨w.heap.size + 1, 2, none⟩) (by show w.heap.size ≠ w.heap.size + 1; omega) _)
        have X3 : Hid (Below w.heap.size w (((g.w.setCell ⟨w.heap.size + 1, 0, none⟩ (.int .i64 Ok)).setCell ⟨w.heap.size + 1, 1, none⟩ (.int .i64 Tk)).setCell ⟨w.heap.size + 1, 2, none⟩ (.int .i64 Bk))) := Lib.hid (((BL7.setCell (by show w.heap.size ≤ w.heap.size + 1; omega) _).setCell (by show w.heap.size ≤ w.heap.size + 1; omega) _).setCell (by show w.heap.size ≤ w.heap.size + 1; omega) _)
        clear XS7 XR7 BL7 B7 L1 L2 L3 L4 L5 L6
        go_wp2
        go_roundg gk
        case measure => omega
        case rel => exact ⟨k + 1, k, by omega, by omega, by omega, by go_num, HN.out, X2.out, by rw [HK.out.1, HK.out.2.1, HK.out.2.2]; exact X1.out, X3.out⟩
      · have HN := Lib.hid (hold.out (fun h => h0 (hSf.out.2 h)))
        have u1 : decide (0 < S) = false := decide_eq_false h0
        clear hnew hold hSf
        go_wp2_with fail
        (try simp only [List.append])
        refine later.region (by kernel_rfl) (lex.lexB_of (by kernel_rfl) (lex.all_whole (by kernel_rfl))) ?_
        repeat (go_big_quiet_step ((first
          | (go_at_call 43; exact later.calls _ (clo_lo _ _ _ _ _ _ _ _ HCP.out))
          | fail)))
        refine wpQuiet_nil ?_
        intro _ hw'
        obtain ⟨g, rfl⟩ := hw'
        have B7 := g.h
        go_wp2
        go_roundg gk
        case measure => omega
        case rel => exact ⟨k + 1, b, by omega, by omega, by omega, by go_num, HN.out, XR.out.step B7, by rw [HBb.out.1, HBb.out.2.1, HBb.out.2.2]; exact XS.out.step B7, below_step BL.out B7⟩
    · obtain rfl : k = n := by omega
      obtain rfl := HF.out.uniq HD.out
      obtain ⟨⟨q1, q2, q3⟩, _⟩ := rcell6 XS.out
      obtain ⟨⟨p1, p2, p3⟩, f1, f2, f3⟩ := rcell6 XR.out
      go_wp2
      refine bodyPost_ret (v := stRight.R (wO zs b) (wT zs b) (wB zs b)) (by simp [*, results, Try.results42, go_sem]) rfl ⟨rfl, ?_⟩
      have B1 := BL.out
      go_grown
set_option maxHeartbeats 1000000 in
set_option maxRecDepth 100000 in
theorem impl_lo (w : World) (v : Value) (n : Nat) (zs : List Int) (hn : n ≤ 1048576) (hr : Row 3 w v n (IV zs)) (x : Int) (hx : Lo n zs x) :
    Calls Try.prog 15 #[v] w (Gives w (.int .i64 x)) := by
  by_cases ok : Ro n zs
  · obtain ⟨b, hb, he⟩ := hx.1 ok
    have OK := Lib.hid ok
    have HR := Lib.hid hr
    have HF := Lib.hid hb
    have HE := Lib.hid he
    have h1 := ok.1.1
    clear ok hr hb he hx
    go_enter Try.func15, Try.ntmps15
    go_wp2_with fail
    refine (impl_ro _ _ n zs hn HR.out true ⟨fun _ => OK.out, fun _ => rfl⟩).mono ?_; rintro e w1 ⟨rfl, hb⟩
    have B1 := Lib.hid hb
    replace HR := Lib.hid (HR.out.keep hb)
    clear hb
    go_wp2_with fail
    refine (impl_mf _ _ n zs hn HR.out h1 (fun k hk => OK.out.fk hk) b HF.out).mono ?_; rintro e w2 ⟨rfl, hb⟩
    replace B1 := Lib.hid (below_step B1.out hb)
    clear hb
    obtain ⟨O, hO⟩ : ∃ O, wO zs b = O := ⟨_, rfl⟩
    rw [hO]
    have HO := Lib.hid hO
    clear hO
    obtain ⟨T, hT⟩ : ∃ T, wT zs b = T := ⟨_, rfl⟩
    obtain ⟨B, hB⟩ : ∃ B, wB zs b = B := ⟨_, rfl⟩
    rw [hT, hB]
    clear hT hB
    have hfd : ∀ w : World, (Instr.field TR (stRight.R O T B) 0).run Try.prog w = .ok (.int .i64 O) w := fun _ => by kernel_rfl
    go_wp2
    go_ret
    exact ⟨by rw [HE.out, HO.out]; rfl, B1.out⟩
  · obtain rfl := hx.2 ok
    have OK := Lib.hid ok
    have HR := Lib.hid hr
    clear ok hr hx
    go_enter Try.func15, Try.ntmps15
    go_wp2_with fail
    refine (impl_ro _ _ n zs hn HR.out false ⟨fun h => (by cases h), fun h => absurd h OK.out⟩).mono ?_; rintro e w1 ⟨rfl, hb⟩
    have B1 := Lib.hid hb
    clear hb
    go_wp2
    go_ret
    exact ⟨rfl, B1.out⟩
end Go.Proofs.Ytopbeacfljoacaa.rgt
