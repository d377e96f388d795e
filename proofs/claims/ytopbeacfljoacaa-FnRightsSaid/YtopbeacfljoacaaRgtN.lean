/- Rights: the program's Divide: its order of the remainders. -/
import Derived.Test.YtopbeacfljoacaaRgtJ
import Derived.Test.YtopbeacfljoacaaRgtS3
import Derived.Test.YtopbeacfljoacaaRgtL4
import Derived.Test.YtopbeacfljoacaaSrt
import Derived.Test.YtopbeacfljoacaaTake
namespace Go.Proofs.Ytopbeacfljoacaa.rgt
open Go.RowKit Go.Proofs.Ytopbeacfljoacaa.kit Go.Proofs.Ytopbeacfljoacaa.lawi Go.Proofs.Ytopbeacfljoacaa.own Go.Proofs.Ytopbeacfljoacaa.rain Go.Proofs.Ytopbeacfljoacaa.yrl Go.Proofs.Ytopbeacfljoacaa.frc Go.Proofs.Ytopbeacfljoacaa.stRight Go.Proofs.Ytopbeacfljoacaa.later Go.Proofs.Ytopbeacfljoacaa.apart Go.Proofs.Ytopbeacfljoacaa.take Go.Proofs.Ytopbeacfljoacaa.srt
abbrev TFS : TypeId := 76
/-- A function value whose function has a body enters it. -/
theorem enters2 {P : Program} {f : FuncId} {fn : Func} {c : Code} (hf : P.funcs[f]? = some fn) (hname : (fn.name == "runtime.NumGoroutine") = false) (hb : fn.body = some c) (args : Array Value) (w : World) :
    (callFunc f args).run P w = .ok (.enter f args) w := by
  have h1 : fn.name ≠ "runtime.NumGoroutine" := by simpa using hname
  simp [callFunc, hf, h1, hb]
set_option maxHeartbeats 1000000 in
theorem clo_br (W : World) (gb g2 n : Nat) (rs : List Int) (i k : Nat) (hi : i < n) (hk : k < n) (hB : Blk W gb TFS #[.slice (some ⟨g2, 0, none⟩) n n]) (hR : OwnR W g2 (g2 + 1) TF 2 (.slice (some ⟨g2, 0, none⟩) n n) n (IV rs)) (c : Int)
    (hc : Cp (rs.getD (k * 2) 0) (rs.getD (k * 2 + 1) 0) (rs.getD (i * 2) 0) (rs.getD (i * 2 + 1) 0) c) :
    Calls Try.prog 58 #[.int .i64 i, .int .i64 k, .pointer (some ⟨gb, 0, none⟩)] W (Gives W (.int .i64 c)) := by
  have hl : rs.length = n * 2 := by simpa using hR.row.1
  have b0 := hB.cell 0
  have c0 := own_cell hR.own (g := g2) rfl (k * 2) _ (getI (by omega))
  have c1 := own_cell hR.own (g := g2) rfl (k * 2 + 1) _ (getI (by omega))
  have c2 := own_cell hR.own (g := g2) rfl (i * 2) _ (getI (by omega))
  have c3 := own_cell hR.own (g := g2) rfl (i * 2 + 1) _ (getI (by omega))
  generalize rs.getD (k * 2) 0 = A at c0 hc
  generalize rs.getD (k * 2 + 1) 0 = B at c1 hc
  generalize rs.getD (i * 2) 0 = C at c2 hc
  generalize rs.getD (i * 2 + 1) 0 = D at c3 hc
  have HC := Lib.hid hc
  have L0 := later.cell b0
  have L1 := later.cell c0
  have L2 := later.cell c1
  have L3 := later.cell c2
  have L4 := later.cell c3
  have i0 : (0 : Int) ≤ (i : Int) := by omega
  have i1 : (i : Int) < (n : Int) := by omega
  have i2 : (0 : Int) ≤ (k : Int) := by omega
  have i3 : (k : Int) < (n : Int) := by omega
  clear hB hR hc hl
  go_enter Try.func58, Try.ntmps58
  go_wp2_with fail
  (try simp only [List.append])
  refine later.region (by kernel_rfl) (lex.lexB_of (by kernel_rfl) (lex.all_whole (by kernel_rfl))) ?_
  repeat (go_big_quiet_step ((first
    | (go_at_call 44; exact later.calls _ (impl_cp _ _ _ _ _ _ HC.out))
    | fail)))
  refine wpQuiet_nil ?_
  intro _ hw'
  obtain ⟨g, rfl⟩ := hw'
  have B7 := Lib.hid g.h
  clear b0 c0 c1 c2 c3 L0 L1 L2 L3 L4
  go_wp2
  go_ret
  exact ⟨rfl, B7.out⟩
theorem keepT3 {W : World} {p p' p'' : Addr} {v v' v'' : Value} {q a b : Nat} {x y : Value} (h : W.cell? p = some v ∧ W.cell? p' = some v' ∧ W.cell? p'' = some v'') (n : p.block ≠ q) (n' : p'.block ≠ q) (n'' : p''.block ≠ q) :
    ((W.setCell ⟨q, a, none⟩ x).setCell ⟨q, b, none⟩ y).cell? p = some v ∧ ((W.setCell ⟨q, a, none⟩ x).setCell ⟨q, b, none⟩ y).cell? p' = some v' ∧ ((W.setCell ⟨q, a, none⟩ x).setCell ⟨q, b, none⟩ y).cell? p'' = some v'' := by
  have key : ∀ (p : Addr) (v : Value), W.cell? p = some v → p.block ≠ q → ((W.setCell ⟨q, a, none⟩ x).setCell ⟨q, b, none⟩ y).cell? p = some v := fun p v h n => by
    rw [World.cell?_setCell_other _ _ _ _ (fun e => n (by rw [← e])), World.cell?_setCell_other _ _ _ _ (fun e => n (by rw [← e]))]
    exact h
  exact ⟨key _ _ h.1 n, key _ _ h.2.1 n', key _ _ h.2.2 n''⟩
/-- The memory while the remainders are reckoned: the order, the remainders, the variable that the closure captures. -/
structure BR (w wr : World) (g1 g2 gb n : Nat) (xo xr : List Int) : Prop where
  o : OwnR wr g1 (g1 + 1) TI 1 (.slice (some ⟨g1, 0, none⟩) n n) n (IV xo)
  r : OwnR wr g2 (g2 + 1) TF 2 (.slice (some ⟨g2, 0, none⟩) n n) n (IV xr)
  b : Blk wr gb TFS #[.slice (some ⟨g2, 0, none⟩) n n]
  bl : Below w.heap.size w wr
  h0 : w.heap.size ≤ g1
  h1 : g1 < g2
  h2 : g2 < gb
section
variable {w wr wr' : World} {g1 g2 gb n : Nat} {xo xr : List Int}
theorem BR.keep (h : BR w wr g1 g2 gb n xo xr) (hb : Below wr.heap.size wr wr') : BR w wr' g1 g2 gb n xo xr :=
  ⟨h.o.keep hb, h.r.keep hb, h.b.step hb, below_step h.bl hb, h.h0, h.h1, h.h2⟩
theorem BR.setO (h : BR w wr g1 g2 gb n xo xr) (j : Nat) (x : Int) : BR w (wr.setCell ⟨g1, j, none⟩ (.int .i64 x)) g1 g2 gb n (xo.set j x) xr := by
  have h0 := h.h0
  have h1 := h.h1
  have h2 := h.h2
  refine ⟨?_, h.r.chg (Chg.set g1 j _ (Nat.le_refl _) (Nat.lt_succ_self _)) (.inr h1), h.b.far (p := ⟨g1, j, none⟩) (by show gb ≠ g1; omega) _, h.bl.setCell (show w.heap.size ≤ g1 from h0) _, h0, h1, h2⟩
  rw [← ivset]
  exact ⟨own_set h.o.1 rfl j _, h.o.2.1, by simpa using h.o.2.2⟩
theorem BR.setR (h : BR w wr g1 g2 gb n xo xr) (j : Nat) (x : Int) : BR w (wr.setCell ⟨g2, j, none⟩ (.int .i64 x)) g1 g2 gb n xo (xr.set j x) := by
  have h0 := h.h0
  have h1 := h.h1
  have h2 := h.h2
  refine ⟨h.o.chg (Chg.set g2 j _ (Nat.le_refl _) (Nat.lt_succ_self _)) (.inl (by omega)), ?_, h.b.far (p := ⟨g2, j, none⟩) (by show gb ≠ g2; omega) _, h.bl.setCell (show w.heap.size ≤ g2 by omega) _, h0, h1, h2⟩
  rw [← ivset]
  exact ⟨own_set h.r.1 rfl j _, h.r.2.1, by simpa using h.r.2.2⟩
end
theorem made2 (N : Nat) : (madeCells (stFraction.R 0 0).cells N).toList = IV (rw_ (fun _ => 0) N) := by
  show (madeCells #[Value.int .i64 0, Value.int .i64 0] N).toList = _
  unfold madeCells IV rw_
  refine List.ext_getElem (by simp) fun i h1 h2 => ?_
  simp only [Array.getElem_toList, Array.getElem_map, Array.getElem_range, List.getElem_map]
  rcases (show i % 2 = 0 ∨ i % 2 = 1 by omega) with e | e
  · simp [e]
  · simp [e]
theorem made1 (n : Nat) : (madeCells (Value.int .i64 0).cells (n * 1)).toList = IV (rw_ (fun _ => 0) n) := by
  show (madeCells #[Value.int .i64 0] (n * 1)).toList = _
  rw [toList_madeCells_one, Nat.mul_one]
  unfold IV rw_
  refine List.ext_getElem (by simp) fun i h1 h2 => ?_
  simp
/-- What byRemainder gives: the numbers below n in the order of the remainders. -/
def Ordered (w : World) (n : Nat) (zs : List Int) (m : Int) (e : Ending) (w' : World) : Prop :=
  ∃ (g : Nat) (f : Nat → Nat), e = .returned (.slice (some ⟨g, 0, none⟩) n n) ∧ w.heap.size ≤ g ∧ Srt (Ah (fm zs m) (wB zs)) f n ∧ OwnR w' g (g + 1) TI 1 (.slice (some ⟨g, 0, none⟩) n n) n (IV (rw_ (fun k => (f k : Int)) n)) ∧ Below w.heap.size w w'
set_option maxHeartbeats 4000000 in
theorem impl_br (w : World) (v : Value) (n : Nat) (zs : List Int) (m : Int) (hr : Row 3 w v n (IV zs)) (ok : Ro n zs) (h0 : 0 ≤ m) (h1 : m ≤ 1000000) :
    Calls Try.prog 37 #[v, .int .i64 m] w (Ordered w n zs m) := by
  obtain ⟨iI, hiI, hz0I, hz1I, hz2I⟩ := info_parts infoI
  obtain ⟨iF, hiF, hz0F, hz1F, hz2F⟩ := info_parts stFraction.info
  obtain ⟨av, ca, rfl⟩ := hr.shape
  have hl : zs.length = n * 3 := by simpa using hr.1
  have hn1 := ok.1.1
  have hn12 := ok.1.2
  have HR := Lib.hid hr
  have OK := Lib.hid ok
  clear hr ok
  go_enter Try.func37, Try.ntmps37
  go_wp2_with (first
    | (at_make; refine wpList_make_full _ rfl _ _ 27 rfl w.heap.size TI iI (.int .i64 0) 1 Try.underlying27 hiI hz0I hz1I _ _ _ _ n rfl rfl rfl rfl (by rw [hz2I]; omega) (by unfold maxLen; omega) (Nat.le_refl _) ?_; intro w1 hown hg
       have B1 := Lib.hid (below_grown hg (Nat.le_refl _) (by simp))
       have O1 := Lib.hid hown
       clear hown hg)
    | (at_make; refine wpList_make_full _ rfl _ _ TFS rfl w1.heap.size TF iF (stFraction.R 0 0) 2 Try.underlying76 hiF hz0F hz1F _ _ _ _ n rfl rfl rfl rfl (by rw [hz2F]; omega) (by unfold maxLen; omega) (Nat.le_refl _) ?_; intro w2 hown hg
       have B2 := Lib.hid (below_grown hg (Nat.le_refl _) (by simp))
       have O2 := Lib.hid hown
       clear hown hg)
    | fail)
  have hg1 := (O1.out.lt _ rfl).2
  have hg2 := (O2.out.lt _ rfl).2
  have e1 : rw_ (fun _ => (0 : Int)) n = rw_ (upto 0) n := rwcongr fun v _ => by unfold upto; rw [if_neg (by omega)]
  have e2 : rw_ (fun _ => (0 : Int)) (n * 2) = rw_ (rmp zs m 0) (n * 2) := rwcongr fun v _ => by unfold rmp; rw [if_neg (by omega)]
  have DB : Hid (BR w (w2.alloc (.cells #[.slice (some ⟨w1.heap.size, 0, none⟩) n n] TFS)) w.heap.size w1.heap.size w2.heap.size n (rw_ (upto 0) n) (rw_ (rmp zs m 0) (n * 2))) := by
    have k1 := O1.out
    have k2 := O2.out
    rw [made1, e1] at k1
    rw [made2, e2] at k2
    refine Lib.hid ⟨OwnR.keep (OwnR.keep ⟨k1, fun b hb => by cases hb; exact Nat.lt_succ_self _, hg1⟩ B2.out) (below_al (Below.refl _ _) _), OwnR.keep ⟨k2, fun b hb => by cases hb; exact Nat.lt_succ_self _, hg2⟩ (below_al (Below.refl _ _) _), Blk.new w2 TFS _, below_al (below_step B1.out B2.out) _, Nat.le_refl _, hg1, hg2⟩
  clear O1 O2 B1 B2 hg1 hg2 e1 e2 hz0I hz1I hz2I hiI hz0F hz1F hz2F hiF
  generalize w2.alloc (.cells #[.slice (some ⟨w1.heap.size, 0, none⟩) n n] TFS) = w3 at DB ⊢
  obtain ⟨G1, hG1⟩ : ∃ G1, w.heap.size = G1 := ⟨_, rfl⟩
  have HG1 := Lib.hid hG1
  rw [hG1] at DB ⊢
  generalize w1.heap.size = G2 at DB ⊢
  generalize w2.heap.size = GB at DB ⊢
  clear hG1
  go_loopg [17] n (fun g s17 wr => ∃ k : Nat, k + g = n ∧ s17 = .int .i64 k ∧ BR w wr G1 G2 GB n (rw_ (upto k) n) (rw_ (rmp zs m k) (n * 2)))
  case atStart => exact ⟨0, by omega, rfl, DB.out⟩
  case round =>
    clear DB
    obtain ⟨k, hkg, rfl, hdb⟩ := hrel
    have DB := Lib.hid hdb
    clear hdb
    by_cases hlt : k < n
    · obtain ⟨gk, rfl⟩ : ∃ g', gk = g' + 1 := ⟨gk - 1, by omega⟩
      obtain ⟨b1, o1, rfl, hc⟩ := (HR.out.keep DB.out.bl).at_ (by omega)
      obtain ⟨g1, g2, g3⟩ := right_at hc hl hlt
      have fk := OK.out.fk hlt
      have HRED := Lib.hid (rm_red (w := m) fk)
      have hRset := Lib.hid (rmp_set (zs := zs) (w := m) (n := n) (k := k))
      have hOset := Lib.hid (upto_set (n := n) hlt)
      obtain ⟨⟨q0, q0'⟩, _, q3, _, ⟨q4, q5⟩⟩ := part_bd fk h0 h1
      obtain ⟨⟨fb1, fb2⟩, _⟩ := fk
      have hfm : Hid (fm zs m k = m * wT zs k % wB zs k) := Lib.hid rfl
      rw [← hfm.out] at q3 q4 q5
      obtain ⟨RTk, hRT⟩ : ∃ x, RT zs m k = x := ⟨_, rfl⟩
      obtain ⟨RBk, hRB⟩ : ∃ x, RB zs m k = x := ⟨_, rfl⟩
      rw [hRT, hRB] at HRED hRset
      generalize fm zs m k = FM at hfm q3 q4 q5 HRED
      generalize wO zs k = O at g1
      generalize wT zs k = T at *
      generalize wB zs k = B at *
      obtain ⟨X, hX⟩ : ∃ X, m * T = X := ⟨_, rfl⟩
      rw [hX] at q0 q0' q3
      have hB0 : B ≠ 0 := by omega
      have k1 : IntKind.i64.wrap X = X := IntWalk.i64_in _ (by omega)
      have k3 : IntKind.i64.wrap FM = FM := IntWalk.i64_in _ (by omega)
      obtain ⟨wa, hwa⟩ : ∃ wa, wr.alloc (.cells #[.int .i64 O, .int .i64 T, .int .i64 B] TR) = wa := ⟨_, rfl⟩
      have ba : Below wr.heap.size wr wa := hwa ▸ below_al (Below.refl _ _) _
      have XA : Blk wa wr.heap.size TR #[.int .i64 O, .int .i64 T, .int .i64 B] := hwa ▸ Blk.new wr TR _
      have DA := DB.out.keep ba
      have c0 := own_cell DA.o.own (g := G1) rfl k _ (getI (by rw [rw_len]; exact hlt))
      have f0 := own_free DA.o.own (g := G1) rfl k
      have n1 : G1 < wr.heap.size := (DB.out.o.own.lt G1 rfl).2
      have n2 : G2 < wr.heap.size := (DB.out.r.own.lt G2 rfl).2
      have n3 : GB < wr.heap.size := DB.out.b.lt
      have n4 := DB.out.h2
      have DO := DA.setO k (k : Int)
      rw [hOset.out] at DO
      have XB := XA.far (p := ⟨G1, k, none⟩) (by show wr.heap.size ≠ G1; omega) (.int .i64 (k : Int))
      have DBO := Lib.hid DO
      have XBO := Lib.hid XB
      have i0 : (0 : Int) ≤ (k : Int) := by omega
      have i1 : (k : Int) < (n : Int) := by omega
      clear hc hRT hRB hfm DB DA DO XB XA
      go_wp2_with fail
      clear c0 f0 g1 g2 g3 hwa ba
      generalize wa.setCell ⟨G1, k, none⟩ (.int .i64 (k : Int)) = wb at DBO XBO ⊢
      have p0 := DBO.out.b.cell 0
      have p1 := XBO.out.cell 1
      have p2 := XBO.out.cell 2
      refine wp_region_held_drew (S := fun W => W.cell? ⟨GB, 0, none⟩ = some (.slice (some ⟨G2, 0, none⟩) n n) ∧ W.cell? ⟨wr.heap.size, 1, none⟩ = some (.int .i64 T) ∧ W.cell? ⟨wr.heap.size, 2, none⟩ = some (.int .i64 B)) (by kernel_rfl) ⟨p0, p1, p2⟩ (fun hHeld => ?_)
      refine takeH 0 (by simp only [List.getElem?_toArray, List.getElem?_cons_zero]; rfl) (by kernel_rfl) (by kernel_rfl) (by kernel_rfl) (by rfl) (by intro w hSw; (try dsimp only at hSw); go_simp; first | done | with_reducible rfl) (by intro _ _ _ h; exact h) (by assumption) ?_
      (try simp only [Act.put, List.setIfInBounds_toArray, List.set_cons_zero, List.set_cons_succ])
      refine takeH 1 (by simp only [List.getElem?_toArray, List.getElem?_cons_succ, List.getElem?_cons_zero]; rfl) (by kernel_rfl) (by kernel_rfl) (by kernel_rfl) (by rfl) (by intro w hSw; (try dsimp only at hSw); go_simp; first | done | with_reducible rfl) (by intro _ _ _ h; exact h) (by assumption) ?_
      (try simp only [Act.put, List.setIfInBounds_toArray, List.set_cons_zero, List.set_cons_succ])
      refine takeH 2 (by simp only [List.getElem?_toArray, List.getElem?_cons_succ, List.getElem?_cons_zero]; rfl) (by kernel_rfl) (by kernel_rfl) (by kernel_rfl) (by rfl) (by intro w hSw; (try dsimp only at hSw); go_simp; first | done | with_reducible rfl) (by intro _ _ _ h; exact h) (by assumption) ?_
      (try simp only [Act.put, List.setIfInBounds_toArray, List.set_cons_zero, List.set_cons_succ])
      refine takeH 3 (by simp only [List.getElem?_toArray, List.getElem?_cons_succ, List.getElem?_cons_zero]; rfl) (by kernel_rfl) (by kernel_rfl) (by kernel_rfl) (by rfl) (by intro w hSw; (try dsimp only at hSw); go_simp; first | done | with_reducible rfl) (by intro _ _ _ h; exact h) (by assumption) ?_
      (try simp only [Act.put, List.setIfInBounds_toArray, List.set_cons_zero, List.set_cons_succ])
      refine takeH 4 (by simp only [List.getElem?_toArray, List.getElem?_cons_succ, List.getElem?_cons_zero]; rfl) (by kernel_rfl) (by kernel_rfl) (by kernel_rfl) (by rfl) (by intro w hSw; (try dsimp only at hSw); go_simp; first | done | with_reducible rfl) (by intro _ _ _ h; exact h) (by assumption) ?_
      (try simp only [Act.put, List.setIfInBounds_toArray, List.set_cons_zero, List.set_cons_succ])
      refine takeH 5 (by simp only [List.getElem?_toArray, List.getElem?_cons_succ, List.getElem?_cons_zero]; rfl) (by kernel_rfl) (by kernel_rfl) (by kernel_rfl) (by rfl) (by intro w hSw; (try dsimp only at hSw); go_simp; first | done | with_reducible rfl) (by intro _ _ _ h; exact h) (by assumption) ?_
      (try simp only [Act.put, List.setIfInBounds_toArray, List.set_cons_zero, List.set_cons_succ])
      refine takeH 6 (by simp only [List.getElem?_toArray, List.getElem?_cons_succ, List.getElem?_cons_zero]; rfl) (by kernel_rfl) (by kernel_rfl) (by kernel_rfl) (by rfl) (by intro w hSw; (try dsimp only at hSw); go_simp; first | done | with_reducible rfl) (by intro _ _ _ h; exact h) (by assumption) ?_
      (try simp only [Act.put, List.setIfInBounds_toArray, List.set_cons_zero, List.set_cons_succ])
      refine takeH 7 (by simp only [List.getElem?_toArray, List.getElem?_cons_succ, List.getElem?_cons_zero]; rfl) (by kernel_rfl) (by kernel_rfl) (by kernel_rfl) (by rfl) (by intro w hSw; (try dsimp only at hSw); go_simp; first | done | with_reducible rfl) (by intro _ _ _ h; exact h) (by assumption) ?_
      (try simp only [Act.put, List.setIfInBounds_toArray, List.set_cons_zero, List.set_cons_succ])
      refine takeH 8 (by simp only [List.getElem?_toArray, List.getElem?_cons_succ, List.getElem?_cons_zero]; rfl) (by kernel_rfl) (by kernel_rfl) (by kernel_rfl) (by rfl) (by intro w hSw; (try dsimp only at hSw); go_simp; first | done | with_reducible rfl) (by intro _ _ _ h; exact h) (by assumption) ?_
      (try simp only [Act.put, List.setIfInBounds_toArray, List.set_cons_zero, List.set_cons_succ])
      refine takeH 9 (by simp only [List.getElem?_toArray, List.getElem?_cons_succ, List.getElem?_cons_zero]; rfl) (by kernel_rfl) (by kernel_rfl) (by kernel_rfl) (by rfl) (by intro w hSw; (try dsimp only at hSw); go_simp; first | done | with_reducible rfl) (by intro _ _ _ h; exact h) (by assumption) ?_
      (try simp only [Act.put, List.setIfInBounds_toArray, List.set_cons_zero, List.set_cons_succ])
      refine takeH 10 (by simp only [List.getElem?_toArray, List.getElem?_cons_succ, List.getElem?_cons_zero]; rfl) (by kernel_rfl) (by kernel_rfl) (by kernel_rfl) (by rfl) (by intro w hSw; (try dsimp only at hSw); go_simp; first | done | with_reducible rfl) (by intro _ _ _ h; exact h) (by assumption) ?_
      (try simp only [Act.put, List.setIfInBounds_toArray, List.set_cons_zero, List.set_cons_succ])
      refine takeH 11 (by simp only [List.getElem?_toArray, List.getElem?_cons_succ, List.getElem?_cons_zero]; rfl) (by kernel_rfl) (by kernel_rfl) (by kernel_rfl) (by rfl) (by intro w hSw; (try dsimp only at hSw); go_simp; first | done | with_reducible rfl) (by intro _ _ _ h; exact h) (by assumption) ?_
      (try simp only [Act.put, List.setIfInBounds_toArray, List.set_cons_zero, List.set_cons_succ])
      refine takeH 12 (by simp only [List.getElem?_toArray, List.getElem?_cons_succ, List.getElem?_cons_zero]; rfl) (by kernel_rfl) (by kernel_rfl) (by kernel_rfl) (by rfl) (by intro w hSw; (try dsimp only at hSw); go_simp; first | done | with_reducible rfl) (by intro _ _ _ h; exact h) (by assumption) ?_
      (try simp only [Act.put, List.setIfInBounds_toArray, List.set_cons_zero, List.set_cons_succ])
      refine takeH 13 (by simp only [List.getElem?_toArray, List.getElem?_cons_succ, List.getElem?_cons_zero]; rfl) (by kernel_rfl) (by kernel_rfl) (by kernel_rfl) (by rfl) (by intro w hSw; (try dsimp only at hSw); go_simp; first | done | with_reducible rfl) (by intro _ _ _ h; exact h) (by assumption) ?_
      (try simp only [Act.put, List.setIfInBounds_toArray, List.set_cons_zero, List.set_cons_succ])
      refine wpAnyH_ready (rs := [14]) (by kernel_rfl) (by simp) (AllReadyH.cons (by simp only [List.getElem?_toArray, List.getElem?_cons_succ, List.getElem?_cons_zero]; rfl) (fun K hK => ?_) AllReadyH.nil)
      go_simp
      go_at_call 56
      refine (impl_red _ _ _ FM.toNat B.toNat _ _ _ (Int.toNat_of_nonneg q4).symm (Int.toNat_of_nonneg (by omega)).symm (by omega) (by omega) (by omega) HRED.out).mono ?_; rintro e w5 ⟨rfl, hb5⟩
      have b5 : Below wb.heap.size wb w5 := below_step (below_dr (Below.refl _ _)) hb5
      (try go_simp)
      refine hK.out _ _ (⟨keep1 p0 b5, keep1 p1 b5, keep1 p2 b5⟩) (fun hHeld => ?_)
      clear hK K
      (try simp only [Act.put, List.setIfInBounds_toArray, List.set_cons_zero, List.set_cons_succ])
      have D5 := DBO.out.keep b5
      have c0 := own_cell D5.r.own (g := G2) rfl (k * 2) _ (getI (by rw [rw_len]; omega))
      have c1 := own_cell D5.r.own (g := G2) rfl (k * 2 + 1) _ (getI (by rw [rw_len]; omega))
      have f0 := own_free D5.r.own (g := G2) rfl (k * 2)
      have f1 := own_free D5.r.own (g := G2) rfl (k * 2 + 1)
      have D6 := (D5.setR (k * 2) RTk).setR (k * 2 + 1) RBk
      rw [hRset.out] at D6
      have DD := Lib.hid D6
      have m1 : GB ≠ G2 := by omega
      have m2 : wr.heap.size ≠ G2 := by omega
      clear D5 D6 DBO XBO hb5
      refine takeH 15 (by simp only [List.getElem?_toArray, List.getElem?_cons_succ, List.getElem?_cons_zero]; rfl) (by kernel_rfl) (by kernel_rfl) (by kernel_rfl) (by rfl) (by intro w hSw; (try dsimp only at hSw); go_simp; first | done | with_reducible rfl) (by intro _ _ _ h; exact h) (by assumption) ?_
      (try simp only [Act.put, List.setIfInBounds_toArray, List.set_cons_zero, List.set_cons_succ])
      refine takeH 16 (by simp only [List.getElem?_toArray, List.getElem?_cons_succ, List.getElem?_cons_zero]; rfl) (by kernel_rfl) (by kernel_rfl) (by kernel_rfl) (by rfl) (by intro w hSw; (try dsimp only at hSw); go_simp; first | done | with_reducible rfl) (by intro _ _ _ h; exact h) (by assumption) ?_
      (try simp only [Act.put, List.setIfInBounds_toArray, List.set_cons_zero, List.set_cons_succ])
      refine takeH 17 (by simp only [List.getElem?_toArray, List.getElem?_cons_succ, List.getElem?_cons_zero]; rfl) (by kernel_rfl) (by kernel_rfl) (by kernel_rfl) (by rfl) (by intro w hSw; (try dsimp only at hSw); go_simp; first | done | with_reducible rfl) (by intro _ _ _ h; exact h) (by assumption) ?_
      (try simp only [Act.put, List.setIfInBounds_toArray, List.set_cons_zero, List.set_cons_succ])
      refine takeH 18 (by simp only [List.getElem?_toArray, List.getElem?_cons_succ, List.getElem?_cons_zero]; rfl) (by kernel_rfl) (by kernel_rfl) (by kernel_rfl) (by rfl) (by intro w hSw; (try dsimp only at hSw); go_simp; first | done | with_reducible rfl) (by intro _ _ _ h; exact h) (by assumption) ?_
      (try simp only [Act.put, List.setIfInBounds_toArray, List.set_cons_zero, List.set_cons_succ])
      refine wpAnyH_ready (rs := [19]) (by kernel_rfl) (by simp) (AllReadyH.cons (by simp only [List.getElem?_toArray, List.getElem?_cons_succ, List.getElem?_cons_zero]; rfl) (fun K hK => ?_) AllReadyH.nil)
      go_simp
      refine hK.out _ _ (keepT3 hHeld m1 m2 m2) (fun hHeld => ?_)
      clear hK K
      (try simp only [Act.put, List.setIfInBounds_toArray, List.set_cons_zero, List.set_cons_succ])
      refine wpAnyH_done (by kernel_rfl) ?_ _
      clear c0 c1 f0 f1 p0 p1 p2 hHeld b5 m1 m2
      go_wp2
      go_roundg gk
      case measure => omega
      case rel => exact ⟨k + 1, by omega, by go_num, DD.out⟩
    · obtain rfl : k = n := by omega
      have hasks : Asks wr 58 (.pointer (some ⟨GB, 0, none⟩)) k G1 k (fun x y => sg (RT zs m y * RB zs m x) (RT zs m x * RB zs m y)) (Ah (fm zs m) (wB zs)) :=
        { enters := enters2 Try.func58 (by kernel_rfl) rfl
          one := hn1
          few := hn12
          row := by have h := DB.out.o; rw [upto_all] at h; exact h
          total := fun _ _ h => Ah.total h
          trans := Ah.trans fun j hj => OK.out.pos hj
          less := fun x y h hx => rm_less (OK.out.fk hx) (OK.out.fk (by omega)) h
          calls := fun W x y hc hx hy => by
            have h1 := DB.out.h1
            have h2 := DB.out.h2
            refine clo_br W GB G2 k _ x y hx hy (DB.out.b.chg hc (.inr (by omega))) (DB.out.r.chg hc (.inr h1)) _ ?_
            rw [(rmp_at hx).1, (rmp_at hx).2, (rmp_at hy).1, (rmp_at hy).2]
            exact ⟨fun _ => rfl, fun hn => absurd ⟨rm_fk (OK.out.fk hy), rm_fk (OK.out.fk hx)⟩ hn⟩ }
      have HA := Lib.hid (ssort wr _ _ _ _ _ _ _ hasks)
      clear hasks
      go_wp2_with fail
      refine (HA.out).mono ?_; rintro e w5 ⟨rfl, f, hs, ho, hc⟩
      have hb := hc.below DB.out.bl.size (by rw [HG1.out]; exact Nat.le_refl _)
      have HS := Lib.hid hs
      have HO := Lib.hid ho
      have BL := Lib.hid (DB.out.bl.trans hb)
      clear hs ho hc hb HA
      go_wp2
      go_ret
      exact ⟨G1, f, rfl, by rw [HG1.out]; exact Nat.le_refl _, HS.out, HO.out, BL.out⟩
end Go.Proofs.Ytopbeacfljoacaa.rgt
