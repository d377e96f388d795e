/- The specification's functions on years. -/
import Derived.Test.YtojahddamdlcpaaYr
import Derived.Test.YtojahddamdlcpaaOwn
import Derived.Deep.LoopGhost
import Derived.Deep.DeepCutAuto
import Derived.Deep.DrawnRows
import Derived.Deep.CutRange
import Derived.Deep.RegionHeld3
namespace Go.Proofs.Ytojahddamdlcpaa.yr
open Go.RowKit Go.Proofs.Ytojahddamdlcpaa.kit Go.Proofs.Ytojahddamdlcpaa.lawi Go.Proofs.Ytojahddamdlcpaa.own Go.Proofs.Ytojahddamdlcpaa.rainl Go.Proofs.Ytojahddamdlcpaa.rain Go.Proofs.Ytojahddamdlcpaa.cis Go.Proofs.Ytojahddamdlcpaa.chl Go.Proofs.Ytojahddamdlcpaa.yrl
attribute [local go_sem ↓] Go.wp_at_zero Go.wp_at_succ
/-- Two slices that share no block. -/
def Ap (u v : Value) : Prop := ∀ b, u.ownBlock = some b → v.ownBlock ≠ some b
theorem Ap.symm {u v : Value} (h : Ap u v) : Ap v u := fun b hv hu => h b hu hv
theorem Ap.ne {u v : Value} (h : Ap u v) : v.ownBlock = none ∨ v.ownBlock ≠ u.ownBlock := by
  cases e : u.ownBlock with
  | none => cases v.ownBlock <;> simp
  | some b => exact .inr (h b e)
/-- A slice that lies where another lay, or in new memory, shares no more blocks than that one. -/
theorem Ap.lies {u u' v : Value} {w : World} {base e sz n : Nat} {xs : List Value} (h : Ap u v) (hv : w.ownsRow base e sz v n xs) (hl : ∀ b, u'.ownBlock = some b → u.ownBlock = some b ∨ w.heap.size ≤ b) : Ap u' v := fun b hb hvb => by
  rcases hl b hb with h1 | h1
  · exact h b h1 hvb
  · have := (hv.lt b hvb).2
    omega
/-- A box of another type is no row's block. -/
theorem blk_row {w : World} {g : Nat} {t e : TypeId} {cs : Array Value} {base sz n : Nat} {v : Value} {xs : List Value} (h : Blk w g t cs) (ho : w.ownsRow base e sz v n xs) (ht : t ≠ e) : v.ownBlock ≠ some g := by
  have h : w.heap[g]? = some (.cells cs t (0, 0)) := h
  rcases ho.2 with ⟨rfl, _⟩ | ⟨b, cp, cur, rfl, _, hh, _⟩
  · simp [Value.ownBlock]
  · intro e
    simp [Value.ownBlock] at e
    subst e
    rw [hh] at h
    cases h
    exact ht rfl
/-- 'append(out, z)', and where the row then lies. -/
theorem app1L (wr : World) {T : TypeId} {ops : Array Oper} {rest : List Oper} {o : Oper} {a : Act} {Q : Exit → Act → World → Prop} (hgd : o.guard = none) (s x : Operand)
    (ho : o.op = .call { callee := .builtin .append, args := #[s, x], argTypes := #[24, 24] })
    (base : Nat) {v : Value} {n : Nat} {zs : List Int} (z : Int) (hown : wr.ownsRow base 3 1 v n (zs.map (Value.int .i64))) (hs : a.eval s = v) (H : Nat) (hH : wr.heap.size = H)
    (hx : a.eval x = .slice (some ⟨H, 0, none⟩) 1 1) (hn : n ≤ 1000000000000) (hb : base ≤ wr.heap.size)
    (h : ∀ v' w1, w1.ownsRow base 3 1 v' (n + 1) ((zs ++ [z]).map (Value.int .i64)) → wr.grownBy w1 v.ownBlock → (∀ b, v'.ownBlock = some b → v.ownBlock = some b ∨ wr.heap.size ≤ b) → wpList Try.prog ops Q rest (a.put o.dst v') w1) :
    wpList Try.prog ops Q (o :: rest) a (wr.alloc (.cells #[.int .i64 z] T)) := by
  subst hH
  obtain ⟨i0, hi, hz0, hz1, hz2⟩ := info_parts infoI
  refine wpList_append_lies _ hgd s x 24 ho base 3 i0 (.int .i64 0) 1 8 Try.underlying24 hi hz0 hz1 hz2 rfl (by decide) v n (zs.map (Value.int .i64)) hs (hown.alloc _) ⟨wr.heap.size, 0, none⟩ 1 1 [.int .i64 z] hx rfl
    (World.news_of_block (heap_alloc_new wr _)) (by simp [Value.oneCell']) (by decide) (by unfold maxLen; omega) (by omega) (by simp; omega) _ rfl ?_
  intro g cap w1 hown1 hg hl _
  refine h _ w1 (by simpa using hown1) (grown_trans (World.grownBy_alloc wr _ _) hg) fun b hb => ?_
  have hb : g = b := by simpa [Value.ownBlock] using hb
  subst hb
  rcases hl with hl | hl
  · exact .inl hl
  · exact .inr (by rw [hl]; simp)
/-- While a year runs: the year's own box, the cistern's, the three rows. -/
structure RS (w wr : World) (gC : Nat) (r s d : Int) (v : Value) (n : Nat) (L : Int) (v0 : Value) (m0 : Nat) (z0 : List Int) (v1 : Value) (m1 : Nat) (z1 : List Int) (v2 : Value) (m2 : Nat) (z2 : List Int) : Prop where
  bY : Blk wr w.heap.size TY #[.int .i64 r, .int .i64 s, v, .int .i64 d]
  bC : Blk wr gC 66 #[.int .i64 r, .int .i64 L]
  o0 : wr.ownsRow (w.heap.size + 1) 3 1 v0 m0 (IV z0)
  o1 : wr.ownsRow (w.heap.size + 1) 3 1 v1 m1 (IV z1)
  o2 : wr.ownsRow (w.heap.size + 1) 3 1 v2 m2 (IV z2)
  a01 : Ap v0 v1
  a02 : Ap v0 v2
  a12 : Ap v1 v2
  bl : Below w.heap.size w wr
  lC : w.heap.size + 1 ≤ gC
section
variable {w wr wr' : World} {gC : Nat} {r s d : Int} {v : Value} {n : Nat} {L : Int} {v0 : Value} {m0 : Nat} {z0 : List Int} {v1 : Value} {m1 : Nat} {z1 : List Int} {v2 : Value} {m2 : Nat} {z2 : List Int}
theorem RS.keep (h : RS w wr gC r s d v n L v0 m0 z0 v1 m1 z1 v2 m2 z2) (hb : Below wr.heap.size wr wr') : RS w wr' gC r s d v n L v0 m0 z0 v1 m1 z1 v2 m2 z2 :=
  ⟨h.bY.step hb, h.bC.step hb, own_below h.o0 hb, own_below h.o1 hb, own_below h.o2 hb, h.a01, h.a02, h.a12, below_step h.bl hb, h.lC⟩
theorem RS.size (h : RS w wr gC r s d v n L v0 m0 z0 v1 m1 z1 v2 m2 z2) : w.heap.size + 1 ≤ wr.heap.size := by have := h.bY.lt; omega
theorem RS.setC (h : RS w wr gC r s d v n L v0 m0 z0 v1 m1 z1 v2 m2 z2) (L' : Int) : RS w ((wr.setCell ⟨gC, 0, none⟩ (.int .i64 r)).setCell ⟨gC, 1, none⟩ (.int .i64 L')) gC r s d v n L' v0 m0 z0 v1 m1 z1 v2 m2 z2 :=
  have hC := h.lC
  have nY (j : Nat) : w.heap.size ≠ (Addr.mk gC j none).block := by show w.heap.size ≠ gC; omega
  have hs := grown_trans (grown_setCell (grown_refl wr (some gC)) 0 none (.int .i64 r)) (grown_setCell (grown_refl _ (some gC)) 1 none (.int .i64 L'))
  have ne {u : Value} {m : Nat} {xs : List Value} (ho : wr.ownsRow (w.heap.size + 1) 3 1 u m xs) : u.ownBlock = none ∨ u.ownBlock ≠ some gC := .inr (blk_row h.bC ho (by decide))
  ⟨(h.bY.far (nY 0) _).far (nY 1) _, (h.bC.set_ 0 _).set_ 1 _, h.o0.kept hs (ne h.o0), h.o1.kept hs (ne h.o1), h.o2.kept hs (ne h.o2), h.a01, h.a02, h.a12, (h.bl.setCell (by show w.heap.size ≤ gC; omega) _).setCell (by show w.heap.size ≤ gC; omega) _, hC⟩
theorem RS.turned {u : Value} {m : Nat} {xs : List Value} (h : RS w wr gC r s d v n L v0 m0 z0 v1 m1 z1 v2 m2 z2) (ho : wr.ownsRow (w.heap.size + 1) 3 1 u m xs) (hg : wr.grownBy wr' u.ownBlock) :
    Blk wr' w.heap.size TY #[.int .i64 r, .int .i64 s, v, .int .i64 d] ∧ Blk wr' gC 66 #[.int .i64 r, .int .i64 L] ∧ Below w.heap.size w wr' :=
  ⟨h.bY.grown hg (fun e => blk_row h.bY ho (by decide) e.symm), h.bC.grown hg (fun e => blk_row h.bC ho (by decide) e.symm), h.bl.grown hg h.bl.size (fun k hk => by have := (ho.lt _ hk).1; omega)⟩
theorem RS.app0 (h : RS w wr gC r s d v n L v0 m0 z0 v1 m1 z1 v2 m2 z2) {v' : Value} {m' : Nat} {z' : List Int} (ho : wr'.ownsRow (w.heap.size + 1) 3 1 v' m' (IV z')) (hg : wr.grownBy wr' v0.ownBlock)
    (hl : ∀ b, v'.ownBlock = some b → v0.ownBlock = some b ∨ wr.heap.size ≤ b) : RS w wr' gC r s d v n L v' m' z' v1 m1 z1 v2 m2 z2 :=
  have t := h.turned h.o0 hg
  ⟨t.1, t.2.1, ho, h.o1.kept hg h.a01.ne, h.o2.kept hg h.a02.ne, h.a01.lies h.o1 hl, h.a02.lies h.o2 hl, h.a12, t.2.2, h.lC⟩
theorem RS.app1 (h : RS w wr gC r s d v n L v0 m0 z0 v1 m1 z1 v2 m2 z2) {v' : Value} {m' : Nat} {z' : List Int} (ho : wr'.ownsRow (w.heap.size + 1) 3 1 v' m' (IV z')) (hg : wr.grownBy wr' v1.ownBlock)
    (hl : ∀ b, v'.ownBlock = some b → v1.ownBlock = some b ∨ wr.heap.size ≤ b) : RS w wr' gC r s d v n L v0 m0 z0 v' m' z' v2 m2 z2 :=
  have t := h.turned h.o1 hg
  ⟨t.1, t.2.1, h.o0.kept hg h.a01.symm.ne, ho, h.o2.kept hg h.a12.ne, (h.a01.symm.lies h.o0 hl).symm, h.a02, h.a12.lies h.o2 hl, t.2.2, h.lC⟩
theorem RS.app2 (h : RS w wr gC r s d v n L v0 m0 z0 v1 m1 z1 v2 m2 z2) {v' : Value} {m' : Nat} {z' : List Int} (ho : wr'.ownsRow (w.heap.size + 1) 3 1 v' m' (IV z')) (hg : wr.grownBy wr' v2.ownBlock)
    (hl : ∀ b, v'.ownBlock = some b → v2.ownBlock = some b ∨ wr.heap.size ≤ b) : RS w wr' gC r s d v n L v0 m0 z0 v1 m1 z1 v' m' z' :=
  have t := h.turned h.o2 hg
  ⟨t.1, t.2.1, h.o0.kept hg h.a02.symm.ne, h.o1.kept hg h.a12.symm.ne, ho, h.a01, (h.a02.symm.lies h.o0 hl).symm, (h.a12.symm.lies h.o1 hl).symm, t.2.2, h.lC⟩
end
/-- What a run of a year leaves: three rows. -/
def Ran (w : World) (n : Nat) (z0 z1 z2 : List Int) (e : Ending) (w' : World) : Prop :=
  ∃ v0 v1 v2, e = .returned (.tuple #[v0, v1, v2]) ∧ w'.ownsRow w.heap.size 3 1 v0 n (IV z0) ∧ w'.ownsRow w.heap.size 3 1 v1 n (IV z1) ∧ w'.ownsRow w.heap.size 3 1 v2 n (IV z2) ∧ Below w.heap.size w w'
/-- A statement's new cistern and number. -/
def One (w : World) (y0 y1 q : Int) (s1 s2 : Value) (wx : World) : Prop :=
  ∃ g : Nat, s1 = .pointer (some ⟨g, 0, none⟩) ∧ s2 = .int .i64 q ∧ Below w.heap.size w wx ∧ wx.cell? ⟨g, 0, none⟩ = some (.int .i64 y0) ∧ wx.cell? ⟨g, 1, none⟩ = some (.int .i64 y1)
abbrev W4 (w : World) (r s : Int) (v : Value) (d : Int) : World := ((((w.alloc (.cells #[.int .i64 r, .int .i64 s, v, .int .i64 d] TY)).alloc (.cells #[] 3)).alloc (.cells #[] 3)).alloc (.cells #[] 3)).alloc (.cells #[.int .i64 r, .int .i64 s] 66)
theorem start (w : World) (r s d : Int) (v : Value) (n : Nat) : RS w (W4 w r s v d) (w.heap.size + 4) r s d v n s (.slice (some ⟨w.heap.size + 1, 0, none⟩) 0 0) 0 [] (.slice (some ⟨w.heap.size + 2, 0, none⟩) 0 0) 0 [] (.slice (some ⟨w.heap.size + 3, 0, none⟩) 0 0) 0 [] := by
  have c0 := World.ownsRow_made (base := w.heap.size + 1) (e := 3) (size := 1) (w.alloc (.cells #[.int .i64 r, .int .i64 s, v, .int .i64 d] TY)) #[] 0 (by simp) (Nat.zero_le _) rfl
  have c1 := World.ownsRow_made (base := w.heap.size + 1) (e := 3) (size := 1) ((w.alloc (.cells #[.int .i64 r, .int .i64 s, v, .int .i64 d] TY)).alloc (.cells #[] 3)) #[] 0 (by simp) (Nat.zero_le _) rfl
  have c2 := World.ownsRow_made (base := w.heap.size + 1) (e := 3) (size := 1) (((w.alloc (.cells #[.int .i64 r, .int .i64 s, v, .int .i64 d] TY)).alloc (.cells #[] 3)).alloc (.cells #[] 3)) #[] 0 (by simp) (Nat.zero_le _) rfl
  have c3 := Blk.new ((((w.alloc (.cells #[.int .i64 r, .int .i64 s, v, .int .i64 d] TY)).alloc (.cells #[] 3)).alloc (.cells #[] 3)).alloc (.cells #[] 3)) 66 #[.int .i64 r, .int .i64 s]
  simp only [World.size_alloc] at c0 c1 c2 c3
  exact ⟨((((Blk.new w TY _).alloc _).alloc _).alloc _).alloc _, c3, ((c0.alloc _).alloc _).alloc _, (c1.alloc _).alloc _, c2.alloc _, fun b h => by simp [Value.ownBlock] at h ⊢ <;> omega, fun b h => by simp [Value.ownBlock] at h ⊢ <;> omega, fun b h => by simp [Value.ownBlock] at h ⊢ <;> omega,
    below_al (below_al (below_al (below_al (below_al (Below.refl _ _) _) _) _) _) _, by omega⟩
set_option maxHeartbeats 4000000 in
theorem spec_run_yes (w : World) (v : Value) (n : Nat) (cs : List Int) (r s d : Int) (hr : Row 1 w v n (IV cs)) (ok : YOk r s d n cs) :
    Calls Try.prog 83 #[Yv r s v d] w (Ran w n (rw_ (fun k => lv r d s cs (k + 1)) n) (rw_ (ov r d s cs) n) (rw_ (tk r d s cs) n)) := by
  obtain ⟨a, ca, rfl⟩ := hr.shape
  have hn : n ≤ 400 := ok.2.2.1.2
  have HR := Lib.hid hr
  have OK := Lib.hid ok
  obtain ⟨gC, hgC⟩ : ∃ g, g = w.heap.size + 4 := ⟨_, rfl⟩
  have HD := Lib.hid (start w r s d (.slice a n ca) n)
  rw [← hgC] at HD
  clear ok hr
  go_enter Try.func83, Try.ntmps83
  go_wp2
  rw [show w.heap.size + 1 + 1 + 1 + 1 = gC by omega]
  clear hgC
  go_loopg [5, 6, 7, 9] n (fun g v0 v1 v2 i wr => ∃ k : Nat, k + g = n ∧ i = .int .i64 k ∧ RS w wr gC r s d (.slice a n ca) n (lv r d s cs k) v0 k (rw_ (fun k => lv r d s cs (k + 1)) k) v1 k (rw_ (ov r d s cs) k) v2 k (rw_ (tk r d s cs) k))
  case atStart => exact ⟨0, by omega, by simp, HD.out⟩
  case round =>
    clear HD
    obtain ⟨k, hk, rfl, hd⟩ := hrel
    by_cases hlt : k < n
    · obtain ⟨gk, rfl⟩ : ∃ g', gk = g' + 1 := ⟨gk - 1, by omega⟩
      obtain ⟨L, hL⟩ : ∃ L, lv r d s cs k = L := ⟨_, rfl⟩
      obtain ⟨z, hz⟩ : ∃ z, cs.getD k 0 = z := ⟨_, rfl⟩
      have e1 := lv_bd OK.out k (by omega)
      have e2 := pr_bd OK.out hlt
      have e3 := tk_bd OK.out hlt
      have e4 := OK.out.2.2.2.2 k hlt
      obtain ⟨P, hP⟩ : ∃ P, pr r d s cs k = P := ⟨_, rfl⟩
      obtain ⟨T, hT⟩ : ∃ T, tk r d s cs k = T := ⟨_, rfl⟩
      have e6 : lv r d s cs (k + 1) = L + P - T := by rw [lv_succ, hL, hP, hT]
      have e7 : ov r d s cs k = z - P := by rw [ov, hz, hP]
      rw [hP, hL, hz] at e2
      rw [hT, hP, hL] at e3
      rw [hL] at e1 hd
      rw [hz] at e4
      have hpour := fun W => spec_pour_yes W r L z P ⟨OK.out.1.1, OK.out.1.2, e1.1, e1.2⟩ ⟨e4.1, by omega⟩ e2.2.2.2
      have htake := fun W => spec_takeout_yes W r (L + P) d T ⟨OK.out.1.1, OK.out.1.2, by omega, e2.2.2.1⟩ OK.out.2.2.2.1 e3.2.2.2
      have E6 := Lib.hid e6
      have E7 := Lib.hid e7
      have ET := Lib.hid hT
      have EZ := Lib.hid hz
      have HP := Lib.hid hpour
      have HT := Lib.hid htake
      have HD := Lib.hid hd
      clear e1 e2 e3 e4 e6 e7 hpour htake hd hL hP hT hz
      obtain ⟨p0, p1, p2, p3⟩ := blk4 HD.out.bY
      go_wp2_with fail
      refine (spec_yok_yes _ _ n cs r s d (HR.out.keep HD.out.bl) OK.out).mono ?_; rintro e w2 ⟨rfl, hb⟩
      replace HD := Lib.hid (HD.out.keep hb)
      clear hb p0 p1 p2 p3
      obtain ⟨b1, o1, rfl, h1⟩ := (HR.out.keep HD.out.bl).at_ (by omega)
      have g1 := h1 k _ (getI (by have := HR.out.1; simp at this; omega))
      rw [EZ.out] at g1
      clear h1
      have p2 : w2.cell? ⟨w.heap.size, 2, none⟩ = some (.slice (some ⟨b1, o1, none⟩) n ca) := HD.out.bY.cell 2
      obtain ⟨q0, q1, _⟩ := blk2 HD.out.bC
      go_wp2
      go_cut [10, 11] from 22 to 63 (fun s1 s2 wx => One w2 r (L + P) (z - P) s1 s2 wx)
      case first =>
        go_region_held3 (fun W => W.cell? ⟨gC, 0, none⟩ = some (.int .i64 r) ∧ W.cell? ⟨gC, 1, none⟩ = some (.int .i64 L) ∧ W.cell? ⟨w.heap.size, 2, none⟩ = some (.slice (some ⟨b1, o1, none⟩) n ca) ∧ W.cell? ⟨b1, o1 + k, none⟩ = some (.int .i64 z))
          (first | assumption | exact ⟨q0, q1, p2, g1⟩ | exact keep4 ⟨q0, q1, p2, g1⟩ (by repeat (first | (with_reducible exact Below.refl _ _) | (with_reducible refine below_dr ?_) | (with_reducible refine below_al ?_ _) | (with_reducible refine below_step ?_ (by assumption)) | (with_reducible refine Below.setCell ?_ ?_ _) | (simp only []; omega) | omega | fail)) | fail)
          (first
            | (go_at_call 87; refine (HP.out _).mono ?_; rintro e wA ⟨rfl, hb⟩; obtain ⟨hc, hf⟩ := bcell hb; have hz := hb.size; (try simp only [World.size_drew] at hz); (try simp only [World.size_alloc] at hz); (try simp only [World.size_drew] at hz); (try have l_wA : w2.heap.size < wA.heap.size := by omega))
            | fail)
        all_goals
          go_wp2_with fail
          go_meet
          refine ⟨_, rfl, rfl, (by repeat (first | (with_reducible exact Below.refl _ _) | (with_reducible refine below_dr ?_) | (with_reducible refine below_al ?_ _) | (with_reducible refine below_step ?_ (by assumption)) | (with_reducible refine Below.setCell ?_ ?_ _) | (simp only []; omega) | omega | fail)), ?_, ?_⟩
          all_goals (try go_simp)
          all_goals (refine World.cell?_setCell_same _ _ _ (u := .int .i64 0) ?_; go_simp)
      case rest =>
        obtain ⟨g, rfl, rfl, hb, c0, c1⟩ := hcut
        replace HD := Lib.hid (HD.out.keep hb)
        clear hb p2 q0 q1 g1 HP
        obtain ⟨p0, p1, p2, p3⟩ := blk4 HD.out.bY
        go_wp2_with fail
        refine (HT.out _).mono ?_; rintro e w4 ⟨rfl, hb⟩
        replace HD := Lib.hid (HD.out.keep hb)
        have HB4 := Lib.hid hb
        clear hb p0 p1 p2 p3 c0 c1 HT
        have ab : Below w4.heap.size w4 (w4.alloc (.cells #[.int .i64 r, .int .i64 (L + P - T)] 66)) := below_al (Below.refl _ _) _
        have D5 := HD.out.keep ab
        obtain ⟨q0, q1, q2, q3⟩ := blk2 D5.bC
        have D6 := Lib.hid (D5.setC (L + P - T))
        have z6 := D6.out.size
        have hne : ¬ gC = w4.heap.size := by have := HD.out.bC.lt; omega
        have hne' : ¬ w4.heap.size = gC := fun e => hne e.symm
        clear D5 ab HB4
        go_wp2_with (at_builtin; first
          | ((fail_if_success (have _h := D7)); refine app1L _ rfl _ _ rfl (w.heap.size + 1) (L + P - T) D6.out.o0 rfl (w4.heap.size + 1) (by simp) rfl (by omega) z6 ?_; intro v6 w6 ho hg hl; have D7 := Lib.hid (D6.out.app0 ho hg hl); have z7 := D7.out.size; clear ho hg hl)
          | ((fail_if_success (have _h := D8)); refine app1L _ rfl _ _ rfl (w.heap.size + 1) (z - P) D7.out.o1 rfl w6.heap.size rfl rfl (by omega) z7 ?_; intro v7 w7 ho hg hl; have D8 := Lib.hid (D7.out.app1 ho hg hl); have z8 := D8.out.size; clear ho hg hl)
          | (refine app1L _ rfl _ _ rfl (w.heap.size + 1) T D8.out.o2 rfl w7.heap.size rfl rfl (by omega) z8 ?_; intro v8 w8 ho hg hl; have D9 := Lib.hid (D8.out.app2 ho hg hl); clear ho hg hl)
          | fail)
        go_roundg gk
        case rel => exact ⟨k + 1, by omega, by go_num, by rw [rw_succ, rw_succ, rw_succ, E6.out, E7.out, ET.out]; exact D9.out⟩
        case measure => omega
    · obtain rfl : k = n := by omega
      have HD := Lib.hid hd
      clear hd
      obtain ⟨p0, p1, p2, p3⟩ := blk4 HD.out.bY
      go_wp2
      go_ret3
      exact ⟨_, _, _, rfl, own_mono HD.out.o0 (by omega), own_mono HD.out.o1 (by omega), own_mono HD.out.o2 (by omega), HD.out.bl⟩
end Go.Proofs.Ytojahddamdlcpaa.yr
