/- The program's daysOf: the days of a year, in a channel. -/
import Derived.Test.YtojahddamdlcpaaYr
namespace Go.Proofs.Ytojahddamdlcpaa.yr
open Go.RowKit Go.Proofs.Ytojahddamdlcpaa.kit Go.Proofs.Ytojahddamdlcpaa.lawi Go.Proofs.Ytojahddamdlcpaa.rainl Go.Proofs.Ytojahddamdlcpaa.rain Go.Proofs.Ytojahddamdlcpaa.cis Go.Proofs.Ytojahddamdlcpaa.chl Go.Proofs.Ytojahddamdlcpaa.yrl Go.Proofs.Ytojahddamdlcpaa.chan
abbrev TW : TypeId := 71
abbrev TC2 : TypeId := 66
abbrev Dy (k o t l : Int) : Value := .agg #[.int .i64 k, .int .i64 o, .int .i64 t, .int .i64 l]
theorem infoW : (Try.prog.info? TW).map (fun i => (i.zero, i.size, i.bytes)) = some (some (Dy 0 0 0 0), 4, 32) := by kernel_rfl
/-- Day k. -/
def dv (r s d : Int) (cs : List Int) (k : Nat) : Value := Dy k (ov r d s cs k) (tk r d s cs k) (lv r d s cs (k + 1))
/-- The days from j on, of n. -/
def dvs (r s d : Int) (cs : List Int) (n : Nat) : List Value := (List.range n).map (dv r s d cs)
theorem dvs_succ (r s d : Int) (cs : List Int) (n : Nat) : dvs r s d cs (n + 1) = dvs r s d cs n ++ [dv r s d cs n] := by simp [dvs, List.range_succ]
theorem dvs_len (r s d : Int) (cs : List Int) (n : Nat) : (dvs r s d cs n).length = n := by simp [dvs]
theorem dvs_drop (r s d : Int) (cs : List Int) {n j : Nat} (h : j < n) : (dvs r s d cs n).drop j = dv r s d cs j :: (dvs r s d cs n).drop (j + 1) := by
  rw [List.drop_eq_getElem_cons (by rw [dvs_len]; exact h)]
  simp [dvs]
/-- While the days are reckoned: the year's own box, the cistern's, the channel. -/
structure DW (w wr : World) (gC : Nat) (r s d : Int) (v : Value) (n : Nat) (cs : List Int) (k : Nat) (L : Int) : Prop where
  bY : Blk wr w.heap.size TY #[.int .i64 r, .int .i64 s, v, .int .i64 d]
  bC : Blk wr gC TC2 #[.int .i64 r, .int .i64 L]
  ch : Chn wr (w.heap.size + 1) n (dvs r s d cs k) false
  bl : Below w.heap.size w wr
  lC : w.heap.size + 2 ≤ gC
section
variable {w wr wr' : World} {gC : Nat} {r s d : Int} {v : Value} {n : Nat} {cs : List Int} {k : Nat} {L : Int}
theorem DW.keep (h : DW w wr gC r s d v n cs k L) (hb : Below wr.heap.size wr wr') : DW w wr' gC r s d v n cs k L :=
  ⟨h.bY.step hb, h.bC.step hb, h.ch.step hb, below_step h.bl hb, h.lC⟩
theorem DW.setC (h : DW w wr gC r s d v n cs k L) (L' : Int) : DW w ((wr.setCell ⟨gC, 0, none⟩ (.int .i64 r)).setCell ⟨gC, 1, none⟩ (.int .i64 L')) gC r s d v n cs k L' :=
  have hC := h.lC
  have nY (j : Nat) : w.heap.size ≠ (Addr.mk gC j none).block := by show w.heap.size ≠ gC; omega
  have nc (j : Nat) : w.heap.size + 1 ≠ (Addr.mk gC j none).block := by show w.heap.size + 1 ≠ gC; omega
  ⟨(h.bY.far (nY 0) _).far (nY 1) _, (h.bC.set_ 0 _).set_ 1 _, (h.ch.far (nc 0) _).far (nc 1) _, (h.bl.setCell (by show w.heap.size ≤ gC; omega) _).setCell (by show w.heap.size ≤ gC; omega) _, hC⟩
theorem DW.setD (h : DW w wr gC r s d v n cs k L) {g : Nat} (hg : gC < g) (j : Nat) (u : Value) : DW w (wr.setCell ⟨g, j, none⟩ u) gC r s d v n cs k L :=
  have hC := h.lC
  ⟨h.bY.far (by show w.heap.size ≠ g; omega) _, h.bC.far (by show gC ≠ g; omega) _, h.ch.far (by show w.heap.size + 1 ≠ g; omega) _, h.bl.setCell (by show w.heap.size ≤ g; omega) _, hC⟩
theorem DW.sent (h : DW w wr gC r s d v n cs k L) (hc : Chn wr' (w.heap.size + 1) n (dvs r s d cs (k + 1)) false) (hg : wr.grownBy wr' (some (w.heap.size + 1))) : DW w wr' gC r s d v n cs (k + 1) L :=
  have hC := h.lC
  ⟨h.bY.grown hg (by simp), h.bC.grown hg (by simp; omega), hc, h.bl.grown hg h.bl.size (by rintro k ⟨⟩; omega), hC⟩
end
def GotDays (w : World) (n : Nat) (L : List Value) (e : Ending) (w' : World) : Prop := ∃ c, e = .returned (.chan (some c)) ∧ w.heap.size ≤ c ∧ Chn w' c n L true ∧ Below w.heap.size w w'
set_option maxHeartbeats 1000000 in
theorem impl_days (w : World) (v : Value) (n : Nat) (cs : List Int) (r s d : Int) (hr : Row 1 w v n (IV cs)) (ok : YOk r s d n cs) : Calls Try.prog 81 #[Yv r s v d] w (GotDays w n (dvs r s d cs n)) := by
  obtain ⟨a, ca, rfl⟩ := hr.shape
  have hl : cs.length = n := by simpa using hr.1
  have hn : n ≤ 400 := ok.2.2.1.2
  obtain ⟨inf, hi, _, _, hib⟩ := info_parts infoW
  have mk : ∀ W : World, (Instr.makeChan 75 (.int .i64 n)).run Try.prog W = .ok (.chan (some W.heap.size)) (W.alloc (.chan n #[] false 0 0 false)) := fun W =>
    Go.Conc.run_makeChan Try.underlying75 hi .i64 n (by omega) (by rw [hib]; omega)
  have B0 : Below w.heap.size w ((w.alloc (.cells #[.int .i64 r, .int .i64 s, .slice a n ca, .int .i64 d] TY)).alloc (.chan n #[] false 0 0 false)) := below_al (below_al (Below.refl _ _) _) _
  have HR := Lib.hid hr
  have HB := Lib.hid B0
  have HX := Lib.hid ((Blk.new w TY #[.int .i64 r, .int .i64 s, .slice a n ca, .int .i64 d]).alloc (.chan n #[] false 0 0 false))
  have HC := Lib.hid (Chn.new (w.alloc (.cells #[.int .i64 r, .int .i64 s, .slice a n ca, .int .i64 d] TY)) n)
  have OK := Lib.hid ok
  clear ok hr B0 hi hib
  go_enter Try.func81, Try.ntmps81
  rw [cr 10]
  go_wp2_with fail
  refine (impl_cist _ r s d a n ca).mono ?_; rintro e w1 ⟨rfl, hb⟩
  clear mk
  replace HX := Lib.hid (HX.out.step hb)
  replace HC := Lib.hid (HC.out.step hb)
  replace HB := Lib.hid (below_step HB.out hb)
  have z1 : w.heap.size + 2 ≤ w1.heap.size := by have := hb.size; simpa using this
  have z0 : (w.alloc (.cells #[.int .i64 r, .int .i64 s, .slice a n ca, .int .i64 d] TY)).heap.size = w.heap.size + 1 := by simp
  rw [z0] at HC
  clear hb z0
  have D0 : DW w (w1.alloc (.cells #[.int .i64 r, .int .i64 s] TC2)) w1.heap.size r s d (.slice a n ca) n cs 0 (lv r d s cs 0) :=
    have hb := below_al (Below.refl _ _) _
    ⟨HX.out.step hb, Blk.new _ _ _, HC.out.step hb, below_step HB.out hb, z1⟩
  obtain ⟨p0, p1, p2, p3⟩ := blk4 D0.bY
  have HD := Lib.hid D0
  clear HX HC HB D0
  go_wp2
  clear p0 p1 p2 p3
  go_loopw [17] (fun i wr => ∃ k : Nat, k ≤ n ∧ i = .int .i64 k ∧ DW w wr w1.heap.size r s d (.slice a n ca) n cs k (lv r d s cs k)) (fun i _ => n - (intOf i).toNat)
  case atStart => exact ⟨0, Nat.zero_le _, by simp, HD.out⟩
  case round =>
    clear HD
    obtain ⟨k, hk, rfl, hd⟩ := hrel
    by_cases hlt : k < n
    · obtain ⟨L, hL⟩ : ∃ L, lv r d s cs k = L := ⟨_, rfl⟩
      obtain ⟨b1, o1, rfl, h1⟩ := (HR.out.keep hd.bl).at_ (by omega)
      obtain ⟨z, hz⟩ : ∃ z, cs.getD k 0 = z := ⟨_, rfl⟩
      have g1 := h1 k _ (getI (by omega))
      rw [hz] at g1
      have e1 := lv_bd OK.out k hk
      have e2 := pr_bd OK.out hlt
      have e3 := tk_bd OK.out hlt
      have e4 := OK.out.2.2.2.2 k hlt
      obtain ⟨P, hP⟩ : ∃ P, pr r d s cs k = P := ⟨_, rfl⟩
      obtain ⟨T, hT⟩ : ∃ T, tk r d s cs k = T := ⟨_, rfl⟩
      have e6 : lv r d s cs (k + 1) = L + P - T := by rw [lv_succ, hL, hP, hT]
      have e5 : dv r s d cs k = Dy k (z - P) T (L + P - T) := by rw [dv, ov, e6, hz, hP, hT]
      rw [hP, hL, hz] at e2
      rw [hT, hP, hL] at e3
      rw [hL] at e1 hd
      rw [hz] at e4
      have hpour := fun W => impl_pour_yes W r L z P ⟨OK.out.1.1, OK.out.1.2, e1.1, e1.2⟩ ⟨e4.1, by omega⟩ e2.2.2.2
      have htake := fun W => impl_takeout_yes W r (L + P) d T ⟨OK.out.1.1, OK.out.1.2, by omega, e2.2.2.1⟩ OK.out.2.2.2.1 e3.2.2.2
      have E5 := Lib.hid e5
      have E6 := Lib.hid e6
      have HP := Lib.hid hpour
      have HT := Lib.hid htake
      have HD := Lib.hid hd
      have gne : ¬ w1.heap.size = wr.heap.size := by have := hd.bC.lt; omega
      have gne' : ¬ wr.heap.size = w1.heap.size := by omega
      have glt : w1.heap.size < wr.heap.size := hd.bC.lt
      clear h1 e1 e2 e3 e4 e5 e6 hpour htake hd hL hP hT hz
      obtain ⟨p0, p1, p2, p3⟩ := blk4 HD.out.bY
      obtain ⟨q0, q1, _⟩ := blk2 HD.out.bC
      go_wp2_with fail
      clear g1 p0 p1 p2 p3 q0 q1
      have D1 := HD.out.keep (wr' := wr.alloc (.cells #[.int .i64 k, .int .i64 0, .int .i64 0, .int .i64 0] TW)) (below_al (Below.refl _ _) _)
      have X1 := Blk.new wr TW #[.int .i64 k, .int .i64 0, .int .i64 0, .int .i64 0]
      refine (HP.out _).mono ?_; rintro e w2 ⟨rfl, hb⟩
      have D2 := D1.keep hb
      have X2 := X1.step hb
      clear hb D1 X1 HD HP
      obtain ⟨p0, p1, p2, p3⟩ := blk4 D2.bY
      obtain ⟨q0, q1, q2, q3⟩ := blk2 D2.bC
      have x1 : w2.cell? ⟨wr.heap.size, 1, none⟩ = some (.int .i64 0) := X2.cell 1
      have f1 : w2.frozen? ⟨wr.heap.size, 1, none⟩ = false := X2.frozen 1
      have HD := Lib.hid ((D2.setC (L + P)).setD glt 1 (.int .i64 (z - P)))
      have HX := Lib.hid (((X2.far (p := ⟨w1.heap.size, 0, none⟩) gne' (.int .i64 r)).far (p := ⟨w1.heap.size, 1, none⟩) gne' (.int .i64 (L + P))).set_ 1 (.int .i64 (z - P)))
      have hnY : ¬ w.heap.size = w1.heap.size := by have := D2.lC; omega
      have hnD : ¬ w.heap.size = wr.heap.size := by have := D2.lC; omega
      clear D2 X2
      go_wp2_with fail
      clear p0 p1 p2 p3 q0 q1 q2 q3 x1 f1
      refine (HT.out _).mono ?_; rintro e w4 ⟨rfl, hb⟩
      have D4 := HD.out.keep hb
      have X4 := HX.out.step hb
      clear hb HD HX HT
      obtain ⟨q0, q1, q2, q3⟩ := blk2 D4.bC
      have x1 : w4.cell? ⟨wr.heap.size, 2, none⟩ = some (.int .i64 0) := X4.cell 2
      have f1 : w4.frozen? ⟨wr.heap.size, 2, none⟩ = false := X4.frozen 2
      have x2 : w4.cell? ⟨wr.heap.size, 3, none⟩ = some (.int .i64 0) := X4.cell 3
      have f2 : w4.frozen? ⟨wr.heap.size, 3, none⟩ = false := X4.frozen 3
      have HD := Lib.hid (((D4.setC (L + P - T)).setD glt 2 (.int .i64 T)).setD glt 3 (.int .i64 (L + P - T)))
      have HX := Lib.hid ((((X4.far (p := ⟨w1.heap.size, 0, none⟩) gne' (.int .i64 r)).far (p := ⟨w1.heap.size, 1, none⟩) gne' (.int .i64 (L + P - T))).set_ 2 (.int .i64 T)).set_ 3 (.int .i64 (L + P - T)))
      clear D4 X4
      go_wp2
      clear q0 q1 q2 q3 x1 f1 x2 f2
      have X5 := HX.out
      obtain ⟨x0, x1, x2, x3⟩ := blk4 X5
      refine wp_send (Dy k (z - P) T (L + P - T)) rfl rfl rfl rfl (by go_simp) rfl rfl rfl rfl HD.out.ch (by rw [dvs_len]; exact hlt) fun w6 hc hg => ?_
      rw [← E5.out, ← dvs_succ] at hc
      have D6 := HD.out.sent hc hg
      rw [← E6.out] at D6
      clear HX X5 x0 x1 x2 x3 HD hc hg
      (try simp only [Act.put, List.setIfInBounds_toArray, List.set_cons_zero, List.set_cons_succ])
      go_wp2
      go_roundw
      case rel => exact ⟨k + 1, by omega, by go_num, D6⟩
      case measure => simp [intOf]; omega
    · obtain rfl : k = n := by omega
      obtain ⟨w5, hcl, hc5, hg5⟩ := hd.ch.close (P := Try.prog)
      have hb5 : Below w.heap.size w w5 := hd.bl.grown hg5 hd.bl.size (by rintro j ⟨⟩; omega)
      clear hd hg5
      go_wp2
      go_ret
      exact ⟨_, rfl, by omega, hc5, hb5⟩
end Go.Proofs.Ytojahddamdlcpaa.yr
