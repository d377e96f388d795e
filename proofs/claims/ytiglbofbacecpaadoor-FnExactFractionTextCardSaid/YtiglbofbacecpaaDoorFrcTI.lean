/- Fractions: the program's FractionText. -/
import Derived.Test.YtiglbofbacecpaaDoorFrcT
import Derived.Test.YtiglbofbacecpaaDoorFrcI
namespace Go.Proofs.YtiglbofbacecpaaDoor.frc
open Go.RowKit Go.Proofs.YtiglbofbacecpaaDoor.kit Go.Proofs.YtiglbofbacecpaaDoor.lawi Go.Proofs.YtiglbofbacecpaaDoor.own Go.Proofs.YtiglbofbacecpaaDoor.rain Go.Proofs.YtiglbofbacecpaaDoor.stFraction Go.Proofs.YtiglbofbacecpaaDoor.later Go.Proofs.YtiglbofbacecpaaDoor.numl Go.Proofs.YtiglbofbacecpaaDoor.fmt
set_option maxHeartbeats 1000000 in
theorem impl_tx (w : World) (ht : Tab w) (t b : Int) (s : ByteArray) (h : Tx t b s) : Calls Tryd.prog 13 #[R t b] w (Gives w (.string s)) := by
  obtain ⟨w0, hw0⟩ : ∃ w0, w.alloc (.cells #[.int .i64 t, .int .i64 b] TF) = w0 := ⟨_, rfl⟩
  have HB : Hid (Below w.heap.size w w0) := Lib.hid (hw0 ▸ below_al (Below.refl _ _) _)
  obtain ⟨a0, a1, _⟩ := fcell (hw0 ▸ Blk.new w TF #[.int .i64 t, .int .i64 b] : Blk w0 w.heap.size TF #[.int .i64 t, .int .i64 b])
  obtain ⟨x, y, r, V⟩ := Av.ex t b
  have HV := Lib.hid V
  have HT := Lib.hid ht
  clear V ht
  go_enter Tryd.func13, Tryd.ntmps13
  go_upto_region 1 with fail
  go_cut [3, 4] (fun s1 s2 wx => Made w0 x y s1 wx ∧ s2 = .bool r)
  case first =>
    go_wp2_with fail
    refine (impl_av _ _ _ _ _ _ HV.out).mono ?_; rintro e w1 ⟨rfl, hb1⟩
    go_wp2_with fail
    go_meet
    refine ⟨⟨_, rfl, ?_, ?_, ?_⟩, rfl⟩
    · go_simp
      exact below_step hb1 (below_al (Below.refl _ _) _)
    · go_simp
    · go_simp
  case rest =>
    obtain ⟨⟨g, rfl, B1, c0, c1⟩, rfl⟩ := hcut
    have L1 := Lib.hid (HB.out.trans (B1.mono HB.out.size))
    have T1 := Lib.hid (HT.out.keep L1.out)
    clear B1 a0 a1 hw0 HT
    by_cases ha : Fk t b
    · obtain ⟨rfl, rfl, rfl⟩ := HV.out.1 ha
      have hs := h.1 ha
      obtain ⟨⟨A1, A2⟩, ⟨A3, A4⟩, _⟩ := ha
      have HS := Lib.hid hs
      clear h hs HV
      by_cases h1 : y = 1
      · subst h1
        have hs : s = num x := by rw [HS.out]; unfold tx; rw [if_pos rfl]
        clear HS
        go_wp2_with fail
        refine (impl_num x A3 A4 _ T1.out).mono ?_; rintro e w2 ⟨rfl, hb2⟩
        have L2 := Lib.hid (below_step L1.out hb2)
        subst hs
        clear hb2 c0 c1
        go_wp2
        go_ret
        exact ⟨rfl, L2.out⟩
      · have hs : s = num x ++ ⟨#[47]⟩ ++ num y := by rw [HS.out]; unfold tx; rw [if_neg h1]
        clear HS
        have e1 : (y == 1) = false := beq_eq_false_iff_ne.2 h1
        obtain ⟨s1, s2⟩ := num_size A3 A4
        obtain ⟨s3, s4⟩ := num_size (n := y) (by omega) A2
        have hz : (num x ++ ⟨#[47]⟩).size = (num x).size + 1 := ByteArray.size_append
        have hadd1 := sum_ok (P := Tryd.prog) (a := num x) (b := ⟨#[47]⟩) (by show _ + 1 ≤ _; omega)
        have hadd2 := sum_ok (P := Tryd.prog) (a := num x ++ ⟨#[47]⟩) (b := num y) (by rw [hz]; omega)
        have Lp0 := later.cell c0
        have Lp1 := later.cell c1
        have LT := Lib.hid (fun g : Later _ => T1.out.keep g.h)
        subst hs
        clear s1 s2 s3 s4 hz
        go_wp2_with fail
        (try simp only [List.append])
        refine later.region (by kernel_rfl) (lex.lexB_of (by kernel_rfl) (lex.all_whole (by kernel_rfl))) ?_
        repeat (go_big_quiet_step ((first
          | (go_at_call 27; exact later.calls _ (impl_num _ (by omega) (by omega) _ (LT.out _)))
          | fail)))
        refine wpQuiet_nil ?_
        intro _ hw'
        obtain ⟨g, rfl⟩ := hw'
        go_wp2
        go_ret
        exact ⟨rfl, L1.out.trans (g.h.mono L1.out.size)⟩
    · obtain rfl := h.2 ha
      obtain ⟨rfl, rfl, rfl⟩ := HV.out.2 ha
      clear h ha c0 c1
      go_wp2
      go_ret
      exact ⟨rfl, L1.out⟩
end Go.Proofs.YtiglbofbacecpaaDoor.frc
