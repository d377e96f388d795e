/- Fractions: the specification's FractionText. -/
import Derived.Test.YtiglbofbacecpaaDoorFrcS
import Derived.Test.YtiglbofbacecpaaDoorFmt
import Derived.Test.YtiglbofbacecpaaDoorLater
import Derived.Test.YtiglbofbacecpaaDoorLex
namespace Go.Proofs.YtiglbofbacecpaaDoor.frc
open Go.RowKit Go.Proofs.YtiglbofbacecpaaDoor.kit Go.Proofs.YtiglbofbacecpaaDoor.lawi Go.Proofs.YtiglbofbacecpaaDoor.own Go.Proofs.YtiglbofbacecpaaDoor.rain Go.Proofs.YtiglbofbacecpaaDoor.stFraction Go.Proofs.YtiglbofbacecpaaDoor.later Go.Proofs.YtiglbofbacecpaaDoor.numl Go.Proofs.YtiglbofbacecpaaDoor.fmt
/-- The text of a fraction. -/
def tx (t b : Int) : ByteArray := if b = 1 then num t else num t ++ ⟨#[47]⟩ ++ num b
def Tx (t b : Int) (s : ByteArray) : Prop := (Fk t b → s = tx t b) ∧ (¬ Fk t b → s = ⟨#[]⟩)
theorem Tx.ex (t b : Int) : ∃ s, Tx t b s := by
  by_cases h : Fk t b
  · exact ⟨_, fun _ => rfl, fun g => absurd h g⟩
  · exact ⟨_, fun g => absurd g h, fun _ => rfl⟩
theorem num_size {n : Int} (h0 : 0 ≤ n) (h1 : n ≤ 10000) : (num n).size ≤ 10 ∧ 1 ≤ (num n).size := by
  obtain ⟨m, rfl⟩ : ∃ m : Nat, n = m := ⟨n.toNat, by omega⟩
  rw [size_list, num_list]
  exact digits_len (by omega)
theorem sum_ok {P : Program} {a b : ByteArray} (h : a.size + b.size ≤ 1000000) : ∀ W : World, (Op.stringOp .add a b).run P W = .ok (.string (a ++ b)) W := fun W => run_string_add_sum _ _ _ (by omega)
theorem spec_num (n : Int) (h0 : 0 ≤ n) (h1 : n ≤ 10000) (w : World) : Calls Tryd.prog 29 #[.int .i64 n] w (Gives w (.string (num n))) :=
  (spec_fmt n (by omega) (by omega) w).mono fun _ _ ⟨h, hg⟩ => ⟨h, below_grown hg (Nat.le_refl _) (by simp)⟩
theorem impl_num (n : Int) (h0 : 0 ≤ n) (h1 : n ≤ 10000) (w : World) (ht : Tab w) : Calls Tryd.prog 27 #[.int .i64 n] w (Gives w (.string (num n))) :=
  (impl_fmt n (by omega) (by omega) w ht).mono fun _ _ ⟨h, hg⟩ => ⟨h, below_grown hg (Nat.le_refl _) (by simp)⟩
set_option maxHeartbeats 1000000 in
theorem spec_tx (w : World) (t b : Int) (s : ByteArray) (h : Tx t b s) : Calls Tryd.prog 16 #[R t b] w (Gives w (.string s)) := by
  obtain ⟨w0, hw0⟩ : ∃ w0, w.alloc (.cells #[.int .i64 t, .int .i64 b] TF) = w0 := ⟨_, rfl⟩
  have HB : Hid (Below w.heap.size w w0) := Lib.hid (hw0 ▸ below_al (Below.refl _ _) _)
  have XA : Hid (Blk w0 w.heap.size TF #[.int .i64 t, .int .i64 b]) := Lib.hid (hw0 ▸ Blk.new w TF #[.int .i64 t, .int .i64 b])
  obtain ⟨a0, a1, _⟩ := fcell XA.out
  by_cases ha : Fk t b
  · have HA := Lib.hid ha
    have hs := h.1 ha
    obtain ⟨⟨A1, A2⟩, ⟨A3, A4⟩, _⟩ := ha
    have HS := Lib.hid hs
    clear h hs
    go_enter Tryd.func16, Tryd.ntmps16
    go_wp2_with fail
    refine (spec_fok _ _ _ true ⟨fun _ => HA.out, fun _ => rfl⟩).mono ?_; rintro e w1 ⟨rfl, hb1⟩
    have L1 := Lib.hid hb1
    obtain ⟨a0, a1, _⟩ := fcell (XA.out.step hb1)
    clear hb1 hw0
    by_cases h1 : b = 1
    · subst h1
      have hs : s = num t := by rw [HS.out]; unfold tx; rw [if_pos rfl]
      clear HS
      go_wp2_with fail
      refine (spec_num t A3 A4 _).mono ?_; rintro e w2 ⟨rfl, hb2⟩
      have L2 := Lib.hid (below_step L1.out hb2)
      subst hs
      clear hb2 a0 a1
      go_wp2
      go_ret
      exact ⟨rfl, HB.out.trans (L2.out.mono HB.out.size)⟩
    · have hs : s = num t ++ ⟨#[47]⟩ ++ num b := by rw [HS.out]; unfold tx; rw [if_neg h1]
      clear HS
      have e1 : (b == 1) = false := beq_eq_false_iff_ne.2 h1
      obtain ⟨s1, s2⟩ := num_size A3 A4
      obtain ⟨s3, s4⟩ := num_size (n := b) (by omega) A2
      have hz : (num t ++ ⟨#[47]⟩).size = (num t).size + 1 := ByteArray.size_append
      have hadd1 := sum_ok (P := Tryd.prog) (a := num t) (b := ⟨#[47]⟩) (by show _ + 1 ≤ _; omega)
      have hadd2 := sum_ok (P := Tryd.prog) (a := num t ++ ⟨#[47]⟩) (b := num b) (by rw [hz]; omega)
      have Lp0 := later.cell a0
      have Lp1 := later.cell a1
      subst hs
      clear s1 s2 s3 s4 hz
      go_wp2_with fail
      (try simp only [List.append])
      refine later.region (by kernel_rfl) (lex.lexB_of (by kernel_rfl) (lex.all_whole (by kernel_rfl))) ?_
      repeat (go_big_quiet_step ((first
        | (go_at_call 29; exact later.calls _ (spec_num _ (by omega) (by omega) _))
        | fail)))
      refine wpQuiet_nil ?_
      intro _ hw'
      obtain ⟨g, rfl⟩ := hw'
      go_wp2
      go_ret
      exact ⟨rfl, HB.out.trans ((below_step L1.out g.h).mono HB.out.size)⟩
  · have HA := Lib.hid ha
    obtain rfl := h.2 ha
    clear h ha
    go_enter Tryd.func16, Tryd.ntmps16
    go_wp2_with fail
    refine (spec_fok _ _ _ false ⟨fun h => (by cases h), fun h => absurd h HA.out⟩).mono ?_; rintro e w1 ⟨rfl, hb1⟩
    have L1 := Lib.hid hb1
    clear hb1 hw0 a0 a1
    go_wp2
    go_ret
    exact ⟨rfl, HB.out.trans (L1.out.mono HB.out.size)⟩
end Go.Proofs.YtiglbofbacecpaaDoor.frc
