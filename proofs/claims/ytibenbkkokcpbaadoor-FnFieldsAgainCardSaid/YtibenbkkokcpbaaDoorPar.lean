/- The contracts of both number readers. -/
import Derived.Test.YtibenbkkokcpbaaDoorFmt
import Derived.Shelf.Strconv.AtoiAll
import Derived.Lib.SmallJoins
namespace Go.Proofs.YtibenbkkokcpbaaDoor.par
open Go.RowKit Go.Proofs.YtibenbkkokcpbaaDoor.kit Go.Proofs.YtibenbkkokcpbaaDoor.numl Go.Proofs.YtibenbkkokcpbaaDoor.fmt
open Go.Lib (decFrom digitVal)
/-- A package-level error holds some error. -/
def Sent (n : String) (w : World) : Prop := ∃ tp p, w.var? Tryd.prog n = some #[.iface tp p]
/-- What a reader leaves: the number and true, or 0 and false. -/
def Read (s : ByteArray) (w : World) (e : Ending) (w' : World) : Prop :=
  Below w.heap.size w w' ∧ ((∃ m, Is s m ∧ e = .returned (.tuple #[.int .i64 (m : Int), .bool true])) ∨ ((∀ m, ¬ Is s m) ∧ e = .returned (.tuple #[.int .i64 0, .bool false])))
theorem is_unique {s : ByteArray} {m n : Nat} (h : Is s m) (hv : decFrom 0 s.data.toList = some n) : m = n := by
  have := h.val; rw [hv] at this; exact (Option.some.inj this).symm
theorem digit_some (c : UInt8) : (48 ≤ c.toNat ∧ c.toNat ≤ 57 → digitVal c = some (c.toNat - 48)) := fun h => by unfold digitVal; rw [if_pos h]
set_option maxRecDepth 100000 in
set_option maxHeartbeats 800000 in
theorem spec_par (s : ByteArray) (w : World) (hs : s.size ≤ 1048576) :
    Calls Tryd.prog 20 #[.string s] w (Read s w) := by
  by_cases h10 : s.size ≤ 10
  · go_enter Tryd.func20, Tryd.ntmps20
    go_wp2
    go_loop [4, 5] (fun t i => ∃ k n : Nat, k ≤ s.size ∧ n < 10 ^ k ∧ i = .int .i64 k ∧ t = .int .i64 n ∧ Hid (decFrom 0 (s.data.toList.take k) = some n)) (fun _ i => s.size - (intOf i).toNat)
    case atStart => exact ⟨0, 0, Nat.zero_le _, by decide, rfl, rfl, rfl⟩
    case round =>
      obtain ⟨k, n, hk, hn, rfl, rfl, hv⟩ := hrel
      have hn10 : n < 10000000000 := Nat.lt_of_lt_of_le hn (Nat.pow_le_pow_right (by decide) (show k ≤ 10 by omega))
      by_cases hlt : k < s.size
      · obtain ⟨c, hc⟩ : ∃ c, s[k].toNat = c := ⟨_, rfl⟩
        have hst := decFrom_step hv.out hlt
        have hmem : s[k] ∈ s.data.toList := by
          have : s[k] = s.data.toList[k]'(by simpa using hlt) := rfl
          rw [this]; exact List.getElem_mem _
        by_cases hd : 48 ≤ c ∧ c ≤ 57
        · have hst1 : Hid (decFrom 0 (s.data.toList.take (k + 1)) = some (n * 10 + (c - 48))) := by
            show _ = _
            rw [hst, digit_some _ (by rw [hc]; exact hd), hc]; rfl
          have hn1 : n * 10 + (c - 48) < 10 ^ (k + 1) := by rw [Nat.pow_succ]; omega
          have HN := Lib.hid hn1
          clear hst hv hn hn1 hmem
          obtain ⟨d1, d2⟩ := hd
          go_wp2
          go_round
          case rel => exact ⟨k + 1, n * 10 + (c - 48), by omega, HN.out, by go_num, by go_num, hst1⟩
          case measure => simp [intOf]; omega
        · have hno : ∀ m, ¬ Is s m := fun m h => by have := h.dig _ hmem; rw [hc] at this; exact hd this
          have HNO := Lib.hid hno
          clear hst hv hn hno hmem
          by_cases d1 : 48 ≤ c
          · have d2 : 57 < c := by omega
            go_wp2
            go_ret2
            exact ⟨Below.refl _ _, .inr ⟨HNO.out, rfl⟩⟩
          · go_wp2
            go_ret2
            exact ⟨Below.refl _ _, .inr ⟨HNO.out, rfl⟩⟩
      · have hve : Hid (decFrom 0 s.data.toList = some n) := by
          have := hv.out
          rw [List.take_of_length_le (by rw [← size_list]; omega)] at this
          exact this
        clear hv hn
        by_cases hmx : n ≤ 1000000000
        · by_cases hnum : num (n : Int) = s
          · have hq := beq_yes hnum
            have HI : Hid (Is s n) := ⟨hmx, hnum⟩
            clear hnum
            go_wp2_with fail
            refine (spec_fmt n (by omega) (by omega) _).mono ?_; rintro e w1 ⟨rfl, hg⟩
            go_wp2
            go_ret2
            exact ⟨below_grown hg (Nat.le_refl _) (by simp), .inl ⟨n, HI.out, rfl⟩⟩
          · have hq := beq_no hnum
            have HNO : Hid (∀ m, ¬ Is s m) := fun m h => hnum (by rw [← is_unique h hve.out]; exact h.2)
            clear hnum
            go_wp2_with fail
            refine (spec_fmt n (by omega) (by omega) _).mono ?_; rintro e w1 ⟨rfl, hg⟩
            go_wp2
            go_ret2
            exact ⟨below_grown hg (Nat.le_refl _) (by simp), .inr ⟨HNO.out, rfl⟩⟩
        · have HNO : Hid (∀ m, ¬ Is s m) := fun m h => by have := is_unique h hve.out; have := h.1; omega
          go_wp2
          go_ret2
          exact ⟨Below.refl _ _, .inr ⟨HNO.out, rfl⟩⟩
  · go_enter Tryd.func20, Tryd.ntmps20
    go_wp2
    go_ret2
    exact ⟨Below.refl _ _, .inr ⟨fun m h => by have := h.size; omega, rfl⟩⟩
theorem below_conv {w w' : World} {T : TypeId} (h : w' = w ∨ ∃ t, w' = Lib.bytesWorld w T t) : Below w.heap.size w w' := by
  rcases h with rfl | ⟨t, rfl⟩
  · exact Below.refl _ _
  · exact Joins.below_bytesWorld _ _ _ _ (Nat.le_refl _)
set_option maxHeartbeats 800000 in
theorem impl_par (s : ByteArray) (w : World) (hs : s.size ≤ 1048576) (ht : Tab w) (he1 : Sent "strconv.ErrSyntax" w) (he2 : Sent "strconv.ErrRange" w) :
    Calls Tryd.prog 14 #[.string s] w (Read s w) := by
  rcases hr : Lib.atoiAll s.data.toList with v | _ | _
  · by_cases hI : ∃ m, Is s m
    · obtain ⟨m, hI⟩ := hI
      have hv : v = (m : Int) := by have := hI.atoi; rw [hr] at this; cases this; rfl
      subst hv
      have hq := beq_yes hI.2
      have hmx : m ≤ 1000000000 := hI.1
      have HI := Lib.hid hI
      have HR := Lib.hid hr
      clear hI hr
      go_enter Tryd.func14, Tryd.ntmps14
      go_wp2_with fail
      refine (Tryd.strconv_Atoi_ok s (by omega) _ HR.out _).mono ?_; rintro e w1 ⟨rfl, hw⟩
      have hb1 := below_conv hw
      have ht1 := ht.keep hb1
      clear hw
      go_wp2_with fail
      refine (impl_fmt m (by omega) (by omega) _ ht1).mono ?_; rintro e w2 ⟨rfl, hg⟩
      have hb2 := hb1.trans (below_grown hg hb1.size (by simp))
      clear hb1 hg
      go_wp2
      go_ret2
      exact ⟨hb2, .inl ⟨m, HI.out, rfl⟩⟩
    · have HNO : Hid (∀ m, ¬ Is s m) := fun m h => hI ⟨m, h⟩
      have HR := Lib.hid hr
      clear hr
      by_cases h0 : v < 0
      · clear hI
        go_enter Tryd.func14, Tryd.ntmps14
        go_wp2_with fail
        refine (Tryd.strconv_Atoi_ok s (by omega) _ HR.out _).mono ?_; rintro e w1 ⟨rfl, hw⟩
        have hb1 := below_conv hw
        clear hw
        go_wp2
        go_ret2
        exact ⟨hb1, .inr ⟨HNO.out, rfl⟩⟩
      · by_cases hmx : v ≤ 1000000000
        · obtain ⟨m, rfl⟩ := Int.eq_ofNat_of_zero_le (show 0 ≤ v by omega)
          have hq := beq_no (a := num (m : Int)) (b := s) (fun e => hI ⟨m, by omega, e⟩)
          clear hI
          go_enter Tryd.func14, Tryd.ntmps14
          go_wp2_with fail
          refine (Tryd.strconv_Atoi_ok s (by omega) _ HR.out _).mono ?_; rintro e w1 ⟨rfl, hw⟩
          have hb1 := below_conv hw
          have ht1 := ht.keep hb1
          clear hw
          go_wp2_with fail
          refine (impl_fmt m (by omega) (by omega) _ ht1).mono ?_; rintro e w2 ⟨rfl, hg⟩
          have hb2 := hb1.trans (below_grown hg hb1.size (by simp))
          clear hb1 hg
          go_wp2
          go_ret2
          exact ⟨hb2, .inr ⟨HNO.out, rfl⟩⟩
        · clear hI
          go_enter Tryd.func14, Tryd.ntmps14
          go_wp2_with fail
          refine (Tryd.strconv_Atoi_ok s (by omega) _ HR.out _).mono ?_; rintro e w1 ⟨rfl, hw⟩
          have hb1 := below_conv hw
          clear hw
          go_wp2
          go_ret2
          exact ⟨hb1, .inr ⟨HNO.out, rfl⟩⟩
  · obtain ⟨tp, p, hv⟩ := he1
    have HNO : Hid (∀ m, ¬ Is s m) := fun m h => by have := h.atoi; rw [hr] at this; cases this
    have HR := Lib.hid hr
    have HV := Lib.hid hv
    clear hr hv
    go_enter Tryd.func14, Tryd.ntmps14
    go_wp2_with fail
    refine (Any.strconv_Atoi_syntax_var Tryd.laysC172 s (by omega) HR.out tp p _ HV.out).mono ?_; rintro e w1 ⟨N, rfl, _, _, hb1⟩
    go_wp2
    go_ret2
    exact ⟨hb1, .inr ⟨HNO.out, rfl⟩⟩
  · obtain ⟨tp, p, hv⟩ := he2
    have HNO : Hid (∀ m, ¬ Is s m) := fun m h => by have := h.atoi; rw [hr] at this; cases this
    have HR := Lib.hid hr
    have HV := Lib.hid hv
    clear hr hv
    go_enter Tryd.func14, Tryd.ntmps14
    go_wp2_with fail
    refine (Any.strconv_Atoi_range_var Tryd.laysC172 s (by omega) HR.out tp p _ HV.out).mono ?_; rintro e w1 ⟨N, rfl, _, _, hb1⟩
    go_wp2
    go_ret2
    exact ⟨hb1, .inr ⟨HNO.out, rfl⟩⟩
end Go.Proofs.YtibenbkkokcpbaaDoor.par
