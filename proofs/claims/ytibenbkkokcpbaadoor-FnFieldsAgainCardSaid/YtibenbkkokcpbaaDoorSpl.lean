/- The contracts of both splitters. -/
import Derived.Test.YtibenbkkokcpbaaDoorRows
import Derived.WalkKit
import Derived.Outline
import Derived.Lib.Hide
import Derived.Deep.AppendLies
import Derived.Test.YtibenbkkokcpbaaDoorKit
import Derived.Test.YtibenbkkokcpbaaDoorSplL
namespace Go.Proofs.YtibenbkkokcpbaaDoor.spl
open Go.RowKit Go.Proofs.YtibenbkkokcpbaaDoor.kit Go.Proofs.YtibenbkkokcpbaaDoor.spll
theorem info : (Tryd.prog.info? 9).map (fun i => (i.zero, i.size, i.bytes)) = some (some (.string ⟨#[]⟩), 1, 16) := by kernel_rfl
def Ok (s : ByteArray) : Prop := s.size ≤ 600 ∧ spll.Good s s.size ∧ (fields s).length ≤ 24
/-- What a splitter leaves: the fields in a row of its own and true, or an empty row and false. -/
def Split (s : ByteArray) (w : World) (e : Ending) (w' : World) : Prop :=
  ∃ v, Below w.heap.size w w' ∧ ((Ok s ∧ e = .returned (.tuple #[v, .bool true]) ∧ w'.ownsRow w.heap.size 9 1 v (fields s).length ((fields s).map Value.string)) ∨
    (¬ Ok s ∧ e = .returned (.tuple #[v, .bool false]) ∧ w'.ownsRow w.heap.size 9 1 v 0 []))
set_option maxRecDepth 100000 in
set_option maxHeartbeats 1600000 in
theorem spec_split (s : ByteArray) (w : World) (hm : s.size ≤ maxLen) :
    Calls Tryd.prog 17 #[.string s] w (Split s w) := by
  obtain ⟨i0, hi, hz0, hz1, hz2⟩ := info_parts info
  unfold maxLen at hm
  by_cases hs : s.size ≤ 600
  · go_enter Tryd.func17, Tryd.ntmps17
    go_wp2
    go_loopw [4, 5, 6] (fun v b i wr => ∃ (m : Nat) (l : List ByteArray) (g : Nat), Hid (st s m = (l, g)) ∧ m ≤ s.size + 1 ∧ g ≤ m ∧ l.length ≤ m ∧ i = .int .i64 m ∧ b = .int .i64 g ∧ wr.ownsRow w.heap.size 9 1 v l.length (l.map Value.string) ∧ (∀ j, j < m → j < s.size → 32 ≤ by_ s j ∧ by_ s j ≤ 126) ∧ Below w.heap.size w wr)
      (fun _ _ i _ => s.size + 1 - (intOf i).toNat)
    case atStart => exact ⟨0, [], 0, rfl, Nat.zero_le _, Nat.le_refl _, Nat.le_refl _, rfl, rfl, World.ownsRow_made _ #[] 0 (Nat.le_refl _) (Nat.zero_le _) rfl, fun j hj => absurd hj (Nat.not_lt_zero j), (Below.refl _ _).alloc (Nat.le_refl _) _⟩
    case round =>
      obtain ⟨m, l, g, hst, hms, hgm, hlm, rfl, rfl, hown, hgood, hbel⟩ := hrel
      by_cases hlt : m < s.size
      · obtain ⟨c, hc⟩ : ∃ c, s[m].toNat = c := ⟨_, rfl⟩
        have hcb := Lib.hid ((by_at s m hlt).symm.trans hc)
        have hc256 : c < 256 := hc ▸ s[m].toNat_lt
        by_cases h32 : c < 32
        · go_wp2
          go_ret2
          exact ⟨_, hbel.alloc hbel.size _, .inr ⟨fun h => by have := h.2.1 m hlt; have := hcb.out; omega, rfl, World.ownsRow_made _ #[] 0 hbel.size (Nat.zero_le _) rfl⟩⟩
        · by_cases h126 : 126 < c
          · go_wp2
            go_ret2
            exact ⟨_, hbel.alloc hbel.size _, .inr ⟨fun h => by have := h.2.1 m hlt; have := hcb.out; omega, rfl, World.ownsRow_made _ #[] 0 hbel.size (Nat.zero_le _) rfl⟩⟩
          · have hgood1 : ∀ j, j < m + 1 → j < s.size → 32 ≤ by_ s j ∧ by_ s j ≤ 126 := fun j hj hjs => by
              rcases (show j < m ∨ j = m from by omega) with h | rfl
              · exact hgood j h hjs
              · have := hcb.out; omega
            by_cases hb : c = 32
            · subst hb
              by_cases hgl : g < m
              · have hst1 : Hid (st s (m + 1) = (l ++ [s.extract g m], m + 1)) := (st_end (by have := hcb.out; omega)).trans (by rw [hst.out]; simp only; rw [if_pos hgl])
                clear hst hgood
                go_wp2_with (at_builtin; refine wpList_append_own _ rfl _ _ 31 rfl w.heap.size 9 i0 (.string ⟨#[]⟩) 1 16 Tryd.underlying31 hi hz0 hz1 hz2 rfl (by decide) _ _ _ rfl (hown.alloc _) ⟨wr.heap.size, 0, none⟩ 1 1 [.string (s.extract g m)] rfl rfl (World.news_of_block (heap_alloc_new wr _)) (by simp [Value.oneCell']) (by unfold maxLen; omega) (by omega) (by have := hbel.size; simp; omega) ?_; intro v' w1 hown1 hgrow _)
                have hown2 : w1.ownsRow w.heap.size 9 1 v' (l ++ [s.extract g m]).length ((l ++ [s.extract g m]).map Value.string) := by simpa using hown1
                have hbel1 : Below w.heap.size w w1 := (hbel.alloc hbel.size _).grown hgrow (by have := hbel.size; simp; omega) (fun q hq => (hown.lt q hq).1)
                clear hgrow hown1 hown hbel
                go_wp2
                go_roundw
                case rel => exact ⟨m + 1, _, m + 1, hst1, by omega, by omega, by simp; omega, by go_num, by go_num, hown2, hgood1, hbel1⟩
                case measure => simp [intOf]; omega
              · have hst1 : Hid (st s (m + 1) = (l, m + 1)) := (st_end (by have := hcb.out; omega)).trans (by rw [hst.out]; simp only; rw [if_neg hgl])
                clear hst hgood
                go_wp2
                go_roundw
                case rel => exact ⟨m + 1, l, m + 1, hst1, by omega, by omega, by omega, by go_num, by go_num, hown, hgood1, hbel⟩
                case measure => simp [intOf]; omega
            · have hst1 : Hid (st s (m + 1) = (l, g)) := (st_go ⟨hlt, by have := hcb.out; omega⟩).trans hst.out
              clear hst hgood
              go_wp2
              go_roundw
              case rel => exact ⟨m + 1, l, g, hst1, by omega, by omega, by omega, by go_num, rfl, hown, hgood1, hbel⟩
              case measure => simp [intOf]; omega
      · by_cases hme : m ≤ s.size
        · have hgood1 : ∀ j, j < m + 1 → j < s.size → 32 ≤ by_ s j ∧ by_ s j ≤ 126 := fun j hj hjs => hgood j (by omega) hjs
          by_cases hgl : g < m
          · have hst1 : Hid (st s (m + 1) = (l ++ [s.extract g m], m + 1)) := (st_end (by omega)).trans (by rw [hst.out]; simp only; rw [if_pos hgl])
            clear hst hgood
            go_wp2_with (at_builtin; refine wpList_append_own _ rfl _ _ 31 rfl w.heap.size 9 i0 (.string ⟨#[]⟩) 1 16 Tryd.underlying31 hi hz0 hz1 hz2 rfl (by decide) _ _ _ rfl (hown.alloc _) ⟨wr.heap.size, 0, none⟩ 1 1 [.string (s.extract g m)] rfl rfl (World.news_of_block (heap_alloc_new wr _)) (by simp [Value.oneCell']) (by unfold maxLen; omega) (by omega) (by have := hbel.size; simp; omega) ?_; intro v' w1 hown1 hgrow _)
            have hown2 : w1.ownsRow w.heap.size 9 1 v' (l ++ [s.extract g m]).length ((l ++ [s.extract g m]).map Value.string) := by simpa using hown1
            have hbel1 : Below w.heap.size w w1 := (hbel.alloc hbel.size _).grown hgrow (by have := hbel.size; simp; omega) (fun q hq => (hown.lt q hq).1)
            clear hgrow hown1 hown hbel
            go_wp2
            go_roundw
            case rel => exact ⟨m + 1, _, m + 1, hst1, by omega, by omega, by simp; omega, by go_num, by go_num, hown2, hgood1, hbel1⟩
            case measure => simp [intOf]; omega
          · have hst1 : Hid (st s (m + 1) = (l, m + 1)) := (st_end (by omega)).trans (by rw [hst.out]; simp only; rw [if_neg hgl])
            clear hst hgood
            go_wp2
            go_roundw
            case rel => exact ⟨m + 1, l, m + 1, hst1, by omega, by omega, by omega, by go_num, by go_num, hown, hgood1, hbel⟩
            case measure => simp [intOf]; omega
        · have HF : Hid (fields s = l) := by
            have : m = s.size + 1 := by omega
            subst this
            show (st s (s.size + 1)).1 = l
            rw [hst.out]
          have hgd : spll.Good s s.size := fun j hj => hgood j (by omega) hj
          clear hst hgood
          obtain ⟨va, vc, rfl⟩ := own_shape hown
          by_cases h24 : l.length ≤ 24
          · go_wp2
            go_ret2
            exact ⟨_, hbel, .inl ⟨⟨hs, hgd, by rw [HF.out]; exact h24⟩, rfl, by rw [HF.out]; exact hown⟩⟩
          · go_wp2
            go_ret2
            exact ⟨_, hbel.alloc hbel.size _, .inr ⟨fun h => by have := h.2.2; rw [HF.out] at this; omega, rfl, World.ownsRow_made _ #[] 0 hbel.size (Nat.zero_le _) rfl⟩⟩
  · go_enter Tryd.func17, Tryd.ntmps17
    go_wp2
    go_ret2
    exact ⟨_, (Below.refl _ _).alloc (Nat.le_refl _) _, .inr ⟨fun h => hs h.1, rfl, World.ownsRow_made _ #[] 0 (Nat.le_refl _) (Nat.zero_le _) rfl⟩⟩
theorem vis_any (c : Nat) (w : World) :
    Calls Tryd.prog 31 #[.int .u8 (c : Int)] w fun e w' => e = .returned (.bool (decide (33 ≤ c ∧ c ≤ 126))) ∧ w = w' := by
  by_cases hv : 33 ≤ c ∧ c ≤ 126
  · have h1 := hv.1
    have h2 := hv.2
    go_enter Tryd.func31, Tryd.ntmps31
    go_wp2
    go_ret
    exact ⟨by rw [decide_eq_true hv]; first | rfl | (simp; omega), rfl⟩
  · by_cases h1 : 33 ≤ c
    · have h2 : 126 < c := by omega
      go_enter Tryd.func31, Tryd.ntmps31
      go_wp2
      go_ret
      exact ⟨by rw [decide_eq_false hv]; first | rfl | (simp; omega), rfl⟩
    · go_enter Tryd.func31, Tryd.ntmps31
      go_wp2
      go_ret
      exact ⟨by first | rfl | (rw [decide_eq_false hv]; rfl), rfl⟩
/-- fieldEnd: the first place from p on that is the line's end or holds no visible byte. -/
def EndAt (s : ByteArray) (p e : Nat) : Prop := p ≤ e ∧ e ≤ s.size ∧ (∀ j, p ≤ j → j < e → j < s.size ∧ 33 ≤ by_ s j ∧ by_ s j ≤ 126) ∧ ¬ (e < s.size ∧ 33 ≤ by_ s e ∧ by_ s e ≤ 126)
def FieldEnd (s : ByteArray) (p : Nat) (w : World) (e : Ending) (w' : World) : Prop := ∃ q : Nat, EndAt s p q ∧ e = .returned (.int .i64 q) ∧ w = w'
set_option maxRecDepth 100000 in
theorem end_any (s : ByteArray) (p : Nat) (w : World) (hs : s.size ≤ 600) (hp : p ≤ s.size) :
    Calls Tryd.prog 32 #[.string s, .int .i64 p] w (FieldEnd s p w) := by
  go_enter Tryd.func32, Tryd.ntmps32
  go_wp2
  go_loop [5] (fun i => ∃ q : Nat, p ≤ q ∧ q ≤ s.size ∧ i = .int .i64 q ∧ (∀ j, p ≤ j → j < q → j < s.size ∧ 33 ≤ by_ s j ∧ by_ s j ≤ 126)) (fun i => s.size - (intOf i).toNat)
  case atStart => exact ⟨p, Nat.le_refl _, hp, rfl, fun j h1 h2 => by omega⟩
  case round =>
    obtain ⟨q, hpq, hq, rfl, hall⟩ := hrel
    by_cases hlt : q < s.size
    · obtain ⟨c, hc⟩ : ∃ c, s[q].toNat = c := ⟨_, rfl⟩
      have hcb := Lib.hid ((by_at s q hlt).symm.trans hc)
      by_cases hv : 33 ≤ c ∧ c ≤ 126
      · have HD := Lib.hid (show decide (33 ≤ c ∧ c ≤ 126) = true by simpa using hv)
        go_wp2_with fail
        refine (vis_any _ _).mono ?_; rintro e w1 ⟨rfl, rfl⟩
        rw [HD.out]
        go_wp2
        go_round
        case rel => exact ⟨q + 1, by omega, by omega, by go_num, fun j h1 h2 => by
          rcases (show j < q ∨ j = q from by omega) with h | rfl
          · exact hall j h1 h
          · rw [hcb.out]; omega⟩
        case measure => simp [intOf]; omega
      · have HD := Lib.hid (show decide (33 ≤ c ∧ c ≤ 126) = false by simpa using hv)
        go_wp2_with fail
        refine (vis_any _ _).mono ?_; rintro e w1 ⟨rfl, rfl⟩
        rw [HD.out]
        go_wp2
        go_ret
        exact ⟨q, ⟨hpq, hq, hall, by rw [hcb.out]; omega⟩, rfl, rfl⟩
    · go_wp2
      go_ret
      exact ⟨q, ⟨hpq, hq, hall, by omega⟩, rfl, rfl⟩
set_option maxRecDepth 100000 in
set_option maxHeartbeats 1600000 in
theorem impl_split (s : ByteArray) (w : World) (hm : s.size ≤ maxLen) :
    Calls Tryd.prog 16 #[.string s] w (Split s w) := by
  obtain ⟨i0, hi, hz0, hz1, hz2⟩ := info_parts info
  unfold maxLen at hm
  by_cases hs : s.size ≤ 600
  · go_enter Tryd.func16, Tryd.ntmps16
    go_wp2
    refine wp_scope_straight ?_
    go_wp2
    go_step3
    go_wp2
    go_loopw [4, 5] (fun v i wr => ∃ (p : Nat) (l : List ByteArray), Hid (cl s p = l) ∧ p ≤ s.size ∧ spll.Edge s p ∧ l.length ≤ p ∧ i = .int .i64 p ∧ wr.ownsRow w.heap.size 9 1 v l.length (l.map Value.string) ∧ spll.Good s p ∧ Below w.heap.size w wr)
      (fun _ i _ => s.size - (intOf i).toNat)
    case atStart => exact ⟨0, [], rfl, Nat.zero_le _, .inl rfl, Nat.le_refl _, rfl, World.ownsRow_nil _ _ _ _, fun j hj => absurd hj (Nat.not_lt_zero j), Below.refl _ _⟩
    case round =>
      obtain ⟨p, l, hcl, hps, hE, hlp, rfl, hown, hgood, hbel⟩ := hrel
      by_cases hlt : p < s.size
      · obtain ⟨c, hc⟩ : ∃ c, s[p].toNat = c := ⟨_, rfl⟩
        have hcb := Lib.hid ((by_at s p hlt).symm.trans hc)
        by_cases hb : c = 32
        · subst hb
          have HC := cl_blank (s := s) (p := p) hcb.out
          have hcl1 : Hid (cl s (p + 1) = l) := HC.1.trans hcl.out
          have hgood1 := hgood.succ (m := p) (by rw [hcb.out]; omega) (by rw [hcb.out]; omega)
          have HE := HC.2
          clear HC hcl hE hgood
          go_wp2
          go_roundw
          case rel => exact ⟨p + 1, l, hcl1, by omega, HE, by omega, by go_num, hown, hgood1, hbel⟩
          case measure => simp [intOf]; omega
        · by_cases hv : 33 ≤ c ∧ c ≤ 126
          · have HD := Lib.hid (show decide (33 ≤ c ∧ c ≤ 126) = true by simpa using hv)
            go_wp2_with fail
            refine (vis_any _ _).mono ?_; rintro e w1 ⟨rfl, rfl⟩
            rw [HD.out]
            go_wp2_with fail
            refine (end_any s p _ hs hps).mono ?_; rintro e w1 ⟨q, ⟨q1, q2, q3, q4⟩, rfl, rfl⟩
            have hpq : p < q := by
              rcases (show p < q ∨ q = p from by omega) with h | rfl
              · exact h
              · exact absurd ⟨hlt, by rw [hcb.out]; exact hv⟩ q4
            have HC := cl_field hE hpq q3 q4
            have hcl1 : Hid (cl s q = l ++ [s.extract p q]) := HC.1.trans (by rw [hcl.out])
            have hgood1 := hgood.run q3
            have HE := HC.2
            clear HC hcl hE hgood q3 q4
            go_wp2_with (at_builtin; refine wpList_append_own _ rfl _ _ 31 rfl w.heap.size 9 i0 (.string ⟨#[]⟩) 1 16 Tryd.underlying31 hi hz0 hz1 hz2 rfl (by decide) _ _ _ rfl (hown.alloc _) ⟨wr.heap.size, 0, none⟩ 1 1 [.string (s.extract p q)] rfl rfl (World.news_of_block (heap_alloc_new wr _)) (by simp [Value.oneCell']) (by unfold maxLen; omega) (by omega) (by have := hbel.size; simp; omega) ?_; intro v' w1 hown1 hgrow _)
            have hown2 : w1.ownsRow w.heap.size 9 1 v' (l ++ [s.extract p q]).length ((l ++ [s.extract p q]).map Value.string) := by simpa using hown1
            have hbel1 : Below w.heap.size w w1 := (hbel.alloc hbel.size _).grown hgrow (by have := hbel.size; simp; omega) (fun q hq => (hown.lt q hq).1)
            clear hgrow hown1 hown hbel
            go_wp2
            go_roundw
            case rel => exact ⟨q, _, hcl1, q2, HE, by simp; omega, rfl, hown2, hgood1, hbel1⟩
            case measure => simp [intOf]; omega
          · have HD := Lib.hid (show decide (33 ≤ c ∧ c ≤ 126) = false by simpa using hv)
            go_wp2_with fail
            refine (vis_any _ _).mono ?_; rintro e w1 ⟨rfl, rfl⟩
            rw [HD.out]
            go_wp2
            rw [Exit.noGoto_ret]; go_ret2
            exact ⟨_, hbel, .inr ⟨fun h => by have := h.2.1 p hlt; have := hcb.out; omega, rfl, World.ownsRow_nil _ _ _ _⟩⟩
      · obtain ⟨va, vc, rfl⟩ := own_shape hown
        have HF : Hid (fields s = l) := by
          have : p = s.size := by omega
          subst this
          exact (cl_all s).symm.trans hcl.out
        have hgd : spll.Good s s.size := fun j hj => hgood j (by omega)
        clear hcl hgood hE
        by_cases h24 : l.length ≤ 24
        · go_wp2
          rw [Exit.noGoto_ret]; go_ret2
          exact ⟨_, hbel, .inl ⟨⟨hs, hgd, by rw [HF.out]; exact h24⟩, rfl, by rw [HF.out]; exact hown⟩⟩
        · go_wp2
          rw [Exit.noGoto_ret]; go_ret2
          exact ⟨_, hbel, .inr ⟨fun h => by have := h.2.2; rw [HF.out] at this; omega, rfl, World.ownsRow_nil _ _ _ _⟩⟩
  · go_enter Tryd.func16, Tryd.ntmps16
    go_wp2
    refine wp_scope_straight ?_
    go_wp2
    rw [Exit.noGoto_ret]; go_ret2
    exact ⟨_, Below.refl _ _, .inr ⟨fun h => hs h.1, rfl, World.ownsRow_nil _ _ _ _⟩⟩
end Go.Proofs.YtibenbkkokcpbaaDoor.spl
