/- The contracts of both decoders. -/
import Derived.Test.YtibenbkkokcpbaaRows
import Derived.WalkKit
import Derived.Outline
import Derived.Deep.AppendLies
import Derived.Test.YtibenbkkokcpbaaShelf
import Derived.Lib.Hide
import Derived.Test.YtibenbkkokcpbaaKit
import Derived.Test.YtibenbkkokcpbaaDecL
import Derived.Test.YtibenbkkokcpbaaDecI
namespace Go.Proofs.Ytibenbkkokcpbaa.dec
open Go.RowKit Go.Proofs.Ytibenbkkokcpbaa.kit Go.Proofs.Ytibenbkkokcpbaa.decl
theorem val_any (c x : Int) (h0 : 0 ≤ c) (h1 : c < 256) (hx : val c = x) (w : World) :
    Calls Try.prog 26 #[.int .u8 c] w fun e w' => e = .returned (.int .i64 x) ∧ w = w' := by
  subst hx
  by_cases a1 : 48 ≤ c <;> by_cases a2 : c ≤ 57 <;> by_cases a3 : 97 ≤ c <;> by_cases a4 : c ≤ 102
  all_goals first | (exfalso; omega) | skip
  all_goals
    go_enter Try.func26, Try.ntmps26
    go_wp2
    go_ret
    refine ⟨ret_int ?_, rfl⟩
    unfold val
    repeat' split
    all_goals omega
set_option maxRecDepth 100000 in
set_option maxHeartbeats 800000 in
theorem spec_dec (s : ByteArray) (w : World) (hs : s.size ≤ 40000) (hev : s.size % 2 = 0) :
    Calls Try.prog 13 #[.string s] w (Decd s w) := by
  obtain ⟨i0, hi, hz0, hz1, hz2⟩ := info_parts info
  have hev' : (s.size : Int) % 2 = 0 := by omega
  go_enter Try.func13, Try.ntmps13
  go_wp2
  go_loopw [4, 5] (fun v i wr => ∃ k m : Nat, Hid (m = 2 * k) ∧ m ≤ s.size ∧ i = .int .i64 m ∧ wr.ownsRow w.heap.size 5 1 v k ((outI s k).map (Value.int .u8)) ∧ decl.Good s m ∧ Below w.heap.size w wr)
    (fun _ i _ => s.size - (intOf i).toNat)
  case atStart => exact ⟨0, 0, rfl, Nat.zero_le _, rfl, World.ownsRow_made _ #[] 0 (Nat.le_refl _) (Nat.zero_le _) rfl, fun j hj => absurd hj (Nat.not_lt_zero j), (Below.refl _ _).alloc (Nat.le_refl _) _⟩
  case round =>
    obtain ⟨k, m, hm, hms, rfl, hown, hgood, hbel⟩ := hrel
    by_cases hlt : m < s.size
    · have hlt1 : m + 1 < s.size := by have := hm.out; omega
      obtain ⟨x, hx⟩ : ∃ x, Hid (av s m = x) := ⟨_, rfl⟩
      obtain ⟨y, hy⟩ : ∃ y, Hid (av s (m + 1) = y) := ⟨_, rfl⟩
      have x1 : -1 ≤ x ∧ x ≤ 15 := hx.out ▸ av_bd s m
      have y1 : -1 ≤ y ∧ y ≤ 15 := hy.out ▸ av_bd s (m + 1)
      by_cases hx0 : x < 0
      · go_wp2_with fail
        refine (val_any _ x (by omega) (by have := s[m].toNat_lt; omega) ((val_at s m hlt).trans hx.out) _).mono ?_; rintro e w1 ⟨rfl, rfl⟩
        go_wp2_with fail
        refine (val_any _ y (by omega) (by have := s[m + 1].toNat_lt; omega) ((val_at s (m + 1) hlt1).trans hy.out) _).mono ?_; rintro e w1 ⟨rfl, rfl⟩
        go_wp2
        go_ret2
        exact ⟨.inr ⟨fun h => by have := h m hlt; have := hx.out; omega, rfl⟩, hbel⟩
      · by_cases hy0 : y < 0
        · go_wp2_with fail
          refine (val_any _ x (by omega) (by have := s[m].toNat_lt; omega) ((val_at s m hlt).trans hx.out) _).mono ?_; rintro e w1 ⟨rfl, rfl⟩
          go_wp2_with fail
          refine (val_any _ y (by omega) (by have := s[m + 1].toNat_lt; omega) ((val_at s (m + 1) hlt1).trans hy.out) _).mono ?_; rintro e w1 ⟨rfl, rfl⟩
          go_wp2
          go_ret2
          exact ⟨.inr ⟨fun h => by have := h (m + 1) hlt1; have := hy.out; omega, rfl⟩, hbel⟩
        · go_wp2_with fail
          refine (val_any _ x (by omega) (by have := s[m].toNat_lt; omega) ((val_at s m hlt).trans hx.out) _).mono ?_; rintro e w1 ⟨rfl, rfl⟩
          go_wp2_with fail
          refine (val_any _ y (by omega) (by have := s[m + 1].toNat_lt; omega) ((val_at s (m + 1) hlt1).trans hy.out) _).mono ?_; rintro e w1 ⟨rfl, rfl⟩
          go_wp2_with (at_builtin; refine wpList_append_own _ rfl _ _ 22 rfl w.heap.size 5 i0 (.int .u8 0) 1 1 Try.underlying22 hi hz0 hz1 hz2 rfl (by decide) _ _ _ rfl (hown.alloc _) ⟨wr.heap.size, 0, none⟩ 1 1 [.int .u8 (16 * x + y)] rfl rfl (World.news_of_block (heap_alloc_new wr _)) (by simp [Value.oneCell']) (by have := hm.out; unfold maxLen; omega) (by have := hm.out; omega) (by have := hbel.size; simp; omega) ?_; intro v' w1 hown1 hgrow _)
          have hgood1 : decl.Good s (m + 2) := fun j hj => by
            rcases (show j < m ∨ j = m ∨ j = m + 1 from by omega) with h | rfl | rfl
            · exact hgood j h
            · rw [hx.out]; omega
            · rw [hy.out]; omega
          rw [← outI_succ s k m hm.out x y hx.out hy.out] at hown1
          have hbel1 : Below w.heap.size w w1 := (hbel.alloc hbel.size _).grown hgrow (by have := hbel.size; simp; omega) (fun q hq => (hown.lt q hq).1)
          have hm1 : Hid (m + 2 = 2 * (k + 1)) := by have := hm.out; show _ = _; omega
          clear hgrow hown hbel hgood hm
          go_wp2
          go_roundw
          case rel => exact ⟨k + 1, m + 2, hm1, by omega, by go_num, hown1, hgood1, hbel1⟩
          case measure => simp [intOf]; omega
    · have hcv := conv_own (P := Try.prog) Try.underlying22 Try.underlying5 Try.underlying9 hown
      have hme : m = s.size := by omega
      have hk2 : s.size / 2 = k := by have := hm.out; omega
      have H := Lib.hid hme; clear hme
      have H2 := Lib.hid hk2; clear hk2
      go_wp2
      go_ret2
      refine ⟨.inl ⟨H.out ▸ hgood, ?_⟩, hbel⟩
      rw [H2.out]
      rfl
theorem spec_dec_no (s : ByteArray) (w : World) (hs : 40000 < s.size ∨ s.size % 2 = 1) :
    Calls Try.prog 13 #[.string s] w fun e w' => e = .returned (.tuple #[.string ⟨#[]⟩, .bool false]) ∧ w = w' := by
  by_cases h1 : 40000 < s.size
  · go_enter Try.func13, Try.ntmps13
    go_wp2
    go_ret2
    exact ⟨rfl, rfl⟩
  · have h2 : (s.size : Int) % 2 = 1 := by omega
    have h1' : s.size ≤ 40000 := by omega
    go_enter Try.func13, Try.ntmps13
    go_wp2
    go_ret2
    exact ⟨rfl, rfl⟩
end Go.Proofs.Ytibenbkkokcpbaa.dec
