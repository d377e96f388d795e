/- Drawn numbers. -/
import Derived.Test.YtibenbkkokcpbaaDoorDraw
namespace Go.Proofs.YtibenbkkokcpbaaDoor.draw
open Go.RowKit Go.Proofs.YtibenbkkokcpbaaDoor.kit
def I64 (x : Int) : Prop := -9223372036854775808 ≤ x ∧ x ≤ 9223372036854775807
/-- A row of numbers, each with a property. -/
def Nums (P : Int → Prop) (w : World) (b n : Nat) : Prop := ∀ j, j < n → ∃ m : Int, P m ∧ w.cell? ⟨b, j, none⟩ = some (.int .i64 m)
theorem nums_new {P : Int → Prop} (w : World) (l : List Int) (T : TypeId) (h : ∀ m ∈ l, P m) : Nums P (w.alloc (.cells (l.map (Value.int .i64)).toArray T)) w.heap.size l.length := fun j hj =>
  ⟨l[j], h _ (List.getElem_mem hj), by rw [cell_of_row _ _ j _ _ _ (heap_alloc_new w _)]; simp [hj]⟩
theorem pickInt_any {P : Int → Prop} (w : World) (c : Nat) (a : Option Addr) (len cap : Nat) (b n cp : Nat) (hn : 0 < n) (hn2 : n ≤ 1000000) (hbc : b ≠ c) (hnum : Nums P w b n) (hcur : Cur w c a len cap) :
    Calls Tryd.prog 37 #[.pointer (some ⟨c, 0, none⟩), .slice (some ⟨b, 0, none⟩) n cp] w (Drawn P w c a len cap) := by
  go_enter Tryd.func37, Tryd.ntmps37
  go_wp2_with fail
  refine (below_any w c a len cap n (by omega) hcur).mono ?_; rintro e w1 ⟨x, hx, rfl, hc1, hg1⟩
  obtain ⟨x0, x1⟩ := hx.of (by omega)
  obtain ⟨k, rfl⟩ := Int.eq_ofNat_of_zero_le x0
  obtain ⟨m, hm, hc⟩ := hnum k (by omega)
  have hc' := hg1.cell hc (by simpa using hbc)
  go_wp2
  go_ret
  exact ⟨m, hm, rfl, hc1, hg1⟩
set_option maxRecDepth 100000 in
set_option maxHeartbeats 400000 in
theorem number_any (w : World) (c : Nat) (a : Option Addr) (len cap : Nat) (hcur : Cur w c a len cap) :
    Calls Tryd.prog 28 #[.pointer (some ⟨c, 0, none⟩)] w (Drawn I64 w c a len cap) := by
  go_enter Tryd.func28, Tryd.ntmps28
  go_wp2_with fail
  refine (below_any w c a len cap 4 (by omega) hcur).mono ?_; rintro e w1 ⟨x, hx, rfl, hc1, hg1⟩
  have hl := World.block_lt_of_cell? w1 _ hc1.choose_spec.choose_spec.2.1
  by_cases h0 : x = 0
  · subst h0
    go_wp2_with fail
    refine (pickInt_any _ c a len cap w1.heap.size 10 10 (by omega) (by omega) (by have : c < w1.heap.size := hl; omega) (nums_new (P := I64) w1 [-1, 0, 127, 128, 16383, 16384, 1000000000, 1000000001, 9223372036854775807, -9223372036854775808] _ (by intro m hm; simp at hm; unfold I64; omega)) (hc1.grown (World.grownBy_alloc w1 _ none) (by simp) (by simp))).mono ?_
    rintro e w2 ⟨y, hy, rfl, hc2, hg2⟩
    go_wp2
    go_ret
    exact ⟨y, hy, rfl, hc2, grown_trans (grown_alloc hg1 _) hg2⟩
  · by_cases h1 : x = 1
    · subst h1
      go_wp2_with fail
      refine (below_any w1 c a len cap 1000000000 (by omega) hc1).mono ?_; rintro e w2 ⟨y, hy, rfl, hc2, hg2⟩
      go_wp2
      go_ret
      exact ⟨y, by have := hy.of (by omega); unfold I64; omega, rfl, hc2, grown_trans hg1 hg2⟩
    · go_wp2_with fail
      refine (below_any w1 c a len cap 400 (by omega) hc1).mono ?_; rintro e w2 ⟨y, hy, rfl, hc2, hg2⟩
      go_wp2
      go_ret
      exact ⟨y, by have := hy.of (by omega); unfold I64; omega, rfl, hc2, grown_trans hg1 hg2⟩
end Go.Proofs.YtibenbkkokcpbaaDoor.draw
