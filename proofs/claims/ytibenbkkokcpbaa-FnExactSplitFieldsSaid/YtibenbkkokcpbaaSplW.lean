/- For every text, FnExactSplitFields returns true. -/
import Derived.Test.YtibenbkkokcpbaaSpl
import Derived.Test.YtibenbkkokcpbaaLawS
namespace Go.Proofs.Ytibenbkkokcpbaa.wFnExactSplitFields
open Go.RowKit Go.Proofs.Ytibenbkkokcpbaa.spl Go.Proofs.Ytibenbkkokcpbaa.spll Go.Proofs.Ytibenbkkokcpbaa.laws Go.Proofs.Ytibenbkkokcpbaa.kit
/-- One answer: the slice, its row, the bool. -/
theorem split_same {s : ByteArray} {w w' : World} {e : Ending} (h : Split s w e w') : ∃ (v : Value) (xs : List ByteArray) (b : Bool), (xs, b) = (open Classical in if Ok s then (fields s, true) else ([], false)) ∧
    e = .returned (.tuple #[v, .bool b]) ∧ w'.ownsRow w.heap.size 9 1 v xs.length (xs.map Value.string) ∧ Below w.heap.size w w' := by
  obtain ⟨v, hb, ⟨h1, h2, h3⟩ | ⟨h1, h2, h3⟩⟩ := h
  · exact ⟨v, _, _, by rw [if_pos h1], h2, h3, hb⟩
  · exact ⟨v, [], false, by rw [if_neg h1], h2, h3, hb⟩
theorem walk (w : World) (a0 : ByteArray) (hm : a0.size ≤ maxLen) :
    Calls Try.prog 6 #[.string a0] w fun e w' => e = .returned (.bool true) ∧ Below w.heap.size w w' := by
  have fits : a0.size ≤ 1048576 ∨ 1048576 < a0.size := by omega
  rcases fits with hb | hb
  · go_enter Try.func6, Try.ntmps6
    go_wp2_with fail
    refine (spec_split a0 _ hm).mono ?_; intro e w1 h1
    obtain ⟨v1, xs, b, hxs, rfl, ho1, hb1⟩ := split_same h1
    clear h1
    go_wp2_with fail
    refine (impl_split a0 _ hm).mono ?_; intro e w2 h2
    obtain ⟨v2, xs2, b2, hxs2, rfl, ho2, hb2⟩ := split_same h2
    clear h2
    obtain ⟨rfl, rfl⟩ := Prod.mk.inj (hxs2.trans hxs.symm)
    have HX := Lib.hid hxs; clear hxs hxs2
    have hn : xs2.length ≤ 24 := by
      have := HX.out
      split at this
      · rename_i hok; cases this; exact hok.2.2
      · cases this; simp
    have ap := own_apart ho1 ho2 (Nat.le_refl _)
    have ho1' := own_below ho1 hb2
    have B2 := hb1.trans (hb2.mono hb1.size)
    have hb1s := hb1.size
    clear ho1 hb1 hb2
    go_wp2_with fail
    refine (eqS_yes _ v2 v1 xs2.length xs2 (by omega) (.of_own ho2) (.of_own ho1')).mono ?_; rintro e w3 ⟨rfl, q, rfl⟩
    go_wp2_with fail
    refine (markS_any (w2.drewN q) w1.heap.size v2 xs2.length (xs2.map Value.string) 1 1 rfl (by omega) ho2).mono ?_; rintro e w3 ⟨rfl, ho3, hg3⟩
    have ho13 := World.ownsRow.kept (w := w2.drewN q) ho1' hg3 ap.1
    have B3 := (below_drewN B2 q).trans (below_grown (w := w2.drewN q) hg3 (B := w.heap.size) B2.size (fun k hk => Nat.le_trans hb1s ((ho2.lt k hk).1)))
    clear hg3 ho1' ho2 B2
    go_wp2_with fail
    refine (heldS_yes w3 v2 xs2.length 1 1 rfl (by omega) (.of_own ho3)).mono ?_; rintro e w4 ⟨rfl, hg4⟩
    have B4 := B3.trans (below_grown hg4 (B := w.heap.size) B3.size (by simp))
    have ho14 := own_weak ho13 hg4
    have ho4 := own_weak ho3 hg4
    clear hg4 ho3 ho13 B3
    go_wp2_with fail
    refine (impl_split a0 _ hm).mono ?_; intro e w5 h5
    obtain ⟨v5, xs5, b5, hxs5, rfl, ho5, hb5⟩ := split_same h5
    clear h5
    obtain ⟨rfl, rfl⟩ := Prod.mk.inj (HX.out.trans hxs5.symm)
    clear hxs5
    have B5 := B4.trans (hb5.mono B4.size)
    have ho15 := own_below ho14 hb5
    have ho45 := own_below ho4 hb5
    clear ho4 ho14 hb5 B4
    go_wp2_with fail
    refine (eqS_yes _ v5 v1 xs2.length xs2 (by omega) (.of_own ho5) (.of_own ho15)).mono ?_; rintro e w6 ⟨rfl, q6, rfl⟩
    go_wp2_with fail
    refine (heldS_yes (w5.drewN q6) v2 xs2.length 1 1 rfl (by omega) (.of_own ho45)).mono ?_; rintro e w7 ⟨rfl, hg7⟩
    have B7 := (below_drewN B5 q6).trans (below_grown (w := w5.drewN q6) hg7 (B := w.heap.size) B5.size (by simp))
    clear ho5 ho15 ho45 hg7 B5
    go_wp2
    go_ret
    exact ⟨rfl, B7⟩
  · go_enter Try.func6, Try.ntmps6
    go_wp2
    go_ret
    exact ⟨rfl, Below.refl _ _⟩
end Go.Proofs.Ytibenbkkokcpbaa.wFnExactSplitFields
