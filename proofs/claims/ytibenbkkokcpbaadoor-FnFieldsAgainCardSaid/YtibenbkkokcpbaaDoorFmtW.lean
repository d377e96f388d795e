/- For every number, FnExactFormatInt returns true; for every text, FnExactParseUint does. -/
import Derived.Test.YtibenbkkokcpbaaDoorPar
namespace Go.Proofs.YtibenbkkokcpbaaDoor.wFnExactFormatInt
open Go.RowKit Go.Proofs.YtibenbkkokcpbaaDoor.kit Go.Proofs.YtibenbkkokcpbaaDoor.numl Go.Proofs.YtibenbkkokcpbaaDoor.fmt
theorem walk (w : World) (ht : Tab w) (a0 : Int) (w0 : (Lit.int .i64 a0).wf = true) :
    Calls Tryd.prog 6 #[.int .i64 a0] w fun e w' => e = .returned (.bool true) ∧ Below w.heap.size w w' := by
  obtain ⟨b0, b1⟩ := bounds_i64 w0
  have B := Lib.hid (And.intro b0 b1)
  clear b0 b1 w0
  have hq := beq_yes (a := num a0) rfl
  go_enter Tryd.func6, Tryd.ntmps6
  go_wp2_with fail
  refine (spec_fmt a0 B.out.1 B.out.2 _).mono ?_; rintro e w1 ⟨rfl, h1⟩
  have b1 := below_grown h1 (Nat.le_refl _) (by simp)
  have t1 := ht.keep b1
  go_wp2_with fail
  refine (impl_fmt a0 B.out.1 B.out.2 _ t1).mono ?_; rintro e w2 ⟨rfl, h2⟩
  have b2 := b1.trans (below_grown h2 b1.size (by simp))
  clear h1 h2 b1 t1
  go_wp2
  go_ret
  exact ⟨rfl, b2⟩
end Go.Proofs.YtibenbkkokcpbaaDoor.wFnExactFormatInt
namespace Go.Proofs.YtibenbkkokcpbaaDoor.wFnExactParseUint
open Go.RowKit Go.Proofs.YtibenbkkokcpbaaDoor.kit Go.Proofs.YtibenbkkokcpbaaDoor.numl Go.Proofs.YtibenbkkokcpbaaDoor.fmt Go.Proofs.YtibenbkkokcpbaaDoor.par
theorem sent_keep {n : String} {g : Nat} {w w' : World} (h : Sent n w) (hg : Tryd.prog.globalNamed n = some g) (hlt : g < w.heap.size) (hb : Below w.heap.size w w') : Sent n w' := by
  obtain ⟨tp, p, h⟩ := h
  exact ⟨tp, p, var?_below hb hg hlt h⟩
theorem sent_lt {n : String} {g : Nat} {w : World} (h : Sent n w) (hg : Tryd.prog.globalNamed n = some g) : g < w.heap.size := by
  obtain ⟨tp, p, h⟩ := h
  unfold World.var? at h
  simp only [hg, Option.bind_some] at h
  split at h
  · rename_i hh; exact (Array.getElem?_eq_some_iff.1 hh).1
  · cases h
theorem gSyn : Tryd.prog.globalNamed "strconv.ErrSyntax" = some 1 := by kernel_rfl
theorem gRan : Tryd.prog.globalNamed "strconv.ErrRange" = some 2 := by kernel_rfl
theorem walk (w : World) (ht : Tab w) (he1 : Sent "strconv.ErrSyntax" w) (he2 : Sent "strconv.ErrRange" w) (a0 : ByteArray) (_ : a0.size ≤ maxLen) :
    Calls Tryd.prog 7 #[.string a0] w fun e w' => e = .returned (.bool true) ∧ Below w.heap.size w w' := by
  have fits : a0.size ≤ 1048576 ∨ 1048576 < a0.size := by omega
  rcases fits with hb | hb
  · go_enter Tryd.func7, Tryd.ntmps7
    go_wp2_with fail
    refine (spec_par a0 _ hb).mono ?_; rintro e w1 ⟨hb1, h1⟩
    have t1 := ht.keep hb1
    have s1 := sent_keep he1 gSyn (sent_lt he1 gSyn) hb1
    have s2 := sent_keep he2 gRan (sent_lt he2 gRan) hb1
    rcases h1 with ⟨m, hI, rfl⟩ | ⟨hI, rfl⟩
    all_goals
      go_wp2_with fail
      refine (impl_par a0 _ hb t1 s1 s2).mono ?_; rintro e w2 ⟨hb2, h2⟩
      have hb3 := hb1.trans (hb2.mono hb1.size)
      clear hb1 hb2 t1 s1 s2
      rcases h2 with ⟨m2, hI2, rfl⟩ | ⟨hI2, rfl⟩
    all_goals first | (exfalso; exact hI2 _ hI) | (exfalso; exact hI _ hI2) | skip
    · obtain rfl := is_unique hI2 hI.val
      clear hI hI2
      go_wp2
      go_ret
      exact ⟨rfl, hb3⟩
    · clear hI hI2
      go_wp2
      go_ret
      exact ⟨rfl, hb3⟩
  · go_enter Tryd.func7, Tryd.ntmps7
    go_wp2
    go_ret
    exact ⟨rfl, Below.refl _ _⟩
end Go.Proofs.YtibenbkkokcpbaaDoor.wFnExactParseUint
