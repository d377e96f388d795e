/- For every row of bytes, FnNumbers returns true. -/
import Derived.Test.YtibenbkkokcpbaaDoorFmtW
import Derived.Test.YtibenbkkokcpbaaDoorDrawN
import Derived.Deep.RegionWith
namespace Go.Proofs.YtibenbkkokcpbaaDoor.wFnNumbers
open Go.RowKit Go.Proofs.YtibenbkkokcpbaaDoor.kit Go.Proofs.YtibenbkkokcpbaaDoor.numl Go.Proofs.YtibenbkkokcpbaaDoor.fmt Go.Proofs.YtibenbkkokcpbaaDoor.par Go.Proofs.YtibenbkkokcpbaaDoor.draw Go.Proofs.YtibenbkkokcpbaaDoor.wFnExactParseUint
theorem big_any (w : World) (a : Option Addr) (len cap : Nat) :
    Calls Tryd.prog 8 #[.slice a len cap] w fun e w' => e = .returned (.bool (decide ((1048576 : Int) < (len : Int)))) ∧ w = w' := by
  go_enter Tryd.func8, Tryd.ntmps8
  go_wp2
  go_ret
  exact ⟨rfl, rfl⟩
def One (w w' : World) (e : Ending) : Prop := ∃ n : Int, I64 n ∧ e = .returned (.int .i64 n) ∧ Below w.heap.size w w'
theorem draw_any (w : World) (a : Option Addr) (len cap : Nat) (hb : Bytes w a len) (hl : len ≤ 1048576) (hx : ∀ x, a = some x → 0 < len → x.block < w.heap.size) :
    Calls Tryd.prog 13 #[.slice a len cap] w fun e w' => One w w' e := by
  go_enter Tryd.func13, Tryd.ntmps13
  go_wp2_with fail
  refine (new_any w a len cap hb hl hx).mono ?_; rintro e w1 ⟨c, rfl, hlc, hc1, hg1⟩
  have hb1 : Below w.heap.size w w1 := (Below.refl _ _).grown hg1 (Nat.le_refl _) (by simp)
  go_wp2_with fail
  refine (once_any w1 c a len cap 3 (by omega) hc1).mono ?_; rintro e w2 ⟨b, rfl, hc2, hg2⟩
  have hb2 : Below w.heap.size w w2 := hb1.grown hg2 hb1.size (by rintro k ⟨⟩; exact hlc)
  cases b
  · go_wp2_with fail
    refine (number_any w2 c a len cap hc2).mono ?_; rintro e w3 ⟨x, hx1, rfl, hc3, hg3⟩
    have hb3 : Below w.heap.size w w3 := hb2.grown hg3 hb2.size (by rintro k ⟨⟩; exact hlc)
    go_wp2
    go_ret
    exact ⟨x, hx1, rfl, hb3⟩
  · go_wp2_with fail
    refine (below_any w2 c a len cap 1000000 (by omega) hc2).mono ?_; rintro e w3 ⟨x, hx1, rfl, hc3, hg3⟩
    have hb3 : Below w.heap.size w w3 := hb2.grown hg3 hb2.size (by rintro k ⟨⟩; exact hlc)
    obtain ⟨x0, x1⟩ := hx1.of (by omega)
    go_wp2_with fail
    refine (below_any w3 c a len cap 2000000 (by omega) hc3).mono ?_; rintro e w4 ⟨y, hy1, rfl, hc4, hg4⟩
    have hb4 : Below w.heap.size w w4 := hb3.grown hg4 hb3.size (by rintro k ⟨⟩; exact hlc)
    obtain ⟨y0, y1⟩ := hy1.of (by omega)
    go_wp2
    go_ret
    refine ⟨_, ?_, rfl, hb4⟩
    generalize x * (y - 1000000) = z
    unfold I64 wrap64
    omega
set_option maxHeartbeats 400000 in
theorem walk (w : World) (ht : Tab w) (he1 : Sent "strconv.ErrSyntax" w) (he2 : Sent "strconv.ErrRange" w) (a0 : Option Addr) (len0 cap0 : Nat) (z0 : List Int) (w0 : IsRow .u8 w a0 len0 cap0 z0) :
    Calls Tryd.prog 4 #[.slice a0 len0 cap0] w fun e w' => e = .returned (.bool true) ∧ Below w.heap.size w w' := by
  have fits : len0 ≤ 1048576 ∨ 1048576 < len0 := by omega
  rcases fits with hl | hl
  · go_enter Tryd.func4, Tryd.ntmps4
    go_wp2_with fail
    refine (big_any _ _ _ _).mono ?_; rintro e w1 ⟨rfl, rfl⟩
    go_wp2_with fail
    refine (draw_any _ _ _ _ w0.bytes hl w0.lt).mono ?_; rintro e w1 ⟨n, hn, rfl, b1⟩
    have t1 := ht.keep b1
    have s1 := sent_keep he1 gSyn (sent_lt he1 gSyn) b1
    have s2 := sent_keep he2 gRan (sent_lt he2 gRan) b1
    have HN := Lib.hid hn
    clear hn w0
    go_wp2_with fail
    refine (impl_fmt n HN.out.1 HN.out.2 _ t1).mono ?_; rintro e w2 ⟨rfl, g2⟩
    have b2 := below_grown (B := w1.heap.size) g2 (Nat.le_refl _) (by simp)
    have t2 := t1.keep b2
    have s12 := sent_keep s1 gSyn (sent_lt s1 gSyn) b2
    have s22 := sent_keep s2 gRan (sent_lt s2 gRan) b2
    have bb2 := b1.trans (b2.mono b1.size)
    have hsz : (num n).size ≤ 1048576 := by
      have := Lib.itoa_length_le n HN.out.1 HN.out.2
      rw [size_list]
      show (Lib.itoa n).length ≤ _
      omega
    have HS := Lib.hid hsz
    clear hsz t1 s1 s2 b1 b2 g2
    go_wp2_with fail
    refine (impl_par (num n) _ HS.out t2 s12 s22).mono ?_; rintro e w3 ⟨b3, h3⟩
    have bb3 := bb2.trans (b3.mono bb2.size)
    clear t2 s12 s22 b3 bb2
    have hne := num_ne n
    have hne2 : (!(num n).toList.isEmpty) = true := by rw [hne]; rfl
    rcases h3 with ⟨m, hI, rfl⟩ | ⟨hI, rfl⟩
    · have hnm : n = m := num_inj hI.2
      have hm := hI.1
      subst hnm
      clear hI
      go_wp2
      go_ret
      exact ⟨by first | rfl | simp, bb3⟩
    · have hr : n < 0 ∨ 1000000000 < n := by
        rcases (show n < 0 ∨ 1000000000 < n ∨ (0 ≤ n ∧ n ≤ 1000000000) from by omega) with h | h | ⟨h, h'⟩
        · exact .inl h
        · exact .inr h
        · obtain ⟨k, rfl⟩ := Int.eq_ofNat_of_zero_le h
          exact absurd ⟨by omega, rfl⟩ (hI k)
      clear hI
      rcases hr with hr | hr
      · go_wp2
        go_ret
        exact ⟨by first | rfl | simp, bb3⟩
      · have h0 : 0 ≤ n := by omega
        go_wp2
        go_ret
        exact ⟨by first | rfl | simp, bb3⟩
  · go_enter Tryd.func4, Tryd.ntmps4
    go_wp2_with fail
    refine (big_any _ _ _ _).mono ?_; rintro e w1 ⟨rfl, rfl⟩
    go_wp2
    go_ret
    exact ⟨rfl, Below.refl _ _⟩
end Go.Proofs.YtibenbkkokcpbaaDoor.wFnNumbers
