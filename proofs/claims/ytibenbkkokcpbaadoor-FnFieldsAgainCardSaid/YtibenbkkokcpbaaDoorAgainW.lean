/- For every row of bytes, FnFieldsAgain returns true. -/
import Derived.Test.YtibenbkkokcpbaaDoorAgainL
import Derived.Test.YtibenbkkokcpbaaDoorSpl
import Derived.Test.YtibenbkkokcpbaaDoorDrawS
import Derived.Test.YtibenbkkokcpbaaDoorFmtW
namespace Go.Proofs.YtibenbkkokcpbaaDoor.wFnFieldsAgain
open Go.RowKit Go.Proofs.YtibenbkkokcpbaaDoor.kit Go.Proofs.YtibenbkkokcpbaaDoor.fmt Go.Proofs.YtibenbkkokcpbaaDoor.draw Go.Proofs.YtibenbkkokcpbaaDoor.spl Go.Proofs.YtibenbkkokcpbaaDoor.spll Go.Proofs.YtibenbkkokcpbaaDoor.again Go.Proofs.YtibenbkkokcpbaaDoor.numl
theorem big_any (w : World) (a : Option Addr) (len cap : Nat) :
    Calls Tryd.prog 8 #[.slice a len cap] w fun e w' => e = .returned (.bool (decide ((1048576 : Int) < (len : Int)))) ∧ w = w' := by
  go_enter Tryd.func8, Tryd.ntmps8
  go_wp2
  go_ret
  exact ⟨rfl, rfl⟩
def Reads (w : World) (v : Value) (e : Ending) (w' : World) : Prop := e = .returned v ∧ ∃ q, w' = w.drewN q
theorem same_yes (w : World) (va vb : Value) (n : Nat) (xs : List ByteArray) (hn : n ≤ 4611686018427387904) (ha : Row 1 w va n (xs.map Value.string)) (hb : Row 1 w vb n (xs.map Value.string)) :
    Calls Tryd.prog 18 #[va, vb] w (Reads w (.bool true)) := by
  obtain ⟨hl, a, ca, rfl, ha⟩ := ha
  obtain ⟨_, b, cb, rfl, hb⟩ := hb
  have hl : xs.length = n := by simpa using hl
  go_enter Tryd.func18, Tryd.ntmps18
  go_wp2
  go_loopw [5] (fun i wr => ∃ k : Nat, k ≤ n ∧ i = .int .i64 k ∧ ∃ q, wr = w.drewN q) (fun i _ => n - (intOf i).toNat)
  case atStart => exact ⟨0, Nat.zero_le _, rfl, 0, rfl⟩
  case round =>
    obtain ⟨k, hk, rfl, q, rfl⟩ := hrel
    by_cases hlt : k < n
    · obtain ⟨b1, o1, rfl, h1⟩ := ha.resolve_left (by omega)
      obtain ⟨b2, o2, rfl, h2⟩ := hb.resolve_left (by omega)
      obtain ⟨x, hx⟩ : ∃ x, Hid (xs[k]? = some x) := ⟨xs[k], List.getElem?_eq_getElem (by omega)⟩
      have g1 := h1 k (.string x) (by rw [List.getElem?_map, hx.out]; rfl)
      have g2 := h2 k (.string x) (by rw [List.getElem?_map, hx.out]; rfl)
      clear h1 h2 ha hb
      go_wp2
      go_quiet (fail)
      go_wp2
      go_roundw
      case rel => exact ⟨k + 1, by omega, by go_num, _, rfl⟩
      case measure => simp [intOf]; omega
    · go_wp2
      go_ret
      exact ⟨rfl, q, rfl⟩
theorem minus3 : num (-3) = ⟨#[45, 51]⟩ := by decide +kernel
theorem join_size_take (xs : List ByteArray) (m k : Nat) (h : ∀ p ∈ xs, p.size ≤ m) : (join (xs.take k)).size ≤ k * (m + 1) := by
  induction k with
  | zero => simp [join, ByteArray.size]
  | succ k ih =>
    by_cases hk : k < xs.length
    · rw [List.take_succ_eq_append_getElem hk, join_snoc, add_size, add_size]
      have h1 := h xs[k] (List.getElem_mem hk)
      have h2 : (⟨#[32]⟩ : ByteArray).size = 1 := rfl
      rw [Nat.succ_mul]; omega
    · rw [List.take_of_length_le (by omega)] at ih ⊢
      rw [Nat.succ_mul]; omega
theorem size_ext (s : ByteArray) (p : ByteArray) (h : p ∈ fields s) : p.size ≤ s.size := by
  have hm : ∀ m, ∀ p ∈ (st s m).1, p.size ≤ s.size := by
    intro m
    induction m with
    | zero => simp [st]
    | succ m ih =>
      rw [st]
      split
      · exact ih
      · simp only
        split
        · intro p hp
          rcases List.mem_append.1 hp with hp | hp
          · exact ih p hp
          · simp at hp; subst hp
            rw [ByteArray.size_extract]; omega
        · exact ih
  exact hm _ p h
set_option maxRecDepth 100000 in
set_option maxHeartbeats 800000 in
theorem walk (w : World) (ht : Tab w) (a0 : Option Addr) (len0 cap0 : Nat) (z0 : List Int) (w0 : IsRow .u8 w a0 len0 cap0 z0) :
    Calls Tryd.prog 5 #[.slice a0 len0 cap0] w fun e w' => e = .returned (.bool true) ∧ Below w.heap.size w w' := by
  have fits : len0 ≤ 1048576 ∨ 1048576 < len0 := by omega
  rcases fits with hl | hl
  · go_enter Tryd.func5, Tryd.ntmps5
    go_wp2_with fail
    refine (big_any _ _ _ _).mono ?_; rintro e w1 ⟨rfl, rfl⟩
    go_wp2_with fail
    refine (line_any _ _ _ _ w0.bytes hl w0.lt).mono ?_; rintro e w1 ⟨s, hs, rfl, b1⟩
    clear w0
    go_wp2_with fail
    refine (impl_split s _ (by unfold maxLen; omega)).mono ?_; rintro e w2 ⟨v, b2, h2⟩
    have bb2 := b1.trans (b2.mono b1.size)
    have hz1 := b1.size
    clear b1 b2
    rcases h2 with ⟨hok, rfl, ho2⟩ | ⟨hok, rfl, ho2⟩
    · go_wp2_with fail
      refine (spec_split s _ (by unfold maxLen; omega)).mono ?_; rintro e w3 ⟨v3, b3, h3⟩
      have bb3 := bb2.trans (b3.mono bb2.size)
      have ho3 := own_below ho2 b3
      clear b3 bb2 ho2
      rcases h3 with ⟨_, rfl, _⟩ | ⟨hno, _, _⟩
      · obtain ⟨va, vc, rfl⟩ := own_shape ho3
        have hn24 : (fields s).length ≤ 24 := hok.2.2
        have hsz := fun k => join_size_take (fields s) 30000 k (fun p hp => Nat.le_trans (size_ext s p hp) hs)
        have HSZ := Lib.hid hsz
        clear hsz
        go_wp2
        go_loop [8, 9] (fun t i => ∃ k : Nat, k ≤ (fields s).length ∧ i = .int .i64 k ∧ t = .string (join ((fields s).take k))) (fun _ i => (fields s).length - (intOf i).toNat)
        case atStart => exact ⟨0, Nat.zero_le _, rfl, by simp [join]⟩
        case round =>
          obtain ⟨k, hk, rfl, rfl⟩ := hrel
          have hb0 : (join ((fields s).take k)).size ≤ 800000 := Nat.le_trans (HSZ.out k) (by have h24 := Nat.le_trans hk hn24; omega)
          by_cases hlt : k < (fields s).length
          · obtain ⟨g, cap, e, _, _⟩ := own_some ho3 (by omega)
            cases e
            have hcell := own_cell ho3 (g := g) rfl k (.string ((fields s)[k])) (by rw [List.getElem?_map, List.getElem?_eq_getElem hlt]; rfl)
            obtain ⟨p, hp⟩ : ∃ p, p = (fields s)[k] := ⟨_, rfl⟩
            rw [← hp] at hcell
            have hps : p.size ≤ 30000 := Nat.le_trans (size_ext s p (by rw [hp]; exact List.getElem_mem hlt)) hs
            have hj : Hid (join ((fields s).take (k + 1)) = (join ((fields s).take k) ++ p) ++ ⟨#[32]⟩) := by
              show _ = _
              rw [List.take_succ_eq_append_getElem hlt, join_snoc, hp]
            have h1 : (⟨#[32]⟩ : ByteArray).size = 1 := rfl
            have HP := Lib.hid hp
            clear hp
            have ha1 := add_ok (P := Tryd.prog) (a := join ((fields s).take k)) (b := p) (by omega)
            have ha2 := add_ok (P := Tryd.prog) (a := join ((fields s).take k) ++ p) (b := ⟨#[32]⟩) (by rw [add_size]; omega)
            clear h1
            go_wp2
            go_round
            case rel => exact ⟨k + 1, by omega, by go_num, by rw [hj.out]⟩
            case measure => simp [intOf]; omega
          · have hke : k = (fields s).length := by omega
            have HJ : Hid (join ((fields s).take k) = join (fields s)) := by
              show _ = _
              rw [List.take_of_length_le (by omega)]
            rw [HJ.out] at hb0 ⊢
            obtain ⟨J, hJ⟩ : ∃ J, J = join (fields s) := ⟨_, rfl⟩
            rw [← hJ] at hb0 ⊢
            have HJ2 := Lib.hid hJ
            clear hJ HJ hke
            go_wp2_with fail
            refine (impl_split J _ (by unfold maxLen; omega)).mono ?_; rintro e w5 ⟨v5, b5, h5⟩
            have bb5 := bb3.trans (b5.mono bb3.size)
            have ho35 := own_below ho3 b5
            clear b5 ho3 bb3
            by_cases h600 : J.size ≤ 600
            · have hf : fields J = fields s := by rw [HJ2.out]; exact fields_again s
              have hokJ : Ok J := ⟨h600, by rw [HJ2.out]; exact good_again hok.2.1, by rw [hf]; exact hok.2.2⟩
              rcases h5 with ⟨_, rfl, ho5⟩ | ⟨hno, _, _⟩
              · rw [hf] at ho5
                have HF := Lib.hid hf
                have HO := Lib.hid hokJ
                clear hf hokJ
                go_wp2_with fail
                refine (same_yes w5 (.slice va (fields s).length vc) v5 (fields s).length (fields s) (by omega) (.of_own ho35) (.of_own ho5)).mono ?_; rintro e w6 ⟨rfl, q6, rfl⟩
                have bb6 := below_drewN bb5 q6
                clear bb5 ho35 ho5
                go_wp2
                go_ret
                exact ⟨by first | rfl | (simp; done), bb6⟩
              · exact absurd hokJ hno
            · rcases h5 with ⟨hno, _, _⟩ | ⟨_, rfl, _⟩
              · exact absurd hno.1 h600
              · go_wp2
                go_ret
                exact ⟨by first | rfl | (simp; done), bb5⟩
      · exact absurd hok hno
    · go_wp2_with fail
      refine (spec_split s _ (by unfold maxLen; omega)).mono ?_; rintro e w3 ⟨v3, b3, h3⟩
      have bb3 := bb2.trans (b3.mono bb2.size)
      have ho3 := own_below ho2 b3
      clear b3 bb2 ho2
      rcases h3 with ⟨hno, _, _⟩ | ⟨_, rfl, _⟩
      · exact absurd hno hok
      · have t3 := ht.keep bb3
        obtain ⟨va, vc, rfl⟩ := own_shape ho3
        go_wp2_with fail
        refine (impl_fmt (-3) (by omega) (by omega) _ t3).mono ?_; rintro e w4 ⟨rfl, g4⟩
        have bb4 := bb3.trans (below_grown g4 bb3.size (by simp))
        clear g4 t3 bb3
        rw [minus3]
        go_wp2
        go_ret
        exact ⟨by first | rfl | (simp; done), bb4⟩
  · go_enter Tryd.func5, Tryd.ntmps5
    go_wp2_with fail
    refine (big_any _ _ _ _).mono ?_; rintro e w1 ⟨rfl, rfl⟩
    go_wp2
    go_ret
    exact ⟨rfl, Below.refl _ _⟩
end Go.Proofs.YtibenbkkokcpbaaDoor.wFnFieldsAgain
