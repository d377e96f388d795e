/- A drawn line. -/
import Derived.Test.YtibenbkkokcpbaaDoorDrawT
import Derived.Test.YtibenbkkokcpbaaDoorDrawN
import Derived.Lib.Hide
namespace Go.Proofs.YtibenbkkokcpbaaDoor.draw
open Go.RowKit Go.Proofs.YtibenbkkokcpbaaDoor.kit
theorem add_ok {P : Program} {a b : ByteArray} (h : a.size + b.size ≤ 1000000) : ∀ W : World, (Op.stringOp .add a b).run P W = .ok (.string (a ++ b)) W := fun W => run_string_add_sum _ _ _ (by omega)
theorem add_size (a b : ByteArray) : (a ++ b).size = a.size + b.size := ByteArray.size_append
def Texts (m : Nat) (w : World) (b n : Nat) : Prop := ∀ j, j < n → ∃ t : ByteArray, t.size ≤ m ∧ w.cell? ⟨b, j, none⟩ = some (.string t)
theorem texts_new {m : Nat} (w : World) (l : List ByteArray) (T : TypeId) (h : ∀ t ∈ l, t.size ≤ m) : Texts m (w.alloc (.cells (l.map Value.string).toArray T)) w.heap.size l.length := fun j hj =>
  ⟨l[j], h _ (List.getElem_mem hj), by rw [cell_of_row _ _ j _ _ _ (heap_alloc_new w _)]; simp [hj]⟩
def Str (m : Nat) (w : World) (c : Nat) (a : Option Addr) (len cap : Nat) (e : Ending) (w' : World) : Prop :=
  ∃ t : ByteArray, t.size ≤ m ∧ e = .returned (.string t) ∧ Cur w' c a len cap ∧ w.grownBy w' (some c)
theorem pick_any {m : Nat} (w : World) (c : Nat) (a : Option Addr) (len cap : Nat) (b n cp : Nat) (hn : 0 < n) (hn2 : n ≤ 1000000) (hbc : b ≠ c) (hnum : Texts m w b n) (hcur : Cur w c a len cap) :
    Calls Tryd.prog 30 #[.pointer (some ⟨c, 0, none⟩), .slice (some ⟨b, 0, none⟩) n cp] w (Str m w c a len cap) := by
  go_enter Tryd.func30, Tryd.ntmps30
  go_wp2_with fail
  refine (below_any w c a len cap n (by omega) hcur).mono ?_; rintro e w1 ⟨x, hx, rfl, hc1, hg1⟩
  obtain ⟨x0, x1⟩ := hx.of (by omega)
  obtain ⟨k, rfl⟩ := Int.eq_ofNat_of_zero_le x0
  obtain ⟨t, ht, hc⟩ := hnum k (by omega)
  have hc' := hg1.cell hc (by simpa using hbc)
  go_wp2
  go_ret
  exact ⟨t, ht, rfl, hc1, hg1⟩
theorem long_is (w : World) (N : Int) (n : Nat) (hN : N = n) (hn : n ≤ 1000000) (x : Int) :
    Calls Tryd.prog 23 #[.int .i64 N, .int .u8 x] w fun e w' => ∃ t : ByteArray, t.size = n ∧ e = .returned (.string t) ∧ w.grownBy w' none := by
  subst hN
  exact (long_any w n hn x).mono fun e w' ⟨h1, h2⟩ => ⟨_, by rw [strOfNums_size]; simp, h1, h2⟩
theorem curW {w w' : World} {c len cap : Nat} {a : Option Addr} (h : Cur w c a len cap) (hg : w.grownBy w' none) : Cur w' c a len cap := h.grown hg (by simp) (by simp)
def Line (w w' : World) (e : Ending) : Prop := ∃ s : ByteArray, s.size ≤ 30000 ∧ e = .returned (.string s) ∧ Below w.heap.size w w'
set_option maxRecDepth 100000 in
set_option maxHeartbeats 1600000 in
theorem line_any (w : World) (a : Option Addr) (len cap : Nat) (hb : Bytes w a len) (hl : len ≤ 1048576) (hx : ∀ x, a = some x → 0 < len → x.block < w.heap.size) :
    Calls Tryd.prog 15 #[.slice a len cap] w fun e w' => Line w w' e := by
  go_enter Tryd.func15, Tryd.ntmps15
  go_wp2_with fail
  refine (new_any w a len cap hb hl hx).mono ?_; rintro e w1 ⟨c, rfl, hlc, hc1, hg1⟩
  have hb1 : Below w.heap.size w w1 := (Below.refl _ _).grown hg1 (Nat.le_refl _) (by simp)
  have up : ∀ {u v : World}, Below w.heap.size w u → u.grownBy v (some c) → Below w.heap.size w v := fun h g => h.grown g h.size (by rintro k ⟨⟩; exact hlc)
  have up0 : ∀ {u v : World}, Below w.heap.size w u → u.grownBy v none → Below w.heap.size w v := fun h g => h.grown g h.size (by simp)
  have U := @Lib.hid _ (And.intro @up @up0)
  clear up up0 hg1 hb hx
  go_wp2_with fail
  refine (below_any w1 c a len cap 9 (by omega) hc1).mono ?_; rintro e w2 ⟨x, hx1, rfl, hc2, hg2⟩
  have hb2 := U.out.1 hb1 hg2
  obtain ⟨x0, x1⟩ := hx1.of (by omega)
  clear hx1 hb1 hg2 hc1
  go_wp2_with fail
  refine (once_any w2 c a len cap 15 (by omega) hc2).mono ?_; rintro e w3 ⟨b, rfl, hc3, hg3⟩
  have hb3 := U.out.1 hb2 hg3
  clear hb2 hg3 hc2
  obtain ⟨n0, rfl⟩ := Int.eq_ofNat_of_zero_le x0
  cases b
  · have nb : n0 ≤ 25 := by omega
    go_wp2
    go_loopw [5, 6] (fun t i wr => ∃ (j : Nat) (acc : ByteArray), j ≤ n0 ∧ acc.size ≤ 10 * j ∧ i = .int .i64 j ∧ t = .string acc ∧ Cur wr c a len cap ∧ Below w.heap.size w wr) (fun _ i _ => n0 - (intOf i).toNat)
    case atStart => exact ⟨0, _, Nat.zero_le _, by simp [ByteArray.size], rfl, rfl, hc3, hb3⟩
    case round =>
      clear hc3 hb3
      obtain ⟨j, acc, hj, hacc, rfl, rfl, cr, br⟩ := hrel
      by_cases hlt : j < n0
      · by_cases hj0 : 0 < j
        · obtain ⟨wA, rfl⟩ : ∃ wA : World, wA = wr := ⟨_, rfl⟩
          go_wp2_with fail
          refine (below_any wA c a len cap 2 (by omega) cr).mono ?_; rintro e s1 ⟨p, hp1, rfl, cs1, gs1⟩
          have bs1 := U.out.1 br gs1
          have pb := hp1.of (by omega)
          go_wp2_with fail
          refine (below_any s1 c a len cap 3 (by omega) cs1).mono ?_; rintro e s2 ⟨r, hr1, rfl, cs2, gs2⟩
          have bs2 := U.out.1 bs1 gs2
          have rb := hr1.of (by omega)
          clear cr br gs1 gs2 hp1 hr1 cs1 bs1
          obtain ⟨r, rfl⟩ := Int.eq_ofNat_of_zero_le rb.1
          rcases (show p = 0 ∨ p = 1 from by omega) with rfl | rfl
          all_goals
            go_wp2_with fail
            refine (long_is s2 _ _ (Int.toNat_of_nonneg (by omega)).symm (by omega) 32).mono ?_; rintro e s3 ⟨t, ht, rfl, gs3⟩
            have ts : t.size ≤ 3 := by omega
            have cs3 := curW cs2 gs3
            have bs3 := U.out.2 bs2 gs3
            have hadd2 := add_ok (P := Tryd.prog) (a := acc) (b := t) (by omega)
            clear ht gs3 cs2 bs2
            go_wp2
            obtain ⟨wo, rfl⟩ : ∃ wo : World, wo = s3 := ⟨_, rfl⟩
            go_loopw [5, 7] (fun t k wi => ∃ (q : Nat) (ac : ByteArray), q ≤ 5 ∧ ac.size ≤ 10 * j + 3 + q ∧ k = .int .i64 q ∧ t = .string ac ∧ Cur wi c a len cap ∧ Below w.heap.size w wi) (fun _ k _ => 6 - (intOf k).toNat)
            case atStart => exact ⟨0, _, by omega, by rw [add_size]; omega, rfl, rfl, cs3, bs3⟩
            case round =>
              clear cs3 bs3
              obtain ⟨q, ac, hq, hac, rfl, rfl, ci, bi⟩ := hrel
              go_wp2_with fail
              refine (below_any wr c a len cap 5 (by omega) ci).mono ?_; rintro e v1 ⟨x, hx1, rfl, ci1, gi1⟩
              have bi1 := U.out.1 bi gi1
              have xb := hx1.of (by omega)
              clear ci bi gi1 hx1
              by_cases hqx : (q : Int) ≤ x
              · go_wp2_with fail
                refine (below_any v1 c a len cap 94 (by omega) ci1).mono ?_; rintro e v2 ⟨y, hy1, rfl, ci2, gi2⟩
                have bi2 := U.out.1 bi1 gi2
                have yb := hy1.of (by omega)
                clear ci1 bi1 gi2 hy1
                have hcv : (convert 22 9 (.slice (some ⟨v2.heap.size, 0, none⟩) 1 1)).run Tryd.prog (v2.alloc (.cells #[.int .u8 (33 + y)] 5)) = .ok (.string (strOfNums [33 + y])) (v2.alloc (.cells #[.int .u8 (33 + y)] 5)) :=
                  run_convert_bytes_arg _ _ _ Tryd.underlying22 Tryd.underlying5 v2.heap.size 0 1 1 [33 + y] rfl (fun i hi => by
                    obtain rfl : i = 0 := by omega
                    rw [cell_of_row _ _ _ _ _ _ (heap_alloc_new v2 _)]; rfl) _ Tryd.underlying9
                have hs1 : (strOfNums [33 + y]).size = 1 := strOfNums_size _
                have hadd := add_ok (P := Tryd.prog) (a := ac) (b := strOfNums [33 + y]) (by omega)
                have ci3 : Cur (v2.alloc (.cells #[.int .u8 (33 + y)] 5)) c a len cap := curW ci2 (World.grownBy_alloc v2 _ none)
                have bi3 : Below w.heap.size w (v2.alloc (.cells #[.int .u8 (33 + y)] 5)) := U.out.2 bi2 (World.grownBy_alloc v2 _ none)
                clear ci2 bi2
                go_wp2
                go_roundw
                case rel => exact ⟨q + 1, _, by omega, by rw [add_size, hs1]; omega, by go_num, rfl, ci3, bi3⟩
                case measure => simp [intOf]; omega
              · go_wp2
                go_roundw
                case rel => exact ⟨j + 1, ac, by omega, by omega, by go_num, rfl, ci1, bi1⟩
                case measure => simp [intOf]; omega
        · obtain ⟨wA, rfl⟩ : ∃ wA : World, wA = wr := ⟨_, rfl⟩
          go_wp2_with fail
          refine (once_any wA c a len cap 5 (by omega) cr).mono ?_; rintro e wB ⟨b, rfl, cB, gB⟩
          have bB := U.out.1 br gB
          clear cr br gB
          cases b
          · go_wp2
            obtain ⟨wo, rfl⟩ : ∃ wo : World, wo = wB := ⟨_, rfl⟩
            go_loopw [5, 7] (fun t k wi => ∃ (q : Nat) (ac : ByteArray), q ≤ 5 ∧ ac.size ≤ 10 * j + 3 + q ∧ k = .int .i64 q ∧ t = .string ac ∧ Cur wi c a len cap ∧ Below w.heap.size w wi) (fun _ k _ => 6 - (intOf k).toNat)
            case atStart => exact ⟨0, acc, by omega, by omega, rfl, rfl, cB, bB⟩
            case round =>
              clear cB bB
              obtain ⟨q, ac, hq, hac, rfl, rfl, ci, bi⟩ := hrel
              go_wp2_with fail
              refine (below_any wr c a len cap 5 (by omega) ci).mono ?_; rintro e v1 ⟨x, hx1, rfl, ci1, gi1⟩
              have bi1 := U.out.1 bi gi1
              have xb := hx1.of (by omega)
              clear ci bi gi1 hx1
              by_cases hqx : (q : Int) ≤ x
              · go_wp2_with fail
                refine (below_any v1 c a len cap 94 (by omega) ci1).mono ?_; rintro e v2 ⟨y, hy1, rfl, ci2, gi2⟩
                have bi2 := U.out.1 bi1 gi2
                have yb := hy1.of (by omega)
                clear ci1 bi1 gi2 hy1
                have hcv : (convert 22 9 (.slice (some ⟨v2.heap.size, 0, none⟩) 1 1)).run Tryd.prog (v2.alloc (.cells #[.int .u8 (33 + y)] 5)) = .ok (.string (strOfNums [33 + y])) (v2.alloc (.cells #[.int .u8 (33 + y)] 5)) :=
                  run_convert_bytes_arg _ _ _ Tryd.underlying22 Tryd.underlying5 v2.heap.size 0 1 1 [33 + y] rfl (fun i hi => by
                    obtain rfl : i = 0 := by omega
                    rw [cell_of_row _ _ _ _ _ _ (heap_alloc_new v2 _)]; rfl) _ Tryd.underlying9
                have hs1 : (strOfNums [33 + y]).size = 1 := strOfNums_size _
                have hadd := add_ok (P := Tryd.prog) (a := ac) (b := strOfNums [33 + y]) (by omega)
                have ci3 : Cur (v2.alloc (.cells #[.int .u8 (33 + y)] 5)) c a len cap := curW ci2 (World.grownBy_alloc v2 _ none)
                have bi3 : Below w.heap.size w (v2.alloc (.cells #[.int .u8 (33 + y)] 5)) := U.out.2 bi2 (World.grownBy_alloc v2 _ none)
                clear ci2 bi2
                go_wp2
                go_roundw
                case rel => exact ⟨q + 1, _, by omega, by rw [add_size, hs1]; omega, by go_num, rfl, ci3, bi3⟩
                case measure => simp [intOf]; omega
              · go_wp2
                go_roundw
                case rel => exact ⟨j + 1, ac, by omega, by omega, by go_num, rfl, ci1, bi1⟩
                case measure => simp [intOf]; omega
          · skip
            go_wp2_with fail
            refine (below_any wB c a len cap 2 (by omega) cB).mono ?_; rintro e s1 ⟨p, hp1, rfl, cs1, gs1⟩
            have bs1 := U.out.1 bB gs1
            have pb := hp1.of (by omega)
            go_wp2_with fail
            refine (below_any s1 c a len cap 3 (by omega) cs1).mono ?_; rintro e s2 ⟨r, hr1, rfl, cs2, gs2⟩
            have bs2 := U.out.1 bs1 gs2
            have rb := hr1.of (by omega)
            clear cB bB gs1 gs2 hp1 hr1 cs1 bs1
            obtain ⟨r, rfl⟩ := Int.eq_ofNat_of_zero_le rb.1
            rcases (show p = 0 ∨ p = 1 from by omega) with rfl | rfl
            all_goals
              go_wp2_with fail
              refine (long_is s2 _ _ (Int.toNat_of_nonneg (by omega)).symm (by omega) 32).mono ?_; rintro e s3 ⟨t, ht, rfl, gs3⟩
              have ts : t.size ≤ 3 := by omega
              have cs3 := curW cs2 gs3
              have bs3 := U.out.2 bs2 gs3
              have hadd2 := add_ok (P := Tryd.prog) (a := acc) (b := t) (by omega)
              clear ht gs3 cs2 bs2
              go_wp2
              obtain ⟨wo, rfl⟩ : ∃ wo : World, wo = s3 := ⟨_, rfl⟩
              go_loopw [5, 7] (fun t k wi => ∃ (q : Nat) (ac : ByteArray), q ≤ 5 ∧ ac.size ≤ 10 * j + 3 + q ∧ k = .int .i64 q ∧ t = .string ac ∧ Cur wi c a len cap ∧ Below w.heap.size w wi) (fun _ k _ => 6 - (intOf k).toNat)
              case atStart => exact ⟨0, _, by omega, by rw [add_size]; omega, rfl, rfl, cs3, bs3⟩
              case round =>
                clear cs3 bs3
                obtain ⟨q, ac, hq, hac, rfl, rfl, ci, bi⟩ := hrel
                go_wp2_with fail
                refine (below_any wr c a len cap 5 (by omega) ci).mono ?_; rintro e v1 ⟨x, hx1, rfl, ci1, gi1⟩
                have bi1 := U.out.1 bi gi1
                have xb := hx1.of (by omega)
                clear ci bi gi1 hx1
                by_cases hqx : (q : Int) ≤ x
                · go_wp2_with fail
                  refine (below_any v1 c a len cap 94 (by omega) ci1).mono ?_; rintro e v2 ⟨y, hy1, rfl, ci2, gi2⟩
                  have bi2 := U.out.1 bi1 gi2
                  have yb := hy1.of (by omega)
                  clear ci1 bi1 gi2 hy1
                  have hcv : (convert 22 9 (.slice (some ⟨v2.heap.size, 0, none⟩) 1 1)).run Tryd.prog (v2.alloc (.cells #[.int .u8 (33 + y)] 5)) = .ok (.string (strOfNums [33 + y])) (v2.alloc (.cells #[.int .u8 (33 + y)] 5)) :=
                    run_convert_bytes_arg _ _ _ Tryd.underlying22 Tryd.underlying5 v2.heap.size 0 1 1 [33 + y] rfl (fun i hi => by
                      obtain rfl : i = 0 := by omega
                      rw [cell_of_row _ _ _ _ _ _ (heap_alloc_new v2 _)]; rfl) _ Tryd.underlying9
                  have hs1 : (strOfNums [33 + y]).size = 1 := strOfNums_size _
                  have hadd := add_ok (P := Tryd.prog) (a := ac) (b := strOfNums [33 + y]) (by omega)
                  have ci3 : Cur (v2.alloc (.cells #[.int .u8 (33 + y)] 5)) c a len cap := curW ci2 (World.grownBy_alloc v2 _ none)
                  have bi3 : Below w.heap.size w (v2.alloc (.cells #[.int .u8 (33 + y)] 5)) := U.out.2 bi2 (World.grownBy_alloc v2 _ none)
                  clear ci2 bi2
                  go_wp2
                  go_roundw
                  case rel => exact ⟨q + 1, _, by omega, by rw [add_size, hs1]; omega, by go_num, rfl, ci3, bi3⟩
                  case measure => simp [intOf]; omega
                · go_wp2
                  go_roundw
                  case rel => exact ⟨j + 1, ac, by omega, by omega, by go_num, rfl, ci1, bi1⟩
                  case measure => simp [intOf]; omega
      · have ha6 : acc.size ≤ 300 := by omega
        obtain ⟨wA, rfl⟩ : ∃ wA : World, wA = wr := ⟨_, rfl⟩
        go_wp2_with fail
        refine (below_any wA c a len cap 12 (by omega) cr).mono ?_; rintro e z1 ⟨v, hv1, rfl, cz1, gz1⟩
        have bz1 := U.out.1 br gz1
        clear cr br gz1 hv1
        by_cases v0 : v = 0
        · subst v0
          have hl := World.block_lt_of_cell? z1 _ cz1.choose_spec.choose_spec.2.1
          go_wp2_with fail
          refine (pick_any (m := 2) _ c a len cap z1.heap.size 6 6 (by omega) (by omega) (by have : c < z1.heap.size := hl; omega) (texts_new z1 [⟨#[32]⟩, ⟨#[32, 32]⟩, ⟨#[9]⟩, ⟨#[10]⟩, ⟨#[127]⟩, ⟨#[233]⟩] _ (by decide)) (curW cz1 (World.grownBy_alloc z1 _ none))).mono ?_
          rintro e z2 ⟨t, ht, rfl, cz2, gz2⟩
          have bz2 := U.out.1 (U.out.2 bz1 (World.grownBy_alloc z1 _ none)) gz2
          have hadd := add_ok (P := Tryd.prog) (a := acc) (b := t) (by omega)
          clear cz1 bz1 gz2
          go_wp2
          go_ret
          exact ⟨_, by rw [add_size]; omega, rfl, bz2⟩
        · by_cases v1 : v = 1
          · subst v1
            go_wp2_with fail
            refine (below_any z1 c a len cap 2 (by omega) cz1).mono ?_; rintro e z2 ⟨y, hy1, rfl, cz2, gz2⟩
            have bz2 := U.out.1 bz1 gz2
            have yb := hy1.of (by omega)
            clear hy1 gz2 cz1 bz1
            go_wp2_with fail
            refine (long_is z2 _ _ (Int.toNat_of_nonneg (by omega)).symm (by omega) 32).mono ?_; rintro e z3 ⟨t, ht, rfl, gz3⟩
            have ts : t.size ≤ 601 := by omega
            have bz3 := U.out.2 bz2 gz3
            have hadd2 := add_ok (P := Tryd.prog) (a := acc) (b := t) (by omega)
            clear ht gz3 cz2 bz2
            go_wp2
            go_ret
            exact ⟨_, by rw [add_size]; omega, rfl, bz3⟩
          · go_wp2
            go_ret
            exact ⟨acc, by omega, rfl, bz1⟩
  · go_wp2_with fail
    refine (below_any w3 c a len cap 2 (by omega) hc3).mono ?_; rintro e w4 ⟨y, hy1, rfl, hc4, hg4⟩
    have hb4 := U.out.1 hb3 hg4
    obtain ⟨y0, y1⟩ := hy1.of (by omega)
    clear hy1 hb3 hg4 hc3
    obtain ⟨n1, hn1⟩ : ∃ n1 : Nat, 24 + y = (n1 : Int) := ⟨(24 + y).toNat, by omega⟩
    have nb : n1 ≤ 25 := by omega
    go_wp2
    go_loopw [5, 6] (fun t i wr => ∃ (j : Nat) (acc : ByteArray), j ≤ n1 ∧ acc.size ≤ 10 * j ∧ i = .int .i64 j ∧ t = .string acc ∧ Cur wr c a len cap ∧ Below w.heap.size w wr) (fun _ i _ => n1 - (intOf i).toNat)
    case atStart => exact ⟨0, _, Nat.zero_le _, by simp [ByteArray.size], rfl, rfl, hc4, hb4⟩
    case round =>
      clear hc4 hb4
      obtain ⟨j, acc, hj, hacc, rfl, rfl, cr, br⟩ := hrel
      by_cases hlt : j < n1
      · by_cases hj0 : 0 < j
        · obtain ⟨wA, rfl⟩ : ∃ wA : World, wA = wr := ⟨_, rfl⟩
          go_wp2_with fail
          refine (below_any wA c a len cap 2 (by omega) cr).mono ?_; rintro e s1 ⟨p, hp1, rfl, cs1, gs1⟩
          have bs1 := U.out.1 br gs1
          have pb := hp1.of (by omega)
          go_wp2_with fail
          refine (below_any s1 c a len cap 3 (by omega) cs1).mono ?_; rintro e s2 ⟨r, hr1, rfl, cs2, gs2⟩
          have bs2 := U.out.1 bs1 gs2
          have rb := hr1.of (by omega)
          clear cr br gs1 gs2 hp1 hr1 cs1 bs1
          obtain ⟨r, rfl⟩ := Int.eq_ofNat_of_zero_le rb.1
          rcases (show p = 0 ∨ p = 1 from by omega) with rfl | rfl
          all_goals
            go_wp2_with fail
            refine (long_is s2 _ _ (Int.toNat_of_nonneg (by omega)).symm (by omega) 32).mono ?_; rintro e s3 ⟨t, ht, rfl, gs3⟩
            have ts : t.size ≤ 3 := by omega
            have cs3 := curW cs2 gs3
            have bs3 := U.out.2 bs2 gs3
            have hadd2 := add_ok (P := Tryd.prog) (a := acc) (b := t) (by omega)
            clear ht gs3 cs2 bs2
            go_wp2
            obtain ⟨wo, rfl⟩ : ∃ wo : World, wo = s3 := ⟨_, rfl⟩
            go_loopw [5, 7] (fun t k wi => ∃ (q : Nat) (ac : ByteArray), q ≤ 5 ∧ ac.size ≤ 10 * j + 3 + q ∧ k = .int .i64 q ∧ t = .string ac ∧ Cur wi c a len cap ∧ Below w.heap.size w wi) (fun _ k _ => 6 - (intOf k).toNat)
            case atStart => exact ⟨0, _, by omega, by rw [add_size]; omega, rfl, rfl, cs3, bs3⟩
            case round =>
              clear cs3 bs3
              obtain ⟨q, ac, hq, hac, rfl, rfl, ci, bi⟩ := hrel
              go_wp2_with fail
              refine (below_any wr c a len cap 5 (by omega) ci).mono ?_; rintro e v1 ⟨x, hx1, rfl, ci1, gi1⟩
              have bi1 := U.out.1 bi gi1
              have xb := hx1.of (by omega)
              clear ci bi gi1 hx1
              by_cases hqx : (q : Int) ≤ x
              · go_wp2_with fail
                refine (below_any v1 c a len cap 94 (by omega) ci1).mono ?_; rintro e v2 ⟨y, hy1, rfl, ci2, gi2⟩
                have bi2 := U.out.1 bi1 gi2
                have yb := hy1.of (by omega)
                clear ci1 bi1 gi2 hy1
                have hcv : (convert 22 9 (.slice (some ⟨v2.heap.size, 0, none⟩) 1 1)).run Tryd.prog (v2.alloc (.cells #[.int .u8 (33 + y)] 5)) = .ok (.string (strOfNums [33 + y])) (v2.alloc (.cells #[.int .u8 (33 + y)] 5)) :=
                  run_convert_bytes_arg _ _ _ Tryd.underlying22 Tryd.underlying5 v2.heap.size 0 1 1 [33 + y] rfl (fun i hi => by
                    obtain rfl : i = 0 := by omega
                    rw [cell_of_row _ _ _ _ _ _ (heap_alloc_new v2 _)]; rfl) _ Tryd.underlying9
                have hs1 : (strOfNums [33 + y]).size = 1 := strOfNums_size _
                have hadd := add_ok (P := Tryd.prog) (a := ac) (b := strOfNums [33 + y]) (by omega)
                have ci3 : Cur (v2.alloc (.cells #[.int .u8 (33 + y)] 5)) c a len cap := curW ci2 (World.grownBy_alloc v2 _ none)
                have bi3 : Below w.heap.size w (v2.alloc (.cells #[.int .u8 (33 + y)] 5)) := U.out.2 bi2 (World.grownBy_alloc v2 _ none)
                clear ci2 bi2
                go_wp2
                go_roundw
                case rel => exact ⟨q + 1, _, by omega, by rw [add_size, hs1]; omega, by go_num, rfl, ci3, bi3⟩
                case measure => simp [intOf]; omega
              · go_wp2
                go_roundw
                case rel => exact ⟨j + 1, ac, by omega, by omega, by go_num, rfl, ci1, bi1⟩
                case measure => simp [intOf]; omega
        · obtain ⟨wA, rfl⟩ : ∃ wA : World, wA = wr := ⟨_, rfl⟩
          go_wp2_with fail
          refine (once_any wA c a len cap 5 (by omega) cr).mono ?_; rintro e wB ⟨b, rfl, cB, gB⟩
          have bB := U.out.1 br gB
          clear cr br gB
          cases b
          · go_wp2
            obtain ⟨wo, rfl⟩ : ∃ wo : World, wo = wB := ⟨_, rfl⟩
            go_loopw [5, 7] (fun t k wi => ∃ (q : Nat) (ac : ByteArray), q ≤ 5 ∧ ac.size ≤ 10 * j + 3 + q ∧ k = .int .i64 q ∧ t = .string ac ∧ Cur wi c a len cap ∧ Below w.heap.size w wi) (fun _ k _ => 6 - (intOf k).toNat)
            case atStart => exact ⟨0, acc, by omega, by omega, rfl, rfl, cB, bB⟩
            case round =>
              clear cB bB
              obtain ⟨q, ac, hq, hac, rfl, rfl, ci, bi⟩ := hrel
              go_wp2_with fail
              refine (below_any wr c a len cap 5 (by omega) ci).mono ?_; rintro e v1 ⟨x, hx1, rfl, ci1, gi1⟩
              have bi1 := U.out.1 bi gi1
              have xb := hx1.of (by omega)
              clear ci bi gi1 hx1
              by_cases hqx : (q : Int) ≤ x
              · go_wp2_with fail
                refine (below_any v1 c a len cap 94 (by omega) ci1).mono ?_; rintro e v2 ⟨y, hy1, rfl, ci2, gi2⟩
                have bi2 := U.out.1 bi1 gi2
                have yb := hy1.of (by omega)
                clear ci1 bi1 gi2 hy1
                have hcv : (convert 22 9 (.slice (some ⟨v2.heap.size, 0, none⟩) 1 1)).run Tryd.prog (v2.alloc (.cells #[.int .u8 (33 + y)] 5)) = .ok (.string (strOfNums [33 + y])) (v2.alloc (.cells #[.int .u8 (33 + y)] 5)) :=
                  run_convert_bytes_arg _ _ _ Tryd.underlying22 Tryd.underlying5 v2.heap.size 0 1 1 [33 + y] rfl (fun i hi => by
                    obtain rfl : i = 0 := by omega
                    rw [cell_of_row _ _ _ _ _ _ (heap_alloc_new v2 _)]; rfl) _ Tryd.underlying9
                have hs1 : (strOfNums [33 + y]).size = 1 := strOfNums_size _
                have hadd := add_ok (P := Tryd.prog) (a := ac) (b := strOfNums [33 + y]) (by omega)
                have ci3 : Cur (v2.alloc (.cells #[.int .u8 (33 + y)] 5)) c a len cap := curW ci2 (World.grownBy_alloc v2 _ none)
                have bi3 : Below w.heap.size w (v2.alloc (.cells #[.int .u8 (33 + y)] 5)) := U.out.2 bi2 (World.grownBy_alloc v2 _ none)
                clear ci2 bi2
                go_wp2
                go_roundw
                case rel => exact ⟨q + 1, _, by omega, by rw [add_size, hs1]; omega, by go_num, rfl, ci3, bi3⟩
                case measure => simp [intOf]; omega
              · go_wp2
                go_roundw
                case rel => exact ⟨j + 1, ac, by omega, by omega, by go_num, rfl, ci1, bi1⟩
                case measure => simp [intOf]; omega
          · skip
            go_wp2_with fail
            refine (below_any wB c a len cap 2 (by omega) cB).mono ?_; rintro e s1 ⟨p, hp1, rfl, cs1, gs1⟩
            have bs1 := U.out.1 bB gs1
            have pb := hp1.of (by omega)
            go_wp2_with fail
            refine (below_any s1 c a len cap 3 (by omega) cs1).mono ?_; rintro e s2 ⟨r, hr1, rfl, cs2, gs2⟩
            have bs2 := U.out.1 bs1 gs2
            have rb := hr1.of (by omega)
            clear cB bB gs1 gs2 hp1 hr1 cs1 bs1
            obtain ⟨r, rfl⟩ := Int.eq_ofNat_of_zero_le rb.1
            rcases (show p = 0 ∨ p = 1 from by omega) with rfl | rfl
            all_goals
              go_wp2_with fail
              refine (long_is s2 _ _ (Int.toNat_of_nonneg (by omega)).symm (by omega) 32).mono ?_; rintro e s3 ⟨t, ht, rfl, gs3⟩
              have ts : t.size ≤ 3 := by omega
              have cs3 := curW cs2 gs3
              have bs3 := U.out.2 bs2 gs3
              have hadd2 := add_ok (P := Tryd.prog) (a := acc) (b := t) (by omega)
              clear ht gs3 cs2 bs2
              go_wp2
              obtain ⟨wo, rfl⟩ : ∃ wo : World, wo = s3 := ⟨_, rfl⟩
              go_loopw [5, 7] (fun t k wi => ∃ (q : Nat) (ac : ByteArray), q ≤ 5 ∧ ac.size ≤ 10 * j + 3 + q ∧ k = .int .i64 q ∧ t = .string ac ∧ Cur wi c a len cap ∧ Below w.heap.size w wi) (fun _ k _ => 6 - (intOf k).toNat)
              case atStart => exact ⟨0, _, by omega, by rw [add_size]; omega, rfl, rfl, cs3, bs3⟩
              case round =>
                clear cs3 bs3
                obtain ⟨q, ac, hq, hac, rfl, rfl, ci, bi⟩ := hrel
                go_wp2_with fail
                refine (below_any wr c a len cap 5 (by omega) ci).mono ?_; rintro e v1 ⟨x, hx1, rfl, ci1, gi1⟩
                have bi1 := U.out.1 bi gi1
                have xb := hx1.of (by omega)
                clear ci bi gi1 hx1
                by_cases hqx : (q : Int) ≤ x
                · go_wp2_with fail
                  refine (below_any v1 c a len cap 94 (by omega) ci1).mono ?_; rintro e v2 ⟨y, hy1, rfl, ci2, gi2⟩
                  have bi2 := U.out.1 bi1 gi2
                  have yb := hy1.of (by omega)
                  clear ci1 bi1 gi2 hy1
                  have hcv : (convert 22 9 (.slice (some ⟨v2.heap.size, 0, none⟩) 1 1)).run Tryd.prog (v2.alloc (.cells #[.int .u8 (33 + y)] 5)) = .ok (.string (strOfNums [33 + y])) (v2.alloc (.cells #[.int .u8 (33 + y)] 5)) :=
                    run_convert_bytes_arg _ _ _ Tryd.underlying22 Tryd.underlying5 v2.heap.size 0 1 1 [33 + y] rfl (fun i hi => by
                      obtain rfl : i = 0 := by omega
                      rw [cell_of_row _ _ _ _ _ _ (heap_alloc_new v2 _)]; rfl) _ Tryd.underlying9
                  have hs1 : (strOfNums [33 + y]).size = 1 := strOfNums_size _
                  have hadd := add_ok (P := Tryd.prog) (a := ac) (b := strOfNums [33 + y]) (by omega)
                  have ci3 : Cur (v2.alloc (.cells #[.int .u8 (33 + y)] 5)) c a len cap := curW ci2 (World.grownBy_alloc v2 _ none)
                  have bi3 : Below w.heap.size w (v2.alloc (.cells #[.int .u8 (33 + y)] 5)) := U.out.2 bi2 (World.grownBy_alloc v2 _ none)
                  clear ci2 bi2
                  go_wp2
                  go_roundw
                  case rel => exact ⟨q + 1, _, by omega, by rw [add_size, hs1]; omega, by go_num, rfl, ci3, bi3⟩
                  case measure => simp [intOf]; omega
                · go_wp2
                  go_roundw
                  case rel => exact ⟨j + 1, ac, by omega, by omega, by go_num, rfl, ci1, bi1⟩
                  case measure => simp [intOf]; omega
      · have ha6 : acc.size ≤ 300 := by omega
        obtain ⟨wA, rfl⟩ : ∃ wA : World, wA = wr := ⟨_, rfl⟩
        go_wp2_with fail
        refine (below_any wA c a len cap 12 (by omega) cr).mono ?_; rintro e z1 ⟨v, hv1, rfl, cz1, gz1⟩
        have bz1 := U.out.1 br gz1
        clear cr br gz1 hv1
        by_cases v0 : v = 0
        · subst v0
          have hl := World.block_lt_of_cell? z1 _ cz1.choose_spec.choose_spec.2.1
          go_wp2_with fail
          refine (pick_any (m := 2) _ c a len cap z1.heap.size 6 6 (by omega) (by omega) (by have : c < z1.heap.size := hl; omega) (texts_new z1 [⟨#[32]⟩, ⟨#[32, 32]⟩, ⟨#[9]⟩, ⟨#[10]⟩, ⟨#[127]⟩, ⟨#[233]⟩] _ (by decide)) (curW cz1 (World.grownBy_alloc z1 _ none))).mono ?_
          rintro e z2 ⟨t, ht, rfl, cz2, gz2⟩
          have bz2 := U.out.1 (U.out.2 bz1 (World.grownBy_alloc z1 _ none)) gz2
          have hadd := add_ok (P := Tryd.prog) (a := acc) (b := t) (by omega)
          clear cz1 bz1 gz2
          go_wp2
          go_ret
          exact ⟨_, by rw [add_size]; omega, rfl, bz2⟩
        · by_cases v1 : v = 1
          · subst v1
            go_wp2_with fail
            refine (below_any z1 c a len cap 2 (by omega) cz1).mono ?_; rintro e z2 ⟨y, hy1, rfl, cz2, gz2⟩
            have bz2 := U.out.1 bz1 gz2
            have yb := hy1.of (by omega)
            clear hy1 gz2 cz1 bz1
            go_wp2_with fail
            refine (long_is z2 _ _ (Int.toNat_of_nonneg (by omega)).symm (by omega) 32).mono ?_; rintro e z3 ⟨t, ht, rfl, gz3⟩
            have ts : t.size ≤ 601 := by omega
            have bz3 := U.out.2 bz2 gz3
            have hadd2 := add_ok (P := Tryd.prog) (a := acc) (b := t) (by omega)
            clear ht gz3 cz2 bz2
            go_wp2
            go_ret
            exact ⟨_, by rw [add_size]; omega, rfl, bz3⟩
          · go_wp2
            go_ret
            exact ⟨acc, by omega, rfl, bz1⟩
end Go.Proofs.YtibenbkkokcpbaaDoor.draw
