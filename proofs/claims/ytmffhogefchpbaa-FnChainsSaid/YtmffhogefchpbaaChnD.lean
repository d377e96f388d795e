/- Drawn chains. -/
import Derived.Test.YtmffhogefchpbaaCisD
import Derived.Test.YtmffhogefchpbaaChnP
import Derived.Test.YtmffhogefchpbaaStChain
namespace Go.Proofs.Ytmffhogefchpbaa.chn
open Go.RowKit Go.Proofs.Ytmffhogefchpbaa.kit Go.Proofs.Ytmffhogefchpbaa.lawi Go.Proofs.Ytmffhogefchpbaa.own Go.Proofs.Ytmffhogefchpbaa.rainl Go.Proofs.Ytmffhogefchpbaa.rain Go.Proofs.Ytmffhogefchpbaa.cis Go.Proofs.Ytmffhogefchpbaa.chl Go.Proofs.Ytmffhogefchpbaa.draw
/-- What a drawn chain of n cisterns holds in its first k. -/
structure FairL (n : Nat) (zs ns : List Int) (k : Nat) : Prop where
  lz : zs.length = k * 2
  ln : ns.length = k
  fc : ∀ j, j < k → FairC (zs.getD (j * 2) 0) (zs.getD (j * 2 + 1) 0)
  nx : ∀ j, j < k → ns.getD j 0 = -1 ∨ ((j : Int) + 1 ≤ ns.getD j 0 ∧ ns.getD j 0 ≤ (n : Int) - 1)
theorem FairL.nil (n : Nat) : FairL n [] [] 0 := ⟨rfl, rfl, fun _ h => by omega, fun _ h => by omega⟩
theorem getD_app1 (l : List Int) (x : List Int) (j : Nat) (h : j < l.length) : (l ++ x).getD j 0 = l.getD j 0 := by
  rw [List.getD_eq_getElem?_getD, List.getD_eq_getElem?_getD, List.getElem?_append_left h]
theorem getD_app2 (l : List Int) (x : List Int) (j : Nat) (h : l.length ≤ j) : (l ++ x).getD j 0 = x.getD (j - l.length) 0 := by
  rw [List.getD_eq_getElem?_getD, List.getD_eq_getElem?_getD, List.getElem?_append_right h]
theorem FairL.snoc {n k : Nat} {zs ns : List Int} {x y v : Int} (h : FairL n zs ns k) (hf : FairC x y) (hv : v = -1 ∨ ((k : Int) + 1 ≤ v ∧ v ≤ (n : Int) - 1)) : FairL n (zs ++ [x, y]) (ns ++ [v]) (k + 1) := by
  obtain ⟨h1, h2, h3, h4⟩ := h
  refine ⟨by simp; omega, by simp; omega, fun j hj => ?_, fun j hj => ?_⟩
  · by_cases e : j < k
    · rw [getD_app1 _ _ _ (by omega), getD_app1 _ _ _ (by omega)]
      exact h3 j e
    · obtain rfl : j = k := by omega
      rw [getD_app2 _ _ _ (by omega), getD_app2 _ _ _ (by omega), h1, show j * 2 - j * 2 = 0 by omega, show j * 2 + 1 - j * 2 = 1 by omega]
      exact hf
  · by_cases e : j < k
    · rw [getD_app1 _ _ _ (by omega)]
      exact h4 j e
    · obtain rfl : j = k := by omega
      rw [getD_app2 _ _ _ (by omega), h2, show j - j = 0 by omega]
      exact hv
theorem it_up {ns : List Int} {n : Nat} (hv : ∀ j, j < n → ns.getD j 0 = -1 ∨ ((j : Int) + 1 ≤ ns.getD j 0 ∧ ns.getD j 0 ≤ (n : Int) - 1)) (i : Nat) (hi : i < n) : ∀ j, it ns n (i : Int) (j + 1) = -1 ∨ ((i : Int) + 1 ≤ it ns n (i : Int) (j + 1) ∧ it ns n (i : Int) (j + 1) ≤ (n : Int) - 1)
  | 0 => by
    have hin : In n (it ns n (i : Int) 0) := ⟨by simp [it], by simp [it]; omega⟩
    rw [it_step hin]
    simpa [it] using hv i hi
  | j + 1 => by
    rcases it_up hv i hi j with h | h
    · left
      have hno : ¬ In n (it ns n (i : Int) (j + 1)) := by rw [h]; rintro ⟨h1, _⟩; omega
      rw [it_succ, nx, if_neg hno, h]
    · have hin : In n (it ns n (i : Int) (j + 1)) := ⟨by omega, by omega⟩
      rw [it_step hin]
      have := hv (it ns n (i : Int) (j + 1)).toNat (by omega)
      rcases this with e | e
      · exact .inl e
      · right; omega
theorem FairL.ok {n : Nat} {zs ns : List Int} (h : FairL n zs ns n) (h1 : 1 ≤ n) (h2 : n ≤ 10) : CO zs n ns n := by
  refine ⟨h1, h2, rfl, fun j hj => (h.fc j hj).ok, fun j hj => ?_, fun i hi => ?_⟩
  · have := h.nx j hj
    omega
  · rintro ⟨j, hj⟩
    have := it_up h.nx i hi j
    omega
/-- Rows of unlike things are apart. -/
theorem own_diff {w : World} {b1 b2 e1 e2 s1 s2 : Nat} {v1 v2 : Value} {n1 n2 : Nat} {x1 x2 : List Value} (h1 : w.ownsRow b1 e1 s1 v1 n1 x1) (h2 : w.ownsRow b2 e2 s2 v2 n2 x2) (he : e1 ≠ e2) : v2.ownBlock = none ∨ v2.ownBlock ≠ v1.ownBlock := by
  rcases h2.2 with ⟨rfl, _⟩ | ⟨g2, c2, cur2, rfl, _, hh2, _⟩
  · exact .inl rfl
  · refine .inr fun e => ?_
    rcases h1.2 with ⟨rfl, _⟩ | ⟨g1, c1, cur1, rfl, _, hh1, _⟩
    · cases e
    · cases e
      rw [hh1] at hh2
      cases hh2
      exact he rfl
/-- While a chain is drawn: the box with both rows, the answer's box, the rows, the cursor. -/
structure DS (w wr : World) (c : Nat) (a : Option Addr) (len cap : Nat) (vC vI : Value) (kC : Nat) (zs : List Int) (kI : Nat) (ns : List Int) : Prop where
  bx : Blk wr (w.heap.size + 1) TC #[vC, vI]
  rs : Blk wr w.heap.size TC #[.slice none 0 0, .slice none 0 0]
  oC : wr.ownsRow (w.heap.size + 2) 36 2 vC kC (zs.map (Value.int .i64))
  oI : wr.ownsRow (w.heap.size + 2) 3 1 vI kI (ns.map (Value.int .i64))
  cu : Cur wr c a len cap
  gr : w.grownBy wr (some c)
  lc : c < w.heap.size
  lo : ∀ x, a = some x → 0 < len → x.block < w.heap.size
section
variable {w wr wr' : World} {c : Nat} {a : Option Addr} {len cap : Nat} {vC vI : Value} {kC kI : Nat} {zs ns : List Int}
theorem DS.draw (h : DS w wr c a len cap vC vI kC zs kI ns) (hc : Cur wr' c a len cap) (hg : wr.grownBy wr' (some c)) : DS w wr' c a len cap vC vI kC zs kI ns :=
  ⟨h.bx.grown hg (by have := h.lc; simp; omega), h.rs.grown hg (by have := h.lc; simp; omega), h.oC.kept hg (own_not h.oC (by have := h.lc; omega)), h.oI.kept hg (own_not h.oI (by have := h.lc; omega)), hc, grown_trans h.gr hg, h.lc, h.lo⟩
theorem DS.alloc (h : DS w wr c a len cap vC vI kC zs kI ns) (o : Obj) : DS w (wr.alloc o) c a len cap vC vI kC zs kI ns :=
  ⟨h.bx.alloc o, h.rs.alloc o, h.oC.alloc o, h.oI.alloc o, h.cu.grown (World.grownBy_alloc wr o none) (by simp) (by simp), grown_alloc h.gr o, h.lc, h.lo⟩
theorem DS.size (h : DS w wr c a len cap vC vI kC zs kI ns) : w.heap.size + 2 ≤ wr.heap.size := by have := h.bx.lt; omega
theorem blk_ne {k : Nat} {v : Value} {base e sz n : Nat} {xs : List Value} (h : wr.ownsRow base e sz v n xs) (hk : k < base) : some k ≠ v.ownBlock := fun e => by have := (h.lt k e.symm).1; omega
theorem DS.mid (h : DS w wr c a len cap vC vI kC zs kI ns) {u : Value} (hu : u = vC ∨ u = vI) (hg : wr.grownBy wr' u.ownBlock) : Blk wr' (w.heap.size + 1) TC #[vC, vI] ∧ Blk wr' w.heap.size TC #[.slice none 0 0, .slice none 0 0] ∧ Cur wr' c a len cap ∧ w.grownBy wr' (some c) := by
  have lc := h.lc
  have lo := h.lo
  have key : ∀ e sz n (xs : List Value), wr.ownsRow (w.heap.size + 2) e sz u n xs → Blk wr' (w.heap.size + 1) TC #[vC, vI] ∧ Blk wr' w.heap.size TC #[.slice none 0 0, .slice none 0 0] ∧ Cur wr' c a len cap ∧ w.grownBy wr' (some c) := fun e sz n xs hu =>
    ⟨h.bx.grown hg (blk_ne hu (by omega)), h.rs.grown hg (blk_ne hu (by omega)), h.cu.above hg (B := w.heap.size) (fun k hk => by have := (hu.lt k hk).1; omega) lc lo, grown_above h.gr hg (fun k hk => by have := (hu.lt k hk).1; omega)⟩
  rcases hu with rfl | rfl
  · exact key _ _ _ _ h.oC
  · exact key _ _ _ _ h.oI
theorem DS.appC (h : DS w wr c a len cap vC vI kC zs kI ns) {v' : Value} {k' : Nat} {zs' : List Int} (ho : wr'.ownsRow (w.heap.size + 2) 36 2 v' k' (zs'.map (Value.int .i64))) (hg : wr.grownBy wr' vC.ownBlock) :
    DS w (wr'.setCell ⟨w.heap.size + 1, 0, none⟩ v') c a len cap v' vI k' zs' kI ns := by
  obtain ⟨m1, m2, m3, m4⟩ := h.mid (.inl rfl) hg
  have lc := h.lc
  have lo := h.lo
  have hs := grown_setCell (grown_refl wr' (some (w.heap.size + 1))) 0 none v'
  have oI := h.oI.kept hg (own_diff h.oC h.oI (by decide))
  refine ⟨m1.set_ 0 v', m2.grown hs (by simp), ho.kept hs (.inr fun e => by have := (ho.lt _ e).1; omega), oI.kept hs (.inr fun e => by have := (oI.lt _ e).1; omega), m3.above hs (B := w.heap.size) (fun k hk => by cases hk; omega) lc lo, grown_above m4 hs (fun k hk => by cases hk; omega), lc, lo⟩
theorem DS.appI (h : DS w wr c a len cap vC vI kC zs kI ns) {v' : Value} {k' : Nat} {ns' : List Int} (ho : wr'.ownsRow (w.heap.size + 2) 3 1 v' k' (ns'.map (Value.int .i64))) (hg : wr.grownBy wr' vI.ownBlock) :
    DS w (wr'.setCell ⟨w.heap.size + 1, 1, none⟩ v') c a len cap vC v' kC zs k' ns' := by
  obtain ⟨m1, m2, m3, m4⟩ := h.mid (.inr rfl) hg
  have lc := h.lc
  have lo := h.lo
  have hs := grown_setCell (grown_refl wr' (some (w.heap.size + 1))) 1 none v'
  have oC := h.oC.kept hg (own_diff h.oI h.oC (by decide))
  refine ⟨m1.set_ 1 v', m2.grown hs (by simp), oC.kept hs (.inr fun e => by have := (oC.lt _ e).1; omega), ho.kept hs (.inr fun e => by have := (ho.lt _ e).1; omega), m3.above hs (B := w.heap.size) (fun k hk => by cases hk; omega) lc lo, grown_above m4 hs (fun k hk => by cases hk; omega), lc, lo⟩
theorem DS.res (h : DS w wr c a len cap vC vI kC zs kI ns) (u0 u1 : Value) : ((wr.setCell ⟨w.heap.size, 0, none⟩ u0).setCell ⟨w.heap.size, 1, none⟩ u1).ownsRow w.heap.size 36 2 vC kC (zs.map (Value.int .i64)) ∧
    ((wr.setCell ⟨w.heap.size, 0, none⟩ u0).setCell ⟨w.heap.size, 1, none⟩ u1).ownsRow w.heap.size 3 1 vI kI (ns.map (Value.int .i64)) ∧ Cur ((wr.setCell ⟨w.heap.size, 0, none⟩ u0).setCell ⟨w.heap.size, 1, none⟩ u1) c a len cap ∧ w.grownBy ((wr.setCell ⟨w.heap.size, 0, none⟩ u0).setCell ⟨w.heap.size, 1, none⟩ u1) (some c) := by
  have lc := h.lc
  have lo := h.lo
  have hs := grown_trans (grown_setCell (grown_refl wr (some w.heap.size)) 0 none u0) (grown_setCell (grown_refl _ (some w.heap.size)) 1 none u1)
  exact ⟨own_mono (h.oC.kept hs (.inr fun e => by have := (h.oC.lt _ e).1; omega)) (by omega), own_mono (h.oI.kept hs (.inr fun e => by have := (h.oI.lt _ e).1; omega)) (by omega), h.cu.above hs (B := w.heap.size) (fun k hk => by cases hk; omega) lc lo, grown_above h.gr hs (fun k hk => by cases hk; omega)⟩
end
/-- What a draw of a chain leaves. -/
def DrewCh (w : World) (c : Nat) (a : Option Addr) (len cap : Nat) (e : Ending) (w' : World) : Prop :=
  ∃ (n : Nat) (zs ns : List Int) (vC vI : Value), e = .returned (CH vC vI) ∧ 1 ≤ n ∧ n ≤ 6 ∧ FairL n zs ns n ∧ w'.ownsRow w.heap.size 36 2 vC n (IV zs) ∧ w'.ownsRow w.heap.size 3 1 vI n (IV ns) ∧ Cur w' c a len cap ∧ w.grownBy w' (some c)
set_option maxHeartbeats 1000000 in
theorem chain_any (w : World) (c : Nat) (a : Option Addr) (len cap : Nat) (hcur : Cur w c a len cap) :
    Calls Try.prog 36 #[.pointer (some ⟨c, 0, none⟩)] w (DrewCh w c a len cap) := by
  have hclt := hcur.lt
  have hlow := hcur.low
  have D0 : DS w ((w.alloc (.cells #[.slice none 0 0, .slice none 0 0] TC)).alloc (.cells #[.slice none 0 0, .slice none 0 0] TC)) c a len cap (.slice none 0 0) (.slice none 0 0) 0 [] 0 [] :=
    ⟨Blk.new1 w TC _ _, (Blk.new _ _ _).alloc _, World.ownsRow_nil _ _ _ _, World.ownsRow_nil _ _ _ _, (hcur.grown (World.grownBy_alloc w _ none) (by simp) (by simp)).grown (World.grownBy_alloc _ _ none) (by simp) (by simp), grown_alloc (World.grownBy_alloc w _ _) _, hclt, hlow⟩
  have HD := Lib.hid D0
  clear hcur D0
  go_enter Try.func36, Try.ntmps36
  go_wp2_with fail
  refine (below_any _ c a len cap 6 (by omega) HD.out.cu).mono ?_; rintro e w1 ⟨x, hx, rfl, hc1, hg1⟩
  have HD := Lib.hid (HD.out.draw hc1 hg1)
  obtain ⟨x0, x1⟩ := hx.of (by omega)
  obtain ⟨n, hn⟩ : ∃ n : Nat, 1 + x = n := ⟨(1 + x).toNat, by omega⟩
  have hn1 : 1 ≤ n := by omega
  have hn6 : n ≤ 6 := by omega
  go_wp2
  clear hn hc1 hg1 hx x0 x1 hlow
  go_loopg [5] n (fun g s5 wr => ∃ (k : Nat) (zs ns : List Int) (vC vI : Value), k + g = n ∧ s5 = .int .i64 k ∧ FairL n zs ns k ∧ DS w wr c a len cap vC vI k zs k ns)
  case atStart => exact ⟨0, [], [], _, _, by omega, rfl, FairL.nil n, HD.out⟩
  case round =>
    clear HD
    obtain ⟨k, zs, ns, vC, vI, hkg, rfl, hf, hds⟩ := hrel
    by_cases hlt : k < n
    · obtain ⟨gk, rfl⟩ : ∃ g', gk = g' + 1 := ⟨gk - 1, by omega⟩
      have HD := Lib.hid hds
      have HF := Lib.hid hf
      clear hds hf
      go_wp2_with fail
      refine (cistern_any _ c a len cap HD.out.cu).mono ?_; rintro e w2 ⟨x, y, rfl, hF, hc2, hg2⟩
      have D2 := (HD.out.draw hc2 hg2).alloc (.cells #[.int .i64 x, .int .i64 y] 36)
      have X2 := Blk.new w2 36 #[.int .i64 x, .int .i64 y]
      obtain ⟨p0, p1, p2, p3⟩ := blk2 D2.bx
      obtain ⟨q0, q1, _⟩ := blk2 X2
      have HD := Lib.hid D2
      have HFC := Lib.hid hF
      clear D2 X2 hc2 hg2 hF
      go_wp2_with (at_builtin; refine stCistern.app _ rfl _ _ rfl (w.heap.size + 2) x y HD.out.oC rfl (w2.heap.size + 1) (by simp) rfl (by omega) HD.out.size ?_; intro v1 w3 ho3 hg3; obtain ⟨aC, cC, rfl⟩ := own_shape ho3; obtain ⟨r0, r1, r2, r3⟩ := blk2 (HD.out.mid (.inl rfl) hg3).1; have HO3 := Lib.hid ho3; have HG3 := Lib.hid hg3; clear ho3 hg3)
      have HD := Lib.hid (HD.out.appC HO3.out HG3.out)
      clear p0 p1 p2 p3 q0 q1 r0 r1 r2 r3 HO3 HG3
      refine (below_any _ c a len cap 3 (by omega) HD.out.cu).mono ?_; rintro e w4 ⟨x3, hx3, rfl, hc4, hg4⟩
      have HD := Lib.hid (HD.out.draw hc4 hg4)
      obtain ⟨x30, x31⟩ := hx3.of (by omega)
      clear hc4 hg4 hx3
      obtain ⟨v, hv⟩ : ∃ v : Int, (k : Int) + 1 + x3 = v := ⟨_, rfl⟩
      by_cases hge : (n : Int) ≤ v
      · have t1 : decide (v ≥ (n : Int)) = true := decide_eq_true hge
        obtain ⟨s0, s1, s2, s3⟩ := blk2 HD.out.bx
        have hsz := HD.out.size
        go_wp2_with (at_builtin; refine app1 _ rfl _ _ rfl (w.heap.size + 2) (-1) HD.out.oI rfl rfl (by omega) HD.out.size ?_; intro v2 w6 ho6 hg6; obtain ⟨aI, cI, rfl⟩ := own_shape ho6; obtain ⟨r0, r1, r2, r3⟩ := blk2 (HD.out.mid (.inr rfl) hg6).1; have HO6 := Lib.hid ho6; have HG6 := Lib.hid hg6; clear ho6 hg6)
        have D6 := HD.out.appI HO6.out HG6.out
        go_roundg gk
        case rel => exact ⟨k + 1, _, _, _, _, by omega, by simp, HF.out.snoc HFC.out (.inl rfl), D6⟩
        case measure => omega
      · have t1 : decide (v ≥ (n : Int)) = false := decide_eq_false hge
        go_wp2_with fail
        refine (once_any _ c a len cap 6 (by omega) HD.out.cu).mono ?_; rintro e w5 ⟨bb, rfl, hc5, hg5⟩
        have HD := Lib.hid (HD.out.draw hc5 hg5)
        clear hc5 hg5
        cases bb
        · obtain ⟨s0, s1, s2, s3⟩ := blk2 HD.out.bx
          have hsz := HD.out.size
          go_wp2_with (at_builtin; refine app1 _ rfl _ _ rfl (w.heap.size + 2) (v) HD.out.oI rfl rfl (by omega) HD.out.size ?_; intro v2 w6 ho6 hg6; obtain ⟨aI, cI, rfl⟩ := own_shape ho6; obtain ⟨r0, r1, r2, r3⟩ := blk2 (HD.out.mid (.inr rfl) hg6).1; have HO6 := Lib.hid ho6; have HG6 := Lib.hid hg6; clear ho6 hg6)
          have D6 := HD.out.appI HO6.out HG6.out
          go_roundg gk
          case rel => exact ⟨k + 1, _, _, _, _, by omega, by simp, HF.out.snoc HFC.out (.inr ⟨by omega, by omega⟩), D6⟩
          case measure => omega
        · obtain ⟨s0, s1, s2, s3⟩ := blk2 HD.out.bx
          have hsz := HD.out.size
          go_wp2_with (at_builtin; refine app1 _ rfl _ _ rfl (w.heap.size + 2) (-1) HD.out.oI rfl rfl (by omega) HD.out.size ?_; intro v2 w6 ho6 hg6; obtain ⟨aI, cI, rfl⟩ := own_shape ho6; obtain ⟨r0, r1, r2, r3⟩ := blk2 (HD.out.mid (.inr rfl) hg6).1; have HO6 := Lib.hid ho6; have HG6 := Lib.hid hg6; clear ho6 hg6)
          have D6 := HD.out.appI HO6.out HG6.out
          go_roundg gk
          case rel => exact ⟨k + 1, _, _, _, _, by omega, by simp, HF.out.snoc HFC.out (.inl rfl), D6⟩
          case measure => omega
    · obtain rfl : k = n := by omega
      obtain ⟨aC, cC, rfl⟩ := own_shape hds.oC
      obtain ⟨aI, cI, rfl⟩ := own_shape hds.oI
      obtain ⟨p0, p1, _⟩ := blk2 hds.bx
      obtain ⟨r0, r1, r2, r3⟩ := blk2 hds.rs
      have HD := Lib.hid hds
      clear hds
      go_wp2
      have hst := HD.out
      refine bodyPost_ret (v := CH (.slice aC k cC) (.slice aI k cI)) (by simp [*, results, Try.results36, go_sem]) rfl ?_
      obtain ⟨e1, e2, e3, e4⟩ := hst.res (.slice aC k cC) (.slice aI k cI)
      exact ⟨k, zs, ns, _, _, rfl, hn1, hn6, hf, e1, e2, e3, e4⟩
def DrewCh0 (w : World) (e : Ending) (w' : World) : Prop :=
  ∃ (n : Nat) (zs ns : List Int) (vC vI : Value), e = .returned (CH vC vI) ∧ 1 ≤ n ∧ n ≤ 6 ∧ FairL n zs ns n ∧ Row 2 w' vC n (IV zs) ∧ Row 1 w' vI n (IV ns) ∧ Below w.heap.size w w'
theorem drawChain (w : World) (a : Option Addr) (len cap : Nat) (hb : Bytes w a len) (hl : len ≤ 1048576) (hx : ∀ x, a = some x → 0 < len → x.block < w.heap.size) :
    Calls Try.prog 11 #[.slice a len cap] w (DrewCh0 w) := by
  have x0 := Blk.new w TC #[.slice none 0 0, .slice none 0 0]
  have hb0 : Below w.heap.size w (w.alloc (.cells #[.slice none 0 0, .slice none 0 0] TC)) := below_al (Below.refl _ _) _
  go_enter Try.func11, Try.ntmps11
  go_wp2_with fail
  refine (new_any _ a len cap (hb.grown (World.grownBy_alloc w _ none) (by simp)) hl (fun x e h0 => by have := hx x e h0; simp; omega)).mono ?_; rintro e w1 ⟨c, rfl, hlc, hc1, hg1⟩
  have hb1 : Below w.heap.size w w1 := hb0.grown hg1 hb0.size (by simp)
  have x1 := x0.grown hg1 (by simp)
  have hcw : w.heap.size < c := by simp at hlc; omega
  have hz1 := hb1.size
  have hz2 := x1.lt
  go_wp2_with fail
  refine (chain_any w1 c a len cap hc1).mono ?_; rintro e w2 ⟨n, zs, ns, vC, vI, rfl, n1, n6, hF, oC, oI, hc2, hg2⟩
  have hb2 : Below w.heap.size w w2 := hb1.grown hg2 hb1.size (by rintro k ⟨⟩; omega)
  have y3 := x1.grown hg2 (by simp; omega)
  obtain ⟨r0, r1, r2, r3⟩ := blk2 y3
  obtain ⟨aC, cC, rfl⟩ := own_shape oC
  obtain ⟨aI, cI, rfl⟩ := own_shape oI
  have HF := Lib.hid hF
  have HOC := Lib.hid oC
  have HOI := Lib.hid oI
  have HB := Lib.hid hb2
  clear x0 x1 hb0 hb1 hc1 hg1 hc2 hg2 hF oC oI hb2 y3 hb hx
  go_wp2
  refine bodyPost_ret (v := CH (.slice aC n cC) (.slice aI n cI)) (by simp [*, results, Try.results11, go_sem]) rfl ?_
  have hs := grown_trans (grown_setCell (grown_refl w2 (some w.heap.size)) 0 none (.slice aC n cC)) (grown_setCell (grown_refl _ (some w.heap.size)) 1 none (.slice aI n cI))
  have oC := HOC.out
  have oI := HOI.out
  exact ⟨n, zs, ns, _, _, rfl, n1, n6, HF.out, .of_own (oC.kept hs (.inr fun e => by have := (oC.lt _ e).1; omega)), .of_own (oI.kept hs (.inr fun e => by have := (oI.lt _ e).1; omega)), (HB.out.setCell (Nat.le_refl _) _).setCell (Nat.le_refl _) _⟩
end Go.Proofs.Ytmffhogefchpbaa.chn
