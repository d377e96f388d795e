/- The contracts of both sides' functions on chains: ways, levels, room. -/
import Derived.Test.YtmffhogefchpbaaChnI
import Derived.Test.YtmffhogefchpbaaCis2
import Derived.Deep.RegionHeld3
namespace Go.Proofs.Ytmffhogefchpbaa.chn
open Go.RowKit Go.Proofs.Ytmffhogefchpbaa.kit Go.Proofs.Ytmffhogefchpbaa.lawi Go.Proofs.Ytmffhogefchpbaa.rainl Go.Proofs.Ytmffhogefchpbaa.rain Go.Proofs.Ytmffhogefchpbaa.cis Go.Proofs.Ytmffhogefchpbaa.chl
theorem impl_has_yes (w : World) (va vb : Value) (n m : Nat) (zs ns : List Int) (k : Int) (ha : Row 2 w va n (IV zs)) (hb : Row 1 w vb m (IV ns)) (ok : CO zs n ns m) (hk : In n k) :
    Calls Try.prog 39 #[CH va vb, .int .i64 k] w (Gives w (.bool true)) := by
  obtain ⟨a, ca, rfl⟩ := ha.shape
  obtain ⟨b, cb, rfl⟩ := hb.shape
  have B0 : Below w.heap.size w (w.alloc (.cells #[.slice a n ca, .slice b m cb] TC)) := below_al (Below.refl _ _) _
  have hra := ha.keep B0
  have hrb := hb.keep B0
  have h10 := ok.2.1
  have e1 : IntKind.i64.wrap ((n : Int) - 1) = n - 1 := IntWalk.i64_in _ (by omega)
  obtain ⟨hk0, hk1⟩ := hk
  have HL := Lib.hid B0
  clear ha hb B0
  go_enter Try.func39, Try.ntmps39
  go_wp2_with fail
  refine (impl_chok_yes _ _ _ n m zs ns hra hrb ok).mono ?_; rintro e w1 ⟨rfl, hb1⟩
  obtain ⟨p0, p1, _⟩ := blk2 ((Blk.new w TC #[.slice a n ca, .slice b m cb]).step hb1)
  clear hra hrb ok
  go_wp2_with fail
  refine (inR_yes _ _ _ _ hk0 (by omega)).mono ?_; rintro e w2 ⟨rfl, rfl⟩
  go_wp2
  go_ret
  exact ⟨rfl, below_step HL.out hb1⟩
theorem impl_has_no (w : World) (va vb : Value) (n m : Nat) (zs ns : List Int) (k : Int) (hn : n ≤ 1048576) (hm : m ≤ 1048576) (ha : Row 2 w va n (IV zs)) (hb : Row 1 w vb m (IV ns)) (no : ¬ (CO zs n ns m ∧ In n k)) :
    Calls Try.prog 39 #[CH va vb, .int .i64 k] w (Gives w (.bool false)) := by
  obtain ⟨a, ca, rfl⟩ := ha.shape
  obtain ⟨b, cb, rfl⟩ := hb.shape
  have B0 : Below w.heap.size w (w.alloc (.cells #[.slice a n ca, .slice b m cb] TC)) := below_al (Below.refl _ _) _
  have hra := ha.keep B0
  have hrb := hb.keep B0
  have HL := Lib.hid B0
  have NO := Lib.hid no
  clear ha hb B0 no
  by_cases ok : CO zs n ns m
  · have hk : ¬ (0 ≤ k ∧ k ≤ (n : Int) - 1) := fun h => NO.out ⟨ok, h.1, by omega⟩
    have h10 := ok.2.1
    have e1 : IntKind.i64.wrap ((n : Int) - 1) = n - 1 := IntWalk.i64_in _ (by omega)
    go_enter Try.func39, Try.ntmps39
    go_wp2_with fail
    refine (impl_chok_yes _ _ _ n m zs ns hra hrb ok).mono ?_; rintro e w1 ⟨rfl, hb1⟩
    obtain ⟨p0, p1, _⟩ := blk2 ((Blk.new w TC #[.slice a n ca, .slice b m cb]).step hb1)
    clear hra hrb ok
    go_wp2_with fail
    refine (inR_no _ _ _ _ hk).mono ?_; rintro e w2 ⟨rfl, rfl⟩
    go_wp2
    go_ret
    exact ⟨rfl, below_step HL.out hb1⟩
  · go_enter Try.func39, Try.ntmps39
    go_wp2_with fail
    refine (impl_chok_no _ _ _ n m zs ns hn hm hra hrb ok).mono ?_; rintro e w1 ⟨rfl, hb1⟩
    go_wp2
    go_ret
    exact ⟨rfl, below_step HL.out hb1⟩
set_option maxHeartbeats 400000 in
theorem impl_way_yes (w : World) (va vb : Value) (n m : Nat) (zs ns : List Int) (k : Int) (M : Nat) (ha : Row 2 w va n (IV zs)) (hb : Row 1 w vb m (IV ns)) (ok : CO zs n ns m) (hk : In n k) (hM : M ≤ n) (hE : Leads ns n k M) :
    Calls Try.prog 16 #[CH va vb, .int .i64 k] w (Got w M (wy ns n k M)) := by
  obtain ⟨a, ca, rfl⟩ := ha.shape
  obtain ⟨b, cb, rfl⟩ := hb.shape
  have hlb : ns.length = m := by simpa using hb.1
  obtain rfl : m = n := ok.2.2.1
  have h10 := ok.2.1
  have HA := Lib.hid ha
  have HB := Lib.hid hb
  have HE := Lib.hid hE
  have B0 : Below w.heap.size w (w.alloc (.cells #[.slice a m ca, .slice b m cb] TC)) := below_al (Below.refl _ _) _
  have hra := ha.keep B0
  have hrb := hb.keep B0
  clear ha hb hE
  go_enter Try.func16, Try.ntmps16
  go_wp2_with fail
  refine (impl_has_yes _ _ _ m m zs ns k hra hrb ok hk).mono ?_; rintro e w1 ⟨rfl, hb1⟩
  have hblk : Blk w1 w.heap.size TC #[.slice a m ca, .slice b m cb] := (Blk.new _ _ _).step hb1
  have HX := Lib.hid hblk
  have hbel : Below w.heap.size w w1 := below_step B0 hb1
  have HL := Lib.hid hbel
  clear hblk hbel B0 hra hrb ok hb1
  go_wp2
  go_loopg [1, 5] M (fun g s1 s5 wr => ∃ i : Nat, i + g = M ∧ s1 = .int .i64 (it ns m k i) ∧ wr.ownsRow (w.heap.size + 1) 3 1 s5 i (IV (wy ns m k i)) ∧ Blk wr w.heap.size TC #[.slice a m ca, .slice b m cb] ∧ Below w.heap.size w wr)
  case atStart => exact ⟨0, by omega, rfl, World.ownsRow_nil _ _ _ _, HX.out, HL.out⟩
  case round =>
    obtain ⟨i, hig, rfl, hown, hblk, hbel⟩ := hrel
    by_cases hlt : i < M
    · obtain ⟨gk, rfl⟩ : ∃ g', gk = g' + 1 := ⟨gk - 1, by omega⟩
      have hin := HE.out.1 i hlt
      have hnx := it_step hin
      obtain ⟨D, hD⟩ : ∃ D : Nat, it ns m k i = D := ⟨(it ns m k i).toNat, by have := hin.1; omega⟩
      rw [hD] at hin hnx ⊢
      obtain ⟨hin0, hin1⟩ := hin
      obtain ⟨b2, o2, rfl, h2⟩ := HB.out.at_ (by omega)
      obtain ⟨z, hz⟩ : ∃ z, ns.getD D 0 = z := ⟨_, rfl⟩
      have g3 := h2 D _ (getI (by omega))
      rw [hz] at g3
      rw [Int.toNat_natCast, hz] at hnx
      have HD := Lib.hid hD
      have HN := Lib.hid hnx
      have HX := Lib.hid hblk
      have HW := Lib.hid hown
      have HL := Lib.hid hbel
      have HG := Lib.hid g3
      have dd : ((D : Int) != -1) = true := by simp
      clear h2 hz hD hnx hblk hown hbel g3
      go_wp2_with (at_builtin; refine app1 _ rfl _ _ rfl (w.heap.size + 1) (D : Int) HW.out rfl rfl (by omega) (Nat.succ_le_of_lt HX.out.lt) ?_; intro v' w1 hown1 hg1; have hb1 := HL.out.grown hg1 HL.out.size (fun q hq => Nat.le_of_succ_le (HW.out.lt q hq).1); have hx1 := HX.out.grown hg1 (own_ne HW.out (by omega)); have q3 := (hb1.cell (p := ⟨b2, o2 + D, none⟩) (World.block_lt_of_cell? w _ HG.out)).trans HG.out; have q1 := (blk2 hx1).2.1; replace hown1 := Lib.hid hown1; replace hb1 := Lib.hid hb1; replace hx1 := Lib.hid hx1; clear hg1)
      go_roundg gk
      case measure => omega
      case rel =>
        refine ⟨i + 1, by omega, by rw [HN.out], ?_, hx1.out, hb1.out⟩
        rw [wy_succ, HD.out]
        exact hown1.out
    · obtain rfl : i = M := by omega
      rw [HE.out.2]
      go_wp2
      go_ret
      exact ⟨_, rfl, own_mono hown (by omega), hbel⟩
theorem impl_way_no (w : World) (va vb : Value) (n m : Nat) (zs ns : List Int) (k : Int) (hn : n ≤ 1048576) (hm : m ≤ 1048576) (ha : Row 2 w va n (IV zs)) (hb : Row 1 w vb m (IV ns)) (no : ¬ (CO zs n ns m ∧ In n k)) :
    Calls Try.prog 16 #[CH va vb, .int .i64 k] w (Got w 0 []) := by
  obtain ⟨a, ca, rfl⟩ := ha.shape
  obtain ⟨b, cb, rfl⟩ := hb.shape
  have B0 : Below w.heap.size w (w.alloc (.cells #[.slice a n ca, .slice b m cb] TC)) := below_al (Below.refl _ _) _
  have hra := ha.keep B0
  have hrb := hb.keep B0
  have HL := Lib.hid B0
  clear ha hb B0
  go_enter Try.func16, Try.ntmps16
  go_wp2_with fail
  refine (impl_has_no _ _ _ n m zs ns k hn hm hra hrb no).mono ?_; rintro e w1 ⟨rfl, hb1⟩
  go_wp2
  go_ret
  exact ⟨_, rfl, World.ownsRow_nil _ _ _ _, below_step HL.out hb1⟩
theorem impl_tl_yes (w : World) (va vb : Value) (n m : Nat) (zs ns : List Int) (ha : Row 2 w va n (IV zs)) (hb : Row 1 w vb m (IV ns)) (ok : CO zs n ns m) :
    Calls Try.prog 14 #[CH va vb] w (Gives w (.int .i64 (tl zs n))) := by
  obtain ⟨a, ca, rfl⟩ := ha.shape
  obtain ⟨b, cb, rfl⟩ := hb.shape
  have hla : zs.length = n * 2 := by simpa using ha.1
  have h10 := ok.2.1
  have HV := Lib.hid ok.2.2.2.1
  have HA := Lib.hid ha
  have B0 : Below w.heap.size w (w.alloc (.cells #[.slice a n ca, .slice b m cb] TC)) := below_al (Below.refl _ _) _
  have hra := ha.keep B0
  have hrb := hb.keep B0
  clear ha hb
  go_enter Try.func14, Try.ntmps14
  go_wp2_with fail
  refine (impl_chok_yes _ _ _ n m zs ns hra hrb ok).mono ?_; rintro e w1 ⟨rfl, hb1⟩
  have hblk : Blk w1 w.heap.size TC #[.slice a n ca, .slice b m cb] := (Blk.new _ _ _).step hb1
  obtain ⟨p0, p1, _⟩ := blk2 hblk
  have hbel : Below w.heap.size w w1 := below_step B0 hb1
  have HL := Lib.hid hbel
  clear hblk hbel B0 hra hrb ok hb1
  go_wp2
  clear p0 p1
  go_loopg [3, 12] n (fun g s3 s12 wr => ∃ i : Nat, i + g = n ∧ s12 = .int .i64 i ∧ s3 = .int .i64 (tl zs i) ∧ Below w.heap.size w wr)
  case atStart => exact ⟨0, by omega, rfl, rfl, HL.out⟩
  case round =>
    obtain ⟨i, hig, rfl, rfl, hbel⟩ := hrel
    by_cases hlt : i < n
    · obtain ⟨gk, rfl⟩ : ∃ g', gk = g' + 1 := ⟨gk - 1, by omega⟩
      obtain ⟨b1, o1, rfl, h1⟩ := (HA.out.keep hbel).at_ (by omega)
      obtain ⟨x, hx⟩ : ∃ x, zs.getD (i * 2) 0 = x := ⟨_, rfl⟩
      obtain ⟨y, hy⟩ : ∃ y, zs.getD (i * 2 + 1) 0 = y := ⟨_, rfl⟩
      obtain ⟨t, ht⟩ : ∃ t, tl zs i = t := ⟨_, rfl⟩
      have g1 := h1 (i * 2) _ (getI (by omega))
      have g2 := h1 (i * 2 + 1) _ (getI (by omega))
      rw [hx] at g1
      rw [hy, ← Nat.add_assoc] at g2
      have tb := tl_bd HV.out i (by omega)
      have c1 := HV.out i hlt
      rw [hx, hy] at c1
      rw [ht] at tb ⊢
      obtain ⟨_, y1, y2, y3⟩ := c1
      have hs : tl zs (i + 1) = t + y := by show tl zs i + zs.getD (i * 2 + 1) 0 = _; rw [ht, hy]
      have HS := Lib.hid hs
      have HL := Lib.hid hbel
      clear h1 hx hy ht hs hbel
      go_wp2
      go_roundg gk
      case measure => omega
      case rel => exact ⟨i + 1, by omega, by go_num, by rw [HS.out], below_al HL.out _⟩
    · obtain rfl : i = n := by omega
      go_wp2
      go_ret
      exact ⟨rfl, hbel⟩
theorem impl_tl_no (w : World) (va vb : Value) (n m : Nat) (zs ns : List Int) (hn : n ≤ 1048576) (hm : m ≤ 1048576) (ha : Row 2 w va n (IV zs)) (hb : Row 1 w vb m (IV ns)) (no : ¬ CO zs n ns m) :
    Calls Try.prog 14 #[CH va vb] w (Gives w (.int .i64 (-1))) := by
  obtain ⟨a, ca, rfl⟩ := ha.shape
  obtain ⟨b, cb, rfl⟩ := hb.shape
  have B0 : Below w.heap.size w (w.alloc (.cells #[.slice a n ca, .slice b m cb] TC)) := below_al (Below.refl _ _) _
  have hra := ha.keep B0
  have hrb := hb.keep B0
  have HL := Lib.hid B0
  clear ha hb B0
  go_enter Try.func14, Try.ntmps14
  go_wp2_with fail
  refine (impl_chok_no _ _ _ n m zs ns hn hm hra hrb no).mono ?_; rintro e w1 ⟨rfl, hb1⟩
  go_wp2
  go_ret
  exact ⟨rfl, below_step HL.out hb1⟩
theorem spec_tl_yes (w : World) (va vb : Value) (n m : Nat) (zs ns : List Int) (ha : Row 2 w va n (IV zs)) (hb : Row 1 w vb m (IV ns)) (ok : CO zs n ns m) :
    Calls Try.prog 28 #[CH va vb] w (Gives w (.int .i64 (tl zs n))) := by
  obtain ⟨a, ca, rfl⟩ := ha.shape
  obtain ⟨b, cb, rfl⟩ := hb.shape
  have hla : zs.length = n * 2 := by simpa using ha.1
  have h10 := ok.2.1
  have HV := Lib.hid ok.2.2.2.1
  have HA := Lib.hid ha
  have B0 : Below w.heap.size w (w.alloc (.cells #[.slice a n ca, .slice b m cb] TC)) := below_al (Below.refl _ _) _
  have hra := ha.keep B0
  have hrb := hb.keep B0
  clear ha hb
  go_enter Try.func28, Try.ntmps28
  go_wp2_with fail
  refine (spec_chok_yes _ _ _ n m zs ns hra hrb ok).mono ?_; rintro e w1 ⟨rfl, hb1⟩
  have hblk : Blk w1 w.heap.size TC #[.slice a n ca, .slice b m cb] := (Blk.new _ _ _).step hb1
  have hra := HA.out.keep (below_step B0 hb1)
  obtain ⟨p0, p1, _⟩ := blk2 hblk
  have hbel : Below w.heap.size w w1 := below_step B0 hb1
  have HL := Lib.hid hbel
  have HR := Lib.hid hra
  clear hblk hbel B0 hra hrb ok hb1
  go_wp2
  go_loopg [3, 4] n (fun g s3 s4 wr => wr = w1 ∧ ∃ i : Nat, i + g = n ∧ s4 = .int .i64 i ∧ s3 = .int .i64 (tl zs i))
  case atStart => exact ⟨rfl, 0, by omega, rfl, rfl⟩
  case round =>
    obtain ⟨rfl, i, hig, rfl, rfl⟩ := hrel
    by_cases hlt : i < n
    · obtain ⟨gk, rfl⟩ : ∃ g', gk = g' + 1 := ⟨gk - 1, by omega⟩
      obtain ⟨b1, o1, rfl, h1⟩ := HR.out.at_ (by omega)
      obtain ⟨y, hy⟩ : ∃ y, zs.getD (i * 2 + 1) 0 = y := ⟨_, rfl⟩
      obtain ⟨t, ht⟩ : ∃ t, tl zs i = t := ⟨_, rfl⟩
      have g2 := h1 (i * 2 + 1) _ (getI (by omega))
      rw [hy, ← Nat.add_assoc] at g2
      have tb := tl_bd HV.out i (by omega)
      have c1 := HV.out i hlt
      rw [hy] at c1
      rw [ht] at tb ⊢
      obtain ⟨_, y1, y2, y3⟩ := c1
      have hs : tl zs (i + 1) = t + y := by show tl zs i + zs.getD (i * 2 + 1) 0 = _; rw [ht, hy]
      have HS := Lib.hid hs
      clear h1 hy ht hs
      go_wp2
      go_roundg gk
      case measure => omega
      case rel => exact ⟨rfl, i + 1, by omega, by go_num, by rw [HS.out]⟩
    · obtain rfl : i = n := by omega
      go_wp2
      go_ret
      exact ⟨rfl, HL.out⟩
theorem spec_tl_no (w : World) (va vb : Value) (n m : Nat) (zs ns : List Int) (hn : n ≤ 1048576) (hm : m ≤ 1048576) (ha : Row 2 w va n (IV zs)) (hb : Row 1 w vb m (IV ns)) (no : ¬ CO zs n ns m) :
    Calls Try.prog 28 #[CH va vb] w (Gives w (.int .i64 (-1))) := by
  obtain ⟨a, ca, rfl⟩ := ha.shape
  obtain ⟨b, cb, rfl⟩ := hb.shape
  have B0 : Below w.heap.size w (w.alloc (.cells #[.slice a n ca, .slice b m cb] TC)) := below_al (Below.refl _ _) _
  have hra := ha.keep B0
  have hrb := hb.keep B0
  have HL := Lib.hid B0
  clear ha hb B0
  go_enter Try.func28, Try.ntmps28
  go_wp2_with fail
  refine (spec_chok_no _ _ _ n m zs ns hn hm hra hrb no).mono ?_; rintro e w1 ⟨rfl, hb1⟩
  go_wp2
  go_ret
  exact ⟨rfl, below_step HL.out hb1⟩
theorem impl_room_yes (w : World) (va vb : Value) (n m : Nat) (zs ns : List Int) (k : Int) (M : Nat) (ha : Row 2 w va n (IV zs)) (hb : Row 1 w vb m (IV ns)) (ok : CO zs n ns m) (hk : In n k) (hM : M ≤ n) (hE : Leads ns n k M) :
    Calls Try.prog 15 #[CH va vb, .int .i64 k] w (Gives w (.int .i64 (room zs ns n k M))) := by
  obtain ⟨a, ca, rfl⟩ := ha.shape
  obtain ⟨b, cb, rfl⟩ := hb.shape
  have hla : zs.length = n * 2 := by simpa using ha.1
  have h10 := ok.2.1
  have HA := Lib.hid ha
  have HV := Lib.hid ok.2.2.2.1
  have HE := Lib.hid hE
  have B0 : Below w.heap.size w (w.alloc (.cells #[.slice a n ca, .slice b m cb] TC)) := below_al (Below.refl _ _) _
  have hra := ha.keep B0
  have hrb := hb.keep B0
  go_enter Try.func15, Try.ntmps15
  go_wp2_with fail
  refine (impl_has_yes _ _ _ n m zs ns k hra hrb ok hk).mono ?_; rintro e w1 ⟨rfl, hb1⟩
  have hblk : Blk w1 w.heap.size TC #[.slice a n ca, .slice b m cb] := (Blk.new _ _ _).step hb1
  obtain ⟨p0, p1, _⟩ := blk2 hblk
  have B1 : Below w.heap.size w w1 := below_step B0 hb1
  replace hra := ha.keep B1
  replace hrb := hb.keep B1
  have HX := Lib.hid hblk
  clear hb1 B0 hblk
  go_wp2_with fail
  refine (impl_way_yes _ _ _ n m zs ns k M hra hrb ok hk hM hE).mono ?_; rintro e w2 ⟨vw, rfl, hown, hb2⟩
  have hx2 := HX.out.step hb2
  have B2 := below_step B1 hb2
  have hw := Row.of_own hown
  obtain ⟨aw, cw, rfl⟩ := own_shape hown
  have HX2 := Lib.hid hx2
  have HB2 := Lib.hid B2
  have HW := Lib.hid hw
  clear ha hb hE p0 p1 B1 B2 hra hrb ok hk HX hown hb2 hx2 hw
  go_wp2
  go_loopg [5, 16] M (fun g s5 s16 wr => ∃ i : Nat, i + g = M ∧ s16 = .int .i64 i ∧ s5 = .int .i64 (room zs ns n k i) ∧ Below w2.heap.size w2 wr)
  case atStart => exact ⟨0, by omega, rfl, rfl, Below.refl _ _⟩
  case round =>
    obtain ⟨i, hig, rfl, rfl, hbel⟩ := hrel
    by_cases hlt : i < M
    · obtain ⟨gk, rfl⟩ : ∃ g', gk = g' + 1 := ⟨gk - 1, by omega⟩
      have hin := HE.out.1 i hlt
      obtain ⟨D, hD⟩ : ∃ D : Nat, it ns n k i = D := ⟨(it ns n k i).toNat, by have := hin.1; omega⟩
      rw [hD] at hin
      obtain ⟨hin0, hin1⟩ := hin
      obtain ⟨p0, p1, _⟩ := blk2 (HX2.out.step hbel)
      obtain ⟨b1, o1, rfl, h1⟩ := (HA.out.keep (below_step HB2.out hbel)).at_ (by omega)
      obtain ⟨b2, o2, rfl, h2⟩ := (HW.out.keep hbel).at_ (by omega)
      obtain ⟨x, hx⟩ : ∃ x, zs.getD (D * 2) 0 = x := ⟨_, rfl⟩
      obtain ⟨y, hy⟩ : ∃ y, zs.getD (D * 2 + 1) 0 = y := ⟨_, rfl⟩
      obtain ⟨t, ht⟩ : ∃ t, room zs ns n k i = t := ⟨_, rfl⟩
      have g1 := h1 (D * 2) _ (getI (by omega))
      have g2 := h1 (D * 2 + 1) _ (getI (by omega))
      rw [hx] at g1
      rw [hy, ← Nat.add_assoc] at g2
      have g3 := h2 i _ (getI (by rw [wy_len]; omega))
      rw [wy_at k hlt, hD] at g3
      have tb := room_bd HV.out HE.out.1 i (by omega)
      have c1 := HV.out D (by omega)
      rw [hx, hy] at c1
      rw [ht] at tb ⊢
      have hs : room zs ns n k (i + 1) = t + (x - y) := by
        show room zs ns n k i + sp zs (it ns n k i) = _
        rw [ht, hD, sp, Int.toNat_natCast, hx, hy]
      have HS := Lib.hid hs
      have HL := Lib.hid hbel
      have c2 := c1
      obtain ⟨y0, y1, y2, y3⟩ := c2
      clear h1 h2 hx hy ht hs hD hbel
      go_wp2_with fail
      refine (impl_space _ _ _ c1).mono ?_; rintro e w3 ⟨rfl, hb3⟩
      clear g1 g2 g3 p0 p1
      go_wp2
      go_roundg gk
      case measure => omega
      case rel => exact ⟨i + 1, by omega, by go_num, by rw [HS.out], below_step HL.out hb3⟩
    · obtain rfl : i = M := by omega
      go_wp2
      go_ret
      exact ⟨rfl, below_step HB2.out hbel⟩
theorem impl_room_no (w : World) (va vb : Value) (n m : Nat) (zs ns : List Int) (k : Int) (hn : n ≤ 1048576) (hm : m ≤ 1048576) (ha : Row 2 w va n (IV zs)) (hb : Row 1 w vb m (IV ns)) (no : ¬ (CO zs n ns m ∧ In n k)) :
    Calls Try.prog 15 #[CH va vb, .int .i64 k] w (Gives w (.int .i64 (-1))) := by
  obtain ⟨a, ca, rfl⟩ := ha.shape
  obtain ⟨b, cb, rfl⟩ := hb.shape
  have B0 : Below w.heap.size w (w.alloc (.cells #[.slice a n ca, .slice b m cb] TC)) := below_al (Below.refl _ _) _
  have hra := ha.keep B0
  have hrb := hb.keep B0
  have HL := Lib.hid B0
  clear ha hb B0
  go_enter Try.func15, Try.ntmps15
  go_wp2_with fail
  refine (impl_has_no _ _ _ n m zs ns k hn hm hra hrb no).mono ?_; rintro e w1 ⟨rfl, hb1⟩
  go_wp2
  go_ret
  exact ⟨rfl, below_step HL.out hb1⟩
theorem spec_room_yes (w : World) (va vb : Value) (n m : Nat) (zs ns : List Int) (k : Int) (M : Nat) (ha : Row 2 w va n (IV zs)) (hb : Row 1 w vb m (IV ns)) (ok : CO zs n ns m) (hk : In n k) (hM1 : 1 ≤ M) (hM : M ≤ n) (hE : Leads ns n k M) :
    Calls Try.prog 33 #[CH va vb, .int .i64 k] w (Gives w (.int .i64 (room zs ns n k M))) := by
  obtain ⟨a, ca, rfl⟩ := ha.shape
  obtain ⟨b, cb, rfl⟩ := hb.shape
  have hla : zs.length = n * 2 := by simpa using ha.1
  have h10 := ok.2.1
  have HA := Lib.hid ha
  have HV := Lib.hid ok.2.2.2.1
  have HE := Lib.hid hE
  have B0 : Below w.heap.size w (w.alloc (.cells #[.slice a n ca, .slice b m cb] TC)) := below_al (Below.refl _ _) _
  have hra := ha.keep B0
  have hrb := hb.keep B0
  have hM0 : ((M : Int) == 0) = false := by simp; omega
  go_enter Try.func33, Try.ntmps33
  go_wp2_with fail
  refine (spec_way_yes _ _ _ n m zs ns k M hra hrb ok hk hM hE).mono ?_; rintro e w2 ⟨vw, rfl, hown, hb2⟩
  have hx2 : Blk w2 w.heap.size TC #[.slice a n ca, .slice b m cb] := (Blk.new _ _ _).step hb2
  have B2 := below_step B0 hb2
  have hw := Row.of_own hown
  obtain ⟨aw, cw, rfl⟩ := own_shape hown
  have HX2 := Lib.hid hx2
  have HB2 := Lib.hid B2
  have HW := Lib.hid hw
  clear ha hb hE B0 B2 hra hrb ok hk hown hb2 hx2 hw
  go_wp2
  go_loopg [6, 7] M (fun g s5 s16 wr => ∃ i : Nat, i + g = M ∧ s16 = .int .i64 i ∧ s5 = .int .i64 (room zs ns n k i) ∧ Below w2.heap.size w2 wr)
  case atStart => exact ⟨0, by omega, rfl, rfl, Below.refl _ _⟩
  case round =>
    clear hM0
    obtain ⟨i, hig, rfl, rfl, hbel⟩ := hrel
    by_cases hlt : i < M
    · obtain ⟨gk, rfl⟩ : ∃ g', gk = g' + 1 := ⟨gk - 1, by omega⟩
      have hin := HE.out.1 i hlt
      obtain ⟨D, hD⟩ : ∃ D : Nat, it ns n k i = D := ⟨(it ns n k i).toNat, by have := hin.1; omega⟩
      rw [hD] at hin
      obtain ⟨hin0, hin1⟩ := hin
      obtain ⟨p0, p1, _⟩ := blk2 (HX2.out.step hbel)
      obtain ⟨b1, o1, rfl, h1⟩ := (HA.out.keep (below_step HB2.out hbel)).at_ (by omega)
      obtain ⟨b2, o2, rfl, h2⟩ := (HW.out.keep hbel).at_ (by omega)
      obtain ⟨x, hx⟩ : ∃ x, zs.getD (D * 2) 0 = x := ⟨_, rfl⟩
      obtain ⟨y, hy⟩ : ∃ y, zs.getD (D * 2 + 1) 0 = y := ⟨_, rfl⟩
      obtain ⟨t, ht⟩ : ∃ t, room zs ns n k i = t := ⟨_, rfl⟩
      have g1 := h1 (D * 2) _ (getI (by omega))
      have g2 := h1 (D * 2 + 1) _ (getI (by omega))
      rw [hx] at g1
      rw [hy, ← Nat.add_assoc] at g2
      have g3 := h2 i _ (getI (by rw [wy_len]; omega))
      rw [wy_at k hlt, hD] at g3
      have tb := room_bd HV.out HE.out.1 i (by omega)
      have c1 := HV.out D (by omega)
      rw [hx, hy] at c1
      rw [ht] at tb ⊢
      have hs : room zs ns n k (i + 1) = t + (x - y) := by
        show room zs ns n k i + sp zs (it ns n k i) = _
        rw [ht, hD, sp, Int.toNat_natCast, hx, hy]
      have HS := Lib.hid hs
      have HL := Lib.hid hbel
      have c2 := c1
      obtain ⟨y0, y1, y2, y3⟩ := c2
      have ea : IntKind.i64.wrap (t + (x - y)) = t + (x - y) := IntWalk.i64_in _ (by omega)
      clear h1 h2 hx hy ht hs hD hbel
      go_wp2
      go_region_held3 (fun W => W.cell? ⟨w.heap.size, 0, none⟩ = some (.slice (some ⟨b1, o1, none⟩) n ca) ∧ W.cell? ⟨b2, o2 + i, none⟩ = some (.int .i64 D) ∧ W.cell? ⟨b1, o1 + D * 2, none⟩ = some (.int .i64 x) ∧ W.cell? ⟨b1, o1 + D * 2 + 1, none⟩ = some (.int .i64 y))
        (first | assumption | exact ⟨p0, g3, g1, g2⟩ | exact keep4 (by assumption) (by assumption) | fail)
        (first
          | (go_at_call 57; refine (spec_spacein_yes _ _ _ c1).mono ?_; rintro e w3 ⟨rfl, hb3⟩)
          | fail)
      all_goals
        have hb3' : Below wr.heap.size wr w3 := below_step (below_dr (Below.refl _ _)) hb3
        clear g1 g2 g3 p0 p1 hb3
        go_wp2
        go_roundg gk
        case measure => omega
        case rel => exact ⟨i + 1, by omega, by go_num, by rw [HS.out], below_step HL.out hb3'⟩
    · obtain rfl : i = M := by omega
      go_wp2
      go_ret
      exact ⟨rfl, below_step HB2.out hbel⟩
theorem spec_room_no (w : World) (va vb : Value) (n m : Nat) (zs ns : List Int) (k : Int) (hn : n ≤ 1048576) (hm : m ≤ 1048576) (ha : Row 2 w va n (IV zs)) (hb : Row 1 w vb m (IV ns)) (no : ¬ (CO zs n ns m ∧ In n k)) :
    Calls Try.prog 33 #[CH va vb, .int .i64 k] w (Gives w (.int .i64 (-1))) := by
  obtain ⟨a, ca, rfl⟩ := ha.shape
  obtain ⟨b, cb, rfl⟩ := hb.shape
  have B0 : Below w.heap.size w (w.alloc (.cells #[.slice a n ca, .slice b m cb] TC)) := below_al (Below.refl _ _) _
  have hra := ha.keep B0
  have hrb := hb.keep B0
  have HL := Lib.hid B0
  clear ha hb B0
  go_enter Try.func33, Try.ntmps33
  go_wp2_with fail
  refine (spec_way_no _ _ _ n m zs ns k hn hm hra hrb no).mono ?_; rintro e w1 ⟨vw, rfl, hown, hb1⟩
  obtain ⟨aw, cw, rfl⟩ := own_shape hown
  clear hown
  go_wp2
  go_ret
  exact ⟨rfl, below_step HL.out hb1⟩
end Go.Proofs.Ytmffhogefchpbaa.chn
