/- The contracts of the specification's functions on chains. -/
import Derived.Test.YtmffhogefchpbaaChnL
import Derived.Deep.LoopGhost
namespace Go.Proofs.Ytmffhogefchpbaa.chn
open Go.RowKit Go.Proofs.Ytmffhogefchpbaa.kit Go.Proofs.Ytmffhogefchpbaa.lawi Go.Proofs.Ytmffhogefchpbaa.rainl Go.Proofs.Ytmffhogefchpbaa.rain Go.Proofs.Ytmffhogefchpbaa.cis Go.Proofs.Ytmffhogefchpbaa.chl
set_option maxHeartbeats 1000000 in
theorem spec_circ (w : World) (v : Value) (n : Nat) (ns : List Int) (hn : n ≤ 20) (h : Row 1 w v n (IV ns)) :
    Calls Try.prog 34 #[v] w (Got w (circ ns n n).length (circ ns n n)) := by
  obtain ⟨hl, a, ca, rfl, ha⟩ := h
  have hl : ns.length = n := by simpa using hl
  go_enter Try.func34, Try.ntmps34
  go_wp2
  go_loopg [3, 5] n (fun g s3 s5 wr => ∃ k : Nat, k + g = n ∧ s5 = .int .i64 k ∧ wr.ownsRow w.heap.size 3 1 s3 (circ ns n k).length (IV (circ ns n k)) ∧ Below w.heap.size w wr)
  case atStart => exact ⟨0, by omega, rfl, World.ownsRow_made _ #[] 0 (Nat.le_refl _) (Nat.zero_le _) rfl, (Below.refl _ _).alloc (Nat.le_refl _) _⟩
  case round =>
    obtain ⟨k, hkg, rfl, hown, hbel⟩ := hrel
    by_cases hlt : k < n
    · obtain ⟨wo, rfl⟩ : ∃ wo : World, wo = wr := ⟨_, rfl⟩
      obtain ⟨b1, o1, rfl, h1⟩ := ha.resolve_left (by omega)
      have h2 : ∀ j, j < n → wo.cell? ⟨b1, o1 + j, none⟩ = some (.int .i64 (ns.getD j 0)) := fun j hj => (hbel.cell (p := ⟨b1, o1 + j, none⟩) (World.block_lt_of_cell? w _ (h1 j _ (getI (by omega))))).trans (h1 j _ (getI (by omega)))
      obtain ⟨z, hz⟩ : ∃ z, ns.getD k 0 = z := ⟨_, rfl⟩
      have g1 := h2 k hlt
      rw [hz] at g1
      have hk : In n (k : Int) := ⟨by omega, by omega⟩
      have hz1 : it ns n (k : Int) 1 = z := by
        rw [it_step (j := 0) (by exact hk)]
        show ns.getD ((k : Int)).toNat 0 = z
        rw [Int.toNat_natCast, hz]
      have H2 := Lib.hid h2
      have HZ := Lib.hid hz1
      have HK := Lib.hid hk
      have HO := Lib.hid hown
      have HB := Lib.hid hbel
      obtain ⟨gk', rfl⟩ : ∃ g', gk = g' + 1 := ⟨gk - 1, by omega⟩
      have hd20 : decide ((n : Int) ≤ 20) = true := decide_eq_true (by omega)
      clear h1 ha h2 hz hz1 hk hown hbel
      go_wp2
      clear g1
      go_loopg [6, 7] n (fun g s6 s7 wi => wi = wo ∧ ∃ (s : Nat) (x : Int), s + g = n ∧ s7 = .int .i64 s ∧ s6 = .int .i64 x ∧ it ns n (k : Int) (s + 1) = x ∧ ∀ i, i < s → it ns n (k : Int) (i + 1) ≠ k)
      case atStart => exact ⟨rfl, 0, z, by omega, rfl, rfl, HZ.out, fun i hi => by omega⟩
      case round =>
        obtain ⟨rfl, s, x, hs, rfl, rfl, hx, hne⟩ := hrel
        have e1 : IntKind.i64.wrap ((n : Int) - 1) = n - 1 := IntWalk.i64_in _ (by omega)
        have HX := Lib.hid hx
        have HN := Lib.hid hne
        clear hx hne
        by_cases hc : (s < n ∧ In n x) ∧ x ≠ k
        · obtain ⟨⟨hsn, hin⟩, hxk⟩ := hc
          obtain ⟨gk, rfl⟩ : ∃ g', gk = g' + 1 := ⟨gk - 1, by omega⟩
          have hnx : it ns n (k : Int) (s + 1 + 1) = ns.getD x.toNat 0 := by rw [it_step (by rw [HX.out]; exact hin), HX.out]
          have hin' := hin
          obtain ⟨hx0, hx1⟩ := hin
          obtain ⟨D, rfl⟩ : ∃ D : Nat, x = D := ⟨x.toNat, by omega⟩
          obtain ⟨y, hy⟩ : ∃ y, ns.getD D 0 = y := ⟨_, rfl⟩
          have g1 := H2.out D (by omega)
          rw [hy] at g1
          rw [Int.toNat_natCast, hy] at hnx
          have HY := Lib.hid hnx
          clear hy hnx hin'
          go_wp2_with fail
          refine (in_yes _ _ _ _ hx0 (by omega)).mono ?_; rintro e w1 ⟨rfl, rfl⟩
          go_wp2
          go_roundg gk
          case measure => omega
          case rel =>
            refine ⟨rfl, s + 1, y, by omega, by go_num, rfl, HY.out, fun i hi => ?_⟩
            by_cases ei : i = s
            · subst ei; rw [HX.out]; exact hxk
            · exact HN.out i (by omega)
        · by_cases hxk : x = k
          · subst hxk
            have hon : OnC ns n (k : Int) := ⟨s, HX.out⟩
            have HC := Lib.hid hon
            clear hon hc
            have HK0 := HK.out.1
            have HK1 := HK.out.2
            by_cases hsn : s < n
            all_goals
              go_wp2_with (first | (go_at_call 48; refine (in_yes _ _ _ _ HK0 (by omega)).mono ?_; rintro e w1 ⟨rfl, rfl⟩) | (at_builtin; refine app1 _ rfl _ _ rfl w.heap.size (k : Int) HO.out rfl rfl (by have := circ_len (ns := ns) (n := n) k; omega) HB.out.size ?_; intro v' w1 hown1 hg1) | fail)
              go_roundg gk'
              case measure => omega
              case rel =>
                refine ⟨k + 1, by omega, by go_num, ?_, HB.out.grown hg1 HB.out.size (fun q hq => (HO.out.lt q hq).1)⟩
                rw [circ_yes HC.out, List.length_append]
                exact hown1
          · have hno : ¬ OnC ns n (k : Int) := by
              by_cases hin : In n x
              · have hsn : s = n := by
                  by_cases e : s < n
                  · exact absurd ⟨⟨e, hin⟩, hxk⟩ hc
                  · omega
                subst hsn
                exact not_onC HK.out HN.out
              · exact not_onC_out (s := s + 1) HK.out (fun i hi => by
                  by_cases ei : i = s
                  · subst ei; rw [HX.out]; exact hxk
                  · exact HN.out i (by omega)) (by rw [HX.out]; exact hin)
            have HC := Lib.hid hno
            clear hno
            have hxk' : (x == (k : Int)) = false := by simpa using hxk
            by_cases hsn : s < n
            · by_cases hin : In n x
              · exact absurd ⟨⟨hsn, hin⟩, hxk⟩ hc
              · have HI : ¬ (0 ≤ x ∧ x ≤ (n : Int) - 1) := fun h => hin ⟨h.1, by omega⟩
                clear hin hc
                go_wp2_with (first | (go_at_call 48; refine (in_no _ _ _ _ HI).mono ?_; rintro e w1 ⟨rfl, rfl⟩) | fail)
                go_roundg gk'
                case measure => omega
                case rel => exact ⟨k + 1, by omega, by go_num, by rw [circ_no HC.out]; exact HO.out, HB.out⟩
            · go_wp2
              go_roundg gk'
              case measure => omega
              case rel => exact ⟨k + 1, by omega, by go_num, by rw [circ_no HC.out]; exact HO.out, HB.out⟩
    · obtain rfl : k = n := by omega
      go_wp2
      go_ret
      exact ⟨_, rfl, hown, hbel⟩
theorem spec_circ_no (w : World) (v : Value) (n : Nat) (ns : List Int) (hn : 20 < n) (hn2 : n ≤ 1048576) (h : Row 1 w v n (IV ns)) :
    Calls Try.prog 34 #[v] w (Got w 0 []) := by
  obtain ⟨hl, a, ca, rfl, ha⟩ := h
  go_enter Try.func34, Try.ntmps34
  go_wp2
  go_loopg [3, 5] 0 (fun g s3 s5 wr => s5 = .int .i64 0 ∧ wr.ownsRow w.heap.size 3 1 s3 0 (IV []) ∧ Below w.heap.size w wr)
  case atStart => exact ⟨rfl, World.ownsRow_made _ #[] 0 (Nat.le_refl _) (Nat.zero_le _) rfl, (Below.refl _ _).alloc (Nat.le_refl _) _⟩
  case round =>
    obtain ⟨rfl, hown, hbel⟩ := hrel
    go_wp2
    go_ret
    exact ⟨_, rfl, hown, hbel⟩
theorem own_ne {w : World} {base e sz c : Nat} {v : Value} {n : Nat} {xs : List Value} (h : w.ownsRow base e sz v n xs) (hc : c < base) : some c ≠ v.ownBlock := fun e => by
  have := (h.lt c e.symm).1
  omega
abbrev CH (va vb : Value) : Value := .agg #[va, vb]
abbrev TC : TypeId := 27
theorem spec_chok_yes (w : World) (va vb : Value) (n m : Nat) (zs ns : List Int) (ha : Row 2 w va n (IV zs)) (hb : Row 1 w vb m (IV ns)) (ok : CO zs n ns m) :
    Calls Try.prog 22 #[CH va vb] w (Gives w (.bool true)) := by
  obtain ⟨a, ca, rfl⟩ := ha.shape
  obtain ⟨b, cb, rfl⟩ := hb.shape
  have hla : zs.length = n * 2 := by simpa using ha.1
  have hlb : ns.length = m := by simpa using hb.1
  obtain ⟨h1, h10, rfl, hV, hN, hC⟩ := ok
  have HA := Lib.hid ha
  have HB := Lib.hid hb
  have HV := Lib.hid hV
  have HN := Lib.hid hN
  have HC := Lib.hid hC
  have e1 : IntKind.i64.wrap ((m : Int) - 1) = m - 1 := IntWalk.i64_in _ (by omega)
  clear ha hb hV hN hC
  go_enter Try.func22, Try.ntmps22
  go_wp2_with fail
  refine (in_yes _ _ _ _ (by omega) (by omega)).mono ?_; rintro e w1 ⟨rfl, rfl⟩
  go_wp2
  go_loopg [4] m (fun g s4 wr => ∃ k : Nat, k + g = m ∧ s4 = .int .i64 k ∧ Blk wr w.heap.size TC #[.slice a m ca, .slice b m cb] ∧ Below w.heap.size w wr)
  case atStart => exact ⟨0, by omega, rfl, Blk.new _ _ _, below_al (Below.refl _ _) _⟩
  case round =>
    obtain ⟨k, hkg, rfl, hblk, hbel⟩ := hrel
    by_cases hlt : k < m
    · obtain ⟨gk, rfl⟩ : ∃ g', gk = g' + 1 := ⟨gk - 1, by omega⟩
      obtain ⟨b1, o1, rfl, h1⟩ := (HA.out.keep hbel).at_ (by omega)
      obtain ⟨b2, o2, rfl, h2⟩ := (HB.out.keep hbel).at_ (by omega)
      obtain ⟨x, hx⟩ : ∃ x, zs.getD (k * 2) 0 = x := ⟨_, rfl⟩
      obtain ⟨y, hy⟩ : ∃ y, zs.getD (k * 2 + 1) 0 = y := ⟨_, rfl⟩
      obtain ⟨z, hz⟩ : ∃ z, ns.getD k 0 = z := ⟨_, rfl⟩
      have g1 := h1 (k * 2) _ (getI (by omega))
      have g2 := h1 (k * 2 + 1) _ (getI (by omega))
      have g3 := h2 k _ (getI (by omega))
      rw [hx] at g1
      rw [hy, ← Nat.add_assoc] at g2
      rw [hz] at g3
      have ok := HV.out k hlt
      rw [hx, hy] at ok
      have okz := HN.out k hlt
      rw [hz] at okz
      obtain ⟨z0, z1⟩ := okz
      obtain ⟨p0, p1, _⟩ := blk2 hblk
      have HX := Lib.hid hblk
      have HL := Lib.hid hbel
      clear h1 h2 hx hy hz hblk hbel
      go_wp2_with fail
      refine (spec_cok_yes _ _ _ ok).mono ?_; rintro e w1 ⟨rfl, hb1⟩
      replace g3 := keep1 g3 hb1
      replace p1 := keep1 p1 hb1
      clear g1 g2 p0
      go_wp2_with fail
      refine (in_yes _ _ _ _ z0 z1).mono ?_; rintro e w2 ⟨rfl, rfl⟩
      go_wp2
      go_roundg gk
      case measure => omega
      case rel => exact ⟨k + 1, by omega, by go_num, HX.out.step hb1, below_step HL.out hb1⟩
    · obtain rfl : k = m := by omega
      obtain ⟨p0, p1, _⟩ := blk2 hblk
      have hr := HB.out.keep hbel
      have HX := Lib.hid hblk
      have HL := Lib.hid hbel
      clear hblk hbel
      go_wp2_with fail
      refine (spec_circ _ _ _ _ (by omega) hr).mono ?_; rintro e w1 ⟨v1, rfl, hown, hb1⟩
      rw [(circ_nil k).2 HC.out] at hown
      obtain ⟨a1, c1, rfl⟩ := own_shape hown
      go_wp2
      go_ret
      exact ⟨rfl, below_step HL.out hb1⟩
theorem spec_chok_no (w : World) (va vb : Value) (n m : Nat) (zs ns : List Int) (hn : n ≤ 1048576) (hm : m ≤ 1048576) (ha : Row 2 w va n (IV zs)) (hb : Row 1 w vb m (IV ns)) (no : ¬ CO zs n ns m) :
    Calls Try.prog 22 #[CH va vb] w (Gives w (.bool false)) := by
  obtain ⟨a, ca, rfl⟩ := ha.shape
  obtain ⟨b, cb, rfl⟩ := hb.shape
  have hla : zs.length = n * 2 := by simpa using ha.1
  have hlb : ns.length = m := by simpa using hb.1
  have HA := Lib.hid ha
  have HB := Lib.hid hb
  have NO := Lib.hid no
  clear ha hb no
  by_cases h1 : 1 ≤ n ∧ n ≤ 10
  · by_cases e : m = n
    · subst e
      obtain ⟨h1, h10⟩ := h1
      have e1 : IntKind.i64.wrap ((m : Int) - 1) = m - 1 := IntWalk.i64_in _ (by omega)
      go_enter Try.func22, Try.ntmps22
      go_wp2_with fail
      refine (in_yes _ _ _ _ (by omega) (by omega)).mono ?_; rintro e w1 ⟨rfl, rfl⟩
      go_wp2
      go_loopg [4] m (fun g s4 wr => ∃ k : Nat, k + g = m ∧ s4 = .int .i64 k ∧ Blk wr w.heap.size TC #[.slice a m ca, .slice b m cb] ∧ Below w.heap.size w wr ∧ ∀ j, j < k → COk (zs.getD (j * 2) 0) (zs.getD (j * 2 + 1) 0) ∧ -1 ≤ ns.getD j 0 ∧ ns.getD j 0 ≤ (m : Int) - 1)
      case atStart => exact ⟨0, by omega, rfl, Blk.new _ _ _, below_al (Below.refl _ _) _, fun j hj => by omega⟩
      case round =>
        obtain ⟨k, hkg, rfl, hblk, hbel, hgood⟩ := hrel
        have HG := Lib.hid hgood
        clear hgood
        by_cases hlt : k < m
        · obtain ⟨gk, rfl⟩ : ∃ g', gk = g' + 1 := ⟨gk - 1, by omega⟩
          obtain ⟨b1, o1, rfl, h1⟩ := (HA.out.keep hbel).at_ (by omega)
          obtain ⟨b2, o2, rfl, h2⟩ := (HB.out.keep hbel).at_ (by omega)
          obtain ⟨x, hx⟩ : ∃ x, zs.getD (k * 2) 0 = x := ⟨_, rfl⟩
          obtain ⟨y, hy⟩ : ∃ y, zs.getD (k * 2 + 1) 0 = y := ⟨_, rfl⟩
          obtain ⟨z, hz⟩ : ∃ z, ns.getD k 0 = z := ⟨_, rfl⟩
          have g1 := h1 (k * 2) _ (getI (by omega))
          have g2 := h1 (k * 2 + 1) _ (getI (by omega))
          have g3 := h2 k _ (getI (by omega))
          rw [hx] at g1
          rw [hy, ← Nat.add_assoc] at g2
          rw [hz] at g3
          have HQ := Lib.hid (And.intro hx (And.intro hy hz))
          obtain ⟨p0, p1, _⟩ := blk2 hblk
          have HX := Lib.hid hblk
          have HL := Lib.hid hbel
          clear h1 h2 hx hy hz hblk hbel
          by_cases ok : COk x y
          · go_wp2_with fail
            refine (spec_cok_yes _ _ _ ok).mono ?_; rintro e w1 ⟨rfl, hb1⟩
            replace g3 := keep1 g3 hb1
            replace p1 := keep1 p1 hb1
            clear g1 g2 p0
            by_cases okz : -1 ≤ z ∧ z ≤ (m : Int) - 1
            · go_wp2_with fail
              refine (in_yes _ _ _ _ okz.1 okz.2).mono ?_; rintro e w2 ⟨rfl, rfl⟩
              go_wp2
              go_roundg gk
              case measure => omega
              case rel =>
                refine ⟨k + 1, by omega, by go_num, HX.out.step hb1, below_step HL.out hb1, fun j hj => ?_⟩
                by_cases ej : j = k
                · subst ej; rw [HQ.out.1, HQ.out.2.1, HQ.out.2.2]; exact ⟨ok, okz⟩
                · exact HG.out j (by omega)
            · go_wp2_with fail
              refine (in_no _ _ _ _ okz).mono ?_; rintro e w2 ⟨rfl, rfl⟩
              go_wp2
              go_ret
              exact ⟨rfl, below_step HL.out hb1⟩
          · go_wp2_with fail
            refine (spec_cok_no _ _ _ ok).mono ?_; rintro e w1 ⟨rfl, hb1⟩
            clear g1 g2 g3 p0 p1
            go_wp2
            go_ret
            exact ⟨rfl, below_step HL.out hb1⟩
        · obtain rfl : k = m := by omega
          obtain ⟨p0, p1, _⟩ := blk2 hblk
          have hr := HB.out.keep hbel
          have HX := Lib.hid hblk
          have HL := Lib.hid hbel
          clear hblk hbel
          have hne : circ ns k k ≠ [] := fun h => NO.out ⟨h1, h10, rfl, fun j hj => (HG.out j hj).1, fun j hj => (HG.out j hj).2, (circ_nil k).1 h⟩
          go_wp2_with fail
          refine (spec_circ _ _ _ _ (by omega) hr).mono ?_; rintro e w1 ⟨v1, rfl, hown, hb1⟩
          obtain ⟨q, hq⟩ : ∃ q, (circ ns k k).length = q := ⟨_, rfl⟩
          have hq0 : q ≠ 0 := fun e => hne (List.length_eq_zero_iff.1 (hq.trans e))
          rw [hq] at hown
          obtain ⟨a1, c1, rfl⟩ := own_shape hown
          clear hown hne hq
          have hq1 : ((q : Int) == 0) = false := by simp; omega
          go_wp2
          go_ret
          exact ⟨rfl, below_step HL.out hb1⟩
    · obtain ⟨h1, h10⟩ := h1
      have e2 : ((m : Int) == (n : Int)) = false := by simp; omega
      have e3 : ((m : Int) != (n : Int)) = true := by simp; omega
      go_enter Try.func22, Try.ntmps22
      go_wp2_with fail
      refine (in_yes _ _ _ _ (by omega) (by omega)).mono ?_; rintro e w1 ⟨rfl, rfl⟩
      go_wp2
      go_ret
      exact ⟨rfl, below_al (Below.refl _ _) _⟩
  · have h2 : ¬ (1 ≤ (n : Int) ∧ (n : Int) ≤ 10) := by omega
    go_enter Try.func22, Try.ntmps22
    go_wp2_with fail
    refine (in_no _ _ _ _ h2).mono ?_; rintro e w1 ⟨rfl, rfl⟩
    go_wp2
    go_ret
    exact ⟨rfl, below_al (Below.refl _ _) _⟩
set_option maxHeartbeats 400000 in
theorem spec_way_yes (w : World) (va vb : Value) (n m : Nat) (zs ns : List Int) (k : Int) (M : Nat) (ha : Row 2 w va n (IV zs)) (hb : Row 1 w vb m (IV ns)) (ok : CO zs n ns m) (hk : In n k) (hM : M ≤ n) (hE : Leads ns n k M) :
    Calls Try.prog 29 #[CH va vb, .int .i64 k] w (Got w M (wy ns n k M)) := by
  obtain ⟨a, ca, rfl⟩ := ha.shape
  obtain ⟨b, cb, rfl⟩ := hb.shape
  have hlb : ns.length = m := by simpa using hb.1
  obtain rfl : m = n := ok.2.2.1
  have h10 := ok.2.1
  have HA := Lib.hid ha
  have HB := Lib.hid hb
  have HO := Lib.hid ok
  have HE := Lib.hid hE
  have B0 : Below w.heap.size w ((w.alloc (.cells #[.slice a m ca, .slice b m cb] TC)).alloc (.cells #[] 3)) := below_al (below_al (Below.refl _ _) _) _
  have hra := ha.keep B0
  have hrb := hb.keep B0
  have e1 : IntKind.i64.wrap ((m : Int) - 1) = m - 1 := IntWalk.i64_in _ (by omega)
  obtain ⟨hk0, hk1⟩ := hk
  clear ha hb hE
  go_enter Try.func29, Try.ntmps29
  go_wp2_with fail
  refine (spec_chok_yes _ _ _ m m zs ns hra hrb ok).mono ?_; rintro e w1 ⟨rfl, hb1⟩
  have hblk : Blk w1 w.heap.size TC #[.slice a m ca, .slice b m cb] := ((Blk.new _ _ _).alloc _).step hb1
  have hown : w1.ownsRow (w.heap.size + 1) 3 1 (.slice (some ⟨w.heap.size + 1, 0, none⟩) 0 0) 0 (IV (wy ns m k 0)) := own_below (by
    have h := World.ownsRow_made (w.alloc (.cells #[.slice a m ca, .slice b m cb] TC)) (base := w.heap.size + 1) (e := 3) (size := 1) #[] 0 (by simp) (Nat.zero_le _) rfl
    simpa [wy] using h) hb1
  obtain ⟨p0, p1, _⟩ := blk2 hblk
  have HX := Lib.hid hblk
  have HW := Lib.hid hown
  have hbel : Below w.heap.size w w1 := below_step B0 hb1
  have HL := Lib.hid hbel
  clear hblk hown hbel B0 hra hrb ok hb1
  go_wp2_with fail
  refine (in_yes _ _ _ _ hk0 (by omega)).mono ?_; rintro e w2 ⟨rfl, rfl⟩
  clear p0 p1
  go_wp2
  go_loopg [1, 5] M (fun g s1 s5 wr => ∃ i : Nat, i + g = M ∧ s1 = .int .i64 (it ns m k i) ∧ wr.ownsRow (w.heap.size + 1) 3 1 s5 i (IV (wy ns m k i)) ∧ Blk wr w.heap.size TC #[.slice a m ca, .slice b m cb] ∧ Below w.heap.size w wr)
  case atStart => exact ⟨0, by omega, rfl, HW.out, HX.out, HL.out⟩
  case round =>
    obtain ⟨i, hig, rfl, hown, hblk, hbel⟩ := hrel
    by_cases hlt : i < M
    · obtain ⟨gk, rfl⟩ : ∃ g', gk = g' + 1 := ⟨gk - 1, by omega⟩
      have hin := HE.out.1 i hlt
      have hnx := it_step hin
      obtain ⟨D, hD⟩ : ∃ D : Nat, it ns m k i = D := ⟨(it ns m k i).toNat, by have := hin.1; omega⟩
      rw [hD] at hin hnx ⊢
      obtain ⟨hin0, hin1⟩ := hin
      obtain ⟨b2, o2, rfl, h2⟩ := HB.out.at_ (by omega)
      obtain ⟨z, hz⟩ : ∃ z, ns.getD D 0 = z := ⟨_, rfl⟩
      have g3 := h2 D _ (getI (by omega))
      rw [hz] at g3
      rw [Int.toNat_natCast, hz] at hnx
      have HD := Lib.hid hD
      have HN := Lib.hid hnx
      have HX := Lib.hid hblk
      have HW := Lib.hid hown
      have HL := Lib.hid hbel
      have HG := Lib.hid g3
      clear h2 hz hD hnx hblk hown hbel g3
      go_wp2_with (at_builtin; refine app1 _ rfl _ _ rfl (w.heap.size + 1) (D : Int) HW.out rfl rfl (by omega) (Nat.succ_le_of_lt HX.out.lt) ?_; intro v' w1 hown1 hg1; have hb1 := HL.out.grown hg1 HL.out.size (fun q hq => Nat.le_of_succ_le (HW.out.lt q hq).1); have hx1 := HX.out.grown hg1 (own_ne HW.out (by omega)); have q3 := (hb1.cell (p := ⟨b2, o2 + D, none⟩) (World.block_lt_of_cell? w _ HG.out)).trans HG.out; have q1 := (blk2 hx1).2.1; replace hown1 := Lib.hid hown1; replace hb1 := Lib.hid hb1; replace hx1 := Lib.hid hx1; clear hg1)
      go_roundg gk
      case measure => omega
      case rel =>
        refine ⟨i + 1, by omega, by rw [HN.out], ?_, hx1.out, hb1.out⟩
        rw [wy_succ, HD.out]
        exact hown1.out
    · obtain rfl : i = M := by omega
      rw [HE.out.2]
      go_wp2
      go_ret
      exact ⟨_, rfl, own_mono hown (by omega), hbel⟩
theorem spec_way_no (w : World) (va vb : Value) (n m : Nat) (zs ns : List Int) (k : Int) (hn : n ≤ 1048576) (hm : m ≤ 1048576) (ha : Row 2 w va n (IV zs)) (hb : Row 1 w vb m (IV ns)) (no : ¬ (CO zs n ns m ∧ In n k)) :
    Calls Try.prog 29 #[CH va vb, .int .i64 k] w (Got w 0 []) := by
  obtain ⟨a, ca, rfl⟩ := ha.shape
  obtain ⟨b, cb, rfl⟩ := hb.shape
  have B0 : Below w.heap.size w ((w.alloc (.cells #[.slice a n ca, .slice b m cb] TC)).alloc (.cells #[] 3)) := below_al (below_al (Below.refl _ _) _) _
  have hra := ha.keep B0
  have hrb := hb.keep B0
  have hown0 : ((w.alloc (.cells #[.slice a n ca, .slice b m cb] TC)).alloc (.cells #[] 3)).ownsRow w.heap.size 3 1 (.slice (some ⟨w.heap.size + 1, 0, none⟩) 0 0) 0 [] := by
    have h := World.ownsRow_made (w.alloc (.cells #[.slice a n ca, .slice b m cb] TC)) (base := w.heap.size) (e := 3) (size := 1) #[] 0 (by simp) (Nat.zero_le _) rfl
    simpa using h
  have HW := Lib.hid hown0
  have HL := Lib.hid B0
  have NO := Lib.hid no
  clear ha hb B0 hown0 no
  by_cases ok : CO zs n ns m
  · have hk : ¬ (0 ≤ k ∧ k ≤ (n : Int) - 1) := fun h => NO.out ⟨ok, h.1, by omega⟩
    obtain rfl : m = n := ok.2.2.1
    have e1 : IntKind.i64.wrap ((m : Int) - 1) = m - 1 := IntWalk.i64_in _ (by omega)
    go_enter Try.func29, Try.ntmps29
    go_wp2_with fail
    refine (spec_chok_yes _ _ _ m m zs ns hra hrb ok).mono ?_; rintro e w1 ⟨rfl, hb1⟩
    obtain ⟨p0, p1, _⟩ := blk2 (((Blk.new w TC #[.slice a m ca, .slice b m cb]).alloc (.cells #[] 3)).step hb1)
    go_wp2_with fail
    refine (in_no _ _ _ _ hk).mono ?_; rintro e w2 ⟨rfl, rfl⟩
    go_wp2
    go_ret
    exact ⟨_, rfl, own_below HW.out hb1, below_step HL.out hb1⟩
  · go_enter Try.func29, Try.ntmps29
    go_wp2_with fail
    refine (spec_chok_no _ _ _ n m zs ns hn hm hra hrb ok).mono ?_; rintro e w1 ⟨rfl, hb1⟩
    go_wp2
    go_ret
    exact ⟨_, rfl, own_below HW.out hb1, below_step HL.out hb1⟩
end Go.Proofs.Ytmffhogefchpbaa.chn
