/- The contracts of the program's functions on chains: circles, validity, ways. -/
import Derived.Test.YtmffhogefchpbaaChnS
namespace Go.Proofs.Ytmffhogefchpbaa.chn
open Go.RowKit Go.Proofs.Ytmffhogefchpbaa.kit Go.Proofs.Ytmffhogefchpbaa.lawi Go.Proofs.Ytmffhogefchpbaa.rainl Go.Proofs.Ytmffhogefchpbaa.rain Go.Proofs.Ytmffhogefchpbaa.cis Go.Proofs.Ytmffhogefchpbaa.chl
theorem retB {a b : Bool} (h : b = a) : Ending.returned (.bool a) = .returned (.bool b) := by rw [h]
theorem leads_any (w : World) (v : Value) (n : Nat) (ns : List Int) (k : Nat) (hk : k < n) (hn : n ≤ 20) (h : Row 1 w v n (IV ns)) (b : Bool) (hb : b = true ↔ OnC ns n (k : Int)) :
    Calls Try.prog 45 #[v, .int .i64 k] w fun e w' => e = .returned (.bool b) ∧ w = w' := by
  obtain ⟨hl, a, ca, rfl, ha⟩ := h
  have hl : ns.length = n := by simpa using hl
  obtain ⟨b1, o1, rfl, h1⟩ := ha.resolve_left (by omega)
  have h2 : ∀ j, j < n → w.cell? ⟨b1, o1 + j, none⟩ = some (.int .i64 (ns.getD j 0)) := fun j hj => h1 j _ (getI (by omega))
  have H2 := Lib.hid h2
  have HB := Lib.hid hb
  have hkn : In n (k : Int) := ⟨by omega, by omega⟩
  have HK := Lib.hid hkn
  have e1 : IntKind.i64.wrap ((n : Int) - 1) = n - 1 := IntWalk.i64_in _ (by omega)
  clear h1 h2 ha hb hl hkn
  go_enter Try.func45, Try.ntmps45
  go_wp2
  go_loopg [5, 9] n (fun g s5 s9 wi => wi = w ∧ ∃ (s : Nat) (x : Int), s + g = n ∧ s9 = .int .i64 s ∧ s5 = .int .i64 x ∧ it ns n (k : Int) s = x ∧ In n x ∧ ∀ i, i < s → it ns n (k : Int) (i + 1) ≠ k)
  case atStart => exact ⟨rfl, 0, k, by omega, rfl, rfl, rfl, HK.out, fun i hi => by omega⟩
  case round =>
    obtain ⟨rfl, s, x, hs, rfl, rfl, hx, hin, hne⟩ := hrel
    have HN := Lib.hid hne
    clear hne
    by_cases hsn : s < n
    · obtain ⟨gk', rfl⟩ : ∃ g', gk = g' + 1 := ⟨gk - 1, by omega⟩
      have hnx : it ns n (k : Int) (s + 1) = ns.getD x.toNat 0 := by rw [it_step (by rw [hx]; exact hin), hx]
      obtain ⟨hx0, hx1⟩ := hin
      obtain ⟨D, rfl⟩ : ∃ D : Nat, x = D := ⟨x.toNat, by omega⟩
      obtain ⟨y, hy⟩ : ∃ y, ns.getD D 0 = y := ⟨_, rfl⟩
      have g1 := H2.out D (by omega)
      rw [hy] at g1
      rw [Int.toNat_natCast, hy] at hnx
      have HY := Lib.hid hnx
      clear hy hnx hx
      by_cases hyk : y = k
      · subst hyk
        have hon : OnC ns n (k : Int) := ⟨s, HY.out⟩
        have HC := Lib.hid (HB.out.2 hon)
        clear hon
        go_wp2
        go_ret
        exact ⟨retB HC.out, rfl⟩
      · have hyk' : (y == (k : Int)) = false := by simpa using hyk
        have HS : ∀ i, i < s + 1 → it ns n (k : Int) (i + 1) ≠ k := fun i hi => by
          by_cases ei : i = s
          · subst ei; rw [HY.out]; exact hyk
          · exact HN.out i (by omega)
        have HS := Lib.hid HS
        by_cases hyn : 0 ≤ y ∧ y ≤ (n : Int) - 1
        · go_wp2_with fail
          refine (inR_yes _ _ _ _ hyn.1 hyn.2).mono ?_; rintro e w1 ⟨rfl, rfl⟩
          go_wp2
          go_roundg gk'
          case measure => omega
          case rel => exact ⟨rfl, s + 1, y, by omega, by go_num, rfl, HY.out, ⟨hyn.1, by omega⟩, HS.out⟩
        · have hno : ¬ OnC ns n (k : Int) := not_onC_out (s := s + 1) HK.out HS.out (by rw [HY.out]; exact fun h => hyn ⟨h.1, by have := h.2; omega⟩)
          have HC := Lib.hid (show b = false from Bool.eq_false_iff.2 fun e => hno (HB.out.1 e))
          clear hno
          go_wp2_with fail
          refine (inR_no _ _ _ _ hyn).mono ?_; rintro e w1 ⟨rfl, rfl⟩
          go_wp2
          go_ret
          exact ⟨retB HC.out, rfl⟩
    · obtain rfl : s = n := by omega
      have hno : ¬ OnC ns s (k : Int) := not_onC HK.out HN.out
      have HC := Lib.hid (show b = false from Bool.eq_false_iff.2 fun e => hno (HB.out.1 e))
      clear hno hx
      go_wp2
      go_ret
      exact ⟨retB HC.out, rfl⟩
theorem impl_circ (w : World) (v : Value) (n : Nat) (ns : List Int) (hn : n ≤ 20) (h : Row 1 w v n (IV ns)) :
    Calls Try.prog 19 #[v] w (Got w (circ ns n n).length (circ ns n n)) := by
  obtain ⟨a, ca, rfl⟩ := h.shape
  have HR := Lib.hid h
  clear h
  go_enter Try.func19, Try.ntmps19
  go_wp2
  go_loopg [3, 10] n (fun g s3 s10 wr => ∃ k : Nat, k + g = n ∧ s10 = .int .i64 k ∧ wr.ownsRow w.heap.size 3 1 s3 (circ ns n k).length (IV (circ ns n k)) ∧ Below w.heap.size w wr)
  case atStart => exact ⟨0, by omega, rfl, World.ownsRow_nil _ _ _ _, Below.refl _ _⟩
  case round =>
    obtain ⟨k, hkg, rfl, hown, hbel⟩ := hrel
    have hr := HR.out.keep hbel
    have HO := Lib.hid hown
    have HB := Lib.hid hbel
    by_cases hlt : k < n
    · obtain ⟨gk', rfl⟩ : ∃ g', gk = g' + 1 := ⟨gk - 1, by omega⟩
      clear hown hbel
      by_cases hon : OnC ns n (k : Int)
      · have HC := Lib.hid hon
        clear hon
        go_wp2_with fail
        refine (leads_any _ _ n ns k hlt hn hr true ⟨fun _ => HC.out, fun _ => rfl⟩).mono ?_; rintro e w1 ⟨rfl, rfl⟩
        clear hr
        go_wp2_with (at_builtin; refine app1 _ rfl _ _ rfl w.heap.size (k : Int) HO.out rfl rfl (by have := circ_len (ns := ns) (n := n) k; omega) HB.out.size ?_; intro v' w1 hown1 hg1)
        go_roundg gk'
        case measure => omega
        case rel =>
          refine ⟨k + 1, by omega, by go_num, ?_, HB.out.grown hg1 HB.out.size (fun q hq => (HO.out.lt q hq).1)⟩
          rw [circ_yes HC.out, List.length_append]
          exact hown1
      · have HC := Lib.hid hon
        clear hon
        go_wp2_with fail
        refine (leads_any _ _ n ns k hlt hn hr false ⟨nofun, fun e => absurd e HC.out⟩).mono ?_; rintro e w1 ⟨rfl, rfl⟩
        clear hr
        go_wp2
        go_roundg gk'
        case measure => omega
        case rel => exact ⟨k + 1, by omega, by go_num, by rw [circ_no HC.out]; exact HO.out, HB.out⟩
    · obtain rfl : k = n := by omega
      clear hr
      go_wp2
      go_ret
      exact ⟨_, rfl, hown, hbel⟩
theorem impl_circ_no (w : World) (v : Value) (n : Nat) (ns : List Int) (hn : 20 < n) (hn2 : n ≤ 1048576) (h : Row 1 w v n (IV ns)) :
    Calls Try.prog 19 #[v] w (Got w 0 []) := by
  obtain ⟨a, ca, rfl⟩ := h.shape
  clear h
  go_enter Try.func19, Try.ntmps19
  go_wp2
  go_ret
  exact ⟨_, rfl, World.ownsRow_nil _ _ _ _, Below.refl _ _⟩
theorem impl_chok_yes (w : World) (va vb : Value) (n m : Nat) (zs ns : List Int) (ha : Row 2 w va n (IV zs)) (hb : Row 1 w vb m (IV ns)) (ok : CO zs n ns m) :
    Calls Try.prog 18 #[CH va vb] w (Gives w (.bool true)) := by
  obtain ⟨a, ca, rfl⟩ := ha.shape
  obtain ⟨b, cb, rfl⟩ := hb.shape
  have hla : zs.length = n * 2 := by simpa using ha.1
  have hlb : ns.length = m := by simpa using hb.1
  obtain ⟨h1, h10, rfl, hV, hN, hC⟩ := ok
  have HA := Lib.hid ha
  have HB := Lib.hid hb
  have HV := Lib.hid hV
  have HN := Lib.hid hN
  have HC := Lib.hid hC
  have e1 : IntKind.i64.wrap ((m : Int) - 1) = m - 1 := IntWalk.i64_in _ (by omega)
  clear ha hb hV hN hC
  go_enter Try.func18, Try.ntmps18
  go_wp2_with fail
  refine (inR_yes _ _ _ _ (by omega) (by omega)).mono ?_; rintro e w1 ⟨rfl, rfl⟩
  go_wp2
  go_loopg [22] m (fun g s4 wr => ∃ k : Nat, k + g = m ∧ s4 = .int .i64 k ∧ Blk wr w.heap.size TC #[.slice a m ca, .slice b m cb] ∧ Below w.heap.size w wr)
  case atStart => exact ⟨0, by omega, rfl, Blk.new _ _ _, below_al (Below.refl _ _) _⟩
  case round =>
    obtain ⟨k, hkg, rfl, hblk, hbel⟩ := hrel
    by_cases hlt : k < m
    · obtain ⟨gk, rfl⟩ : ∃ g', gk = g' + 1 := ⟨gk - 1, by omega⟩
      obtain ⟨b1, o1, rfl, h1⟩ := (HA.out.keep hbel).at_ (by omega)
      obtain ⟨b2, o2, rfl, h2⟩ := (HB.out.keep hbel).at_ (by omega)
      obtain ⟨x, hx⟩ : ∃ x, zs.getD (k * 2) 0 = x := ⟨_, rfl⟩
      obtain ⟨y, hy⟩ : ∃ y, zs.getD (k * 2 + 1) 0 = y := ⟨_, rfl⟩
      obtain ⟨z, hz⟩ : ∃ z, ns.getD k 0 = z := ⟨_, rfl⟩
      have g1 := h1 (k * 2) _ (getI (by omega))
      have g2 := h1 (k * 2 + 1) _ (getI (by omega))
      have g3 := h2 k _ (getI (by omega))
      rw [hx] at g1
      rw [hy, ← Nat.add_assoc] at g2
      rw [hz] at g3
      have ok := HV.out k hlt
      rw [hx, hy] at ok
      have okz := HN.out k hlt
      rw [hz] at okz
      obtain ⟨z0, z1⟩ := okz
      obtain ⟨p0, p1, _⟩ := blk2 hblk
      have HX := Lib.hid hblk
      have HL := Lib.hid hbel
      clear h1 h2 hx hy hz hblk hbel
      go_wp2_with fail
      refine (impl_cok_yes _ _ _ ok).mono ?_; rintro e w1 ⟨rfl, hb1⟩
      clear g1 g2 g3 p0 p1
      go_wp2_with fail
      refine (inR_yes _ _ _ _ z0 z1).mono ?_; rintro e w2 ⟨rfl, rfl⟩
      go_wp2
      go_roundg gk
      case measure => omega
      case rel => exact ⟨k + 1, by omega, by go_num, HX.out.step hb1, below_step HL.out hb1⟩
    · obtain rfl : k = m := by omega
      obtain ⟨p0, p1, _⟩ := blk2 hblk
      have hr := HB.out.keep hbel
      have HX := Lib.hid hblk
      have HL := Lib.hid hbel
      clear hblk hbel
      go_wp2_with fail
      refine (impl_circ _ _ _ _ (by omega) hr).mono ?_; rintro e w1 ⟨v1, rfl, hown, hb1⟩
      rw [(circ_nil k).2 HC.out] at hown
      obtain ⟨a1, c1, rfl⟩ := own_shape hown
      go_wp2
      go_ret
      exact ⟨rfl, below_step HL.out hb1⟩
theorem impl_chok_no (w : World) (va vb : Value) (n m : Nat) (zs ns : List Int) (hn : n ≤ 1048576) (hm : m ≤ 1048576) (ha : Row 2 w va n (IV zs)) (hb : Row 1 w vb m (IV ns)) (no : ¬ CO zs n ns m) :
    Calls Try.prog 18 #[CH va vb] w (Gives w (.bool false)) := by
  obtain ⟨a, ca, rfl⟩ := ha.shape
  obtain ⟨b, cb, rfl⟩ := hb.shape
  have hla : zs.length = n * 2 := by simpa using ha.1
  have hlb : ns.length = m := by simpa using hb.1
  have HA := Lib.hid ha
  have HB := Lib.hid hb
  have NO := Lib.hid no
  clear ha hb no
  by_cases h1 : 1 ≤ n ∧ n ≤ 10
  · by_cases e : m = n
    · subst e
      obtain ⟨h1, h10⟩ := h1
      have e1 : IntKind.i64.wrap ((m : Int) - 1) = m - 1 := IntWalk.i64_in _ (by omega)
      go_enter Try.func18, Try.ntmps18
      go_wp2_with fail
      refine (inR_yes _ _ _ _ (by omega) (by omega)).mono ?_; rintro e w1 ⟨rfl, rfl⟩
      go_wp2
      go_loopg [22] m (fun g s4 wr => ∃ k : Nat, k + g = m ∧ s4 = .int .i64 k ∧ Blk wr w.heap.size TC #[.slice a m ca, .slice b m cb] ∧ Below w.heap.size w wr ∧ ∀ j, j < k → COk (zs.getD (j * 2) 0) (zs.getD (j * 2 + 1) 0) ∧ -1 ≤ ns.getD j 0 ∧ ns.getD j 0 ≤ (m : Int) - 1)
      case atStart => exact ⟨0, by omega, rfl, Blk.new _ _ _, below_al (Below.refl _ _) _, fun j hj => by omega⟩
      case round =>
        obtain ⟨k, hkg, rfl, hblk, hbel, hgood⟩ := hrel
        have HG := Lib.hid hgood
        clear hgood
        by_cases hlt : k < m
        · obtain ⟨gk, rfl⟩ : ∃ g', gk = g' + 1 := ⟨gk - 1, by omega⟩
          obtain ⟨b1, o1, rfl, h1⟩ := (HA.out.keep hbel).at_ (by omega)
          obtain ⟨b2, o2, rfl, h2⟩ := (HB.out.keep hbel).at_ (by omega)
          obtain ⟨x, hx⟩ : ∃ x, zs.getD (k * 2) 0 = x := ⟨_, rfl⟩
          obtain ⟨y, hy⟩ : ∃ y, zs.getD (k * 2 + 1) 0 = y := ⟨_, rfl⟩
          obtain ⟨z, hz⟩ : ∃ z, ns.getD k 0 = z := ⟨_, rfl⟩
          have g1 := h1 (k * 2) _ (getI (by omega))
          have g2 := h1 (k * 2 + 1) _ (getI (by omega))
          have g3 := h2 k _ (getI (by omega))
          rw [hx] at g1
          rw [hy, ← Nat.add_assoc] at g2
          rw [hz] at g3
          have HQ := Lib.hid (And.intro hx (And.intro hy hz))
          obtain ⟨p0, p1, _⟩ := blk2 hblk
          have HX := Lib.hid hblk
          have HL := Lib.hid hbel
          clear h1 h2 hx hy hz hblk hbel
          by_cases ok : COk x y
          · go_wp2_with fail
            refine (impl_cok_yes _ _ _ ok).mono ?_; rintro e w1 ⟨rfl, hb1⟩
            clear g1 g2 g3 p0 p1
            by_cases okz : -1 ≤ z ∧ z ≤ (m : Int) - 1
            · go_wp2_with fail
              refine (inR_yes _ _ _ _ okz.1 okz.2).mono ?_; rintro e w2 ⟨rfl, rfl⟩
              go_wp2
              go_roundg gk
              case measure => omega
              case rel =>
                refine ⟨k + 1, by omega, by go_num, HX.out.step hb1, below_step HL.out hb1, fun j hj => ?_⟩
                by_cases ej : j = k
                · subst ej; rw [HQ.out.1, HQ.out.2.1, HQ.out.2.2]; exact ⟨ok, okz⟩
                · exact HG.out j (by omega)
            · go_wp2_with fail
              refine (inR_no _ _ _ _ okz).mono ?_; rintro e w2 ⟨rfl, rfl⟩
              go_wp2
              go_ret
              exact ⟨rfl, below_step HL.out hb1⟩
          · go_wp2_with fail
            refine (impl_cok_no _ _ _ ok).mono ?_; rintro e w1 ⟨rfl, hb1⟩
            clear g1 g2 g3 p0 p1
            go_wp2
            go_ret
            exact ⟨rfl, below_step HL.out hb1⟩
        · obtain rfl : k = m := by omega
          obtain ⟨p0, p1, _⟩ := blk2 hblk
          have hr := HB.out.keep hbel
          have HX := Lib.hid hblk
          have HL := Lib.hid hbel
          clear hblk hbel
          have hne : circ ns k k ≠ [] := fun h => NO.out ⟨h1, h10, rfl, fun j hj => (HG.out j hj).1, fun j hj => (HG.out j hj).2, (circ_nil k).1 h⟩
          go_wp2_with fail
          refine (impl_circ _ _ _ _ (by omega) hr).mono ?_; rintro e w1 ⟨v1, rfl, hown, hb1⟩
          obtain ⟨q, hq⟩ : ∃ q, (circ ns k k).length = q := ⟨_, rfl⟩
          have hq0 : q ≠ 0 := fun e => hne (List.length_eq_zero_iff.1 (hq.trans e))
          rw [hq] at hown
          obtain ⟨a1, c1, rfl⟩ := own_shape hown
          clear hown hne hq
          have hq1 : ((q : Int) == 0) = false := by simp; omega
          go_wp2
          go_ret
          exact ⟨rfl, below_step HL.out hb1⟩
    · obtain ⟨h1, h10⟩ := h1
      have e2 : ((m : Int) == (n : Int)) = false := by simp; omega
      have e3 : ((m : Int) != (n : Int)) = true := by simp; omega
      go_enter Try.func18, Try.ntmps18
      go_wp2_with fail
      refine (inR_yes _ _ _ _ (by omega) (by omega)).mono ?_; rintro e w1 ⟨rfl, rfl⟩
      go_wp2
      go_ret
      exact ⟨rfl, below_al (Below.refl _ _) _⟩
  · have h2 : ¬ (1 ≤ (n : Int) ∧ (n : Int) ≤ 10) := by omega
    go_enter Try.func18, Try.ntmps18
    go_wp2_with fail
    refine (inR_no _ _ _ _ h2).mono ?_; rintro e w1 ⟨rfl, rfl⟩
    go_wp2
    go_ret
    exact ⟨rfl, below_al (Below.refl _ _) _⟩
end Go.Proofs.Ytmffhogefchpbaa.chn
