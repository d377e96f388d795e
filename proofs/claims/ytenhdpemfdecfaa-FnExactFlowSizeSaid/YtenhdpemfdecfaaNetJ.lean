/- Nets of pipes: the specification's search, a set as bits. -/
import Derived.Test.YtenhdpemfdecfaaNetC
import Derived.Test.YtenhdpemfdecfaaBits
namespace Go.Proofs.Ytenhdpemfdecfaa.nt
open Go.RowKit Go.Proofs.Ytenhdpemfdecfaa.kit Go.Proofs.Ytenhdpemfdecfaa.lawi Go.Proofs.Ytenhdpemfdecfaa.own Go.Proofs.Ytenhdpemfdecfaa.rain Go.Proofs.Ytenhdpemfdecfaa.yrl Go.Proofs.Ytenhdpemfdecfaa.net Go.Proofs.Ytenhdpemfdecfaa.bits_
/-- The set of bits s says what f says of the places 0 .. 7. -/
def BS (s : Nat) (f : Int → Bool) : Prop := s < 256 ∧ ∀ u : Nat, u < 8 → s.testBit u = f (u : Int)
theorem BS.one {a : Nat} (h : a < 8) : BS (1 <<< a) (fun v => decide (v = (a : Int))) :=
  ⟨by rw [Nat.one_shiftLeft]; exact Nat.lt_of_lt_of_le (Nat.pow_lt_pow_right (by decide) h) (by decide : 2 ^ 8 ≤ 256), fun u hu => by
    rw [bit_one]
    exact decide_eq_decide.2 ⟨fun h => by rw [h], fun h => by omega⟩⟩
theorem BS.add {s t : Nat} {f : Int → Bool} (h : BS s f) (ht : t < 8) : BS (s ||| 1 <<< t) (fun v => decide (v = (t : Int)) || f v) :=
  ⟨set_lt (n := 8) h.1 ht, fun u hu => by
    rw [bit_add, h.2 u hu]
    congr 1
    exact decide_eq_decide.2 ⟨fun h => by rw [h], fun h => by omega⟩⟩
theorem BS.bit {s : Nat} {f : Int → Bool} (h : BS s f) {u : Nat} (hu : u < 8) : (s >>> u) &&& 1 = if f (u : Int) = true then 1 else 0 := by
  rw [bit_val, h.2 u hu]
set_option maxHeartbeats 4000000 in
theorem spec_reach (w : World) (P : Int) (v : Value) (n : Nat) (zs : List Int) (hr : Row 3 w v n (IV zs)) (ok : NO P n zs) (a x : Int) (ha0 : 0 ≤ a) (ha1 : a < P) :
    Calls Try.prog 57 #[Nv P v, .int .i64 a, .int .i64 x] w fun e w' => ∃ s : Nat, e = .returned (.int .i64 s) ∧ s < 256 ∧ (∀ u : Nat, u < 8 → (s.testBit u = true ↔ Rch (pF zs) (pT zs) (pW zs) n x a u)) ∧ Below w.heap.size w w' := by
  obtain ⟨av, ca, rfl⟩ := hr.shape
  have hl : zs.length = n * 3 := by simpa using hr.1
  have hn := ok.2.2.1
  obtain ⟨R, hR⟩ : ∃ R : Nat, P = (R : Int) := ⟨P.toNat, by have := ok.1; omega⟩
  subst hR
  have hR8 : R ≤ 8 := by have := ok.2.1; omega
  obtain ⟨A, hA⟩ : ∃ A : Nat, a = (A : Int) := ⟨a.toNat, by omega⟩
  subst hA
  have hA8 : A < 8 := by omega
  obtain ⟨w0, hw0⟩ : ∃ w0, w.alloc (.cells #[.int .i64 (R : Int), .slice av n ca] TN) = w0 := ⟨_, rfl⟩
  have B0 : Below w.heap.size w w0 := hw0 ▸ below_al (Below.refl _ _) _
  have HX : Hid (Blk w0 w.heap.size TN #[.int .i64 (R : Int), .slice av n ca]) := Lib.hid (hw0 ▸ Blk.new w TN #[.int .i64 (R : Int), .slice av n ca])
  have HR := Lib.hid (hr.keep B0)
  have OK := Lib.hid ok
  have HB := Lib.hid B0
  have hone := BS.one hA8
  obtain ⟨s0, hs0⟩ : ∃ s, (1 <<< A : Nat) = s := ⟨_, rfl⟩
  have hsh := shl64 (v := A) (by omega)
  rw [hs0] at hsh hone
  have H1 := Lib.hid hone
  clear hr ok B0 hone hs0
  go_enter Try.func57, Try.ntmps57
  go_wp2
  have HSH := Lib.hid hsh
  clear hsh hw0
  go_loopg [7, 8] R (fun g s7 s8 wr => ∃ r s : Nat, r + g = R ∧ s8 = .int .i64 r ∧ s7 = .int .i64 s ∧ BS s (rnd (pF zs) (pT zs) (pW zs) n x A r) ∧ Below w0.heap.size w0 wr)
  case atStart => exact ⟨0, s0, by omega, rfl, by rw [HSH.out], H1.out, Below.refl _ _⟩
  case round =>
    clear H1
    obtain ⟨r, s, hrg, rfl, rfl, hS, hbel⟩ := hrel
    obtain ⟨p0, p1⟩ := stNet.blk_ (HX.out.step hbel)
    have HS := Lib.hid hS
    have HL := Lib.hid hbel
    clear hS hbel
    by_cases hlt : r < R
    · obtain ⟨gko, rfl⟩ : ∃ g', gk = g' + 1 := ⟨gk - 1, by omega⟩
      go_wp2
      clear p0 p1
      go_loopg [7, 9] n (fun g s7 s9 wr => ∃ k s : Nat, k + g = n ∧ s9 = .int .i64 k ∧ s7 = .int .i64 s ∧ BS s (sc (pF zs) (pT zs) (pW zs) x (rnd (pF zs) (pT zs) (pW zs) n x A r) k) ∧ Below w0.heap.size w0 wr)
      case atStart => exact ⟨0, s, by omega, rfl, rfl, HS.out, HL.out⟩
      case round =>
        clear HS HL s
        obtain ⟨k, s, hkg, rfl, rfl, hS, hbel⟩ := hrel
        obtain ⟨p0, p1⟩ := stNet.blk_ (HX.out.step hbel)
        by_cases hlt2 : k < n
        · obtain ⟨gk2, rfl⟩ : ∃ g', gk = g' + 1 := ⟨gk - 1, by omega⟩
          obtain ⟨b1, o1, rfl, h1⟩ := (HR.out.keep hbel).at_ (by omega)
          obtain ⟨g1, g2, g3⟩ := pipe_at h1 hl hlt2
          have hp := OK.out.2.2.2 k hlt2
          obtain ⟨⟨F0, F1⟩, ⟨T0, T1⟩, _, W0, W1⟩ := hp
          have hsc : sc (pF zs) (pT zs) (pW zs) x (rnd (pF zs) (pT zs) (pW zs) n x A r) (k + 1) = if x ≤ pW zs k ∧ sc (pF zs) (pT zs) (pW zs) x (rnd (pF zs) (pT zs) (pW zs) n x A r) k (pF zs k) = true then fun v => decide (v = pT zs k) || sc (pF zs) (pT zs) (pW zs) x (rnd (pF zs) (pT zs) (pW zs) n x A r) k v else sc (pF zs) (pT zs) (pW zs) x (rnd (pF zs) (pT zs) (pW zs) n x A r) k := rfl
          obtain ⟨f', hf'⟩ : ∃ f', sc (pF zs) (pT zs) (pW zs) x (rnd (pF zs) (pT zs) (pW zs) n x A r) (k + 1) = f' := ⟨_, rfl⟩
          rw [hf'] at hsc
          have HF := Lib.hid hf'
          clear hf'
          generalize sc (pF zs) (pT zs) (pW zs) x (rnd (pF zs) (pT zs) (pW zs) n x A r) k = f at hsc hS
          obtain ⟨F, hF⟩ : ∃ F : Nat, pF zs k = (F : Int) := ⟨(pF zs k).toNat, by omega⟩
          obtain ⟨T, hT⟩ : ∃ T : Nat, pT zs k = (T : Int) := ⟨(pT zs k).toNat, by omega⟩
          rw [hF] at g1 hsc F0 F1
          rw [hT] at g2 hsc T0 T1
          clear hF hT
          generalize pW zs k = W at g3 hsc W0 W1
          have hF8 : F < 8 := by omega
          have hT8 : T < 8 := by omega
          have hbit := hS.bit hF8
          have hadd := hS.add hT8
          have hs256 := hS.1
          have e1 := shr64 s F
          have e2 := shl64 (v := T) (by omega)
          have e5 : (1 <<< T : Nat) < 256 := by rw [Nat.one_shiftLeft]; exact Nat.lt_of_lt_of_le (Nat.pow_lt_pow_right (by decide) hT8) (by decide : 2 ^ 8 ≤ 256)
          have e6 : s >>> F ≤ s := by rw [Nat.shiftRight_eq_div_pow]; exact Nat.div_le_self _ _
          have e3 := and_nat (a := s >>> F) (b := 1) (by omega) (by decide)
          have e4 := or_nat (a := s) (b := 1 <<< T) (by omega) (by omega)
          rw [hbit] at e3
          generalize s >>> F = sF at e1 e3 e6
          generalize 1 <<< T = sT at e2 e4 hadd e5
          generalize s ||| sT = s' at e4 hadd
          obtain ⟨w4, hw4⟩ : ∃ w4, wr.alloc (.cells #[.int .i64 (F : Int), .int .i64 (T : Int), .int .i64 W] TP) = w4 := ⟨_, rfl⟩
          obtain ⟨d0, d1, d2⟩ := stPipe3 (hw4 ▸ Blk.new wr TP #[.int .i64 (F : Int), .int .i64 (T : Int), .int .i64 W] : Blk w4 wr.heap.size TP #[.int .i64 (F : Int), .int .i64 (T : Int), .int .i64 W])
          have b4 : Below wr.heap.size wr w4 := hw4 ▸ below_al (Below.refl _ _) _
          have HS := Lib.hid hS
          have HA := Lib.hid hadd
          have L4 := Lib.hid (below_step hbel b4)
          clear h1 hS hbel b4 hbit hadd
          by_cases hx : x ≤ W
          · cases hf : f (F : Int) with
            | true =>
              rw [if_pos ⟨hx, hf⟩] at hsc
              rw [if_pos hf] at e3
              replace e3 : bits .and .i64 (sF : Int) 1 = 1 := e3
              have HSC := Lib.hid hsc
              clear hsc hf e5 e6
              go_wp2
              clear d0 d1 d2 p0 p1 g1 g2 g3
              go_roundg gk2
              case measure => omega
              case rel => exact ⟨k + 1, s', by omega, by go_num, rfl, by rw [HF.out, HSC.out]; exact HA.out, L4.out⟩
            | false =>
              rw [if_neg (by rw [hf]; simp)] at hsc e3
              replace e3 : bits .and .i64 (sF : Int) 1 = 0 := e3
              have HSC := Lib.hid hsc
              clear hsc hf e5 e6
              go_wp2
              clear d0 d1 d2 p0 p1 g1 g2 g3
              go_roundg gk2
              case measure => omega
              case rel => exact ⟨k + 1, s, by omega, by go_num, rfl, by rw [HF.out, HSC.out]; exact HS.out, L4.out⟩
          · rw [if_neg (fun h => hx h.1)] at hsc
            have HSC := Lib.hid hsc
            clear hsc e1 e2 e3 e4 e5 e6
            go_wp2
            clear d0 d1 d2 p0 p1 g1 g2 g3
            go_roundg gk2
            case measure => omega
            case rel => exact ⟨k + 1, s, by omega, by go_num, rfl, by rw [HF.out, HSC.out]; exact HS.out, L4.out⟩
        · obtain rfl : k = n := by omega
          have HS := Lib.hid hS
          have HL := Lib.hid hbel
          clear hS hbel
          go_wp2
          go_roundg gko
          case measure => omega
          case rel => exact ⟨r + 1, s, by omega, by go_num, rfl, HS.out, HL.out⟩
    · obtain rfl : r = R := by omega
      have hT : ∀ k, k < n → 0 ≤ pT zs k ∧ pT zs k < (r : Int) := fun k hk => by
        have := (OK.out.2.2.2 k hk).2.1
        omega
      have hfin := fun u => rnd_iff (F := pF zs) (T := pT zs) (W := pW zs) (x := x) (m := n) (P := r) (a := A) ⟨ha0, ha1⟩ hT u
      go_wp2
      go_ret
      exact ⟨s, rfl, HS.out.1, fun u hu => by rw [HS.out.2 u hu]; exact hfin u, HB.out.trans (HL.out.mono HB.out.size)⟩
end Go.Proofs.Ytenhdpemfdecfaa.nt
