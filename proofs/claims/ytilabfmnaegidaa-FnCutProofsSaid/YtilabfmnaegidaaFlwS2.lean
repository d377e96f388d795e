/- Flows: the specification's FlowSize, IsUsed. -/
import Derived.Test.YtilabfmnaegidaaFlwS
namespace Go.Proofs.Ytilabfmnaegidaa.fl_
open Go.RowKit Go.Proofs.Ytilabfmnaegidaa.kit Go.Proofs.Ytilabfmnaegidaa.lawi Go.Proofs.Ytilabfmnaegidaa.own Go.Proofs.Ytilabfmnaegidaa.rain Go.Proofs.Ytilabfmnaegidaa.yrl Go.Proofs.Ytilabfmnaegidaa.net Go.Proofs.Ytilabfmnaegidaa.nt Go.Proofs.Ytilabfmnaegidaa.flw Go.Proofs.Ytilabfmnaegidaa.take
/-- The size of a flow, by its definition. -/
def FSz (P : Int) (n : Nat) (zs : List Int) (m : Nat) (fs : List Int) (a b s : Int) : Prop :=
  (FK P n zs m fs a b → s = if -1 < Go.Proofs.Ytilabfmnaegidaa.flw.nt (pF zs) (pT zs) (gd fs) a n then Go.Proofs.Ytilabfmnaegidaa.flw.nt (pF zs) (pT zs) (gd fs) a n else -1) ∧ (¬ FK P n zs m fs a b → s = -1)
theorem FSz.ex (P : Int) (n : Nat) (zs : List Int) (m : Nat) (fs : List Int) (a b : Int) : ∃ s, FSz P n zs m fs a b s := by
  by_cases h : FK P n zs m fs a b
  · exact ⟨_, fun _ => rfl, fun g => absurd h g⟩
  · exact ⟨_, fun g => absurd g h, fun _ => rfl⟩
theorem FK.cap {P : Int} {n m : Nat} {zs fs : List Int} {a b : Int} (h : FK P n zs m fs a b) : ∀ j, j < n → 0 ≤ gd fs j ∧ gd fs j ≤ 1000 := fun j hj => by
  have h1 := h.2.2.bd j hj
  have := (h.1.1.2.2.2 j hj).2.2.2.2
  omega
set_option maxHeartbeats 4000000 in
theorem spec_fsz (w : World) (P : Int) (v u : Value) (n m : Nat) (zs fs : List Int) (a b : Int) (hn : n ≤ 1048576) (hm : m ≤ 1048576) (hr : Row 3 w v n (IV zs)) (hf : Row 1 w u m (IV fs)) (s : Int) (hs : FSz P n zs m fs a b s) :
    Calls Try.prog 40 #[Nv P v, u, .int .i64 a, .int .i64 b] w (Gives w (.int .i64 s)) := by
  obtain ⟨av, ca, rfl⟩ := hr.shape
  obtain ⟨au, cu, rfl⟩ := hf.shape
  have hl : zs.length = n * 3 := by simpa using hr.1
  have hlf : fs.length = m := by simpa using hf.1
  obtain ⟨w0, hw0⟩ : ∃ w0, w.alloc (.cells #[.int .i64 P, .slice av n ca] TN) = w0 := ⟨_, rfl⟩
  have B0 : Below w.heap.size w w0 := hw0 ▸ below_al (Below.refl _ _) _
  have HX : Hid (Blk w0 w.heap.size TN #[.int .i64 P, .slice av n ca]) := Lib.hid (hw0 ▸ Blk.new w TN #[.int .i64 P, .slice av n ca])
  have HR := Lib.hid (hr.keep B0)
  have HF := Lib.hid (hf.keep B0)
  have HB := Lib.hid B0
  have HS := Lib.hid hs
  obtain ⟨p0, p1⟩ := stNet.blk_ HX.out
  clear hr hf B0 hs
  by_cases fk : FK P n zs m fs a b
  · have FKH := Lib.hid fk
    obtain rfl : m = n := fk.2.1
    have hm20 := fk.1.1.2.2.1
    clear fk
    go_enter Try.func40, Try.ntmps40
    go_wp2_with fail
    refine (spec_fok _ _ _ _ m m zs fs a b (by omega) HR.out HF.out true ⟨fun _ => FKH.out, fun _ => rfl⟩).mono ?_; rintro e w1 ⟨rfl, hb1⟩
    have HL := Lib.hid hb1
    clear hb1 p0 p1 hw0
    go_wp2
    go_loopg [9, 10] m (fun g s9 s10 wr => ∃ k : Nat, k + g = m ∧ s10 = .int .i64 k ∧ s9 = .int .i64 (Go.Proofs.Ytilabfmnaegidaa.flw.nt (pF zs) (pT zs) (gd fs) a k) ∧ Below w0.heap.size w0 wr)
    case atStart => exact ⟨0, by omega, rfl, rfl, HL.out⟩
    case round =>
      clear HL
      obtain ⟨k, hkg, rfl, rfl, hbel⟩ := hrel
      obtain ⟨p0, p1⟩ := stNet.blk_ (HX.out.step hbel)
      by_cases hlt : k < m
      · obtain ⟨gk, rfl⟩ : ∃ g', gk = g' + 1 := ⟨gk - 1, by omega⟩
        obtain ⟨b1, o1, rfl, h1⟩ := (HR.out.keep hbel).at_ (by omega)
        obtain ⟨g1, g2, g3⟩ := pipe_at h1 hl hlt
        obtain ⟨b2, o2, rfl, h2⟩ := (HF.out.keep hbel).at_ (by omega)
        have g4 : wr.cell? ⟨b2, o2 + k, none⟩ = some (.int .i64 (gd fs k)) := h2 k _ (getI (by omega))
        have hFT := (FKH.out.1.1.2.2.2 k hlt).2.2.1
        have hcap := FKH.out.cap
        have y0 := Go.Proofs.Ytilabfmnaegidaa.flw.nt_bd (F := pF zs) (T := pT zs) (v := a) k (fun j hj => hcap j (by omega))
        have yk := hcap k hlt
        obtain ⟨N, hN⟩ : ∃ N, Go.Proofs.Ytilabfmnaegidaa.flw.nt (pF zs) (pT zs) (gd fs) a (k + 1) = N := ⟨_, rfl⟩
        have hN' := hN
        rw [Go.Proofs.Ytilabfmnaegidaa.flw.nt] at hN'
        have HNN := Lib.hid hN
        clear hN hcap h1 h2 g3
        generalize Go.Proofs.Ytilabfmnaegidaa.flw.nt (pF zs) (pT zs) (gd fs) a k = x at y0 hN' ⊢
        generalize pF zs k = F at g1 hFT hN'
        generalize pT zs k = T at g2 hFT hN'
        generalize gd fs k = f at g4 yk hN'
        have HL := Lib.hid hbel
        clear hbel
        by_cases hF : F = a
        · subst hF
          rw [if_pos rfl, if_neg (fun e => hFT e.symm)] at hN'
          have e1 : IntKind.i64.wrap (x + f) = x + f := IntWalk.i64_in _ (by omega)
          have e2 : (T == F) = false := beq_eq_false_iff_ne.2 (fun e => hFT e.symm)
          have HN2 := Lib.hid hN'
          clear hN' hFT y0 yk
          go_wp2
          go_roundg gk
          case measure => omega
          case rel => exact ⟨k + 1, by omega, by go_num, by rw [HNN.out, ← HN2.out]; congr 1; omega, HL.out⟩
        · by_cases hT : T = a
          · subst hT
            rw [if_pos rfl, if_neg hF] at hN'
            have e1 : IntKind.i64.wrap (x - f) = x - f := IntWalk.i64_in _ (by omega)
            have e2 : (F == T) = false := beq_eq_false_iff_ne.2 hF
            have HN2 := Lib.hid hN'
            clear hN' hFT y0 yk
            go_wp2
            go_roundg gk
            case measure => omega
            case rel => exact ⟨k + 1, by omega, by go_num, by rw [HNN.out, ← HN2.out]; congr 1; omega, HL.out⟩
          · rw [if_neg hT, if_neg hF] at hN'
            have e1 : (F == a) = false := beq_eq_false_iff_ne.2 hF
            have e2 : (T == a) = false := beq_eq_false_iff_ne.2 hT
            have HN2 := Lib.hid hN'
            clear hN' hFT y0 yk
            go_wp2
            go_roundg gk
            case measure => omega
            case rel => exact ⟨k + 1, by omega, by go_num, by rw [HNN.out, ← HN2.out]; congr 1; omega, HL.out⟩
      · obtain rfl : k = m := by omega
        have hsz := HS.out.1 FKH.out
        have HL := Lib.hid hbel
        clear hbel HS
        generalize Go.Proofs.Ytilabfmnaegidaa.flw.nt (pF zs) (pT zs) (gd fs) a k = x at hsz ⊢
        by_cases hx : -1 < x
        · rw [if_pos hx] at hsz
          subst hsz
          go_wp2
          go_ret
          exact ⟨rfl, HB.out.trans (HL.out.mono HB.out.size)⟩
        · rw [if_neg hx] at hsz
          subst hsz
          go_wp2
          go_ret
          exact ⟨rfl, HB.out.trans (HL.out.mono HB.out.size)⟩
  · have hsz := HS.out.2 fk
    have FKH := Lib.hid fk
    clear fk
    go_enter Try.func40, Try.ntmps40
    go_wp2_with fail
    refine (spec_fok _ _ _ _ n m zs fs a b (by omega) HR.out HF.out false ⟨fun h => (by cases h), fun h => absurd h FKH.out⟩).mono ?_; rintro e w1 ⟨rfl, hb1⟩
    go_wp2
    go_ret
    exact ⟨by rw [hsz]; rfl, HB.out.trans (hb1.mono HB.out.size)⟩
/-- Pipe k carries water. -/
def Us (n m : Nat) (fs : List Int) (x : Int) : Prop := m = n ∧ 0 ≤ x ∧ x < m ∧ 0 < gd fs x.toNat
end Go.Proofs.Ytilabfmnaegidaa.fl_
