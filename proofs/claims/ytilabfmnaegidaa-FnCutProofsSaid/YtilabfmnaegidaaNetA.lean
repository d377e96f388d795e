/- Nets of pipes: NetOk of both sides, and whether a net has a place. -/
import Derived.Test.YtilabfmnaegidaaStNet
import Derived.Test.YtilabfmnaegidaaNetL2
import Derived.Outline
import Derived.Deep.LoopGhost
namespace Go.Proofs.Ytilabfmnaegidaa.nt
open Go.RowKit Go.Proofs.Ytilabfmnaegidaa.kit Go.Proofs.Ytilabfmnaegidaa.lawi Go.Proofs.Ytilabfmnaegidaa.own Go.Proofs.Ytilabfmnaegidaa.rain Go.Proofs.Ytilabfmnaegidaa.yrl Go.Proofs.Ytilabfmnaegidaa.net
abbrev TN : TypeId := 26
abbrev TP : TypeId := 63
abbrev Nv (P : Int) (v : Value) : Value := .agg #[.int .i64 P, v]
/-- Pipe k lies between two of the places 0 .. Q, and is 1 to 1000 wide. -/
def pOk (Q : Int) (zs : List Int) (k : Nat) : Prop := (0 ≤ pF zs k ∧ pF zs k ≤ Q) ∧ (0 ≤ pT zs k ∧ pT zs k ≤ Q) ∧ pF zs k ≠ pT zs k ∧ 1 ≤ pW zs k ∧ pW zs k ≤ 1000
def NO (P : Int) (n : Nat) (zs : List Int) : Prop := 2 ≤ P ∧ P ≤ 8 ∧ n ≤ 20 ∧ ∀ k, k < n → pOk (P - 1) zs k
/-- What the tests say of NetOk's answer. -/
structure Ans (P Q : Int) (n : Nat) (zs : List Int) (b : Bool) : Prop where
  bad : ∀ k, k < n → ¬ pOk Q zs k → b = false
  out : ¬ (2 ≤ P ∧ P ≤ 8) → b = false
  long : 20 < n → b = false
  good : 2 ≤ P → P ≤ 8 → n ≤ 20 → (∀ k, k < n → pOk Q zs k) → b = true
theorem wrap_sub {P : Int} (h1 : 2 ≤ P) (h2 : P ≤ 8) : IntKind.i64.wrap (P - 1) = P - 1 := IntWalk.i64_in _ (by omega)
theorem Ans.of {P Q : Int} {n : Nat} {zs : List Int} {b : Bool} (hQ : IntKind.i64.wrap (P - 1) = Q) (hb : b = true ↔ NO P n zs) : Ans P Q n zs b := by
  have key : ∀ h : NO P n zs, Q = P - 1 := fun h => by rw [← hQ]; exact wrap_sub h.1 h.2.1
  refine ⟨fun k hk hno => ?_, fun hno => ?_, fun hno => ?_, fun h1 h2 h3 h4 => ?_⟩
  · cases b
    · rfl
    · have h := hb.1 rfl
      have e := key h
      exact absurd (e ▸ h.2.2.2 k hk) hno
  · cases b
    · rfl
    · have h := hb.1 rfl
      exact absurd ⟨h.1, h.2.1⟩ hno
  · cases b
    · rfl
    · have h := (hb.1 rfl).2.2.1
      omega
  · have e : Q = P - 1 := by rw [← hQ]; exact wrap_sub h1 h2
    exact hb.2 ⟨h1, h2, h3, fun k hk => e ▸ h4 k hk⟩
/-- A pipe's three cells. -/
theorem pipe_at {w : World} {b o n : Nat} {zs : List Int} (h : ∀ j u, (IV zs)[j]? = some u → w.cell? ⟨b, o + j, none⟩ = some u) (hl : zs.length = n * 3) {k : Nat} (hk : k < n) :
    w.cell? ⟨b, o + k * 3, none⟩ = some (.int .i64 (pF zs k)) ∧ w.cell? ⟨b, o + k * 3 + 1, none⟩ = some (.int .i64 (pT zs k)) ∧ w.cell? ⟨b, o + k * 3 + 2, none⟩ = some (.int .i64 (pW zs k)) := by
  refine ⟨h (k * 3) _ (getI (by omega)), ?_, ?_⟩
  · have := h (k * 3 + 1) _ (getI (by omega))
    rwa [← Nat.add_assoc] at this
  · have := h (k * 3 + 2) _ (getI (by omega))
    rwa [← Nat.add_assoc] at this
theorem stPipe3 {w : World} {g : Nat} {t : TypeId} {x y z : Value} (h : Blk w g t #[x, y, z]) : w.cell? ⟨g, 0, none⟩ = some x ∧ w.cell? ⟨g, 1, none⟩ = some y ∧ w.cell? ⟨g, 2, none⟩ = some z := ⟨h.cell 0, h.cell 1, h.cell 2⟩
theorem pOk_succ {Q : Int} {zs : List Int} {k : Nat} (h : ∀ j, j < k → pOk Q zs j) (hk : pOk Q zs k) : ∀ j, j < k + 1 → pOk Q zs j := fun j hj => by
  rcases (show j < k ∨ j = k from by omega) with h' | rfl
  · exact h j h'
  · exact hk
set_option maxHeartbeats 2000000 in
theorem spec_nok (w : World) (P : Int) (v : Value) (n : Nat) (zs : List Int) (hn : n ≤ 1048576) (hr : Row 3 w v n (IV zs)) (b : Bool) (hb : b = true ↔ NO P n zs) :
    Calls Try.prog 54 #[Nv P v] w (Gives w (.bool b)) := by
  obtain ⟨a, ca, rfl⟩ := hr.shape
  have hl : zs.length = n * 3 := by simpa using hr.1
  obtain ⟨Q, hQ⟩ : ∃ Q, IntKind.i64.wrap (P - 1) = Q := ⟨_, rfl⟩
  have A := Lib.hid (Ans.of hQ hb)
  obtain ⟨w0, hw0⟩ : ∃ w0, w.alloc (.cells #[.int .i64 P, .slice a n ca] TN) = w0 := ⟨_, rfl⟩
  have B0 : Below w.heap.size w w0 := hw0 ▸ below_al (Below.refl _ _) _
  have HR := Lib.hid (hr.keep B0)
  have HB := Lib.hid B0
  have HX : Hid (Blk w0 w.heap.size TN #[.int .i64 P, .slice a n ca]) := Lib.hid (hw0 ▸ Blk.new w TN #[.int .i64 P, .slice a n ca])
  clear hr B0 hb
  go_enter Try.func54, Try.ntmps54
  go_wp2
  clear hw0
  go_loopg [3] n (fun g s3 wr => ∃ k : Nat, k + g = n ∧ s3 = .int .i64 k ∧ Below w0.heap.size w0 wr ∧ ∀ j, j < k → pOk Q zs j)
  case atStart => exact ⟨0, by omega, rfl, Below.refl _ _, fun j hj => by omega⟩
  case round =>
    obtain ⟨k, hkg, rfl, hbel, hg⟩ := hrel
    obtain ⟨p0, p1⟩ := stNet.blk_ (HX.out.step hbel)
    by_cases hlt : k < n
    · obtain ⟨gk, rfl⟩ : ∃ g', gk = g' + 1 := ⟨gk - 1, by omega⟩
      obtain ⟨b1, o1, rfl, h1⟩ := (HR.out.keep hbel).at_ (by omega)
      obtain ⟨g1, g2, g3⟩ := pipe_at h1 hl hlt
      have hpk : pOk Q zs k ↔ (0 ≤ pF zs k ∧ pF zs k ≤ Q) ∧ (0 ≤ pT zs k ∧ pT zs k ≤ Q) ∧ pF zs k ≠ pT zs k ∧ 1 ≤ pW zs k ∧ pW zs k ≤ 1000 := Iff.rfl
      generalize pF zs k = F at g1 hpk
      generalize pT zs k = T at g2 hpk
      generalize pW zs k = W at g3 hpk
      have HG := Lib.hid hg
      have HK := Lib.hid hpk
      have HL := Lib.hid hbel
      obtain ⟨q0, q1⟩ := stNet.blk_ ((HX.out.step hbel).alloc (.cells #[.int .i64 F, .int .i64 T, .int .i64 W] TP))
      clear h1 hg hpk hbel
      by_cases h1 : 0 ≤ F ∧ F ≤ Q
      · by_cases h2 : 0 ≤ T ∧ T ≤ Q
        · by_cases h3 : F = T
          · have hb := A.out.bad k hlt (fun h => (HK.out.1 h).2.2.1 h3)
            subst h3
            go_wp2_with fail
            refine (in_yes _ _ _ _ h1.1 h1.2).mono ?_; rintro e w1 ⟨rfl, rfl⟩
            go_wp2_with fail
            refine (in_yes _ _ _ _ h2.1 h2.2).mono ?_; rintro e w1 ⟨rfl, rfl⟩
            clear h1 h2
            go_wp2
            go_ret
            exact ⟨by rw [hb]; rfl, below_al (HB.out.trans (HL.out.mono HB.out.size)) _⟩
          · by_cases h4 : 1 ≤ W ∧ W ≤ 1000
            · go_wp2_with fail
              refine (in_yes _ _ _ _ h1.1 h1.2).mono ?_; rintro e w1 ⟨rfl, rfl⟩
              go_wp2_with fail
              refine (in_yes _ _ _ _ h2.1 h2.2).mono ?_; rintro e w1 ⟨rfl, rfl⟩
              go_wp2_with fail
              refine (in_yes _ _ _ _ h4.1 h4.2).mono ?_; rintro e w1 ⟨rfl, rfl⟩
              have hnew := Lib.hid (pOk_succ HG.out (HK.out.2 ⟨h1, h2, h3, h4⟩))
              clear h1 h2 h4
              go_wp2
              go_roundg gk
              case measure => omega
              case rel => exact ⟨k + 1, by omega, by go_num, below_al HL.out _, hnew.out⟩
            · go_wp2_with fail
              refine (in_yes _ _ _ _ h1.1 h1.2).mono ?_; rintro e w1 ⟨rfl, rfl⟩
              go_wp2_with fail
              refine (in_yes _ _ _ _ h2.1 h2.2).mono ?_; rintro e w1 ⟨rfl, rfl⟩
              go_wp2_with fail
              refine (in_no _ _ _ _ h4).mono ?_; rintro e w1 ⟨rfl, rfl⟩
              have hb := A.out.bad k hlt (fun h => h4 (HK.out.1 h).2.2.2)
              clear h1 h2 h4
              go_wp2
              go_ret
              exact ⟨by rw [hb]; rfl, below_al (HB.out.trans (HL.out.mono HB.out.size)) _⟩
        · go_wp2_with fail
          refine (in_yes _ _ _ _ h1.1 h1.2).mono ?_; rintro e w1 ⟨rfl, rfl⟩
          go_wp2_with fail
          refine (in_no _ _ _ _ h2).mono ?_; rintro e w1 ⟨rfl, rfl⟩
          have hb := A.out.bad k hlt (fun h => h2 (HK.out.1 h).2.1)
          clear h1 h2
          go_wp2
          go_ret
          exact ⟨by rw [hb]; rfl, below_al (HB.out.trans (HL.out.mono HB.out.size)) _⟩
      · go_wp2_with fail
        refine (in_no _ _ _ _ h1).mono ?_; rintro e w1 ⟨rfl, rfl⟩
        have hb := A.out.bad k hlt (fun h => h1 (HK.out.1 h).1)
        clear h1
        go_wp2
        go_ret
        exact ⟨by rw [hb]; rfl, below_al (HB.out.trans (HL.out.mono HB.out.size)) _⟩
    · obtain rfl : k = n := by omega
      have HG := Lib.hid hg
      have HL := Lib.hid hbel
      clear hg hbel
      by_cases h1 : 2 ≤ P ∧ P ≤ 8
      · go_wp2_with fail
        refine (in_yes _ _ _ _ h1.1 h1.2).mono ?_; rintro e w1 ⟨rfl, rfl⟩
        by_cases h2 : k ≤ 20
        · have hb := A.out.good h1.1 h1.2 h2 HG.out
          clear h1
          go_wp2
          go_ret
          exact ⟨by rw [hb]; exact congrArg (fun x => Ending.returned (Value.bool x)) (decide_eq_true (by omega)), HB.out.trans (HL.out.mono HB.out.size)⟩
        · have hb := A.out.long (by omega)
          clear h1
          go_wp2
          go_ret
          exact ⟨by rw [hb]; exact congrArg (fun x => Ending.returned (Value.bool x)) (decide_eq_false (by omega)), HB.out.trans (HL.out.mono HB.out.size)⟩
      · go_wp2_with fail
        refine (in_no _ _ _ _ h1).mono ?_; rintro e w1 ⟨rfl, rfl⟩
        have hb := A.out.out h1
        clear h1
        go_wp2
        go_ret
        exact ⟨by rw [hb]; rfl, HB.out.trans (HL.out.mono HB.out.size)⟩
end Go.Proofs.Ytilabfmnaegidaa.nt
