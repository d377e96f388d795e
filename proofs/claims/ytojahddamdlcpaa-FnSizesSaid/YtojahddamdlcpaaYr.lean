/- The contracts of both sides' YearOk. -/
import Derived.Test.YtojahddamdlcpaaChan
import Derived.Test.YtojahddamdlcpaaYrL
import Derived.Test.YtojahddamdlcpaaCis
namespace Go.Proofs.Ytojahddamdlcpaa.yr
open Go.RowKit Go.Proofs.Ytojahddamdlcpaa.kit Go.Proofs.Ytojahddamdlcpaa.lawi Go.Proofs.Ytojahddamdlcpaa.rainl Go.Proofs.Ytojahddamdlcpaa.rain Go.Proofs.Ytojahddamdlcpaa.cis Go.Proofs.Ytojahddamdlcpaa.chl Go.Proofs.Ytojahddamdlcpaa.yrl
abbrev TY : TypeId := 34
abbrev Yv (r s : Int) (v : Value) (d : Int) : Value := .agg #[.int .i64 r, .int .i64 s, v, .int .i64 d]
/-- The first k days' rain is in its range. -/
def GC (cs : List Int) (k : Nat) : Prop := ∀ j, j < k → 0 ≤ cs.getD j 0 ∧ cs.getD j 0 ≤ 300000
theorem GC.succ {cs : List Int} {k : Nat} (h : GC cs k) {z : Int} (hz : cs.getD k 0 = z) (h0 : 0 ≤ z) (h1 : z ≤ 300000) : GC cs (k + 1) := fun j hj => by
  rcases (show j < k ∨ j = k from by omega) with h' | rfl
  · exact h j h'
  · exact hz ▸ ⟨h0, h1⟩
theorem spec_yok_yes (w : World) (v : Value) (n : Nat) (cs : List Int) (r s d : Int) (hr : Row 1 w v n (IV cs)) (ok : YOk r s d n cs) : Calls Try.prog 67 #[Yv r s v d] w (Gives w (.bool true)) := by
  obtain ⟨a, ca, rfl⟩ := hr.shape
  have hl : cs.length = n := by simpa using hr.1
  have B0 : Below w.heap.size w (w.alloc (.cells #[.int .i64 r, .int .i64 s, .slice a n ca, .int .i64 d] TY)) := below_al (Below.refl _ _) _
  have HR := Lib.hid (hr.keep B0)
  have HB := Lib.hid B0
  obtain ⟨⟨r1, r2⟩, ⟨s1, s2⟩, ⟨n1, n2⟩, ⟨d1, d2⟩, hc⟩ := ok
  have HC := Lib.hid hc
  clear hc hr B0
  go_enter Try.func67, Try.ntmps67
  go_wp2
  go_loop [3] (fun i => ∃ k : Nat, k ≤ n ∧ i = .int .i64 k) (fun i => n - (intOf i).toNat)
  case atStart => exact ⟨0, Nat.zero_le _, rfl⟩
  case round =>
    obtain ⟨k, hk, rfl⟩ := hrel
    by_cases hlt : k < n
    · obtain ⟨b1, o1, rfl, h1⟩ := HR.out.at_ (by omega)
      obtain ⟨z, hz⟩ : ∃ z, cs.getD k 0 = z := ⟨_, rfl⟩
      have g1 := h1 k _ (getI (by omega))
      rw [hz] at g1
      have hz0 := HC.out k hlt
      rw [hz] at hz0
      obtain ⟨z0, z1⟩ := hz0
      clear h1 hz
      go_wp2_with fail
      refine (in_yes _ _ _ _ z0 z1).mono ?_; rintro e w1 ⟨rfl, rfl⟩
      go_wp2
      go_round
      case rel => exact ⟨k + 1, by omega, by go_num⟩
      case measure => simp [intOf]; omega
    · go_wp2_with fail
      refine (in_yes _ _ _ _ r1 r2).mono ?_; rintro e w1 ⟨rfl, rfl⟩
      go_wp2_with fail
      refine (in_yes _ _ _ _ s1 s2).mono ?_; rintro e w1 ⟨rfl, rfl⟩
      go_wp2_with fail
      refine (in_yes _ _ _ _ (by omega) (by omega)).mono ?_; rintro e w1 ⟨rfl, rfl⟩
      go_wp2_with fail
      refine (in_yes _ _ _ _ d1 d2).mono ?_; rintro e w1 ⟨rfl, rfl⟩
      go_wp2
      go_ret
      exact ⟨rfl, HB.out⟩
theorem spec_yok_no (w : World) (v : Value) (n : Nat) (cs : List Int) (r s d : Int) (hn : n ≤ 1048576) (hr : Row 1 w v n (IV cs)) (no : ¬ YOk r s d n cs) : Calls Try.prog 67 #[Yv r s v d] w (Gives w (.bool false)) := by
  obtain ⟨a, ca, rfl⟩ := hr.shape
  have hl : cs.length = n := by simpa using hr.1
  have B0 : Below w.heap.size w (w.alloc (.cells #[.int .i64 r, .int .i64 s, .slice a n ca, .int .i64 d] TY)) := below_al (Below.refl _ _) _
  have HR := Lib.hid (hr.keep B0)
  have HB := Lib.hid B0
  have NO := Lib.hid no
  clear no hr B0
  go_enter Try.func67, Try.ntmps67
  go_wp2
  go_loop [3] (fun i => ∃ k : Nat, k ≤ n ∧ i = .int .i64 k ∧ GC cs k) (fun i => n - (intOf i).toNat)
  case atStart => exact ⟨0, Nat.zero_le _, rfl, fun j hj => by omega⟩
  case round =>
    obtain ⟨k, hk, rfl, hg⟩ := hrel
    by_cases hlt : k < n
    · obtain ⟨b1, o1, rfl, h1⟩ := HR.out.at_ (by omega)
      obtain ⟨z, hz⟩ : ∃ z, cs.getD k 0 = z := ⟨_, rfl⟩
      have g1 := h1 k _ (getI (by omega))
      rw [hz] at g1
      have HZ := Lib.hid hz
      have HG := Lib.hid hg
      clear h1 hz hg
      by_cases hin : 0 ≤ z ∧ z ≤ 300000
      · obtain ⟨z0, z1⟩ := hin
        go_wp2_with fail
        refine (in_yes _ _ _ _ z0 z1).mono ?_; rintro e w1 ⟨rfl, rfl⟩
        go_wp2
        go_round
        case rel => exact ⟨k + 1, by omega, by go_num, HG.out.succ HZ.out z0 z1⟩
        case measure => simp [intOf]; omega
      · go_wp2_with fail
        refine (in_no _ _ _ _ hin).mono ?_; rintro e w1 ⟨rfl, rfl⟩
        clear hin
        go_wp2
        go_ret
        exact ⟨rfl, HB.out⟩
    · obtain rfl : k = n := by omega
      have HG := Lib.hid hg
      clear hg
      by_cases h1 : 1 ≤ r ∧ r ≤ 1000000
      · obtain ⟨r1, r2⟩ := h1
        by_cases h2 : 0 ≤ s ∧ s ≤ r
        · obtain ⟨s1, s2⟩ := h2
          by_cases h3 : (1 : Int) ≤ k ∧ (k : Int) ≤ 400
          · obtain ⟨n1, n2⟩ := h3
            have h4 : ¬ (0 ≤ d ∧ d ≤ 1000000) := fun h4 => NO.out ⟨⟨r1, r2⟩, ⟨s1, s2⟩, ⟨by omega, by omega⟩, h4, HG.out⟩
            go_wp2_with fail
            refine (in_yes _ _ _ _ r1 r2).mono ?_; rintro e w1 ⟨rfl, rfl⟩
            go_wp2_with fail
            refine (in_yes _ _ _ _ s1 s2).mono ?_; rintro e w1 ⟨rfl, rfl⟩
            go_wp2_with fail
            refine (in_yes _ _ _ _ n1 n2).mono ?_; rintro e w1 ⟨rfl, rfl⟩
            go_wp2_with fail
            refine (in_no _ _ _ _ h4).mono ?_; rintro e w1 ⟨rfl, rfl⟩
            clear h4
            go_wp2
            go_ret
            exact ⟨rfl, HB.out⟩
          · go_wp2_with fail
            refine (in_yes _ _ _ _ r1 r2).mono ?_; rintro e w1 ⟨rfl, rfl⟩
            go_wp2_with fail
            refine (in_yes _ _ _ _ s1 s2).mono ?_; rintro e w1 ⟨rfl, rfl⟩
            go_wp2_with fail
            refine (in_no _ _ _ _ h3).mono ?_; rintro e w1 ⟨rfl, rfl⟩
            clear h3
            go_wp2
            go_ret
            exact ⟨rfl, HB.out⟩
        · go_wp2_with fail
          refine (in_yes _ _ _ _ r1 r2).mono ?_; rintro e w1 ⟨rfl, rfl⟩
          go_wp2_with fail
          refine (in_no _ _ _ _ h2).mono ?_; rintro e w1 ⟨rfl, rfl⟩
          clear h2
          go_wp2
          go_ret
          exact ⟨rfl, HB.out⟩
      · go_wp2_with fail
        refine (in_no _ _ _ _ h1).mono ?_; rintro e w1 ⟨rfl, rfl⟩
        clear h1
        go_wp2
        go_ret
        exact ⟨rfl, HB.out⟩
theorem impl_cist (w : World) (r s d : Int) (a : Option Addr) (n ca : Nat) : Calls Try.prog 79 #[Yv r s (.slice a n ca) d] w (Gives w (C r s)) := by
  go_enter Try.func79, Try.ntmps79
  go_wp2
  refine bodyPost_ret (v := C r s) (by simp [results, Try.results79, go_sem]) rfl ⟨rfl, ?_⟩
  go_grown
theorem blk4 {w : World} {g : Nat} {t : TypeId} {a b c d : Value} (h : Blk w g t #[a, b, c, d]) : w.cell? ⟨g, 0, none⟩ = some a ∧ w.cell? ⟨g, 1, none⟩ = some b ∧ w.cell? ⟨g, 2, none⟩ = some c ∧ w.cell? ⟨g, 3, none⟩ = some d := ⟨h.cell 0, h.cell 1, h.cell 2, h.cell 3⟩
theorem impl_yok_yes (w : World) (v : Value) (n : Nat) (cs : List Int) (r s d : Int) (hr : Row 1 w v n (IV cs)) (ok : YOk r s d n cs) : Calls Try.prog 55 #[Yv r s v d] w (Gives w (.bool true)) := by
  obtain ⟨a, ca, rfl⟩ := hr.shape
  have hl : cs.length = n := by simpa using hr.1
  have B0 : Below w.heap.size w (w.alloc (.cells #[.int .i64 r, .int .i64 s, .slice a n ca, .int .i64 d] TY)) := below_al (Below.refl _ _) _
  have HR := Lib.hid (hr.keep B0)
  have HB := Lib.hid B0
  have HX := Lib.hid (Blk.new w TY #[.int .i64 r, .int .i64 s, .slice a n ca, .int .i64 d])
  obtain ⟨⟨r1, r2⟩, ⟨s1, s2⟩, ⟨n1, n2⟩, ⟨d1, d2⟩, hc⟩ := ok
  have HC := Lib.hid hc
  clear hc hr B0
  go_enter Try.func55, Try.ntmps55
  go_wp2_with fail
  refine (impl_cist _ r s d a n ca).mono ?_; rintro e w1 ⟨rfl, hb⟩
  replace HR := Lib.hid (HR.out.keep hb)
  replace HX := Lib.hid (HX.out.step hb)
  replace HB := Lib.hid (below_step HB.out hb)
  clear hb
  go_wp2_with fail
  refine (impl_cok_yes _ r s ⟨r1, r2, s1, s2⟩).mono ?_; rintro e w2 ⟨rfl, hb⟩
  replace HR := Lib.hid (HR.out.keep hb)
  replace HX := Lib.hid (HX.out.step hb)
  replace HB := Lib.hid (below_step HB.out hb)
  clear hb
  obtain ⟨p0, p1, p2, p3⟩ := blk4 HX.out
  go_wp2_with fail
  refine (inR_yes _ _ _ _ (by omega) (by omega)).mono ?_; rintro e w1 ⟨rfl, rfl⟩
  go_wp2_with fail
  refine (impl_water_yes _ _ ⟨d1, d2⟩).mono ?_; rintro e w1 ⟨rfl, rfl⟩
  go_wp2
  go_loop [25] (fun i => ∃ k : Nat, k ≤ n ∧ i = .int .i64 k) (fun i => n - (intOf i).toNat)
  case atStart => exact ⟨0, Nat.zero_le _, rfl⟩
  case round =>
    obtain ⟨k, hk, rfl⟩ := hrel
    by_cases hlt : k < n
    · obtain ⟨b1, o1, rfl, h1⟩ := HR.out.at_ (by omega)
      obtain ⟨z, hz⟩ : ∃ z, cs.getD k 0 = z := ⟨_, rfl⟩
      have g1 := h1 k _ (getI (by omega))
      rw [hz] at g1
      have hz0 := HC.out k hlt
      rw [hz] at hz0
      obtain ⟨z0, z1⟩ := hz0
      clear h1 hz
      go_wp2_with fail
      refine (inR_yes _ _ _ _ z0 z1).mono ?_; rintro e w1 ⟨rfl, rfl⟩
      go_wp2
      go_round
      case rel => exact ⟨k + 1, by omega, by go_num⟩
      case measure => simp [intOf]; omega
    · go_wp2
      go_ret
      exact ⟨rfl, HB.out⟩
theorem impl_yok_no (w : World) (v : Value) (n : Nat) (cs : List Int) (r s d : Int) (hn : n ≤ 1048576) (hr : Row 1 w v n (IV cs)) (no : ¬ YOk r s d n cs) : Calls Try.prog 55 #[Yv r s v d] w (Gives w (.bool false)) := by
  obtain ⟨a, ca, rfl⟩ := hr.shape
  have hl : cs.length = n := by simpa using hr.1
  have B0 : Below w.heap.size w (w.alloc (.cells #[.int .i64 r, .int .i64 s, .slice a n ca, .int .i64 d] TY)) := below_al (Below.refl _ _) _
  have HR := Lib.hid (hr.keep B0)
  have HB := Lib.hid B0
  have HX := Lib.hid (Blk.new w TY #[.int .i64 r, .int .i64 s, .slice a n ca, .int .i64 d])
  have NO := Lib.hid no
  clear no hr B0
  go_enter Try.func55, Try.ntmps55
  go_wp2_with fail
  refine (impl_cist _ r s d a n ca).mono ?_; rintro e w1 ⟨rfl, hb⟩
  replace HR := Lib.hid (HR.out.keep hb)
  replace HX := Lib.hid (HX.out.step hb)
  replace HB := Lib.hid (below_step HB.out hb)
  clear hb
  by_cases h1 : COk r s
  · go_wp2_with fail
    refine (impl_cok_yes _ r s h1).mono ?_; rintro e w2 ⟨rfl, hb⟩
    replace HR := Lib.hid (HR.out.keep hb)
    replace HX := Lib.hid (HX.out.step hb)
    replace HB := Lib.hid (below_step HB.out hb)
    clear hb
    obtain ⟨p0, p1, p2, p3⟩ := blk4 HX.out
    have H1 := Lib.hid h1
    clear h1
    by_cases h3 : (1 : Int) ≤ n ∧ (n : Int) ≤ 400
    · obtain ⟨n1, n2⟩ := h3
      go_wp2_with fail
      refine (inR_yes _ _ _ _ n1 n2).mono ?_; rintro e w1 ⟨rfl, rfl⟩
      by_cases h4 : Wok d
      · have H4 := Lib.hid h4
        clear h4
        go_wp2_with fail
        refine (impl_water_yes _ _ H4.out).mono ?_; rintro e w1 ⟨rfl, rfl⟩
        go_wp2
        go_loop [25] (fun i => ∃ k : Nat, k ≤ n ∧ i = .int .i64 k ∧ GC cs k) (fun i => n - (intOf i).toNat)
        case atStart => exact ⟨0, Nat.zero_le _, rfl, fun j hj => by omega⟩
        case round =>
          obtain ⟨k, hk, rfl, hg⟩ := hrel
          by_cases hlt : k < n
          · obtain ⟨b1, o1, rfl, h1⟩ := HR.out.at_ (by omega)
            obtain ⟨z, hz⟩ : ∃ z, cs.getD k 0 = z := ⟨_, rfl⟩
            have g1 := h1 k _ (getI (by omega))
            rw [hz] at g1
            have HZ := Lib.hid hz
            have HG := Lib.hid hg
            clear h1 hz hg
            by_cases hin : 0 ≤ z ∧ z ≤ 300000
            · obtain ⟨z0, z1⟩ := hin
              go_wp2_with fail
              refine (inR_yes _ _ _ _ z0 z1).mono ?_; rintro e w1 ⟨rfl, rfl⟩
              go_wp2
              go_round
              case rel => exact ⟨k + 1, by omega, by go_num, HG.out.succ HZ.out z0 z1⟩
              case measure => simp [intOf]; omega
            · go_wp2_with fail
              refine (inR_no _ _ _ _ hin).mono ?_; rintro e w1 ⟨rfl, rfl⟩
              clear hin
              go_wp2
              go_ret
              exact ⟨rfl, HB.out⟩
          · obtain rfl : k = n := by omega
            exact (NO.out ⟨⟨H1.out.1, H1.out.2.1⟩, H1.out.2.2, ⟨by omega, by omega⟩, H4.out, hg⟩).elim
      · go_wp2_with fail
        refine (impl_water_no _ _ h4).mono ?_; rintro e w1 ⟨rfl, rfl⟩
        clear h4
        go_wp2
        go_ret
        exact ⟨rfl, HB.out⟩
    · go_wp2_with fail
      refine (inR_no _ _ _ _ h3).mono ?_; rintro e w1 ⟨rfl, rfl⟩
      clear h3
      go_wp2
      go_ret
      exact ⟨rfl, HB.out⟩
  · go_wp2_with fail
    refine (impl_cok_no _ r s h1).mono ?_; rintro e w2 ⟨rfl, hb⟩
    replace HB := Lib.hid (below_step HB.out hb)
    clear hb h1
    go_wp2
    go_ret
    exact ⟨rfl, HB.out⟩
end Go.Proofs.Ytojahddamdlcpaa.yr
