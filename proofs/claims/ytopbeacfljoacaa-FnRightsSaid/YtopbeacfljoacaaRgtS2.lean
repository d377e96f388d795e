/- Rights: the specification's RightsOk, LargestOwner. -/
import Derived.Test.YtopbeacfljoacaaRgtS
namespace Go.Proofs.Ytopbeacfljoacaa.rgt
open Go.RowKit Go.Proofs.Ytopbeacfljoacaa.kit Go.Proofs.Ytopbeacfljoacaa.lawi Go.Proofs.Ytopbeacfljoacaa.own Go.Proofs.Ytopbeacfljoacaa.rain Go.Proofs.Ytopbeacfljoacaa.yrl Go.Proofs.Ytopbeacfljoacaa.frc Go.Proofs.Ytopbeacfljoacaa.stRight Go.Proofs.Ytopbeacfljoacaa.later
theorem Su.ro {n : Nat} {zs : List Int} {x y : Int} {s : Bool} (h : Su n zs x y s) (ho : ∀ k, k < n → Own1 zs k) : Ro n zs ↔ (1 ≤ n ∧ n ≤ 12) ∧ s = true ∧ x = 1 ∧ y = 1 := by
  constructor
  · rintro ⟨h1, _, h3⟩
    rcases h with ⟨_, h4, h5⟩ | ⟨h4, _⟩
    · obtain ⟨a1, a2⟩ := h4.uniq h3
      exact ⟨h1, h5, a1, a2⟩
    · exact absurd h3 (h4 h1.2 _ _)
  · rintro ⟨h1, h2, rfl, rfl⟩
    rcases h with ⟨_, h4, _⟩ | ⟨_, h4, _, _⟩
    · exact ⟨h1, ho, h4⟩
    · cases h4
theorem own_succ {zs : List Int} {k : Nat} (h : ∀ j, j < k → Own1 zs j) (hk : Own1 zs k) : ∀ j, j < k + 1 → Own1 zs j := fun j hj => by
  rcases (show j < k ∨ j = k from by omega) with h' | rfl
  · exact h j h'
  · exact hk
set_option maxHeartbeats 4000000 in
theorem spec_ro (w : World) (v : Value) (n : Nat) (zs : List Int) (hn : n ≤ 1048576) (hr : Row 3 w v n (IV zs)) (r : Bool) (hb : r = true ↔ Ro n zs) :
    Calls Try.prog 19 #[v] w (Gives w (.bool r)) := by
  obtain ⟨av, ca, rfl⟩ := hr.shape
  have hl : zs.length = n * 3 := by simpa using hr.1
  have HR := Lib.hid hr
  have HBB := Lib.hid hb
  clear hr hb
  go_enter Try.func19, Try.ntmps19
  go_wp2
  go_loopg [3] n (fun g s3 wr => ∃ k : Nat, k + g = n ∧ s3 = .int .i64 k ∧ (∀ j, j < k → Own1 zs j) ∧ Below w.heap.size w wr)
  case atStart => exact ⟨0, by omega, rfl, fun j hj => by omega, Below.refl _ _⟩
  case round =>
    obtain ⟨k, hkg, rfl, hg, hbel⟩ := hrel
    have HG := Lib.hid hg
    have BL := Lib.hid hbel
    have RW := Lib.hid (HR.out.keep hbel)
    clear hg hbel
    by_cases hlt : k < n
    · obtain ⟨gk, rfl⟩ : ∃ g', gk = g' + 1 := ⟨gk - 1, by omega⟩
      have bad : Hid (¬ Own1 zs k → r = false) := Lib.hid fun h => by
        cases r
        · rfl
        · exact absurd ((HBB.out.1 rfl).2.1 k hlt) h
      obtain ⟨b1, o1, rfl, h1⟩ := RW.out.at_ (by omega)
      obtain ⟨g1, g2, _⟩ := right_at h1 hl hlt
      have hown : Hid (Own1 zs k ↔ (1 ≤ wO zs k ∧ wO zs k ≤ 999) ∧ 1 ≤ wT zs k ∧ (0 < k → wO zs (k - 1) < wO zs k)) := Lib.hid Iff.rfl
      generalize wO zs k = O at g1 hown
      generalize wT zs k = T at g2 hown
      have L1 := later.cell g1
      have L2 := later.cell g2
      by_cases c1 : 1 ≤ O ∧ O ≤ 999
      · by_cases c2 : T < 1
        · obtain rfl := bad.out (fun h => by have := (hown.out.1 h).2.1; omega)
          have u1 : decide (T < 1) = true := decide_eq_true c2
          clear h1 bad hown
          go_wp2_with fail
          (try simp only [List.append])
          refine later.region (by kernel_rfl) (lex.lexB_of (by kernel_rfl) (lex.all_whole (by kernel_rfl))) ?_
          repeat (go_big_quiet_step ((first
            | (go_at_call 41; exact later.same _ (in_yes _ _ _ _ c1.1 c1.2))
            | fail)))
          refine wpQuiet_nil ?_
          intro _ hw'
          obtain ⟨g, rfl⟩ := hw'
          go_wp2
          go_ret
          exact ⟨rfl, BL.out.trans (g.h.mono BL.out.size)⟩
        · have u1 : decide (T < 1) = false := decide_eq_false c2
          by_cases h0 : k = 0
          · have HN := Lib.hid (own_succ HG.out (hown.out.2 ⟨c1, by omega, fun h => by omega⟩))
            have u2 : decide ((0 : Int) < (k : Int)) = false := decide_eq_false (by omega)
            have u4 : decide (0 < k) = false := decide_eq_false (by omega)
            clear h1 bad hown h0
            go_wp2_with fail
            (try simp only [List.append])
            refine later.region (by kernel_rfl) (lex.lexB_of (by kernel_rfl) (lex.all_whole (by kernel_rfl))) ?_
            repeat (go_big_quiet_step ((first
              | (go_at_call 41; exact later.same _ (in_yes _ _ _ _ c1.1 c1.2))
              | fail)))
            refine wpQuiet_nil ?_
            intro _ hw'
            obtain ⟨g, rfl⟩ := hw'
            go_wp2
            go_roundg gk
            case measure => omega
            case rel => exact ⟨k + 1, by omega, by go_num, HN.out, BL.out.trans (g.h.mono BL.out.size)⟩
          · obtain ⟨m, hm⟩ : ∃ m : Nat, (k : Int) - 1 = m := ⟨k - 1, by omega⟩
            have em : k - 1 = m := by omega
            obtain ⟨g3, _⟩ := right_at h1 hl (k := m) (by omega)
            rw [em] at hown
            generalize wO zs m = Q at g3 hown
            have L3 := later.cell g3
            have e1 : IntKind.i64.wrap (m : Int) = m := IntWalk.i64_in _ (by omega)
            have u2 : decide ((0 : Int) < (k : Int)) = true := decide_eq_true (by omega)
            have u4 : decide (0 < k) = true := decide_eq_true (by omega)
            have i0 : (0 : Int) ≤ (m : Int) := by omega
            have i1 : (m : Int) < (n : Int) := by omega
            by_cases c3 : O ≤ Q
            · obtain rfl := bad.out (fun h => by have := (hown.out.1 h).2.2 (by omega); omega)
              have u3 : decide (O ≤ Q) = true := decide_eq_true c3
              clear h1 bad hown em
              go_wp2_with fail
              (try simp only [List.append])
              refine later.region (by kernel_rfl) (lex.lexB_of (by kernel_rfl) (lex.all_whole (by kernel_rfl))) ?_
              repeat (go_big_quiet_step ((first
                | (go_at_call 41; exact later.same _ (in_yes _ _ _ _ c1.1 c1.2))
                | fail)))
              refine wpQuiet_nil ?_
              intro _ hw'
              obtain ⟨g, rfl⟩ := hw'
              go_wp2
              go_ret
              exact ⟨rfl, BL.out.trans (g.h.mono BL.out.size)⟩
            · have u3 : decide (O ≤ Q) = false := decide_eq_false c3
              have HN := Lib.hid (own_succ HG.out (hown.out.2 ⟨c1, by omega, fun h => by omega⟩))
              clear h1 bad hown em
              go_wp2_with fail
              (try simp only [List.append])
              refine later.region (by kernel_rfl) (lex.lexB_of (by kernel_rfl) (lex.all_whole (by kernel_rfl))) ?_
              repeat (go_big_quiet_step ((first
                | (go_at_call 41; exact later.same _ (in_yes _ _ _ _ c1.1 c1.2))
                | fail)))
              refine wpQuiet_nil ?_
              intro _ hw'
              obtain ⟨g, rfl⟩ := hw'
              go_wp2
              go_roundg gk
              case measure => omega
              case rel => exact ⟨k + 1, by omega, by go_num, HN.out, BL.out.trans (g.h.mono BL.out.size)⟩
      · obtain rfl := bad.out (fun h => c1 (hown.out.1 h).1)
        clear h1 bad hown
        go_wp2_with fail
        (try simp only [List.append])
        refine later.region (by kernel_rfl) (lex.lexB_of (by kernel_rfl) (lex.all_whole (by kernel_rfl))) ?_
        repeat (go_big_quiet_step ((first
          | (go_at_call 41; exact later.same _ (in_no _ _ _ _ c1))
          | fail)))
        refine wpQuiet_nil ?_
        intro _ hw'
        obtain ⟨g, rfl⟩ := hw'
        go_wp2
        go_ret
        exact ⟨rfl, BL.out.trans (g.h.mono BL.out.size)⟩
    · obtain rfl : k = n := by omega
      obtain ⟨x, y, s, hs⟩ := Su.ex k zs
      have HRO := Lib.hid (hs.ro HG.out)
      have HS := Lib.hid hs
      clear hs HG
      go_wp2_with fail
      refine (spec_sum _ _ k zs hn RW.out x y s HS.out).mono ?_; rintro e w2 ⟨rfl, hb⟩
      have B2 := Lib.hid (below_al (BL.out.trans (hb.mono BL.out.size)) (.cells #[.int .i64 x, .int .i64 y] TF))
      clear hb
      by_cases h12 : 1 ≤ k ∧ k ≤ 12
      · have HN := Lib.hid h12
        obtain ⟨d1, d2⟩ := h12
        go_wp2_with fail
        refine (in_yes _ _ _ _ (by omega) (by omega)).mono ?_; rintro e w3 ⟨rfl, rfl⟩
        cases s with
        | false =>
          have e : r = false := by
            cases r
            · rfl
            · cases (HRO.out.1 (HBB.out.1 rfl)).2.1
          subst e
          go_wp2
          go_ret
          exact ⟨rfl, B2.out⟩
        | true =>
          obtain ⟨r1, h1⟩ : ∃ r, (x == 1) = r := ⟨_, rfl⟩
          obtain ⟨r2, h2⟩ : ∃ r, (y == 1) = r := ⟨_, rfl⟩
          have e : r = (r1 && r2) := by
            rw [Bool.eq_iff_iff, HBB.out, HRO.out, ← h1, ← h2, Bool.and_eq_true, beq_iff_eq, beq_iff_eq]
            exact ⟨fun h => h.2.2, fun h => ⟨HN.out, rfl, h⟩⟩
          clear HRO HBB
          cases r1 <;> cases r2 <;> simp only [Bool.and_self, Bool.and_true, Bool.and_false] at e <;> subst e
          all_goals
            go_wp2
            go_ret
            exact ⟨rfl, B2.out⟩
      · have e : r = false := by
          cases r
          · rfl
          · exact absurd (HRO.out.1 (HBB.out.1 rfl)).1 h12
        subst e
        go_wp2_with fail
        refine (in_no _ _ _ _ (fun h => h12 (by omega))).mono ?_; rintro e w3 ⟨rfl, rfl⟩
        go_wp2
        go_ret
        exact ⟨rfl, B2.out⟩
set_option maxHeartbeats 4000000 in
theorem spec_lo (w : World) (v : Value) (n : Nat) (zs : List Int) (hn : n ≤ 1048576) (hr : Row 3 w v n (IV zs)) (x : Int) (hx : Lo n zs x) :
    Calls Try.prog 32 #[v] w (Gives w (.int .i64 x)) := by
  obtain ⟨av, ca, rfl⟩ := hr.shape
  have hl : zs.length = n * 3 := by simpa using hr.1
  have HR := Lib.hid hr
  have HXX := Lib.hid hx
  clear hr hx
  by_cases ok : Ro n zs
  · obtain ⟨b, hb, he⟩ := HXX.out.1 ok
    have OK := Lib.hid ok
    have HBF := Lib.hid hb
    have hn12 := ok.1
    have hpos : Hid (∀ j, j < n → 0 < wB zs j) := Lib.hid fun j hj => ok.pos hj
    clear ok hb
    go_enter Try.func32, Try.ntmps32
    go_wp2
    go_loopg [3, 4] n (fun g s3 s4 wr => ∃ (k : Nat) (y : Int), k + g = n ∧ s4 = .int .i64 k ∧ s3 = .int .i64 y ∧ ((k = 0 ∧ y = -1) ∨ ∃ c : Nat, y = c ∧ Fg (wT zs) (wB zs) k c) ∧ Below w.heap.size w wr)
    case atStart => exact ⟨0, -1, by omega, rfl, rfl, .inl ⟨rfl, rfl⟩, Below.refl _ _⟩
    case round =>
      obtain ⟨k, y, hkg, rfl, rfl, hy, hbel⟩ := hrel
      have BL := Lib.hid hbel
      have RW := Lib.hid (HR.out.keep hbel)
      clear hbel
      by_cases hlt : k < n
      · obtain ⟨gk, rfl⟩ : ∃ g', gk = g' + 1 := ⟨gk - 1, by omega⟩
        go_wp2_with fail
        refine (spec_ro _ _ n zs hn RW.out true ⟨fun _ => OK.out, fun _ => rfl⟩).mono ?_; rintro e w2 ⟨rfl, hb⟩
        replace RW := Lib.hid (RW.out.keep hb)
        replace BL := Lib.hid (BL.out.trans (hb.mono BL.out.size))
        clear hb
        rcases hy with ⟨rfl, rfl⟩ | ⟨c, rfl, hc⟩
        · go_wp2_with fail
          (try simp only [List.append])
          refine later.region (by kernel_rfl) (lex.lexB_of (by kernel_rfl) (lex.all_whole (by kernel_rfl))) ?_
          repeat (go_big_quiet_step (fail))
          refine wpQuiet_nil ?_
          intro _ hw'
          obtain ⟨g, rfl⟩ := hw'
          go_wp2
          go_roundg gk
          case measure => omega
          case rel => exact ⟨0 + 1, 0, by omega, by go_num, rfl, .inr ⟨0, rfl, .one⟩, BL.out.trans (g.h.mono BL.out.size)⟩
        · have HC := Lib.hid hc
          have hck := hc.1
          have fk1 := Lib.hid (OK.out.fk hlt)
          have fk2 := Lib.hid (OK.out.fk (k := c) (by omega))
          obtain ⟨b1, o1, rfl, h1⟩ := RW.out.at_ (by omega)
          obtain ⟨_, g2, g3⟩ := right_at h1 hl hlt
          obtain ⟨_, g5, g6⟩ := right_at h1 hl (k := c) (by omega)
          have L2 := later.cell g2
          have L3 := later.cell g3
          have L5 := later.cell g5
          have L6 := later.cell g6
          have HCP : Hid (Cp (wT zs k) (wB zs k) (wT zs c) (wB zs c) (sg (wT zs k * wB zs c) (wT zs c * wB zs k))) := Lib.hid ⟨fun _ => rfl, fun hn => absurd ⟨fk1.out, fk2.out⟩ hn⟩
          have hnew : Hid (fl_ (wT zs c) (wB zs c) (wT zs k) (wB zs k) → Fg (wT zs) (wB zs) (k + 1) k) := Lib.hid fun h => HC.out.new (fun j hj => hpos.out j (by omega)) h
          have hold : Hid (¬ fl_ (wT zs c) (wB zs c) (wT zs k) (wB zs k) → Fg (wT zs) (wB zs) (k + 1) c) := Lib.hid fun h => HC.out.old h
          obtain ⟨S, hS⟩ : ∃ S, sg (wT zs k * wB zs c) (wT zs c * wB zs k) = S := ⟨_, rfl⟩
          have hSf : Hid (0 < S ↔ fl_ (wT zs c) (wB zs c) (wT zs k) (wB zs k)) := Lib.hid (by
            rw [← hS]
            unfold sg fl_
            split
            · omega
            · split <;> omega)
          rw [hS] at HCP
          have i0 : (0 : Int) ≤ (c : Int) := by omega
          have i1 : (c : Int) < (n : Int) := by omega
          have u0 : decide ((c : Int) < 0) = false := decide_eq_false (by omega)
          clear h1 hc hS g2 g3 g5 g6
          generalize wT zs k = Tk at *
          generalize wB zs k = Bk at *
          generalize wT zs c = Tc at *
          generalize wB zs c = Bc at *
          by_cases h0 : 0 < S
          · have HN := Lib.hid (hnew.out (hSf.out.1 h0))
            have u1 : decide (0 < S) = true := decide_eq_true h0
            clear hnew hold hSf
            go_wp2_with fail
            (try simp only [List.append])
            refine later.region (by kernel_rfl) (lex.lexB_of (by kernel_rfl) (lex.all_whole (by kernel_rfl))) ?_
            repeat (go_big_quiet_step ((first
              | (go_at_call 52; exact later.calls _ (spec_cp _ _ _ _ _ _ HCP.out))
              | fail)))
            refine wpQuiet_nil ?_
            intro _ hw'
            obtain ⟨g, rfl⟩ := hw'
            go_wp2
            go_roundg gk
            case measure => omega
            case rel => exact ⟨k + 1, k, by omega, by go_num, rfl, .inr ⟨k, rfl, HN.out⟩, BL.out.trans (g.h.mono BL.out.size)⟩
          · have HN := Lib.hid (hold.out (fun h => h0 (hSf.out.2 h)))
            have u1 : decide (0 < S) = false := decide_eq_false h0
            clear hnew hold hSf
            go_wp2_with fail
            (try simp only [List.append])
            refine later.region (by kernel_rfl) (lex.lexB_of (by kernel_rfl) (lex.all_whole (by kernel_rfl))) ?_
            repeat (go_big_quiet_step ((first
              | (go_at_call 52; exact later.calls _ (spec_cp _ _ _ _ _ _ HCP.out))
              | fail)))
            refine wpQuiet_nil ?_
            intro _ hw'
            obtain ⟨g, rfl⟩ := hw'
            go_wp2
            go_roundg gk
            case measure => omega
            case rel => exact ⟨k + 1, c, by omega, by go_num, rfl, .inr ⟨c, rfl, HN.out⟩, BL.out.trans (g.h.mono BL.out.size)⟩
      · obtain rfl : k = n := by omega
        rcases hy with ⟨h0, _⟩ | ⟨c, rfl, hc⟩
        · omega
        · obtain rfl := hc.uniq HBF.out
          have hck := hc.1
          have HE := Lib.hid he
          clear he hc
          obtain ⟨b1, o1, rfl, h1⟩ := RW.out.at_ (by omega)
          obtain ⟨g1, _⟩ := right_at h1 hl hck
          rw [← HE.out] at g1
          clear h1
          go_wp2
          go_ret
          exact ⟨rfl, BL.out⟩
  · have OK := Lib.hid ok
    obtain rfl := HXX.out.2 ok
    clear ok HXX
    go_enter Try.func32, Try.ntmps32
    go_wp2
    refine wp_loop_rounds 1 ?_
    rw [rounds_succ]
    by_cases h0 : 0 < n
    · have j0 : (0 : Int) < (n : Int) := by omega
      go_wp2_with fail
      refine (spec_ro _ _ n zs hn HR.out false ⟨fun h => (by cases h), fun h => absurd h OK.out⟩).mono ?_; rintro e w2 ⟨rfl, hb⟩
      have B2 := Lib.hid hb
      clear hb
      go_wp2
      go_ret
      exact ⟨rfl, B2.out⟩
    · obtain rfl : n = 0 := by omega
      go_wp2
      go_ret
      exact ⟨rfl, Below.refl _ _⟩
end Go.Proofs.Ytopbeacfljoacaa.rgt
