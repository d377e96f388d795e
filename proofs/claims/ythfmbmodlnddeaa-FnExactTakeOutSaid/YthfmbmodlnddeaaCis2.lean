/- The contracts of the functions on cisterns: moving water. -/
import Derived.Test.YthfmbmodlnddeaaCis
import Derived.Deep.RegionHeld3
import Derived.RegionTactic
import Derived.BigRegion
import Derived.ChangeAlike
import Derived.Laws.Cover1
namespace Go.Proofs.Ythfmbmodlnddeaa.cis
open Go.RowKit Go.Proofs.Ythfmbmodlnddeaa.kit Go.Proofs.Ythfmbmodlnddeaa.lawi Go.Proofs.Ythfmbmodlnddeaa.rainl Go.Proofs.Ythfmbmodlnddeaa.rain
/-- What 'move' leaves: both boxes turned, all else as it was. -/
def Moved (n : Int) (w : World) (g g' : Nat) (t t' : TypeId) (r l r' l' : Int) (e : Ending) (w' : World) : Prop :=
  e = .returned (.int .i64 n) ∧ Blk w' g t #[.int .i64 r, .int .i64 (l - n)] ∧ Blk w' g' t' #[.int .i64 r', .int .i64 (l' + n)] ∧
    w'.os = w.os ∧ w'.tape = w.tape ∧ w'.output = w.output ∧ w.heap.size ≤ w'.heap.size ∧ ∀ k, k ≠ g → k ≠ g' → k < w.heap.size → w'.heap[k]? = w.heap[k]?
/-- n is the smallest of the three. -/
def Mn3 (n x y z : Int) : Prop := n ≤ x ∧ n ≤ y ∧ n ≤ z ∧ (n = x ∨ n = y ∨ n = z)
theorem Mn3.ex (x y z : Int) : ∃ n, Mn3 n x y z := by
  by_cases h : x ≤ y ∧ x ≤ z
  · exact ⟨x, by omega, h.1, h.2, .inl rfl⟩
  · by_cases h' : y ≤ z
    · exact ⟨y, by omega, by omega, h', .inr (.inl rfl)⟩
    · exact ⟨z, by omega, by omega, by omega, .inr (.inr rfl)⟩
theorem impl_move (w : World) (g g' : Nat) (t t' : TypeId) (r l r' l' x n : Int) (hg : Blk w g t #[.int .i64 r, .int .i64 l]) (hg' : Blk w g' t' #[.int .i64 r', .int .i64 l']) (hne : g ≠ g')
    (h : COk r l) (h' : COk r' l') (hx : Wok x) (hn : Mn3 n x l (r' - l')) :
    Calls Try.prog 31 #[.pointer (some ⟨g, 0, none⟩), .pointer (some ⟨g', 0, none⟩), .int .i64 x] w (Moved n w g g' t t' r l r' l') := by
  have p1 : w.cell? ⟨g, 1, none⟩ = some (.int .i64 l) := hg.cell 1
  have q0 : w.cell? ⟨g', 0, none⟩ = some (.int .i64 r') := hg'.cell 0
  have q1 : w.cell? ⟨g', 1, none⟩ = some (.int .i64 l') := hg'.cell 1
  have hz := hg.lt
  have hz' := hg'.lt
  have f1 : w.frozen? ⟨g, 1, none⟩ = false := hg.frozen 1
  have f2 : w.frozen? ⟨g', 1, none⟩ = false := hg'.frozen 1
  have E := Lib.hid (show (if r' - l' < if l < x then l else x then r' - l' else if l < x then l else x) = n by
    unfold Mn3 at hn; split <;> split <;> omega)
  have n0 : 0 ≤ n ∧ n ≤ l ∧ l' + n ≤ r' ∧ n ≤ x := by
    have h1 := h.2.2.1; have h2 := h'.2.2.2; have h3 := hx.1
    unfold Mn3 at hn; omega
  obtain ⟨n1, n2, n3, n4⟩ := n0
  clear hn
  have h2 := h'
  obtain ⟨a1, a2, a3, a4⟩ := h
  obtain ⟨b1, b2, b3, b4⟩ := h2
  obtain ⟨x1, x2⟩ := hx
  have HG := Lib.hid hg
  have HG' := Lib.hid hg'
  have HNE := Lib.hid hne
  have hne' : ¬ g' = g := fun e => hne e.symm
  clear hg hg'
  go_enter Try.func31, Try.ntmps31
  go_wp2
  go_region_held3 (fun W => W.cell? ⟨g, 1, none⟩ = some (.int .i64 l) ∧ W.cell? ⟨g', 0, none⟩ = some (.int .i64 r') ∧ W.cell? ⟨g', 1, none⟩ = some (.int .i64 l')) (first | assumption | exact ⟨p1, q0, q1⟩ | exact keep3 (by assumption) (by assumption) | fail)
    (first
      | (go_at_call 30; refine (impl_space _ _ _ h').mono ?_; rintro e w1 ⟨rfl, hb⟩)
      | fail)
  all_goals
    have hb' : Below w.heap.size w w1 := below_step (below_dr (Below.refl _ _)) hb
    clear hb
    have p1' := keep1 (w' := w1) p1 hb'
    have q1' := keep1 (w' := w1) q1 hb'
    have f1' : w1.frozen? ⟨g, 1, none⟩ = false := (HG.out.step hb').frozen 1
    have f2' : w1.frozen? ⟨g', 1, none⟩ = false := (HG'.out.step hb').frozen 1
    have HB := Lib.hid hb'
    clear p1 q0 q1 f1 f2 hb'
    rw [E.out]
    go_wp2
    go_ret
    have G := HG.out.step HB.out
    have G' := HG'.out.step HB.out
    refine ⟨rfl, ?_, ?_, HB.out.os, HB.out.tape, HB.out.output, ?_, ?_⟩
    · exact ((G.set_ 1 _).far (by simpa using hne) _)
    · exact ((G'.far (by simpa using hne') _).set_ 1 _)
    · have := HB.out.size; simpa using this
    · intro k k1 k2 k3
      rw [Below.heap_setCell _ _ _ k (by simpa using k2), Below.heap_setCell _ _ _ k (by simpa using k1)]
      exact HB.out.block k k3
/-- Four boxes made one after the other, later. -/
theorem four {w w1 : World} {t1 t2 t3 t4 : TypeId} {a b c d e f g h : Value}
    (hb : Below ((((w.alloc (.cells #[a, b] t1)).alloc (.cells #[c, d] t2)).alloc (.cells #[e, f] t3)).alloc (.cells #[g, h] t4)).heap.size ((((w.alloc (.cells #[a, b] t1)).alloc (.cells #[c, d] t2)).alloc (.cells #[e, f] t3)).alloc (.cells #[g, h] t4)) w1) :
    Blk w1 w.heap.size t1 #[a, b] ∧ Blk w1 (w.heap.size + 1) t2 #[c, d] ∧ Blk w1 (w.heap.size + 2) t3 #[e, f] ∧ Blk w1 (w.heap.size + 3) t4 #[g, h] := by
  refine ⟨((((Blk.new w t1 #[a, b]).alloc _).alloc _).alloc _).step hb, (((Blk.new1 w t2 #[c, d] _).alloc _).alloc _).step hb, ?_, ?_⟩
  · have := (Blk.new1 (w.alloc (.cells #[a, b] t1)) t3 #[e, f] (.cells #[c, d] t2)).alloc (.cells #[g, h] t4)
    simpa using this.step hb
  · have := Blk.new1 ((w.alloc (.cells #[a, b] t1)).alloc (.cells #[c, d] t2)) t4 #[g, h] (.cells #[e, f] t3)
    simpa using this.step hb
theorem below4 {w w1 : World} {o1 o2 o3 o4 : Obj} (hb : Below ((((w.alloc o1).alloc o2).alloc o3).alloc o4).heap.size ((((w.alloc o1).alloc o2).alloc o3).alloc o4) w1) : Below w.heap.size w w1 :=
  below_step (below_al (below_al (below_al (below_al (Below.refl _ _) _) _) _) _) hb
theorem spec_balance_no (w : World) (r l r' l' x : Int) (h : ¬ (COk r l ∧ COk r' l' ∧ Wok x)) :
    Calls Try.prog 26 #[C r l, C r' l', .int .i64 x] w (Gives w (.tuple #[C r l, C r' l', .int .i64 (-1)])) := by
  by_cases h1 : COk r l
  · by_cases h2 : COk r' l'
    · have h3 : ¬ Wok x := fun h3 => h ⟨h1, h2, h3⟩
      clear h
      go_enter Try.func26, Try.ntmps26
      go_wp2_with fail
      refine (spec_cok_yes _ _ _ h1).mono ?_; rintro e w1 ⟨rfl, hb⟩
      obtain ⟨b1, b2, b3, b4⟩ := four hb
      have B1 := below4 hb
      clear hb
      have q0 : w1.cell? ⟨w.heap.size + 1, 0, none⟩ = some (.int .i64 r') := b2.cell 0
      have q1 : w1.cell? ⟨w.heap.size + 1, 1, none⟩ = some (.int .i64 l') := b2.cell 1
      go_wp2_with fail
      refine (spec_cok_yes _ _ _ h2).mono ?_; rintro e w2 ⟨rfl, hb⟩
      replace b1 := b1.step hb
      replace b2 := b2.step hb
      replace b3 := b3.step hb
      replace b4 := b4.step hb
      replace B1 := below_step B1 hb
      clear hb q0 q1
      go_wp2_with fail
      refine (spec_water_no _ _ h3).mono ?_; rintro e w3 ⟨rfl, rfl⟩
      obtain ⟨p0, p1, p2, p3⟩ := blk2 b1
      obtain ⟨q0, q1, q2, q3⟩ := blk2 b2
      obtain ⟨s0, s1, s2, s3⟩ := blk2 b3
      obtain ⟨t0, t1, t2, t3⟩ := blk2 b4
      have z := b4.lt
      clear b1 b2 b3 b4
      have HB := Lib.hid B1
      clear B1
      go_wp2
      go_region
      all_goals
        go_wp2
        refine bodyPost_ret (v := .tuple #[C r l, C r' l', .int .i64 (-1)]) (by simp [*, results, Try.results26, go_sem]) rfl ⟨rfl, ?_⟩
        have B1 := HB.out
        go_grown
    · clear h
      go_enter Try.func26, Try.ntmps26
      go_wp2_with fail
      refine (spec_cok_yes _ _ _ h1).mono ?_; rintro e w1 ⟨rfl, hb⟩
      obtain ⟨b1, b2, b3, b4⟩ := four hb
      have B1 := below4 hb
      clear hb
      have q0 : w1.cell? ⟨w.heap.size + 1, 0, none⟩ = some (.int .i64 r') := b2.cell 0
      have q1 : w1.cell? ⟨w.heap.size + 1, 1, none⟩ = some (.int .i64 l') := b2.cell 1
      go_wp2_with fail
      refine (spec_cok_no _ _ _ h2).mono ?_; rintro e w2 ⟨rfl, hb⟩
      replace b1 := b1.step hb
      replace b2 := b2.step hb
      replace b3 := b3.step hb
      replace b4 := b4.step hb
      replace B1 := below_step B1 hb
      clear hb q0 q1
      obtain ⟨p0, p1, p2, p3⟩ := blk2 b1
      obtain ⟨q0, q1, q2, q3⟩ := blk2 b2
      obtain ⟨s0, s1, s2, s3⟩ := blk2 b3
      obtain ⟨t0, t1, t2, t3⟩ := blk2 b4
      have z := b4.lt
      clear b1 b2 b3 b4
      have HB := Lib.hid B1
      clear B1
      go_wp2
      go_region
      all_goals
        go_wp2
        refine bodyPost_ret (v := .tuple #[C r l, C r' l', .int .i64 (-1)]) (by simp [*, results, Try.results26, go_sem]) rfl ⟨rfl, ?_⟩
        have B1 := HB.out
        go_grown
  · clear h
    go_enter Try.func26, Try.ntmps26
    go_wp2_with fail
    refine (spec_cok_no _ _ _ h1).mono ?_; rintro e w1 ⟨rfl, hb⟩
    obtain ⟨b1, b2, b3, b4⟩ := four hb
    have B1 := below4 hb
    clear hb
    obtain ⟨p0, p1, p2, p3⟩ := blk2 b1
    obtain ⟨q0, q1, q2, q3⟩ := blk2 b2
    obtain ⟨s0, s1, s2, s3⟩ := blk2 b3
    obtain ⟨t0, t1, t2, t3⟩ := blk2 b4
    have z := b4.lt
    clear b1 b2 b3 b4
    have HB := Lib.hid B1
    clear B1
    go_wp2
    go_region
    all_goals
      go_wp2
      refine bodyPost_ret (v := .tuple #[C r l, C r' l', .int .i64 (-1)]) (by simp [*, results, Try.results26, go_sem]) rfl ⟨rfl, ?_⟩
      have B1 := HB.out
      go_grown
theorem spec_balance_yes (w : World) (r l r' l' x n : Int) (h : COk r l) (h' : COk r' l') (hx : Wok x) (hn : Mn3 n x l (r' - l')) :
    Calls Try.prog 26 #[C r l, C r' l', .int .i64 x] w (Gives w (.tuple #[C r (l - n), C r' (l' + n), .int .i64 n])) := by
  have n0 : 0 ≤ n ∧ n ≤ l ∧ l' + n ≤ r' ∧ n ≤ x := by
    have h1 := h.2.2.1; have h2 := h'.2.2.2; have h3 := hx.1
    unfold Mn3 at hn; omega
  obtain ⟨n1, n2, n3, n4⟩ := n0
  have HN := Lib.hid hn
  clear hn
  go_enter Try.func26, Try.ntmps26
  go_wp2_with fail
  refine (spec_cok_yes _ _ _ h).mono ?_; rintro e w1 ⟨rfl, hb⟩
  obtain ⟨b1, b2, b3, b4⟩ := four hb
  have B1 := below4 hb
  clear hb
  have q0 : w1.cell? ⟨w.heap.size + 1, 0, none⟩ = some (.int .i64 r') := b2.cell 0
  have q1 : w1.cell? ⟨w.heap.size + 1, 1, none⟩ = some (.int .i64 l') := b2.cell 1
  go_wp2_with fail
  refine (spec_cok_yes _ _ _ h').mono ?_; rintro e w2 ⟨rfl, hb⟩
  replace b1 := b1.step hb
  replace b2 := b2.step hb
  replace b3 := b3.step hb
  replace b4 := b4.step hb
  replace B1 := below_step B1 hb
  clear hb q0 q1
  go_wp2_with fail
  refine (spec_water_yes _ _ hx).mono ?_; rintro e w3 ⟨rfl, rfl⟩
  obtain ⟨p0, p1, p2, p3⟩ := blk2 b1
  obtain ⟨q0, q1, q2, q3⟩ := blk2 b2
  obtain ⟨s0, s1, s2, s3⟩ := blk2 b3
  obtain ⟨t0, t1, t2, t3⟩ := blk2 b4
  have z := b4.lt
  clear b1 b2 b3 b4
  have HB := Lib.hid B1
  clear B1
  obtain ⟨a1, a2, a3, a4⟩ := h
  obtain ⟨c1, c2, c3, c4⟩ := h'
  obtain ⟨x1, x2⟩ := hx
  go_wp2
  all_goals
    go_region
    all_goals
      go_wp2
      refine bodyPost_ret (v := .tuple #[C r (l - n), C r' (l' + n), .int .i64 n]) (by simp [*, results, Try.results26, go_sem]; have hn := HN.out; unfold Mn3 at hn; omega) rfl ⟨rfl, ?_⟩
      have B1 := HB.out
      go_grown
theorem impl_balance_no (w : World) (r l r' l' x : Int) (h : ¬ (COk r l ∧ COk r' l' ∧ Wok x)) :
    Calls Try.prog 15 #[C r l, C r' l', .int .i64 x] w (Gives w (.tuple #[C r l, C r' l', .int .i64 (-1)])) := by
  by_cases h1 : COk r l
  · by_cases h2 : COk r' l'
    · have h3 : ¬ Wok x := fun h3 => h ⟨h1, h2, h3⟩
      clear h
      go_enter Try.func15, Try.ntmps15
      go_wp2_with fail
      refine (impl_cok_yes _ _ _ h1).mono ?_; rintro e w1 ⟨rfl, hb⟩
      obtain ⟨b1, b2, b3, b4⟩ := four hb
      have B1 := below4 hb
      clear hb
      have q0 : w1.cell? ⟨w.heap.size + 1, 0, none⟩ = some (.int .i64 r') := b2.cell 0
      have q1 : w1.cell? ⟨w.heap.size + 1, 1, none⟩ = some (.int .i64 l') := b2.cell 1
      go_wp2_with fail
      refine (impl_cok_yes _ _ _ h2).mono ?_; rintro e w2 ⟨rfl, hb⟩
      replace b1 := b1.step hb
      replace b2 := b2.step hb
      replace b3 := b3.step hb
      replace b4 := b4.step hb
      replace B1 := below_step B1 hb
      clear hb q0 q1
      go_wp2_with fail
      refine (impl_water_no _ _ h3).mono ?_; rintro e w3 ⟨rfl, rfl⟩
      obtain ⟨p0, p1, p2, p3⟩ := blk2 b1
      obtain ⟨q0, q1, q2, q3⟩ := blk2 b2
      obtain ⟨s0, s1, s2, s3⟩ := blk2 b3
      obtain ⟨t0, t1, t2, t3⟩ := blk2 b4
      have z := b4.lt
      clear b1 b2 b3 b4
      have HB := Lib.hid B1
      clear B1
      go_wp2
      go_region
      all_goals
        go_wp2
        refine bodyPost_ret (v := .tuple #[C r l, C r' l', .int .i64 (-1)]) (by simp [*, results, Try.results15, go_sem]) rfl ⟨rfl, ?_⟩
        have B1 := HB.out
        go_grown
    · clear h
      go_enter Try.func15, Try.ntmps15
      go_wp2_with fail
      refine (impl_cok_yes _ _ _ h1).mono ?_; rintro e w1 ⟨rfl, hb⟩
      obtain ⟨b1, b2, b3, b4⟩ := four hb
      have B1 := below4 hb
      clear hb
      have q0 : w1.cell? ⟨w.heap.size + 1, 0, none⟩ = some (.int .i64 r') := b2.cell 0
      have q1 : w1.cell? ⟨w.heap.size + 1, 1, none⟩ = some (.int .i64 l') := b2.cell 1
      go_wp2_with fail
      refine (impl_cok_no _ _ _ h2).mono ?_; rintro e w2 ⟨rfl, hb⟩
      replace b1 := b1.step hb
      replace b2 := b2.step hb
      replace b3 := b3.step hb
      replace b4 := b4.step hb
      replace B1 := below_step B1 hb
      clear hb q0 q1
      obtain ⟨p0, p1, p2, p3⟩ := blk2 b1
      obtain ⟨q0, q1, q2, q3⟩ := blk2 b2
      obtain ⟨s0, s1, s2, s3⟩ := blk2 b3
      obtain ⟨t0, t1, t2, t3⟩ := blk2 b4
      have z := b4.lt
      clear b1 b2 b3 b4
      have HB := Lib.hid B1
      clear B1
      go_wp2
      go_region
      all_goals
        go_wp2
        refine bodyPost_ret (v := .tuple #[C r l, C r' l', .int .i64 (-1)]) (by simp [*, results, Try.results15, go_sem]) rfl ⟨rfl, ?_⟩
        have B1 := HB.out
        go_grown
  · clear h
    go_enter Try.func15, Try.ntmps15
    go_wp2_with fail
    refine (impl_cok_no _ _ _ h1).mono ?_; rintro e w1 ⟨rfl, hb⟩
    obtain ⟨b1, b2, b3, b4⟩ := four hb
    have B1 := below4 hb
    clear hb
    obtain ⟨p0, p1, p2, p3⟩ := blk2 b1
    obtain ⟨q0, q1, q2, q3⟩ := blk2 b2
    obtain ⟨s0, s1, s2, s3⟩ := blk2 b3
    obtain ⟨t0, t1, t2, t3⟩ := blk2 b4
    have z := b4.lt
    clear b1 b2 b3 b4
    have HB := Lib.hid B1
    clear B1
    go_wp2
    go_region
    all_goals
      go_wp2
      refine bodyPost_ret (v := .tuple #[C r l, C r' l', .int .i64 (-1)]) (by simp [*, results, Try.results15, go_sem]) rfl ⟨rfl, ?_⟩
      have B1 := HB.out
      go_grown
theorem impl_balance_yes (w : World) (r l r' l' x n : Int) (h : COk r l) (h' : COk r' l') (hx : Wok x) (hn : Mn3 n x l (r' - l')) :
    Calls Try.prog 15 #[C r l, C r' l', .int .i64 x] w (Gives w (.tuple #[C r (l - n), C r' (l' + n), .int .i64 n])) := by
  have n0 : 0 ≤ n ∧ n ≤ l ∧ l' + n ≤ r' ∧ n ≤ x := by
    have h1 := h.2.2.1; have h2 := h'.2.2.2; have h3 := hx.1
    unfold Mn3 at hn; omega
  obtain ⟨n1, n2, n3, n4⟩ := n0
  have HN := Lib.hid hn
  clear hn
  go_enter Try.func15, Try.ntmps15
  go_wp2_with fail
  refine (impl_cok_yes _ _ _ h).mono ?_; rintro e w1 ⟨rfl, hb⟩
  obtain ⟨b1, b2, b3, b4⟩ := four hb
  have B1 := below4 hb
  clear hb
  have q0 : w1.cell? ⟨w.heap.size + 1, 0, none⟩ = some (.int .i64 r') := b2.cell 0
  have q1 : w1.cell? ⟨w.heap.size + 1, 1, none⟩ = some (.int .i64 l') := b2.cell 1
  go_wp2_with fail
  refine (impl_cok_yes _ _ _ h').mono ?_; rintro e w2 ⟨rfl, hb⟩
  replace b1 := b1.step hb
  replace b2 := b2.step hb
  replace b3 := b3.step hb
  replace b4 := b4.step hb
  replace B1 := below_step B1 hb
  clear hb q0 q1
  go_wp2_with fail
  refine (impl_water_yes _ _ hx).mono ?_; rintro e w3 ⟨rfl, rfl⟩
  go_wp2_with fail
  refine (impl_move _ _ _ _ _ _ _ _ _ _ _ b1 b2 (by omega) h h' hx HN.out).mono ?_; rintro e w3 ⟨rfl, g1, g2, m1, m2, m3, m4, m5⟩
  have g3 : Blk w3 (w.heap.size + 2) _ _ := b3.same (m5 _ (by omega) (by omega) b3.lt)
  have g4 : Blk w3 (w.heap.size + 3) _ _ := b4.same (m5 _ (by omega) (by omega) b4.lt)
  have B3 : Below w.heap.size w w3 := ⟨m1.trans B1.os, m2.trans B1.tape, m3.trans B1.output, Nat.le_trans B1.size m4, fun k hk => (m5 k (by omega) (by omega) (Nat.lt_of_lt_of_le hk B1.size)).trans (B1.block k hk)⟩
  clear b1 b2 b3 b4 B1 m1 m2 m3 m4 m5
  have b1 := g1
  have b2 := g2
  have b3 := g3
  have b4 := g4
  have B1 := B3
  clear g1 g2 g3 g4 B3
  obtain ⟨p0, p1, p2, p3⟩ := blk2 b1
  obtain ⟨q0, q1, q2, q3⟩ := blk2 b2
  obtain ⟨s0, s1, s2, s3⟩ := blk2 b3
  obtain ⟨t0, t1, t2, t3⟩ := blk2 b4
  have z := b4.lt
  clear b1 b2 b3 b4
  have HB := Lib.hid B1
  clear B1
  go_wp2
  go_region
  all_goals
    go_wp2
    refine bodyPost_ret (v := .tuple #[C r (l - n), C r' (l' + n), .int .i64 n]) (by simp [*, results, Try.results15, go_sem]) rfl ⟨rfl, ?_⟩
    have B1 := HB.out
    go_grown
end Go.Proofs.Ythfmbmodlnddeaa.cis
