/- The contracts of the functions on cisterns. -/
import Derived.Test.YtojahddamdlcpaaRainI
import Derived.Handy
namespace Go.Proofs.Ytojahddamdlcpaa.cis
open Go.RowKit Go.Proofs.Ytojahddamdlcpaa.kit Go.Proofs.Ytojahddamdlcpaa.lawi Go.Proofs.Ytojahddamdlcpaa.rainl Go.Proofs.Ytojahddamdlcpaa.rain
def COk (r l : Int) : Prop := 1 ≤ r ∧ r ≤ 1000000 ∧ 0 ≤ l ∧ l ≤ r
def Wok (x : Int) : Prop := 0 ≤ x ∧ x ≤ 1000000
/-- n is the smaller one of x and y. -/
def Mn (n x y : Int) : Prop := n ≤ x ∧ n ≤ y ∧ (n = x ∨ n = y)
theorem Mn.ex (x y : Int) : ∃ n, Mn n x y := by
  by_cases h : x ≤ y
  · exact ⟨x, by omega, h, .inl rfl⟩
  · exact ⟨y, by omega, by omega, .inr rfl⟩
abbrev C (r l : Int) : Value := .agg #[.int .i64 r, .int .i64 l]
theorem spec_cok_yes (w : World) (r l : Int) (h : COk r l) : Calls Try.prog 90 #[C r l] w (Gives w (.bool true)) := by
  obtain ⟨h1, h2, h3, h4⟩ := h
  go_enter Try.func90, Try.ntmps90
  go_wp2_with fail
  refine (in_yes _ _ _ _ h1 h2).mono ?_; rintro e w1 ⟨rfl, rfl⟩
  go_wp2_with fail
  refine (in_yes _ _ _ _ h3 h4).mono ?_; rintro e w1 ⟨rfl, rfl⟩
  go_wp2
  go_ret
  exact ⟨rfl, below_al (Below.refl _ _) _⟩
theorem spec_cok_no (w : World) (r l : Int) (h : ¬ COk r l) : Calls Try.prog 90 #[C r l] w (Gives w (.bool false)) := by
  by_cases h1 : 1 ≤ r ∧ r ≤ 1000000
  · have h3 : ¬ (0 ≤ l ∧ l ≤ r) := fun h3 => h ⟨h1.1, h1.2, h3.1, h3.2⟩
    obtain ⟨h1, h2⟩ := h1
    clear h
    go_enter Try.func90, Try.ntmps90
    go_wp2_with fail
    refine (in_yes _ _ _ _ h1 h2).mono ?_; rintro e w1 ⟨rfl, rfl⟩
    go_wp2_with fail
    refine (in_no _ _ _ _ h3).mono ?_; rintro e w1 ⟨rfl, rfl⟩
    go_wp2
    go_ret
    exact ⟨rfl, below_al (Below.refl _ _) _⟩
  · clear h
    go_enter Try.func90, Try.ntmps90
    go_wp2_with fail
    refine (in_no _ _ _ _ h1).mono ?_; rintro e w1 ⟨rfl, rfl⟩
    go_wp2
    go_ret
    exact ⟨rfl, below_al (Below.refl _ _) _⟩
theorem impl_cok_yes (w : World) (r l : Int) (h : COk r l) : Calls Try.prog 78 #[C r l] w (Gives w (.bool true)) := by
  obtain ⟨h1, h2, h3, h4⟩ := h
  go_enter Try.func78, Try.ntmps78
  go_wp2_with fail
  refine (inR_yes _ _ _ _ h1 h2).mono ?_; rintro e w1 ⟨rfl, rfl⟩
  go_wp2_with fail
  refine (inR_yes _ _ _ _ h3 h4).mono ?_; rintro e w1 ⟨rfl, rfl⟩
  go_wp2
  go_ret
  exact ⟨rfl, below_al (Below.refl _ _) _⟩
theorem impl_cok_no (w : World) (r l : Int) (h : ¬ COk r l) : Calls Try.prog 78 #[C r l] w (Gives w (.bool false)) := by
  by_cases h1 : 1 ≤ r ∧ r ≤ 1000000
  · have h3 : ¬ (0 ≤ l ∧ l ≤ r) := fun h3 => h ⟨h1.1, h1.2, h3.1, h3.2⟩
    obtain ⟨h1, h2⟩ := h1
    clear h
    go_enter Try.func78, Try.ntmps78
    go_wp2_with fail
    refine (inR_yes _ _ _ _ h1 h2).mono ?_; rintro e w1 ⟨rfl, rfl⟩
    go_wp2_with fail
    refine (inR_no _ _ _ _ h3).mono ?_; rintro e w1 ⟨rfl, rfl⟩
    go_wp2
    go_ret
    exact ⟨rfl, below_al (Below.refl _ _) _⟩
  · clear h
    go_enter Try.func78, Try.ntmps78
    go_wp2_with fail
    refine (inR_no _ _ _ _ h1).mono ?_; rintro e w1 ⟨rfl, rfl⟩
    go_wp2
    go_ret
    exact ⟨rfl, below_al (Below.refl _ _) _⟩
theorem spec_water_yes (w : World) (x : Int) (h : Wok x) : Calls Try.prog 91 #[.int .i64 x] w fun e w' => e = .returned (.bool true) ∧ w = w' := by
  go_enter Try.func91, Try.ntmps91
  go_wp2_with fail
  refine (in_yes _ _ _ _ h.1 h.2).mono ?_; rintro e w1 ⟨rfl, rfl⟩
  go_wp2
  go_ret
  exact ⟨rfl, rfl⟩
theorem spec_water_no (w : World) (x : Int) (h : ¬ Wok x) : Calls Try.prog 91 #[.int .i64 x] w fun e w' => e = .returned (.bool false) ∧ w = w' := by
  go_enter Try.func91, Try.ntmps91
  go_wp2_with fail
  refine (in_no _ _ _ _ h).mono ?_; rintro e w1 ⟨rfl, rfl⟩
  go_wp2
  go_ret
  exact ⟨rfl, rfl⟩
theorem impl_water_yes (w : World) (x : Int) (h : Wok x) : Calls Try.prog 80 #[.int .i64 x] w fun e w' => e = .returned (.bool true) ∧ w = w' := by
  go_enter Try.func80, Try.ntmps80
  go_wp2_with fail
  refine (inR_yes _ _ _ _ h.1 h.2).mono ?_; rintro e w1 ⟨rfl, rfl⟩
  go_wp2
  go_ret
  exact ⟨rfl, rfl⟩
theorem impl_water_no (w : World) (x : Int) (h : ¬ Wok x) : Calls Try.prog 80 #[.int .i64 x] w fun e w' => e = .returned (.bool false) ∧ w = w' := by
  go_enter Try.func80, Try.ntmps80
  go_wp2_with fail
  refine (inR_no _ _ _ _ h).mono ?_; rintro e w1 ⟨rfl, rfl⟩
  go_wp2
  go_ret
  exact ⟨rfl, rfl⟩
theorem impl_space (w : World) (r l : Int) (h : COk r l) : Calls Try.prog 89 #[C r l] w (Gives w (.int .i64 (r - l))) := by
  obtain ⟨h1, h2, h3, h4⟩ := h
  go_enter Try.func89, Try.ntmps89
  go_wp2
  go_ret
  exact ⟨rfl, below_al (Below.refl _ _) _⟩
theorem blk2 {w : World} {g : Nat} {t : TypeId} {a b : Value} (h : Blk w g t #[a, b]) : w.cell? ⟨g, 0, none⟩ = some a ∧ w.cell? ⟨g, 1, none⟩ = some b ∧ w.frozen? ⟨g, 0, none⟩ = false ∧ w.frozen? ⟨g, 1, none⟩ = false := ⟨h.cell 0, h.cell 1, h.frozen 0, h.frozen 1⟩
/-- Two boxes made one after the other, later. -/
theorem two {w w1 : World} {t t' : TypeId} {a b c d : Value} (hb : Below ((w.alloc (.cells #[a, b] t)).alloc (.cells #[c, d] t')).heap.size ((w.alloc (.cells #[a, b] t)).alloc (.cells #[c, d] t')) w1) :
    Blk w1 w.heap.size t #[a, b] ∧ Blk w1 (w.heap.size + 1) t' #[c, d] :=
  ⟨((Blk.new w t #[a, b]).alloc _).step hb, (Blk.new1 w t' #[c, d] _).step hb⟩
theorem spec_pour_yes (w : World) (r l x n : Int) (h : COk r l) (hx : Wok x) (hn : Mn n x (r - l)) : Calls Try.prog 87 #[C r l, .int .i64 x] w (Gives w (.tuple #[C r (l + n), .int .i64 (x - n)])) := by
  have HN := Lib.hid hn
  clear hn
  go_enter Try.func87, Try.ntmps87
  go_wp2_with fail
  refine (spec_cok_yes _ _ _ h).mono ?_; rintro e w1 ⟨rfl, hb⟩
  obtain ⟨b1, b2⟩ := two hb
  have B1 : Below w.heap.size w w1 := below_step (below_al (below_al (Below.refl _ _) _) _) hb
  clear hb
  have p0 : w1.cell? ⟨w.heap.size, 0, none⟩ = some (.int .i64 r) := b1.cell 0
  have p1 : w1.cell? ⟨w.heap.size, 1, none⟩ = some (.int .i64 l) := b1.cell 1
  go_wp2_with fail
  refine (spec_water_yes _ _ hx).mono ?_; rintro e w1 ⟨rfl, rfl⟩
  clear p0 p1
  obtain ⟨p0, p1, p2, p3⟩ := blk2 b1
  obtain ⟨q0, q1, q2, q3⟩ := blk2 b2
  have z := b2.lt
  clear b1 b2
  have HB := Lib.hid B1
  clear B1
  obtain ⟨h1, h2, h3, h4⟩ := h
  obtain ⟨x1, x2⟩ := hx
  go_wp2
  all_goals
    refine bodyPost_ret (v := .tuple #[C r (l + n), .int .i64 (x - n)]) (by simp [*, results, Try.results87, go_sem]; have hn := HN.out; unfold Mn at hn; omega) rfl ⟨rfl, ?_⟩
    have B1 := HB.out
    go_grown
theorem spec_pour_no (w : World) (r l x : Int) (h : ¬ (COk r l ∧ Wok x)) : Calls Try.prog 87 #[C r l, .int .i64 x] w (Gives w (.tuple #[C r l, .int .i64 (-1)])) := by
  by_cases h1 : COk r l
  · have h2 : ¬ Wok x := fun h2 => h ⟨h1, h2⟩
    clear h
    go_enter Try.func87, Try.ntmps87
    go_wp2_with fail
    refine (spec_cok_yes _ _ _ h1).mono ?_; rintro e w1 ⟨rfl, hb⟩
    go_wp2_with fail
    refine (spec_water_no _ _ h2).mono ?_; rintro e w2 ⟨rfl, rfl⟩
    obtain ⟨b1, b2⟩ := two hb
    have B1 : Below w.heap.size w w1 := below_step (below_al (below_al (Below.refl _ _) _) _) hb
    clear hb
    obtain ⟨p0, p1, p2, p3⟩ := blk2 b1
    obtain ⟨q0, q1, q2, q3⟩ := blk2 b2
    have z := b2.lt
    clear b1 b2
    have HB := Lib.hid B1
    clear B1
    go_wp2
    refine bodyPost_ret (v := .tuple #[C r l, .int .i64 (-1)]) (by simp [*, results, Try.results87, go_sem]) rfl ⟨rfl, ?_⟩
    have B1 := HB.out
    go_grown
  · clear h
    go_enter Try.func87, Try.ntmps87
    go_wp2_with fail
    refine (spec_cok_no _ _ _ h1).mono ?_; rintro e w1 ⟨rfl, hb⟩
    obtain ⟨b1, b2⟩ := two hb
    have B1 : Below w.heap.size w w1 := below_step (below_al (below_al (Below.refl _ _) _) _) hb
    clear hb
    obtain ⟨p0, p1, p2, p3⟩ := blk2 b1
    obtain ⟨q0, q1, q2, q3⟩ := blk2 b2
    have z := b2.lt
    clear b1 b2
    have HB := Lib.hid B1
    clear B1
    go_wp2
    refine bodyPost_ret (v := .tuple #[C r l, .int .i64 (-1)]) (by simp [*, results, Try.results87, go_sem]) rfl ⟨rfl, ?_⟩
    have B1 := HB.out
    go_grown
theorem spec_takeout_yes (w : World) (r l x n : Int) (h : COk r l) (hx : Wok x) (hn : Mn n x l) : Calls Try.prog 88 #[C r l, .int .i64 x] w (Gives w (.tuple #[C r (l - n), .int .i64 n])) := by
  have HN := Lib.hid hn
  clear hn
  go_enter Try.func88, Try.ntmps88
  go_wp2_with fail
  refine (spec_cok_yes _ _ _ h).mono ?_; rintro e w1 ⟨rfl, hb⟩
  obtain ⟨b1, b2⟩ := two hb
  have B1 : Below w.heap.size w w1 := below_step (below_al (below_al (Below.refl _ _) _) _) hb
  clear hb
  have p0 : w1.cell? ⟨w.heap.size, 0, none⟩ = some (.int .i64 r) := b1.cell 0
  have p1 : w1.cell? ⟨w.heap.size, 1, none⟩ = some (.int .i64 l) := b1.cell 1
  go_wp2_with fail
  refine (spec_water_yes _ _ hx).mono ?_; rintro e w1 ⟨rfl, rfl⟩
  clear p0 p1
  obtain ⟨p0, p1, p2, p3⟩ := blk2 b1
  obtain ⟨q0, q1, q2, q3⟩ := blk2 b2
  have z := b2.lt
  clear b1 b2
  have HB := Lib.hid B1
  clear B1
  obtain ⟨h1, h2, h3, h4⟩ := h
  obtain ⟨x1, x2⟩ := hx
  go_wp2
  all_goals
    refine bodyPost_ret (v := .tuple #[C r (l - n), .int .i64 n]) (by simp [*, results, Try.results88, go_sem]; have hn := HN.out; unfold Mn at hn; omega) rfl ⟨rfl, ?_⟩
    have B1 := HB.out
    go_grown
theorem spec_takeout_no (w : World) (r l x : Int) (h : ¬ (COk r l ∧ Wok x)) : Calls Try.prog 88 #[C r l, .int .i64 x] w (Gives w (.tuple #[C r l, .int .i64 (-1)])) := by
  by_cases h1 : COk r l
  · have h2 : ¬ Wok x := fun h2 => h ⟨h1, h2⟩
    clear h
    go_enter Try.func88, Try.ntmps88
    go_wp2_with fail
    refine (spec_cok_yes _ _ _ h1).mono ?_; rintro e w1 ⟨rfl, hb⟩
    go_wp2_with fail
    refine (spec_water_no _ _ h2).mono ?_; rintro e w2 ⟨rfl, rfl⟩
    obtain ⟨b1, b2⟩ := two hb
    have B1 : Below w.heap.size w w1 := below_step (below_al (below_al (Below.refl _ _) _) _) hb
    clear hb
    obtain ⟨p0, p1, p2, p3⟩ := blk2 b1
    obtain ⟨q0, q1, q2, q3⟩ := blk2 b2
    have z := b2.lt
    clear b1 b2
    have HB := Lib.hid B1
    clear B1
    go_wp2
    refine bodyPost_ret (v := .tuple #[C r l, .int .i64 (-1)]) (by simp [*, results, Try.results88, go_sem]) rfl ⟨rfl, ?_⟩
    have B1 := HB.out
    go_grown
  · clear h
    go_enter Try.func88, Try.ntmps88
    go_wp2_with fail
    refine (spec_cok_no _ _ _ h1).mono ?_; rintro e w1 ⟨rfl, hb⟩
    obtain ⟨b1, b2⟩ := two hb
    have B1 : Below w.heap.size w w1 := below_step (below_al (below_al (Below.refl _ _) _) _) hb
    clear hb
    obtain ⟨p0, p1, p2, p3⟩ := blk2 b1
    obtain ⟨q0, q1, q2, q3⟩ := blk2 b2
    have z := b2.lt
    clear b1 b2
    have HB := Lib.hid B1
    clear B1
    go_wp2
    refine bodyPost_ret (v := .tuple #[C r l, .int .i64 (-1)]) (by simp [*, results, Try.results88, go_sem]) rfl ⟨rfl, ?_⟩
    have B1 := HB.out
    go_grown
theorem impl_pour_yes (w : World) (r l x n : Int) (h : COk r l) (hx : Wok x) (hn : Mn n x (r - l)) : Calls Try.prog 85 #[C r l, .int .i64 x] w (Gives w (.tuple #[C r (l + n), .int .i64 (x - n)])) := by
  have HN := Lib.hid hn
  clear hn
  go_enter Try.func85, Try.ntmps85
  go_wp2_with fail
  refine (impl_cok_yes _ _ _ h).mono ?_; rintro e w1 ⟨rfl, hb⟩
  obtain ⟨b1, b2⟩ := two hb
  have B1 : Below w.heap.size w w1 := below_step (below_al (below_al (Below.refl _ _) _) _) hb
  clear hb
  have p0 : w1.cell? ⟨w.heap.size, 0, none⟩ = some (.int .i64 r) := b1.cell 0
  have p1 : w1.cell? ⟨w.heap.size, 1, none⟩ = some (.int .i64 l) := b1.cell 1
  go_wp2_with fail
  refine (impl_water_yes _ _ hx).mono ?_; rintro e w1 ⟨rfl, rfl⟩
  go_wp2_with fail
  refine (impl_space _ _ _ h).mono ?_; rintro e w2 ⟨rfl, hb2⟩
  replace b1 := b1.step hb2
  replace b2 := b2.step hb2
  replace B1 := below_step B1 hb2
  clear hb2
  clear p0 p1
  obtain ⟨p0, p1, p2, p3⟩ := blk2 b1
  obtain ⟨q0, q1, q2, q3⟩ := blk2 b2
  have z := b2.lt
  clear b1 b2
  have HB := Lib.hid B1
  clear B1
  obtain ⟨h1, h2, h3, h4⟩ := h
  obtain ⟨x1, x2⟩ := hx
  go_wp2
  all_goals
    refine bodyPost_ret (v := .tuple #[C r (l + n), .int .i64 (x - n)]) (by simp [*, results, Try.results85, go_sem]; have hn := HN.out; unfold Mn at hn; omega) rfl ⟨rfl, ?_⟩
    have B1 := HB.out
    go_grown
theorem impl_pour_no (w : World) (r l x : Int) (h : ¬ (COk r l ∧ Wok x)) : Calls Try.prog 85 #[C r l, .int .i64 x] w (Gives w (.tuple #[C r l, .int .i64 (-1)])) := by
  by_cases h1 : COk r l
  · have h2 : ¬ Wok x := fun h2 => h ⟨h1, h2⟩
    clear h
    go_enter Try.func85, Try.ntmps85
    go_wp2_with fail
    refine (impl_cok_yes _ _ _ h1).mono ?_; rintro e w1 ⟨rfl, hb⟩
    go_wp2_with fail
    refine (impl_water_no _ _ h2).mono ?_; rintro e w2 ⟨rfl, rfl⟩
    obtain ⟨b1, b2⟩ := two hb
    have B1 : Below w.heap.size w w1 := below_step (below_al (below_al (Below.refl _ _) _) _) hb
    clear hb
    obtain ⟨p0, p1, p2, p3⟩ := blk2 b1
    obtain ⟨q0, q1, q2, q3⟩ := blk2 b2
    have z := b2.lt
    clear b1 b2
    have HB := Lib.hid B1
    clear B1
    go_wp2
    refine bodyPost_ret (v := .tuple #[C r l, .int .i64 (-1)]) (by simp [*, results, Try.results85, go_sem]) rfl ⟨rfl, ?_⟩
    have B1 := HB.out
    go_grown
  · clear h
    go_enter Try.func85, Try.ntmps85
    go_wp2_with fail
    refine (impl_cok_no _ _ _ h1).mono ?_; rintro e w1 ⟨rfl, hb⟩
    obtain ⟨b1, b2⟩ := two hb
    have B1 : Below w.heap.size w w1 := below_step (below_al (below_al (Below.refl _ _) _) _) hb
    clear hb
    obtain ⟨p0, p1, p2, p3⟩ := blk2 b1
    obtain ⟨q0, q1, q2, q3⟩ := blk2 b2
    have z := b2.lt
    clear b1 b2
    have HB := Lib.hid B1
    clear B1
    go_wp2
    refine bodyPost_ret (v := .tuple #[C r l, .int .i64 (-1)]) (by simp [*, results, Try.results85, go_sem]) rfl ⟨rfl, ?_⟩
    have B1 := HB.out
    go_grown
theorem impl_takeout_yes (w : World) (r l x n : Int) (h : COk r l) (hx : Wok x) (hn : Mn n x l) : Calls Try.prog 86 #[C r l, .int .i64 x] w (Gives w (.tuple #[C r (l - n), .int .i64 n])) := by
  have HN := Lib.hid hn
  clear hn
  go_enter Try.func86, Try.ntmps86
  go_wp2_with fail
  refine (impl_cok_yes _ _ _ h).mono ?_; rintro e w1 ⟨rfl, hb⟩
  obtain ⟨b1, b2⟩ := two hb
  have B1 : Below w.heap.size w w1 := below_step (below_al (below_al (Below.refl _ _) _) _) hb
  clear hb
  have p0 : w1.cell? ⟨w.heap.size, 0, none⟩ = some (.int .i64 r) := b1.cell 0
  have p1 : w1.cell? ⟨w.heap.size, 1, none⟩ = some (.int .i64 l) := b1.cell 1
  go_wp2_with fail
  refine (impl_water_yes _ _ hx).mono ?_; rintro e w1 ⟨rfl, rfl⟩
  clear p0 p1
  obtain ⟨p0, p1, p2, p3⟩ := blk2 b1
  obtain ⟨q0, q1, q2, q3⟩ := blk2 b2
  have z := b2.lt
  clear b1 b2
  have HB := Lib.hid B1
  clear B1
  obtain ⟨h1, h2, h3, h4⟩ := h
  obtain ⟨x1, x2⟩ := hx
  go_wp2
  all_goals
    refine bodyPost_ret (v := .tuple #[C r (l - n), .int .i64 n]) (by simp [*, results, Try.results86, go_sem]; have hn := HN.out; unfold Mn at hn; omega) rfl ⟨rfl, ?_⟩
    have B1 := HB.out
    go_grown
theorem impl_takeout_no (w : World) (r l x : Int) (h : ¬ (COk r l ∧ Wok x)) : Calls Try.prog 86 #[C r l, .int .i64 x] w (Gives w (.tuple #[C r l, .int .i64 (-1)])) := by
  by_cases h1 : COk r l
  · have h2 : ¬ Wok x := fun h2 => h ⟨h1, h2⟩
    clear h
    go_enter Try.func86, Try.ntmps86
    go_wp2_with fail
    refine (impl_cok_yes _ _ _ h1).mono ?_; rintro e w1 ⟨rfl, hb⟩
    go_wp2_with fail
    refine (impl_water_no _ _ h2).mono ?_; rintro e w2 ⟨rfl, rfl⟩
    obtain ⟨b1, b2⟩ := two hb
    have B1 : Below w.heap.size w w1 := below_step (below_al (below_al (Below.refl _ _) _) _) hb
    clear hb
    obtain ⟨p0, p1, p2, p3⟩ := blk2 b1
    obtain ⟨q0, q1, q2, q3⟩ := blk2 b2
    have z := b2.lt
    clear b1 b2
    have HB := Lib.hid B1
    clear B1
    go_wp2
    refine bodyPost_ret (v := .tuple #[C r l, .int .i64 (-1)]) (by simp [*, results, Try.results86, go_sem]) rfl ⟨rfl, ?_⟩
    have B1 := HB.out
    go_grown
  · clear h
    go_enter Try.func86, Try.ntmps86
    go_wp2_with fail
    refine (impl_cok_no _ _ _ h1).mono ?_; rintro e w1 ⟨rfl, hb⟩
    obtain ⟨b1, b2⟩ := two hb
    have B1 : Below w.heap.size w w1 := below_step (below_al (below_al (Below.refl _ _) _) _) hb
    clear hb
    obtain ⟨p0, p1, p2, p3⟩ := blk2 b1
    obtain ⟨q0, q1, q2, q3⟩ := blk2 b2
    have z := b2.lt
    clear b1 b2
    have HB := Lib.hid B1
    clear B1
    go_wp2
    refine bodyPost_ret (v := .tuple #[C r l, .int .i64 (-1)]) (by simp [*, results, Try.results86, go_sem]) rfl ⟨rfl, ?_⟩
    have B1 := HB.out
    go_grown
end Go.Proofs.Ytojahddamdlcpaa.cis
