/- FnCisterns returns true. -/
import Derived.Test.YthfmbmodlnddeaaCis2
import Derived.Test.YthfmbmodlnddeaaCisD
import Derived.Test.YthfmbmodlnddeaaAt
import Derived.Test.YthfmbmodlnddeaaLater
import Derived.Test.YthfmbmodlnddeaaLex
set_option linter.unusedVariables false
namespace Go.Proofs.Ythfmbmodlnddeaa.wFnCisterns
open Go.RowKit Go.Proofs.Ythfmbmodlnddeaa.kit Go.Proofs.Ythfmbmodlnddeaa.lawi Go.Proofs.Ythfmbmodlnddeaa.rainl Go.Proofs.Ythfmbmodlnddeaa.rain Go.Proofs.Ythfmbmodlnddeaa.cis Go.Proofs.Ythfmbmodlnddeaa.draw Go.Proofs.Ythfmbmodlnddeaa.at_
open Go.Proofs.Ythfmbmodlnddeaa.later
def PourD (w : World) (r l x : Int) (e : Ending) (w' : World) : Prop :=
  ∃ p o, e = .returned (.tuple #[C r p, .int .i64 o]) ∧ COk r p ∧ 0 ≤ o ∧ o ≤ x ∧ p + o = l + x ∧ (o = 0 ∨ p = r) ∧ Below w.heap.size w w'
theorem pour_d (w : World) (r l x : Int) (h : COk r l) (hx : Wok x) : Calls Try.prog 13 #[C r l, .int .i64 x] w (PourD w r l x) := by
  obtain ⟨n, hn⟩ := Mn.ex x (r - l)
  refine (impl_pour_yes w r l x n h hx hn).mono ?_
  rintro e w' ⟨rfl, hb⟩
  obtain ⟨h1, h2, h3, h4⟩ := h
  obtain ⟨x1, x2⟩ := hx
  unfold Mn at hn
  exact ⟨_, _, rfl, ⟨h1, h2, by omega, by omega⟩, by omega, by omega, by omega, by omega, hb⟩
def TakeD (w : World) (r l x : Int) (e : Ending) (w' : World) : Prop :=
  ∃ p o, e = .returned (.tuple #[C r p, .int .i64 o]) ∧ COk r p ∧ 0 ≤ o ∧ o ≤ x ∧ p + o = l ∧ (o = x ∨ p = 0) ∧ Below w.heap.size w w'
theorem take_d (w : World) (r l x : Int) (h : COk r l) (hx : Wok x) : Calls Try.prog 14 #[C r l, .int .i64 x] w (TakeD w r l x) := by
  obtain ⟨n, hn⟩ := Mn.ex x l
  refine (impl_takeout_yes w r l x n h hx hn).mono ?_
  rintro e w' ⟨rfl, hb⟩
  obtain ⟨h1, h2, h3, h4⟩ := h
  obtain ⟨x1, x2⟩ := hx
  unfold Mn at hn
  exact ⟨_, _, rfl, ⟨h1, h2, by omega, by omega⟩, by omega, by omega, by omega, by omega, hb⟩
def BalD (w : World) (r l q x : Int) (e : Ending) (w' : World) : Prop :=
  ∃ p b o, e = .returned (.tuple #[C r p, C 100 b, .int .i64 o]) ∧ COk r p ∧ COk 100 b ∧ 0 ≤ o ∧ o ≤ x ∧ p + o = l ∧ b - o = q ∧ (o = x ∨ p = 0 ∨ b = 100) ∧ Below w.heap.size w w'
theorem bal_d (w : World) (r l q x : Int) (h : COk r l) (hq : COk 100 q) (hx : Wok x) : Calls Try.prog 15 #[C r l, C 100 q, .int .i64 x] w (BalD w r l q x) := by
  obtain ⟨n, hn⟩ := Mn3.ex x l (100 - q)
  refine (impl_balance_yes w r l 100 q x n h hq hx hn).mono ?_
  rintro e w' ⟨rfl, hb⟩
  obtain ⟨h1, h2, h3, h4⟩ := h
  obtain ⟨g1, g2, g3, g4⟩ := hq
  obtain ⟨x1, x2⟩ := hx
  unfold Mn3 at hn
  exact ⟨_, _, _, rfl, ⟨h1, h2, by omega, by omega⟩, ⟨g1, g2, by omega, by omega⟩, by omega, by omega, by omega, by omega, by omega, hb⟩
/-- The hundredths, and what is known of them. -/
theorem part_bd {r l f : Int} (h : COk r l) (hf : l * 100 / r = f) : 0 ≤ f ∧ f ≤ 100 ∧ f * r ≤ 100 * l ∧ 100 * l < (f + 1) * r := by
  obtain ⟨h1, h2, h3, h4⟩ := h
  have a := Int.ediv_mul_le (l * 100) (show r ≠ 0 by omega)
  have b := Int.lt_ediv_add_one_mul_self (l * 100) (show 0 < r by omega)
  have c : 0 ≤ l * 100 / r := Int.ediv_nonneg (by omega) (by omega)
  have d : l * 100 / r ≤ 100 := by
    have : l * 100 / r < 101 := Int.ediv_lt_of_lt_mul (by omega) (by omega)
    omega
  rw [hf] at a b c d
  exact ⟨c, d, by omega, by omega⟩
theorem keep12 {W w' : World} {p0 p1 p2 p3 p4 p5 p6 p7 p8 p9 p10 p11 : Addr} {v0 v1 v2 v3 v4 v5 v6 v7 v8 v9 v10 v11 : Value} (h : W.cell? p0 = some v0 ∧ W.cell? p1 = some v1 ∧ W.cell? p2 = some v2 ∧ W.cell? p3 = some v3 ∧ W.cell? p4 = some v4 ∧ W.cell? p5 = some v5 ∧ W.cell? p6 = some v6 ∧ W.cell? p7 = some v7 ∧ W.cell? p8 = some v8 ∧ W.cell? p9 = some v9 ∧ W.cell? p10 = some v10 ∧ W.cell? p11 = some v11) (hb : Below W.heap.size W w') : w'.cell? p0 = some v0 ∧ w'.cell? p1 = some v1 ∧ w'.cell? p2 = some v2 ∧ w'.cell? p3 = some v3 ∧ w'.cell? p4 = some v4 ∧ w'.cell? p5 = some v5 ∧ w'.cell? p6 = some v6 ∧ w'.cell? p7 = some v7 ∧ w'.cell? p8 = some v8 ∧ w'.cell? p9 = some v9 ∧ w'.cell? p10 = some v10 ∧ w'.cell? p11 = some v11 := by
  obtain ⟨h0, h1, h2, h3, h4, h5, h6, h7, h8, h9, h10, h11⟩ := h
  exact ⟨keep1 h0 hb, keep1 h1 hb, keep1 h2 hb, keep1 h3 hb, keep1 h4 hb, keep1 h5 hb, keep1 h6 hb, keep1 h7 hb, keep1 h8 hb, keep1 h9 hb, keep1 h10 hb, keep1 h11 hb⟩
set_option maxRecDepth 10000000 in
set_option maxHeartbeats 4000000 in
theorem walk (w : World) (a0 : Option Addr) (len0 cap0 : Nat) (z0 : List Int) (w0 : IsRow .u8 w a0 len0 cap0 z0) :
    Calls Try.prog 3 #[.slice a0 len0 cap0] w fun e w' => e = .returned (.bool true) ∧ Below w.heap.size w w' := by
  by_cases hbig : 1048576 < len0
  · go_enter Try.func3, Try.ntmps3
    go_wp2_with fail
    refine (big_yes _ _ _ _ hbig).mono ?_; rintro e w1 ⟨rfl, rfl⟩
    go_wp2
    go_ret
    exact ⟨rfl, Below.refl _ _⟩
  · have hlen : len0 ≤ 1048576 := by omega
    have hby := w0.bytes
    have hlow : ∀ x, a0 = some x → 0 < len0 → x.block < w.heap.size := w0.lt
    have HL := Lib.hid hlow
    clear hbig w0 hlow
    go_enter Try.func3, Try.ntmps3
    go_wp2_with fail
    refine (big_no _ _ _ _ hlen).mono ?_; rintro e w1 ⟨rfl, rfl⟩
    go_wp2_with fail
    refine (drawCistern _ _ _ _ hby hlen HL.out).mono ?_; rintro e w1 ⟨r, l, rfl, hfair, B⟩
    have HBY := Lib.hid hby
    have by1 : Bytes (w1.alloc (.cells #[.int .i64 r, .int .i64 l] 25)) a0 len0 := bytes_step hby (below_al B _)
    replace B := below_al B (.cells #[.int .i64 r, .int .i64 l] 25)
    have bC := Blk.new w1 25 #[.int .i64 r, .int .i64 l]
    have HB := Lib.hid B
    have HC := Lib.hid bC
    clear B bC hby
    have ok := hfair.ok
    obtain ⟨r1, r2, l1, l2⟩ := hfair
    go_wp2_with fail
    refine (at_any _ _ _ _ 0 (by omega) (by omega) by1 hlen).mono ?_; rintro e w2 ⟨A, rfl, A0, A1, rfl⟩
    clear by1
    have okA : Wok A := ⟨A0, by omega⟩
    go_wp2_with fail
    refine (pour_d _ _ _ _ ok okA).mono ?_; rintro e w2 ⟨p, po, rfl, okP, po0, po1, pe, pd, hb⟩
    have PE := Lib.hid pe
    have PD := Lib.hid pd
    clear pe pd
    have bC := HC.out.step hb
    have BB := below_step HB.out hb
    have c0 : w2.cell? ⟨w1.heap.size, 0, none⟩ = some (.int .i64 (r)) := bC.cell 0
    have c1 : w2.cell? ⟨w1.heap.size, 1, none⟩ = some (.int .i64 (l)) := bC.cell 1
    have zC : w1.heap.size < w2.heap.size := bC.lt
    replace bC := bC.alloc (.cells #[.int .i64 (r), .int .i64 (p)] 25)
    replace BB := below_al BB (.cells #[.int .i64 (r), .int .i64 (p)] 25)
    have bP := Blk.new w2 25 #[.int .i64 (r), .int .i64 (p)]
    clear HB HC
    have HC := Lib.hid bC
    have HP := Lib.hid bP
    have HB := Lib.hid BB
    clear hb BB bC bP
    go_wp2_with fail
    refine (take_d _ _ _ _ ok okA).mono ?_; rintro e w3 ⟨t, to, rfl, okT, to0, to1, te, td, hb⟩
    have TE := Lib.hid te
    have TD := Lib.hid td
    clear te td
    clear c0 c1 zC
    have bC := HC.out.step hb
    have bP := HP.out.step hb
    have BB := below_step HB.out hb
    have zC : w1.heap.size < w3.heap.size := bC.lt
    have zP : w2.heap.size < w3.heap.size := bP.lt
    replace bC := bC.alloc (.cells #[.int .i64 (r), .int .i64 (t)] 25)
    replace bP := bP.alloc (.cells #[.int .i64 (r), .int .i64 (t)] 25)
    replace BB := below_al BB (.cells #[.int .i64 (r), .int .i64 (t)] 25)
    have bT := Blk.new w3 25 #[.int .i64 (r), .int .i64 (t)]
    clear HB HC HP
    have HC := Lib.hid bC
    have HP := Lib.hid bP
    have HT := Lib.hid bT
    have HB := Lib.hid BB
    clear hb BB bC bP bT
    have by3 := bytes_step HBY.out HB.out
    go_wp2_with fail
    refine (at_any _ _ _ _ 1 (by omega) (by omega) by3 hlen).mono ?_; rintro e w4 ⟨B, rfl, B0, B1, rfl⟩
    clear by3 zC zP
    obtain ⟨q, hq⟩ : ∃ q, B % 101 = q := ⟨_, rfl⟩
    have okQ : COk 100 q := ⟨by omega, by omega, by omega, by omega⟩
    have HQ0 := Lib.hid hq
    clear hq
    obtain ⟨w4, hw4⟩ : ∃ w4, w3.alloc (.cells #[.int .i64 r, .int .i64 t] 25) = w4 := ⟨_, rfl⟩
    rw [hw4] at HC HP HT HB ⊢
    clear hw4
    have c0 : w4.cell? ⟨w1.heap.size, 0, none⟩ = some (.int .i64 (r)) := HC.out.cell 0
    have c1 : w4.cell? ⟨w1.heap.size, 1, none⟩ = some (.int .i64 (l)) := HC.out.cell 1
    have zC : w1.heap.size < w4.heap.size := HC.out.lt
    have zP : w2.heap.size < w4.heap.size := HP.out.lt
    have zT : w3.heap.size < w4.heap.size := HT.out.lt
    have bC := HC.out.alloc (.cells #[.int .i64 (100), .int .i64 (q)] 25)
    have bP := HP.out.alloc (.cells #[.int .i64 (100), .int .i64 (q)] 25)
    have bT := HT.out.alloc (.cells #[.int .i64 (100), .int .i64 (q)] 25)
    have BB := below_al HB.out (.cells #[.int .i64 (100), .int .i64 (q)] 25)
    have bQ := Blk.new w4 25 #[.int .i64 (100), .int .i64 (q)]
    clear HB HC HP HT
    have HC := Lib.hid bC
    have HP := Lib.hid bP
    have HT := Lib.hid bT
    have HQ := Lib.hid bQ
    have HB := Lib.hid BB
    clear BB bC bP bT bQ
    go_wp2_with fail
    rw [HQ0.out]
    refine (bal_d _ _ _ _ _ ok okQ okA).mono ?_; rintro e w5 ⟨a, b, m, rfl, okM, okD, m0, m1, me1, me2, md, hb⟩
    have ME1 := Lib.hid me1
    have ME2 := Lib.hid me2
    have MD := Lib.hid md
    clear me1 me2 md
    clear c0 c1 zC zP zT
    have bC := HC.out.step hb
    have bP := HP.out.step hb
    have bT := HT.out.step hb
    have bQ := HQ.out.step hb
    have BB := below_step HB.out hb
    have c0 : w5.cell? ⟨w1.heap.size, 0, none⟩ = some (.int .i64 (r)) := bC.cell 0
    have c1 : w5.cell? ⟨w1.heap.size, 1, none⟩ = some (.int .i64 (l)) := bC.cell 1
    have zC : w1.heap.size < w5.heap.size := bC.lt
    have zP : w2.heap.size < w5.heap.size := bP.lt
    have zT : w3.heap.size < w5.heap.size := bT.lt
    have zQ : w4.heap.size < w5.heap.size := bQ.lt
    replace bC := bC.alloc (.cells #[.int .i64 (r), .int .i64 (a)] 25)
    replace bP := bP.alloc (.cells #[.int .i64 (r), .int .i64 (a)] 25)
    replace bT := bT.alloc (.cells #[.int .i64 (r), .int .i64 (a)] 25)
    replace bQ := bQ.alloc (.cells #[.int .i64 (r), .int .i64 (a)] 25)
    replace BB := below_al BB (.cells #[.int .i64 (r), .int .i64 (a)] 25)
    have bA := Blk.new w5 25 #[.int .i64 (r), .int .i64 (a)]
    replace bC := bC.alloc (.cells #[.int .i64 (100), .int .i64 (b)] 25)
    replace bP := bP.alloc (.cells #[.int .i64 (100), .int .i64 (b)] 25)
    replace bT := bT.alloc (.cells #[.int .i64 (100), .int .i64 (b)] 25)
    replace bQ := bQ.alloc (.cells #[.int .i64 (100), .int .i64 (b)] 25)
    replace bA := bA.alloc (.cells #[.int .i64 (100), .int .i64 (b)] 25)
    replace BB := below_al BB (.cells #[.int .i64 (100), .int .i64 (b)] 25)
    have bD := Blk.new1 w5 25 #[.int .i64 (100), .int .i64 (b)] (.cells #[.int .i64 (r), .int .i64 (a)] 25)
    clear HB HC HP HT HQ
    have HC := Lib.hid bC
    have HP := Lib.hid bP
    have HT := Lib.hid bT
    have HQ := Lib.hid bQ
    have HA := Lib.hid bA
    have HD := Lib.hid bD
    have HB := Lib.hid BB
    clear hb BB bC bP bT bQ bA bD
    go_wp2_with fail
    refine (impl_spacein_yes _ _ _ ok).mono ?_; rintro e w6 ⟨rfl, hb⟩
    clear c0 c1 zC zP zT zQ
    have bC := HC.out.step hb
    have bP := HP.out.step hb
    have bT := HT.out.step hb
    have bQ := HQ.out.step hb
    have bA := HA.out.step hb
    have bD := HD.out.step hb
    have BB := below_step HB.out hb
    have c0 : w6.cell? ⟨w1.heap.size, 0, none⟩ = some (.int .i64 (r)) := bC.cell 0
    have c1 : w6.cell? ⟨w1.heap.size, 1, none⟩ = some (.int .i64 (l)) := bC.cell 1
    have zC : w1.heap.size < w6.heap.size := bC.lt
    have p0 : w6.cell? ⟨w2.heap.size, 0, none⟩ = some (.int .i64 (r)) := bP.cell 0
    have p1 : w6.cell? ⟨w2.heap.size, 1, none⟩ = some (.int .i64 (p)) := bP.cell 1
    have zP : w2.heap.size < w6.heap.size := bP.lt
    have t0 : w6.cell? ⟨w3.heap.size, 0, none⟩ = some (.int .i64 (r)) := bT.cell 0
    have t1 : w6.cell? ⟨w3.heap.size, 1, none⟩ = some (.int .i64 (t)) := bT.cell 1
    have zT : w3.heap.size < w6.heap.size := bT.lt
    have q0 : w6.cell? ⟨w4.heap.size, 0, none⟩ = some (.int .i64 (100)) := bQ.cell 0
    have q1 : w6.cell? ⟨w4.heap.size, 1, none⟩ = some (.int .i64 (q)) := bQ.cell 1
    have zQ : w4.heap.size < w6.heap.size := bQ.lt
    have a0 : w6.cell? ⟨w5.heap.size, 0, none⟩ = some (.int .i64 (r)) := bA.cell 0
    have a1 : w6.cell? ⟨w5.heap.size, 1, none⟩ = some (.int .i64 (a)) := bA.cell 1
    have zA : w5.heap.size < w6.heap.size := bA.lt
    have d0 : w6.cell? ⟨(w5.heap.size + 1), 0, none⟩ = some (.int .i64 (100)) := bD.cell 0
    have d1 : w6.cell? ⟨(w5.heap.size + 1), 1, none⟩ = some (.int .i64 (b)) := bD.cell 1
    have zD : (w5.heap.size + 1) < w6.heap.size := bD.lt
    clear HB HC HP HT HQ HA HD
    have HC := Lib.hid bC
    have HP := Lib.hid bP
    have HT := Lib.hid bT
    have HQ := Lib.hid bQ
    have HA := Lib.hid bA
    have HD := Lib.hid bD
    have HB := Lib.hid BB
    clear hb BB bC bP bT bQ bA bD
    have Lc0 := later.cell c0
    have Lc1 := later.cell c1
    have Lp0 := later.cell p0
    have Lp1 := later.cell p1
    have Lt0 := later.cell t0
    have Lt1 := later.cell t1
    have Lq0 := later.cell q0
    have Lq1 := later.cell q1
    have La0 := later.cell a0
    have La1 := later.cell a1
    have Ld0 := later.cell d0
    have Ld1 := later.cell d1
    clear c0 c1 p0 p1 t0 t1 q0 q1 a0 a1 d0 d1
    obtain ⟨f, hf⟩ : ∃ f, l * 100 / r = f := ⟨_, rfl⟩
    obtain ⟨f0, f1, f2, f3⟩ := part_bd ok hf
    have hpf : ∀ W, Calls Try.prog 18 #[C r l] W (Gives W (.int .i64 f)) := fun W => by rw [← hf]; exact impl_partfull_yes W _ _ ok
    have HPF := Lib.hid hpf
    clear hf hpf
    have E1 : IntKind.i64.wrap (p + po) = p + po := IntWalk.i64_in _ (by have := okP.2.2; omega)
    have E2 : IntKind.i64.wrap (l + A) = l + A := IntWalk.i64_in _ (by omega)
    have E3 : IntKind.i64.wrap (t + to) = t + to := IntWalk.i64_in _ (by have := okT.2.2; omega)
    have E4 : IntKind.i64.wrap (a + m) = a + m := IntWalk.i64_in _ (by have := okM.2.2; omega)
    have E5 : IntKind.i64.wrap (b - m) = b - m := IntWalk.i64_in _ (by have := okD.2.2; omega)
    have E6 : IntKind.i64.wrap (r - l) = r - l := IntWalk.i64_in _ (by omega)
    have b1 : (p + po == l + A) = true := by rw [PE.out]; simp
    have b2 : (t + to == l) = true := by rw [TE.out]; simp
    have b3 : (a + m == l) = true := by rw [ME1.out]; simp
    have b4 : (b - m == q) = true := by rw [ME2.out]; simp
    obtain ⟨u, hu⟩ : ∃ u, f * r = u := ⟨_, rfl⟩
    obtain ⟨v, hv⟩ : ∃ v, (f + 1) * r = v := ⟨_, rfl⟩
    have v1 : v = u + r := by rw [← hv, ← hu, Int.add_mul, Int.one_mul]
    rw [hu] at f2
    rw [hv] at f3
    have u0 : 0 ≤ u := by rw [← hu]; exact Int.mul_nonneg f0 (by omega)
    have v2 : 0 ≤ v ∧ v ≤ 30000 := by omega
    have E7 : IntKind.i64.wrap (f * r) = u := by rw [hu]; exact IntWalk.i64_in _ (by omega)
    have E8 : IntKind.i64.wrap ((f + 1) * r) = v := by rw [hv]; exact IntWalk.i64_in _ (by omega)
    have E9 : IntKind.i64.wrap (100 * l) = 100 * l := IntWalk.i64_in _ (by omega)
    have E10 : IntKind.i64.wrap (f + 1) = f + 1 := IntWalk.i64_in _ (by omega)
    have g1 : u ≤ 100 * l := f2
    have g2 : 100 * l < v := f3
    clear hu hv v1 v2 f2 f3
    have D1 := PD.out
    have D2 := TD.out
    have D3 := MD.out
    clear zC zP zT zQ zA zD
    have D1' : (po == 0) = true ∨ ((po == 0) = false ∧ (p == r) = true) := by
      by_cases h : po = 0
      · left; simp [h]
      · right; exact ⟨by simp [h], by simp; omega⟩
    have D2' : (to == A) = true ∨ ((to == A) = false ∧ (t == 0) = true) := by
      by_cases h : to = A
      · left; simp [h]
      · right; exact ⟨by simp [h], by simp; omega⟩
    have D3' : (m == A) = true ∨ ((m == A) = false ∧ (a == 0) = true) ∨ ((m == A) = false ∧ (a == 0) = false ∧ (b == 100) = true) := by
      by_cases h : m = A
      · left; simp [h]
      · by_cases h' : a = 0
        · right; left; exact ⟨by simp [h], by simp [h']⟩
        · right; right; exact ⟨by simp [h], by simp [h'], by simp; omega⟩
    have X1 := Lib.hid D1'
    have X2 := Lib.hid D2'
    have X3 := Lib.hid D3'
    clear D1 D2 D3 D1' D2' D3'
    go_wp2_with fail
    simp only [List.append]
    refine later.region (by kernel_rfl) (lex.lexB_of (by as_aux_lemma => kernel_rfl) (lex.all_whole (by as_aux_lemma => kernel_rfl))) ?_
    as_aux_lemma =>
      repeat (go_big_quiet_step ((first
        | (go_at_call 17; exact later.calls _ (impl_cok_yes _ _ _ (by first | exact okP | exact okT | exact okM | exact okD)))
        | (go_at_call 18; exact later.calls _ (HPF.out _))
        | fail)))
      rcases X1.out with ed1 | ⟨ed1, ed1'⟩
      all_goals
        as_aux_lemma =>
          rw [ed1]
          repeat (go_big_quiet_step ((first
            | (go_at_call 17; exact later.calls _ (impl_cok_yes _ _ _ (by first | exact okP | exact okT | exact okM | exact okD)))
            | (go_at_call 18; exact later.calls _ (HPF.out _))
            | fail)))
          rcases X2.out with ed2 | ⟨ed2, ed2'⟩
          all_goals
            as_aux_lemma =>
              rw [ed2]
              repeat (go_big_quiet_step ((first
                | (go_at_call 17; exact later.calls _ (impl_cok_yes _ _ _ (by first | exact okP | exact okT | exact okM | exact okD)))
                | (go_at_call 18; exact later.calls _ (HPF.out _))
                | fail)))
              rcases X3.out with ed3 | ⟨ed3, ed3'⟩ | ⟨ed3, ed3', ed3''⟩
              all_goals
                as_aux_lemma =>
                  rw [ed3]
                  repeat (go_big_quiet_step ((first
                    | (go_at_call 17; exact later.calls _ (impl_cok_yes _ _ _ (by first | exact okP | exact okT | exact okM | exact okD)))
                    | (go_at_call 18; exact later.calls _ (HPF.out _))
                    | fail)))
                  refine wpQuiet_nil ?_
                  intro _ hw'
                  obtain ⟨g, rfl⟩ := hw'
                  go_wp2
                  go_ret
                  exact ⟨rfl, below_step HB.out g.h⟩
end Go.Proofs.Ythfmbmodlnddeaa.wFnCisterns
