/- The specification's functions on years, from its run of one. -/
import Derived.Test.YtojahddamdlcpaaYrS
import Derived.BigQuiet
namespace Go.Proofs.Ytojahddamdlcpaa.yr
open Go.RowKit Go.Proofs.Ytojahddamdlcpaa.kit Go.Proofs.Ytojahddamdlcpaa.lawi Go.Proofs.Ytojahddamdlcpaa.own Go.Proofs.Ytojahddamdlcpaa.rainl Go.Proofs.Ytojahddamdlcpaa.rain Go.Proofs.Ytojahddamdlcpaa.cis Go.Proofs.Ytojahddamdlcpaa.chl Go.Proofs.Ytojahddamdlcpaa.yrl
theorem dy_congr {p q : Nat → Bool} : ∀ n, (∀ k, k < n → p k = q k) → dy p n = dy q n
  | 0, _ => rfl
  | n + 1, h => by rw [dy, dy, h n (by omega), dy_congr n fun k hk => h k (by omega)]
theorem ct_congr {p q : Nat → Bool} : ∀ n, (∀ k, k < n → p k = q k) → ct p n = ct q n
  | 0, _ => rfl
  | n + 1, h => by rw [ct, ct, h n (by omega), ct_congr n fun k hk => h k (by omega)]
theorem sm_congr {f g : Nat → Int} : ∀ n, (∀ k, k < n → f k = g k) → sm f n = sm g n
  | 0, _ => rfl
  | n + 1, h => by rw [sm, sm, h n (by omega), sm_congr n fun k hk => h k (by omega)]
theorem spec_run_no (w : World) (v : Value) (n : Nat) (cs : List Int) (r s d : Int) (hn : n ≤ 1048576) (hr : Row 1 w v n (IV cs)) (no : ¬ YOk r s d n cs) : Calls Try.prog 83 #[Yv r s v d] w (Ran w 0 [] [] []) := by
  obtain ⟨a, ca, rfl⟩ := hr.shape
  have HR := Lib.hid hr
  have NO := Lib.hid no
  obtain ⟨gC, hgC⟩ : ∃ g, g = w.heap.size + 4 := ⟨_, rfl⟩
  have HD := Lib.hid (start w r s d (.slice a n ca) n)
  rw [← hgC] at HD
  clear no hr
  go_enter Try.func83, Try.ntmps83
  go_wp2
  rw [show w.heap.size + 1 + 1 + 1 + 1 = gC by omega]
  clear hgC
  go_loopg [5, 6, 7, 9] 0 (fun g v0 v1 v2 i wr => g = 0 ∧ i = .int .i64 0 ∧ RS w wr gC r s d (.slice a n ca) n s v0 0 [] v1 0 [] v2 0 [])
  case atStart => exact ⟨rfl, rfl, HD.out⟩
  case round =>
    clear HD
    obtain ⟨_, rfl, hd⟩ := hrel
    have HD := Lib.hid hd
    clear hd
    obtain ⟨p0, p1, p2, p3⟩ := blk4 HD.out.bY
    by_cases hz : 0 < n
    · go_wp2_with fail
      refine (spec_yok_no _ _ n cs r s d hn (HR.out.keep HD.out.bl) NO.out).mono ?_; rintro e w2 ⟨rfl, hb⟩
      replace HD := Lib.hid (HD.out.keep hb)
      clear hb p0 p1 p2 p3
      go_wp2
      go_ret3
      exact ⟨_, _, _, rfl, own_mono HD.out.o0 (by omega), own_mono HD.out.o1 (by omega), own_mono HD.out.o2 (by omega), HD.out.bl⟩
    · go_wp2
      go_ret3
      exact ⟨_, _, _, rfl, own_mono HD.out.o0 (by omega), own_mono HD.out.o1 (by omega), own_mono HD.out.o2 (by omega), HD.out.bl⟩
/-- The run of this year leaves these rows, in whatever world. -/
def Runs (w : World) (v : Value) (r s d : Int) (n : Nat) (cs : List Int) (m : Nat) (z0 z1 z2 : List Int) : Prop :=
  ∀ W, Below w.heap.size w W → Row 1 W v n (IV cs) → Calls Try.prog 83 #[Yv r s v d] W (Ran W m z0 z1 z2)
theorem spec_sum (w : World) (v : Value) (m : Nat) (zs : List Int) (hm : m ≤ 400) (hr : Row 1 w v m (IV zs)) (hz : ∀ j, j < m → 0 ≤ zs.getD j 0 ∧ zs.getD j 0 ≤ 1000000) :
    Calls Try.prog 71 #[v] w fun e w' => e = .returned (.int .i64 (sm (fun j => zs.getD j 0) m)) ∧ w = w' := by
  obtain ⟨a, ca, rfl⟩ := hr.shape
  have hl : zs.length = m := by simpa using hr.1
  have HR := Lib.hid hr
  have HZ := Lib.hid hz
  clear hr hz
  go_enter Try.func71, Try.ntmps71
  go_wp2
  go_loop [3, 4] (fun t i => ∃ k : Nat, k ≤ m ∧ i = .int .i64 k ∧ t = .int .i64 (sm (fun j => zs.getD j 0) k)) (fun _ i => m - (intOf i).toNat)
  case atStart => exact ⟨0, Nat.zero_le _, rfl, rfl⟩
  case round =>
    obtain ⟨k, hk, rfl, rfl⟩ := hrel
    by_cases hlt : k < m
    · obtain ⟨b1, o1, rfl, h1⟩ := HR.out.at_ (by omega)
      obtain ⟨z, hz⟩ : ∃ z, zs.getD k 0 = z := ⟨_, rfl⟩
      have g1 := h1 k _ (getI (by omega))
      rw [hz] at g1
      obtain ⟨S, hS⟩ : ∃ S, sm (fun j => zs.getD j 0) k = S := ⟨_, rfl⟩
      have hb1 := sm_bd (f := fun j => zs.getD j 0) (a := 0) (b := 1000000) k (fun i hi => HZ.out i (by omega))
      have hb2 := HZ.out k hlt
      rw [hS] at hb1
      rw [hz] at hb2
      obtain ⟨c1, c2⟩ := hb2
      have c3 : 0 ≤ S ∧ S ≤ 400000000 := by omega
      obtain ⟨c3, c4⟩ := c3
      have HS := Lib.hid (show sm (fun j => zs.getD j 0) (k + 1) = S + z by rw [sm, hS, hz])
      rw [hS]
      clear hS hz hb1 h1
      go_wp2
      go_round
      case rel => exact ⟨k + 1, by omega, by go_num, by rw [HS.out]⟩
      case measure => simp [intOf]; omega
    · obtain rfl : k = m := by omega
      go_wp2
      go_ret
      exact ⟨rfl, rfl⟩
/-- While the short days are gathered. -/
structure SS (w wr : World) (r s d : Int) (v : Value) (n : Nat) (u : Value) (k : Nat) (zo : List Int) (v2 : Value) (m : Nat) (z2 : List Int) : Prop where
  bY : Blk wr w.heap.size TY #[.int .i64 r, .int .i64 s, v, .int .i64 d]
  oo : wr.ownsRow (w.heap.size + 1) 3 1 u k (IV zo)
  o2 : wr.ownsRow (w.heap.size + 1) 3 1 v2 m (IV z2)
  ap : Ap u v2
  bl : Below w.heap.size w wr
section
variable {w wr wr' : World} {r s d : Int} {v : Value} {n : Nat} {u : Value} {k : Nat} {zo : List Int} {v2 : Value} {m : Nat} {z2 : List Int}
theorem SS.keep (h : SS w wr r s d v n u k zo v2 m z2) (hb : Below wr.heap.size wr wr') : SS w wr' r s d v n u k zo v2 m z2 := ⟨h.bY.step hb, own_below h.oo hb, own_below h.o2 hb, h.ap, below_step h.bl hb⟩
theorem SS.size (h : SS w wr r s d v n u k zo v2 m z2) : w.heap.size + 1 ≤ wr.heap.size := by have := h.bY.lt; omega
theorem SS.app (h : SS w wr r s d v n u k zo v2 m z2) {v' : Value} {k' : Nat} {z' : List Int} (ho : wr'.ownsRow (w.heap.size + 1) 3 1 v' k' (IV z')) (hg : wr.grownBy wr' u.ownBlock)
    (hl : ∀ b, v'.ownBlock = some b → u.ownBlock = some b ∨ wr.heap.size ≤ b) : SS w wr' r s d v n v' k' z' v2 m z2 :=
  ⟨h.bY.grown hg (fun e => blk_row h.bY h.oo (by decide) e.symm), ho, h.o2.kept hg h.ap.ne, h.ap.lies h.o2 hl, h.bl.grown hg h.bl.size (fun k hk => by have := (h.oo.lt _ hk).1; omega)⟩
end
set_option maxHeartbeats 1000000 in
theorem spec_short_of (w : World) (v : Value) (n : Nat) (cs : List Int) (r s d : Int) (m : Nat) (z0 z1 z2 : List Int) (hm : m ≤ 400) (hr : Row 1 w v n (IV cs)) (h : Runs w v r s d n cs m z0 z1 z2) :
    Calls Try.prog 68 #[Yv r s v d] w (GotR 3 1 w (dy (fun k => decide (z2.getD k 0 < d)) m).length (IV (dy (fun k => decide (z2.getD k 0 < d)) m))) := by
  obtain ⟨a, ca, rfl⟩ := hr.shape
  have B0 : Below w.heap.size w ((w.alloc (.cells #[.int .i64 r, .int .i64 s, .slice a n ca, .int .i64 d] TY)).alloc (.cells #[] 3)) := below_al (below_al (Below.refl _ _) _) _
  have c0 := World.ownsRow_made (base := w.heap.size + 1) (e := 3) (size := 1) (w.alloc (.cells #[.int .i64 r, .int .i64 s, .slice a n ca, .int .i64 d] TY)) #[] 0 (by simp) (Nat.zero_le _) rfl
  simp only [World.size_alloc] at c0
  have HX := Lib.hid ((Blk.new w TY #[.int .i64 r, .int .i64 s, .slice a n ca, .int .i64 d]).alloc (.cells #[] 3))
  have HR := Lib.hid hr
  have HB := Lib.hid B0
  have HC := Lib.hid c0
  have HH := Lib.hid h
  clear h hr B0 c0
  go_enter Try.func68, Try.ntmps68
  go_wp2_with fail
  refine (HH.out _ HB.out (HR.out.keep HB.out)).mono ?_; rintro e w2 ⟨v0, v1, v2, rfl, o0, o1, o2, hb⟩
  have lw : ((w.alloc (.cells #[.int .i64 r, .int .i64 s, .slice a n ca, .int .i64 d] TY)).alloc (.cells #[] 3)).heap.size = w.heap.size + 2 := by simp
  rw [lw] at o2
  have D0 : SS w w2 r s d (.slice a n ca) n (.slice (some ⟨w.heap.size + 1, 0, none⟩) 0 0) 0 [] v2 m z2 :=
    ⟨HX.out.step hb, own_below HC.out hb, own_mono o2 (by omega), fun b hu hv => by have := (o2.lt b hv).1; simp [Value.ownBlock] at hu; omega, below_step HB.out hb⟩
  obtain ⟨a2, c2, rfl⟩ := own_shape o2
  have HD := Lib.hid D0
  clear HX HC HB HH o0 o1 o2 hb lw D0
  go_wp2
  go_loopg [3, 7] m (fun g u i wr => ∃ k : Nat, k + g = m ∧ i = .int .i64 k ∧ SS w wr r s d (.slice a n ca) n u (dy (fun k => decide (z2.getD k 0 < d)) k).length (dy (fun k => decide (z2.getD k 0 < d)) k) (.slice a2 m c2) m z2)
  case atStart => exact ⟨0, by omega, by simp, HD.out⟩
  case round =>
    clear HD
    obtain ⟨k, hk, rfl, hd⟩ := hrel
    by_cases hlt : k < m
    · obtain ⟨gk, rfl⟩ : ∃ g', gk = g' + 1 := ⟨gk - 1, by omega⟩
      obtain ⟨b1, o1, rfl, h1⟩ := (Row.of_own hd.o2).at_ (by omega)
      obtain ⟨z, hz⟩ : ∃ z, z2.getD k 0 = z := ⟨_, rfl⟩
      have g1 := h1 k _ (getI (by have := hd.o2.1; simp at this; omega))
      rw [hz] at g1
      have p3 : wr.cell? ⟨w.heap.size, 3, none⟩ = some (.int .i64 d) := hd.bY.cell 3
      have hl : (dy (fun k => decide (z2.getD k 0 < d)) k).length ≤ 1000 := by have := dy_len (fun k => decide (z2.getD k 0 < d)) k; omega
      have HZ := Lib.hid hz
      have HD := Lib.hid hd
      clear h1 hz hd
      go_wp2
      go_quiet (fail)
      replace HD := Lib.hid (HD.out.keep (below_drN (Below.refl _ _) nq))
      have z4 := HD.out.size
      clear g1 p3
      by_cases h0 : z < d
      · have t0 : decide (z < d) = true := decide_eq_true h0
        go_wp2_with (at_builtin; refine app1L _ rfl _ _ rfl (w.heap.size + 1) k HD.out.oo rfl wr.heap.size rfl rfl (by omega) z4 ?_; intro v6 w6 ho hg hl; have D7 := Lib.hid (HD.out.app ho hg hl); clear ho hg hl)
        have e : dy (fun k => decide (z2.getD k 0 < d)) (k + 1) = dy (fun k => decide (z2.getD k 0 < d)) k ++ [(k : Int)] := by rw [dy]; simp only [HZ.out]; simp [h0]
        go_roundg gk
        case rel => exact ⟨k + 1, by omega, by go_num, by rw [e, List.length_append]; exact D7.out⟩
        case measure => omega
      · have t0 : decide (z < d) = false := decide_eq_false h0
        have e : dy (fun k => decide (z2.getD k 0 < d)) (k + 1) = dy (fun k => decide (z2.getD k 0 < d)) k := by rw [dy]; simp only [HZ.out]; simp [h0]
        go_wp2
        go_roundg gk
        case rel => exact ⟨k + 1, by omega, by go_num, by rw [e]; exact HD.out⟩
        case measure => omega
    · obtain rfl : k = m := by omega
      have HD := Lib.hid hd
      clear hd
      go_wp2
      go_ret
      exact ⟨_, rfl, own_mono HD.out.oo (by omega), HD.out.bl⟩
end Go.Proofs.Ytojahddamdlcpaa.yr
