/- The program's functions on years. -/
import Derived.Test.YtojahddamdlcpaaYrDays
import Derived.Test.YtojahddamdlcpaaOwn
import Derived.Deep.LoopGhost
namespace Go.Proofs.Ytojahddamdlcpaa.yr
open Go.RowKit Go.Proofs.Ytojahddamdlcpaa.kit Go.Proofs.Ytojahddamdlcpaa.lawi Go.Proofs.Ytojahddamdlcpaa.own Go.Proofs.Ytojahddamdlcpaa.rainl Go.Proofs.Ytojahddamdlcpaa.rain Go.Proofs.Ytojahddamdlcpaa.cis Go.Proofs.Ytojahddamdlcpaa.chl Go.Proofs.Ytojahddamdlcpaa.yrl Go.Proofs.Ytojahddamdlcpaa.chan
theorem chan_ne {w : World} {c cap : Nat} {buf : List Value} {cl : Bool} {base e sz n : Nat} {v : Value} {xs : List Value} (h : Chn w c cap buf cl) (ho : w.ownsRow base e sz v n xs) : v.ownBlock ≠ some c := by
  obtain ⟨s, r, h⟩ := h
  rcases ho.2 with ⟨rfl, _⟩ | ⟨g, cp, cur, rfl, _, hh, _⟩
  · simp [Value.ownBlock]
  · intro e
    simp [Value.ownBlock] at e
    subst e
    rw [hh] at h
    cases h
/-- 'append(out, z)', the new element in the block that was made last, its number given. -/
theorem app1h (wr : World) {T : TypeId} {ops : Array Oper} {rest : List Oper} {o : Oper} {a : Act} {Q : Exit → Act → World → Prop} (hgd : o.guard = none) (s x : Operand)
    (ho : o.op = .call { callee := .builtin .append, args := #[s, x], argTypes := #[24, 24] })
    (base : Nat) {v : Value} {n : Nat} {zs : List Int} (z : Int) (hown : wr.ownsRow base 3 1 v n (zs.map (Value.int .i64))) (hs : a.eval s = v) (H : Nat) (hH : wr.heap.size = H)
    (hx : a.eval x = .slice (some ⟨H, 0, none⟩) 1 1) (hn : n ≤ 1000000000000) (hb : base ≤ wr.heap.size)
    (h : ∀ v' w1, w1.ownsRow base 3 1 v' (n + 1) ((zs ++ [z]).map (Value.int .i64)) → wr.grownBy w1 v.ownBlock → wpList Try.prog ops Q rest (a.put o.dst v') w1) :
    wpList Try.prog ops Q (o :: rest) a (wr.alloc (.cells #[.int .i64 z] T)) := by
  subst hH
  exact app1 wr hgd s x ho base z hown hs hx hn hb h
/-- While the days are read: the year's own box, the channel with the days from j on. -/
structure CW (w wr : World) (c : Nat) (r s d : Int) (v : Value) (n : Nat) (cs : List Int) (j : Nat) : Prop where
  bY : Blk wr w.heap.size TY #[.int .i64 r, .int .i64 s, v, .int .i64 d]
  ch : Chn wr c n ((dvs r s d cs n).drop j) true
  bl : Below w.heap.size w wr
  lc : w.heap.size + 1 ≤ c
section
variable {w wr wr' : World} {c : Nat} {r s d : Int} {v : Value} {n : Nat} {cs : List Int} {j : Nat}
theorem CW.keep (h : CW w wr c r s d v n cs j) (hb : Below wr.heap.size wr wr') : CW w wr' c r s d v n cs j := ⟨h.bY.step hb, h.ch.step hb, below_step h.bl hb, h.lc⟩
theorem CW.next (h : CW w wr c r s d v n cs j) (hj : j < n) : Chn wr c n (dv r s d cs j :: (dvs r s d cs n).drop (j + 1)) true := by have := h.ch; rwa [dvs_drop r s d cs hj] at this
theorem CW.last (h : CW w wr c r s d v n cs n) : Chn wr c n [] true := by
  have := h.ch
  rwa [List.drop_of_length_le (by rw [dvs_len]; exact Nat.le_refl _)] at this
theorem CW.recv (h : CW w wr c r s d v n cs j) (hc : Chn wr' c n ((dvs r s d cs n).drop (j + 1)) true) (hg : wr.grownBy wr' (some c)) : CW w wr' c r s d v n cs (j + 1) :=
  have l := h.lc
  ⟨h.bY.grown hg (by simp; omega), hc, h.bl.grown hg h.bl.size (by rintro k ⟨⟩; omega), h.lc⟩
/-- Something is appended to a row of the call's own. -/
theorem CW.app {u : Value} {m : Nat} {xs : List Value} (h : CW w wr c r s d v n cs j) (ho : wr.ownsRow (w.heap.size + 1) 3 1 u m xs) (hg : wr.grownBy wr' u.ownBlock) : CW w wr' c r s d v n cs j :=
  ⟨h.bY.grown hg (fun e => by have := (ho.lt _ e.symm).1; omega), h.ch.grown hg (fun e => chan_ne h.ch ho e.symm), h.bl.grown hg h.bl.size (fun k hk => by have := (ho.lt _ hk).1; omega), h.lc⟩
end
set_option maxHeartbeats 1000000 in
theorem impl_short_yes (w : World) (v : Value) (n : Nat) (cs : List Int) (r s d : Int) (hr : Row 1 w v n (IV cs)) (ok : YOk r s d n cs) :
    Calls Try.prog 61 #[Yv r s v d] w (GotR 3 1 w (dy (fun k => decide (tk r d s cs k < d)) n).length (IV (dy (fun k => decide (tk r d s cs k < d)) n))) := by
  obtain ⟨a, ca, rfl⟩ := hr.shape
  have hn : n ≤ 400 := ok.2.2.1.2
  obtain ⟨inf, hi, hz, _, _⟩ := info_parts infoW
  have B0 : Below w.heap.size w (w.alloc (.cells #[.int .i64 r, .int .i64 s, .slice a n ca, .int .i64 d] TY)) := below_al (Below.refl _ _) _
  have HR := Lib.hid hr
  have HB := Lib.hid B0
  have HX := Lib.hid (Blk.new w TY #[.int .i64 r, .int .i64 s, .slice a n ca, .int .i64 d])
  have OK := Lib.hid ok
  have HI := Lib.hid (And.intro hi hz)
  clear ok hr B0 hi hz
  go_enter Try.func61, Try.ntmps61
  rw [cr 5]
  go_wp2_with fail
  refine (impl_yok_yes _ _ n cs r s d (HR.out.keep HB.out) OK.out).mono ?_; rintro e w1 ⟨rfl, hb⟩
  replace HX := Lib.hid (HX.out.step hb)
  replace HB := Lib.hid (below_step HB.out hb)
  clear hb
  obtain ⟨p0, p1, p2, p3⟩ := blk4 HX.out
  have z1 : w.heap.size + 1 ≤ w1.heap.size := by have := HX.out.lt; omega
  go_wp2_with fail
  refine (impl_days _ _ n cs r s d (HR.out.keep HB.out) OK.out).mono ?_; rintro e w3 ⟨c, rfl, hc1, hc2, hb⟩
  have D0 : CW w w3 c r s d (.slice a n ca) n cs 0 := ⟨HX.out.step hb, hc2, below_step HB.out hb, by omega⟩
  have HD := Lib.hid D0
  clear D0 hc1 hc2 hb HX HB z1 p0 p1 p2 p3
  go_wp2
  go_loopg [3] n (fun g u wr => ∃ (j : Nat), j + g = n ∧ CW w wr c r s d (.slice a n ca) n cs j ∧ wr.ownsRow (w.heap.size + 1) 3 1 u (dy (fun k => decide (tk r d s cs k < d)) j).length (IV (dy (fun k => decide (tk r d s cs k < d)) j)))
  case atStart => exact ⟨0, by omega, HD.out, World.ownsRow_nil _ _ _ _⟩
  case round =>
    clear HD
    obtain ⟨j, hj, hd, ho⟩ := hrel
    by_cases hlt : j < n
    · obtain ⟨gk, rfl⟩ : ∃ g', gk = g' + 1 := ⟨gk - 1, by omega⟩
      have HD := Lib.hid hd
      have HO := Lib.hid ho
      clear ho
      obtain ⟨x, hx⟩ : ∃ x, tk r d s cs j = x := ⟨_, rfl⟩
      have HX := Lib.hid hx
      have HL := Lib.hid (dy_len (fun k => decide (tk r d s cs k < d)) j)
      clear hx
      clear hd
      go_wp2
      refine wp_recv rfl rfl rfl Try.underlying68 HI.out.1 HI.out.2 (HD.out.next hlt) rfl rfl rfl fun w4 hc hg => ?_
      have D4 := HD.out.recv hc hg
      have ab : Below w4.heap.size w4 (w4.alloc (.cells #[.int .i64 j, .int .i64 (ov r d s cs j), .int .i64 (tk r d s cs j), .int .i64 (lv r d s cs (j + 1))] TW)) := below_al (Below.refl _ _) _
      have ho4 := HO.out.kept hg (.inr (chan_ne HD.out.ch HO.out))
      replace HD := Lib.hid (D4.keep ab)
      have HO2 := Lib.hid (own_below ho4 ab)
      have z4 : w.heap.size + 1 ≤ (w4.alloc (.cells #[.int .i64 j, .int .i64 (ov r d s cs j), .int .i64 (tk r d s cs j), .int .i64 (lv r d s cs (j + 1))] TW)).heap.size := by have := D4.bY.lt; simp; omega
      (try simp only [Act.put, List.setIfInBounds_toArray, List.set_cons_zero, List.set_cons_succ, dv])
      rw [HX.out] at HD HO2 z4 ⊢
      clear hc hg ho4 D4 ab HO
      have hl : (dy (fun k => decide (tk r d s cs k < d)) j).length ≤ 1000 := by have := HL.out; omega
      obtain ⟨p0, p1, p2, p3⟩ := blk4 HD.out.bY
      by_cases h0 : x < d
      · go_wp2_with (at_builtin; refine app1h _ rfl _ _ rfl (w.heap.size + 1) j HO2.out rfl (w4.heap.size + 1) (by simp) rfl (by omega) z4 ?_; intro v5 w5 ho5 hg5)
        have D5 := HD.out.app HO2.out hg5
        have e : dy (fun k => decide (tk r d s cs k < d)) (j + 1) = dy (fun k => decide (tk r d s cs k < d)) j ++ [(j : Int)] := by rw [dy]; simp only [HX.out]; simp [h0]
        go_roundg gk
        case rel => exact ⟨j + 1, by omega, D5, by rw [e, List.length_append]; exact ho5⟩
        case measure => omega
      · have e : dy (fun k => decide (tk r d s cs k < d)) (j + 1) = dy (fun k => decide (tk r d s cs k < d)) j := by rw [dy]; simp only [HX.out]; simp [h0]
        go_wp2
        go_roundg gk
        case rel => exact ⟨j + 1, by omega, HD.out, by rw [e]; exact HO2.out⟩
        case measure => omega
    · obtain rfl : j = n := by omega
      have HD := Lib.hid hd
      clear hd
      have HO := Lib.hid ho
      clear ho
      go_wp2
      refine wp_shut rfl rfl rfl Try.underlying68 HI.out.1 HI.out.2 HD.out.last rfl rfl rfl ?_
      (try simp only [Act.put, List.setIfInBounds_toArray, List.set_cons_zero, List.set_cons_succ])
      go_wp2
      go_ret
      exact ⟨_, rfl, own_mono HO.out (by omega), HD.out.bl⟩

theorem impl_short_no (w : World) (v : Value) (n : Nat) (cs : List Int) (r s d : Int) (hn : n ≤ 1048576) (hr : Row 1 w v n (IV cs)) (no : ¬ YOk r s d n cs) : Calls Try.prog 61 #[Yv r s v d] w (GotR 3 1 w 0 (IV [])) := by
  obtain ⟨a, ca, rfl⟩ := hr.shape
  have B0 : Below w.heap.size w (w.alloc (.cells #[.int .i64 r, .int .i64 s, .slice a n ca, .int .i64 d] TY)) := below_al (Below.refl _ _) _
  have HR := Lib.hid hr
  have HB := Lib.hid B0
  have NO := Lib.hid no
  clear no hr B0
  go_enter Try.func61, Try.ntmps61
  go_wp2_with fail
  refine (impl_yok_no _ _ n cs r s d hn (HR.out.keep HB.out) NO.out).mono ?_; rintro e w1 ⟨rfl, hb⟩
  replace HB := Lib.hid (below_step HB.out hb)
  clear hb
  go_wp2
  go_ret
  exact ⟨_, rfl, World.ownsRow_nil _ _ _ _, HB.out⟩
end Go.Proofs.Ytojahddamdlcpaa.yr
