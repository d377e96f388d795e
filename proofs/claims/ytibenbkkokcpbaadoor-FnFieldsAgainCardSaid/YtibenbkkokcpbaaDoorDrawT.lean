/- Drawn texts. -/
import Derived.Test.YtibenbkkokcpbaaDoorDraw
import Derived.Deep.AppendLies
namespace Go.Proofs.YtibenbkkokcpbaaDoor.draw
open Go.RowKit Go.Proofs.YtibenbkkokcpbaaDoor.kit
theorem infoB : (Tryd.prog.info? 5).map (fun i => (i.zero, i.size, i.bytes)) = some (some (.int .u8 0), 1, 1) := by kernel_rfl
def TextOf (w : World) (c : Nat) (a : Option Addr) (len cap : Nat) (e : Ending) (w' : World) : Prop :=
  ∃ t : ByteArray, t.size ≤ 5000 ∧ e = .returned (.string t) ∧ Cur w' c a len cap ∧ w.grownBy w' (some c)
set_option maxHeartbeats 400000 in
theorem text_any (w : World) (c : Nat) (a : Option Addr) (len cap : Nat) (n : Nat) (hn : n ≤ 5000) (hcur : Cur w c a len cap) (hca : ∀ x, a = some x → 0 < len → x.block < w.heap.size) :
    Calls Tryd.prog 25 #[.pointer (some ⟨c, 0, none⟩), .int .i64 n] w (TextOf w c a len cap) := by
  obtain ⟨i0, hi, hz0, hz1, hz2⟩ := info_parts infoB
  have hclt : c < w.heap.size := World.block_lt_of_cell? w _ hcur.choose_spec.choose_spec.2.1
  go_enter Tryd.func25, Tryd.ntmps25
  go_wp2
  go_loopw [5, 6] (fun v i wr => ∃ (k : Nat) (ns : List Int), k ≤ n ∧ ns.length = k ∧ i = .int .i64 k ∧ wr.ownsRow w.heap.size 5 1 v ns.length (ns.map (Value.int .u8)) ∧ Cur wr c a len cap ∧ w.grownBy wr (some c))
    (fun _ i _ => n - (intOf i).toNat)
  case atStart => exact ⟨0, [], Nat.zero_le _, rfl, rfl, World.ownsRow_made _ #[] 0 (Nat.le_refl _) (Nat.zero_le _) rfl, hcur.grown (World.grownBy_alloc w _ none) (by simp) (by simp), grown_alloc (grown_refl _ _) _⟩
  case round =>
    obtain ⟨k, ns, hk, rfl, rfl, hown, hc, hg⟩ := hrel
    by_cases hlt : ns.length < n
    · go_wp2_with fail
      refine (byte_any wr c a len cap hc).mono ?_; rintro e w1 ⟨x, ⟨x0, x1⟩, rfl, hc1, hg1⟩
      have hown1 := hown.kept hg1 (by
        cases h : u5.ownBlock with
        | none => exact .inl rfl
        | some q => exact .inr (fun e => by cases e; have := (hown.lt _ h).1; omega))
      have hg2 := grown_trans hg hg1
      clear hg1 hown hc hg
      go_wp2_with (at_builtin; refine wpList_append_own _ rfl _ _ 22 rfl w.heap.size 5 i0 (.int .u8 0) 1 1 Tryd.underlying22 hi hz0 hz1 hz2 rfl (by decide) _ _ _ rfl (hown1.alloc _) ⟨w1.heap.size, 0, none⟩ 1 1 [.int .u8 x] rfl rfl (World.news_of_block (heap_alloc_new w1 _)) (by simp [Value.oneCell']) (by unfold maxLen; omega) (by omega) (by have := hg2.size; simp; omega) ?_; intro v' w2 hown2 hgrow _)
      have hown3 : w2.ownsRow w.heap.size 5 1 v' (ns ++ [x]).length ((ns ++ [x]).map (Value.int .u8)) := by simpa using hown2
      have hlo : ∀ q, u5.ownBlock = some q → w.heap.size ≤ q := fun q hq => (hown1.lt q hq).1
      have hc3 : Cur w2 c a len cap := (hc1.grown (World.grownBy_alloc w1 _ none) (by simp) (by simp)).grown hgrow (fun e => by have := hlo c e.symm; omega) (fun y hy h0 e => by have := hlo _ e.symm; have := hca y hy h0; omega)
      have hg3 := grown_above (grown_alloc hg2 _) hgrow hlo
      clear hgrow hown2 hown1 hc1 hg2 hlo
      go_wp2
      go_roundw
      case rel => exact ⟨ns.length + 1, ns ++ [x], by omega, by simp, by go_num, hown3, hc3, hg3⟩
      case measure => simp [intOf]; omega
    · have hcv := conv_own (P := Tryd.prog) Tryd.underlying22 Tryd.underlying5 Tryd.underlying9 hown
      go_wp2
      go_ret
      exact ⟨_, by rw [strOfNums_size]; omega, rfl, hc, hg⟩
/-- l01Long: n bytes of one kind. -/
def LongOf (w : World) (n : Nat) (x : Int) (e : Ending) (w' : World) : Prop := e = .returned (.string (strOfNums (List.replicate n x))) ∧ w.grownBy w' none
theorem rep_set (x : Int) (i n : Nat) (xs : List Value) (hx : xs.length = n) (h : i < n) : ((List.replicate i x).map (Value.int .u8) ++ xs.drop i).set i (.int .u8 x) = (List.replicate (i + 1) x).map (Value.int .u8) ++ xs.drop (i + 1) := by
  rw [List.set_append, if_neg (by simp), List.length_map, List.length_replicate, Nat.sub_self, List.drop_eq_getElem_cons (by omega), List.set_cons_zero]
  simp [List.replicate_succ']
set_option maxHeartbeats 400000 in
theorem long_any (w : World) (n : Nat) (hn : n ≤ 1000000) (x : Int) :
    Calls Tryd.prog 23 #[.int .i64 n, .int .u8 x] w (LongOf w n x) := by
  obtain ⟨i0, hi, hz0, hz1, hz2⟩ := info_parts infoB
  go_enter Tryd.func23, Tryd.ntmps23
  go_wp2_with (at_make; refine wpList_make_full _ rfl _ _ 22 rfl w.heap.size 5 i0 (.int .u8 0) 1 Tryd.underlying22 hi hz0 hz1 _ _ _ _ n rfl rfl (by omega) (by omega) (by rw [hz2]; omega) (by unfold maxLen; omega) (Nat.le_refl _) ?_; intro w0 hown0 hg0)
  obtain ⟨xs, hxs⟩ : ∃ xs, xs = (madeCells (Value.int .u8 0).cells (n * 1)).toList := ⟨_, rfl⟩
  rw [← hxs] at hown0
  clear hxs
  have hlen : xs.length = n := by simpa using hown0.1
  go_loopw [6] (fun i wr => ∃ k : Nat, k ≤ n ∧ i = .int .i64 k ∧ wr.ownsRow w.heap.size 5 1 (.slice (some ⟨w.heap.size, 0, none⟩) n n) n ((List.replicate k x).map (Value.int .u8) ++ xs.drop k) ∧ w.grownBy wr none)
    (fun i _ => n - (intOf i).toNat)
  case atStart => exact ⟨0, Nat.zero_le _, rfl, by simpa using hown0, hg0⟩
  case round =>
    clear hown0 hg0
    obtain ⟨k, hk, rfl, hown, hg⟩ := hrel
    by_cases hlt : k < n
    · obtain ⟨u, hu⟩ : ∃ u, ((List.replicate k x).map (Value.int .u8) ++ xs.drop k)[k]? = some u := ⟨_, List.getElem?_eq_getElem (by simp; omega)⟩
      have hc := own_cell hown (g := w.heap.size) rfl k u hu
      have hf := own_free hown (g := w.heap.size) rfl k
      have hown2 := own_set hown (g := w.heap.size) rfl k (.int .u8 x)
      rw [rep_set x k n xs hlen hlt] at hown2
      have hg2 : w.grownBy (wr.setCell ⟨w.heap.size, k, none⟩ (.int .u8 x)) none := grown_above hg (grown_setCell (grown_refl wr _) k none _) (fun q hq => by cases hq; exact Nat.le_refl _)
      clear hown hg hu
      go_wp2
      go_roundw
      case rel => exact ⟨k + 1, by omega, by go_num, hown2, hg2⟩
      case measure => simp [intOf]; omega
    · have hkn : k = n := by omega
      subst hkn
      rw [List.drop_of_length_le (by omega), List.append_nil] at hown
      have hcv := conv_own (P := Tryd.prog) Tryd.underlying22 Tryd.underlying5 Tryd.underlying9 hown
      go_wp2
      go_ret
      exact ⟨rfl, hg⟩
end Go.Proofs.YtibenbkkokcpbaaDoor.draw
