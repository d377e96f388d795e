/- Rights: the program's map from owners to shares: the rights read back in the order of the keys. -/
import Derived.Test.YtopbeacfljoacaaRgtL5
import Derived.Test.YtopbeacfljoacaaRgtS4
import Derived.Test.YtopbeacfljoacaaMapW
import Derived.Test.YtopbeacfljoacaaFrcI
namespace Go.Proofs.Ytopbeacfljoacaa.rgt
open Go.RowKit Go.Maps Go.Proofs.Ytopbeacfljoacaa.kit Go.Proofs.Ytopbeacfljoacaa.lawi Go.Proofs.Ytopbeacfljoacaa.own Go.Proofs.Ytopbeacfljoacaa.rain Go.Proofs.Ytopbeacfljoacaa.yrl Go.Proofs.Ytopbeacfljoacaa.frc Go.Proofs.Ytopbeacfljoacaa.stRight Go.Proofs.Ytopbeacfljoacaa.later Go.Proofs.Ytopbeacfljoacaa.apart Go.Proofs.Ytopbeacfljoacaa.mapv
abbrev TM : TypeId := 83
/-- The shares as values. -/
def Fm (g : Int → Option (Int × Int)) : Int → Option Value := fun x => (g x).map fun p => stFraction.R p.1 p.2
theorem zero_fr : ∀ w : World, (zeroValue TF).run Try.prog w = .ok (stFraction.R 0 0) w := fun w => by go_simp
theorem wf_owner {x : Int} (h1 : 1 ≤ x) (h2 : x ≤ 999) : (Lit.int .i64 x).wf = true := WalkArith.wf_i64 ⟨by omega, by omega⟩
/-- slices.Sort's two contracts. -/
theorem sortsA (m : Nat) : AnyZI.SortsIn Try.prog Try.sortedA_ren Fence.wide m :=
  ⟨fun blk off cap ss W hH hblk hsz => callsIn_wide.2 (AnyM.slices_Sort_int Try.sortA blk off cap ss W hH hblk hsz), fun p cap W => callsIn_wide.2 (AnyM.slices_Sort_int_none Try.sortA p cap W)⟩
theorem keys_calls (mb : Option Nat) (W : World) : Calls Try.prog 74 #[.map mb] W fun e w' => e = .returned (.func (.func 79) #[] #[.pointer (some ⟨W.heap.size, 0, none⟩)]) ∧ w' = W.alloc (.cells #[.map mb] TM) :=
  callsIn_wide.1 (AnyZI.keys_in Try.keysA Fence.wide 5 trivial rfl mb W)
theorem sorted_calls (w : World) (b n : Nat) (f : Int → Option Value) (h : MapV Try.prog TI w b n f) (hn : n ≤ 1000000) {ks : List Int} (hp : ks.Pairwise (· < ·)) (hm : ∀ x, x ∈ ks ↔ (Lit.int .i64 x).wf = true ∧ (f x).isSome = true) :
    Calls Try.prog 73 #[.func (.func 79) #[] #[.pointer (some ⟨w.heap.size, 0, none⟩)]] (w.alloc (.cells #[.map (some b)] TM)) (GotR TI 1 (w.alloc (.cells #[.map (some b)] TM)) ks.length (IV ks)) := by
  obtain ⟨D, hown, hsz, hks⟩ := h.keys Try.underlying3 hp hm
  have hbl := hown.lt
  have hseq : SeqGives Fence.wide 2 Try.prog 79 #[.pointer (some ⟨w.heap.size, 0, none⟩)] encZ (fun ss => ss.Perm (intKeys D)) (Maps.size D) (w.alloc (.cells #[.map (some b)] TM)) :=
    AnyZI.keys_gives (ρ := Try.keysA_ren) { Try.keysA with } Fence.wide _ trivial rfl (by omega) w.heap.size b n D _ (by simp) (by simp) (by
      obtain ⟨es, clock, hb, Ft, hs, hD⟩ := hown
      exact ⟨es, clock, (Below.heap_alloc _ _ b hbl).trans hb, Ft, hs, hD⟩)
  have cS := AnyZI.sorted_in Try.sortedA Fence.wide 5 trivial trivial trivial trivial rfl (by omega) (sortsA _) (enters_of Try.func78 (by kernel_rfl) rfl) 79 #[.pointer (some ⟨w.heap.size, 0, none⟩)] trivial (enters_of Try.func79 (by kernel_rfl) rfl) _ _ (by unfold maxLen; omega) (by omega) _ hseq
  refine (callsIn_wide.1 cS).mono ?_
  rintro e w' ⟨v, ss, rfl, hS, hrow, _, hb⟩
  have e1 := hks ss hS
  refine ⟨v, rfl, ?_, hb⟩
  have hlen : ss.length = ks.length := by rw [← e1]; simp
  rw [hlen, e1] at hrow
  exact hrow
theorem own_diff2 {w : World} {b1 b2 e1 e2 s1 s2 : Nat} {v1 v2 : Value} {n1 n2 : Nat} {x1 x2 : List Value} (h1 : w.ownsRow b1 e1 s1 v1 n1 x1) (h2 : w.ownsRow b2 e2 s2 v2 n2 x2) (he : e1 ≠ e2) : v2.ownBlock = none ∨ v2.ownBlock ≠ v1.ownBlock := by
  rcases h2.2 with ⟨rfl, _⟩ | ⟨g2, c2, cur2, rfl, _, hh2, _⟩
  · exact .inl rfl
  · refine .inr fun e => ?_
    rcases h1.2 with ⟨rfl, _⟩ | ⟨g1, c1, cur1, rfl, _, hh1, _⟩
    · cases e
    · have e : g2 = g1 := by simpa [Value.ownBlock] using e
      subst e
      rw [hh1] at hh2
      cases hh2
      exact he rfl
theorem take3 {ys : List Int} {k m : Nat} (hl : ys.length = m * 3) (hk : k < m) : ys.take (k * 3) ++ [wO ys k, wT ys k, wB ys k] = ys.take ((k + 1) * 3) := by
  have ht : (ys.take (k * 3)).length = k * 3 := by simp; omega
  refine rows_ext (n := k + 1) (by simp; omega) (by simp; omega) fun j hj => ?_
  have hw : Rt (ys.take ((k + 1) * 3)) j (wO ys j) (wT ys j) (wB ys j) := ⟨gd_take (by omega), gd_take (by omega), gd_take (by omega)⟩
  obtain ⟨w1, w2, w3⟩ := hw
  rw [w1, w2, w3]
  by_cases e : j = k
  · subst e
    exact Rt.last ht
  · obtain ⟨a1, a2, a3⟩ := Rt.left (l := ys.take (k * 3)) (r := [wO ys k, wT ys k, wB ys k]) (k := j) (by omega)
    exact ⟨a1.trans (gd_take (by omega)), a2.trans (gd_take (by omega)), a3.trans (gd_take (by omega))⟩
/-- The owners, in ascending order, are the map's keys. -/
theorem owners {g : Int → Option (Int × Int)} {m : Nat} {ys : List Int} (h : Mp g m ys) : (rw_ (wO ys) m).Pairwise (· < ·) ∧ ∀ x, x ∈ rw_ (wO ys) m ↔ (Lit.int .i64 x).wf = true ∧ (Fm g x).isSome = true := by
  obtain ⟨⟨h1, h2, h3⟩, h4⟩ := h
  refine ⟨?_, fun x => ?_⟩
  · unfold rw_
    refine List.pairwise_map.2 (List.pairwise_lt_range.imp_of_mem fun {a b} _ hb hab => h3 a b hab (List.mem_range.1 hb))
  · unfold Fm rw_
    rw [Option.isSome_map, h4 x, lk_isSome, List.mem_map]
    constructor
    · rintro ⟨j, hj, rfl⟩
      have hj := List.mem_range.1 hj
      exact ⟨wf_owner (h2 j hj).1 (h2 j hj).2, j, hj, rfl⟩
    · rintro ⟨_, j, hj, e⟩
      exact ⟨j, List.mem_range.2 hj, e⟩
theorem Mp.at_ {g : Int → Option (Int × Int)} {m : Nat} {ys : List Int} (h : Mp g m ys) {k : Nat} (hk : k < m) : Fm g (wO ys k) = some (stFraction.R (wT ys k) (wB ys k)) := by
  unfold Fm
  rw [h.2, lk_at h.1.2.2 (Nat.le_refl _) hk]
  rfl
set_option maxHeartbeats 2000000 in
set_option maxRecDepth 100000 in
theorem impl_rbo (w : World) (b n m : Nat) (gm : Int → Option (Int × Int)) (ys : List Int) (hM : MapV Try.prog TI w b n (Fm gm)) (hn : n ≤ 1000) (hp : Mp gm m ys) (hm : m ≤ 1000) :
    Calls Try.prog 65 #[.map (some b)] w (GotR TR 3 w m (IV ys)) := by
  obtain ⟨iI, hiI, hz0I, hz1I, hz2I⟩ := info_parts stRight.info
  have hbl := hM.lt
  have HM := Lib.hid hM
  have HP := Lib.hid hp
  clear hM hp
  go_enter Try.func65, Try.ntmps65
  go_wp2_with (first
    | (refine wp_lenV _ rfl _ TM TI TF rfl Try.underlying83 b n _ rfl HM.out ?_; intro c hc)
    | (at_make; refine wpList_make_own _ rfl _ _ 24 rfl w.heap.size TR iI (R 0 0 0) 3 Try.underlying24 hiI hz0I hz1I _ _ _ c rfl rfl rfl (by rw [hz2I]; omega) (by unfold maxLen; omega) (Nat.le_refl _) ?_; intro w1 hown hg
       have B1 := Lib.hid (below_grown hg (Nat.le_refl _) (by simp))
       have O1 := Lib.hid hown
       have M1 := Lib.hid (HM.out.kept hg (by simp))
       clear hown hg)
    | fail)
  refine (keys_calls _ _).mono ?_; rintro e w2 ⟨rfl, rfl⟩
  go_wp2_with fail
  refine (sorted_calls w1 b n _ M1.out (by omega) (owners HP.out).1 (owners HP.out).2).mono ?_; rintro e w3 ⟨v3, rfl, ho, hb⟩
  rw [rw_len] at ho
  have B13 := below_step (below_al (Below.refl w1.heap.size w1) (.cells #[.map (some b)] TM)) hb
  have M3 := Lib.hid (M1.out.keep B13)
  have O3 := Lib.hid (own_below O1.out B13)
  have K3 := Lib.hid ho
  have B3 := Lib.hid (below_step B1.out B13)
  obtain ⟨a3, c3, rfl⟩ := own_shape ho
  clear hb ho B13 M1 O1 B1 HM hz0I hz1I hz2I hiI
  generalize (w1.alloc (.cells #[.map (some b)] TM)).heap.size = G3 at K3
  have hl := HP.out.1.1
  go_wp2
  go_loopg [3, 13] m (fun g s3 s13 wr => ∃ k : Nat, k + g = m ∧ s13 = .int .i64 k ∧ wr.ownsRow w.heap.size TR 3 s3 k (IV (ys.take (k * 3))) ∧ wr.ownsRow G3 TI 1 (.slice a3 m c3) m (IV (rw_ (wO ys) m)) ∧ MapV Try.prog TI wr b n (Fm gm) ∧ Below w.heap.size w wr)
  case atStart => exact ⟨0, by omega, rfl, by simpa using O3.out, K3.out, M3.out, B3.out⟩
  case round =>
    clear M3 O3 K3 B3
    obtain ⟨k, hkg, rfl, ho, hk, hm', hbel⟩ := hrel
    have HO := Lib.hid ho
    have HK := Lib.hid hk
    have HM := Lib.hid hm'
    have BL := Lib.hid hbel
    clear hm' hbel
    by_cases hlt : k < m
    · obtain ⟨gk, rfl⟩ : ∃ g', gk = g' + 1 := ⟨gk - 1, by omega⟩
      obtain ⟨g3, c3', e3, _, _⟩ := own_some hk (by omega)
      cases e3
      have c0 := own_cell HK.out (g := g3) rfl k _ (getI (by rw [rw_len]; exact hlt))
      rw [rw_at _ hlt] at c0
      have hlook := HP.out.at_ hlt
      have htake := take3 hl hlt
      have hr := HP.out.1.2.1 k hlt
      have wfx := wf_owner hr.1 hr.2
      generalize wO ys k = X at c0 hlook htake wfx
      generalize wT ys k = T at hlook htake
      generalize wB ys k = B at hlook htake
      have HL := Lib.hid hlook
      have HT := Lib.hid htake
      have i0 : (0 : Int) ≤ (k : Int) := by omega
      have i1 : (k : Int) < (m : Int) := by omega
      clear hr hlook htake ho hk
      go_wp2_with (first
        | (refine wp_lookV _ rfl _ _ TM rfl TI TF Try.underlying3 Try.underlying83 (stFraction.R 0 0) zero_fr b n _ rfl HM.out X rfl wfx ?_; rw [HL.out, Option.getD_some])
        | (at_builtin; refine appL _ rfl _ _ rfl w.heap.size X T B HO.out rfl _ rfl rfl (by omega) BL.out.size ?_; intro v5 w5 hs5 ho hg hl5
           have O5 := Lib.hid ho
           have K5 := Lib.hid (HK.out.kept hg (own_diff2 HO.out HK.out (by decide)))
           have M5 := Lib.hid (HM.out.kept hg (fun e => by have := (HO.out.lt b e.symm).1; omega))
           have B5 := Lib.hid (BL.out.grown hg BL.out.size (fun j hj => (HO.out.lt j hj).1))
           clear ho hg hl5 hs5 c0)
        | fail)
      go_roundg gk
      case measure => omega
      case rel => exact ⟨k + 1, by omega, by go_num, by rw [← HT.out]; exact O5.out, K5.out, M5.out, B5.out⟩
    · obtain rfl : k = m := by omega
      have h := HO.out
      rw [List.take_of_length_le (by omega)] at h
      have O6 := Lib.hid h
      clear h ho hk
      go_wp2
      go_ret
      exact ⟨_, rfl, O6.out, BL.out⟩
end Go.Proofs.Ytopbeacfljoacaa.rgt
