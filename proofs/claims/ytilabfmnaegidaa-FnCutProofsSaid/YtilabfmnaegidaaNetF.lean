/- Nets of pipes: a pipe taken out of a row (slices.Delete). -/
import Derived.Test.YtilabfmnaegidaaNetD
import Derived.Test.YtilabfmnaegidaaDel
import Derived.Deep.RegionLaw
namespace Go.Proofs.Ytilabfmnaegidaa.nt
open Go.RowKit Go.Proofs.Ytilabfmnaegidaa.kit Go.Proofs.Ytilabfmnaegidaa.lawi Go.Proofs.Ytilabfmnaegidaa.own Go.Proofs.Ytilabfmnaegidaa.rain Go.Proofs.Ytilabfmnaegidaa.yrl Go.Proofs.Ytilabfmnaegidaa.net Go.Proofs.Ytilabfmnaegidaa.cpy Go.Proofs.Ytilabfmnaegidaa.del
theorem zero_pipe : ∀ w : World, (zeroValue 63).run Try.prog w = .ok (stPipe.R 0 0 0) w := fun w => by go_simp
theorem iv_less (zs : List Int) (k : Nat) : IV (less zs k) = (IV zs).take (k * 3) ++ (IV zs).drop ((k + 1) * 3) := by
  unfold IV less
  rw [List.map_append, List.map_take, List.map_drop]
set_option maxHeartbeats 4000000 in
theorem delete_pipe (w : World) (lo hi : Nat) (v : Value) (n k : Nat) (zs : List Int) (hk : k < n) (hn : n ≤ 1048576) (J : Int) (hJ : J = (k : Int) + 1) (h : OwnR w lo hi 63 3 v n (IV zs)) :
    Calls Try.prog 69 #[v, .int .i64 k, .int .i64 J] w fun e w' => ∃ u, e = .returned u ∧ OwnR w' lo hi 63 3 u (n - 1) (IV (less zs k)) ∧ Chg lo hi w w' := by
  subst hJ
  obtain ⟨i0, hi0, hz0, hz1, hz2⟩ := info_parts stPipe.info
  obtain ⟨g, ca, rfl, hg1, hg2⟩ := own_some h.own (by omega)
  have hcap : n ≤ ca := h.cap _ _ _ rfl
  have hca : ca ≤ 9223372036854775807 := by
    rcases h.own.2 with ⟨h1, _⟩ | ⟨g', cap, cur, e1, _, _, _, hm, _⟩
    · cases h1
    · cases e1
      unfold maxLen at hm
      omega
  have hl : zs.length = n * 3 := by simpa using h.own.1
  have HD := own_del (h.keep (below_dr (Below.refl _ _))) hk [.int .i64 0, .int .i64 0, .int .i64 0] rfl
  obtain ⟨news, hnews⟩ : ∃ news, (IV zs).drop ((k + 1) * 3) = news := ⟨_, rfl⟩
  have hnl : news.length = (n - (k + 1)) * 3 := by rw [← hnews]; simp; omega
  obtain ⟨A, hA, hsrc⟩ : ∃ A : Addr, (if ca = k + 1 then (some ⟨g, 0, none⟩ : Option Addr) else some ⟨g, (k + 1) * 3, none⟩) = some A ∧ Hid (∀ j u, news[j]? = some u → w.drew.cell? (A.add j) = some u) := by
    by_cases h1 : ca = k + 1
    · refine ⟨⟨g, 0, none⟩, by simp [h1], fun j u hu => ?_⟩
      have : news = [] := List.eq_nil_of_length_eq_zero (by omega)
      rw [this] at hu
      simp at hu
    · refine ⟨⟨g, (k + 1) * 3, none⟩, by simp [h1], fun j u hu => ?_⟩
      rw [Addr.add_lit]
      rw [← hnews, List.getElem?_drop] at hu
      exact own_cell h.own (g := g) rfl _ u hu
  have s1 : Hid (news.length = (n - (k + 1)) * 3) := hnl
  have s2 : Hid (∀ u ∈ news, u.oneCell' = true) := by
    intro u hu
    rw [← hnews] at hu
    obtain ⟨x, _, rfl⟩ := List.mem_map.1 (List.mem_of_mem_drop hu)
    rfl
  have s3 : Hid (∀ j, j < news.length → (w.drew.cell? ⟨g, 0 + k * 3 + j, none⟩).isSome = true ∧ w.drew.frozen? ⟨g, 0 + k * 3 + j, none⟩ = false) := by
    intro j hj
    rw [Nat.zero_add]
    have hc := own_cell h.own (g := g) rfl (k * 3 + j) _ (getI (by omega))
    exact ⟨by show (w.cell? _).isSome = true; rw [hc]; rfl, own_free h.own (g := g) rfl _⟩
  obtain ⟨W1, hW1⟩ : ∃ W1, w.drew.setCells g (0 + k * 3) news = W1 := ⟨_, rfl⟩
  rw [hnews] at HD
  rw [show k * 3 = 0 + k * 3 by omega, hW1, show 0 + k * 3 = k * 3 by omega] at HD
  have hat : ∀ j, j < n * 3 → (W1.cell? ⟨g, j, none⟩).isSome = true ∧ W1.frozen? ⟨g, j, none⟩ = false := fun j hj => by
    have := own_at (h.keep (below_dr (Below.refl _ _))) news (0 + k * 3) j hj
    rwa [hW1] at this
  have hcl : ∀ ty, (Builtin.clear_ #[24] ty #[.slice (some ⟨g, (k + (n - (k + 1))) * 3, none⟩) (n - (k + (n - (k + 1)))) (ca - (k + (n - (k + 1))))]).run Try.prog W1 = .ok (.tuple #[]) (W1.setCells g ((k + (n - (k + 1))) * 3) [.int .i64 0, .int .i64 0, .int .i64 0]) := fun ty => by
    rw [show k + (n - (k + 1)) = n - 1 by omega, show n - (n - 1) = 1 by omega]
    refine run_clear_any W1 _ 63 ty (stPipe.R 0 0 0) Try.underlying24 zero_pipe g _ 1 _ (by decide) _ (by kernel_rfl) (by simp [Value.oneCell']) (fun j hj => (hat ((n - 1) * 3 + j) (by simp at hj; omega)).1) (fun j hj => (hat ((n - 1) * 3 + j) (by simp at hj; omega)).2)
  have HX := Lib.hid HD
  have HW := Lib.hid hW1
  have HN := Lib.hid hnews
  have hic : k ≤ ca := by omega
  have hjc : k + 1 ≤ ca := by omega
  have hjn : (k : Int) + 1 ≤ (n : Int) := by omega
  have hp0 : (0 : Int) ≤ (k : Int) + 1 := by omega
  have hp2 : ((k : Int) + 1).toNat = k + 1 := by omega
  have hne : ¬ (k : Int) = (k : Int) + 1 := by omega
  have hne2 : ¬ ca = k + (n - (k + 1)) := by omega
  have hkc : k ≤ n := by omega
  have hC : Chg lo hi w W1 := by
    rw [← hW1]
    exact (Chg.of_below (below_dr (Below.refl _ _))).trans (chg_setCells hg1 (h.2.1 g rfl) _ _)
  have hC2 := Lib.hid (hC.trans (chg_setCells hg1 (h.2.1 g rfl) [.int .i64 0, .int .i64 0, .int .i64 0] ((n - 1) * 3)))
  clear h hnews hnl HD hW1 hat hC
  go_enter Try.func69, Try.ntmps69
  go_wp2_with fail
  go_region_law (refine step_append_room rfl (.tmp 22) (.tmp 25) 24 rfl 63 i0 3 Try.underlying24 hi0 hz1 g 0 k ca (by simp [Act.eval, Act.put]) A (n - (k + 1)) (ca - (k + 1)) news (by simp [Act.eval, Act.put]) s1.out hsrc.out s2.out (by omega) s3.out ?_; rw [HW.out])
  go_wp2
  go_ret
  refine ⟨_, rfl, ?_, ?_⟩
  · have := HX.out
    rw [show k + (n - (k + 1)) = n - 1 by omega]
    rw [iv_less, HN.out]
    exact this
  · rw [show k + (n - (k + 1)) = n - 1 by omega]
    exact hC2.out
end Go.Proofs.Ytilabfmnaegidaa.nt
