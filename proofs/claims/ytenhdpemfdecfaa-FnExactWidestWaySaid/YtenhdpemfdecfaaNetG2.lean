/- Nets of pipes: the specification's WithoutPipe where there is such a pipe. -/
import Derived.Test.YtenhdpemfdecfaaNetG
namespace Go.Proofs.Ytenhdpemfdecfaa.nt
open Go.RowKit Go.Proofs.Ytenhdpemfdecfaa.kit Go.Proofs.Ytenhdpemfdecfaa.lawi Go.Proofs.Ytenhdpemfdecfaa.own Go.Proofs.Ytenhdpemfdecfaa.rain Go.Proofs.Ytenhdpemfdecfaa.yrl Go.Proofs.Ytenhdpemfdecfaa.net Go.Proofs.Ytenhdpemfdecfaa.cpy Go.Proofs.Ytenhdpemfdecfaa.del
/-- A row's first elements, and those from an element on. -/
theorem row_take {w : World} {b o n ca k : Nat} {zs : List Int} (h : Row 3 w (.slice (some ⟨b, o, none⟩) n ca) n (IV zs)) (hk : k ≤ n) (hn : 0 < n) : Row 3 w (.slice (some ⟨b, o, none⟩) k ca) k (IV (zs.take (k * 3))) := by
  have hl : zs.length = n * 3 := by simpa using h.1
  obtain ⟨b', o', e, hc⟩ := h.at_ hn
  cases e
  refine ⟨by simp [IV]; omega, _, _, rfl, .inr ⟨b, o, rfl, fun j u hu => hc j u ?_⟩⟩
  rw [← hu]
  have hj : j < k * 3 := by
    have := (List.getElem?_eq_some_iff.1 hu).1
    simp [IV] at this
    omega
  unfold IV
  rw [List.map_take, List.getElem?_take_of_lt hj]
theorem row_drop {w : World} {b o n ca c' i : Nat} {zs : List Int} (h : Row 3 w (.slice (some ⟨b, o, none⟩) n ca) n (IV zs)) (hi : i ≤ n) (hn : 0 < n) (A : Addr) (hA : A = ⟨b, o + i * 3, none⟩ ∨ n = i) (hs : A.spot = none) : Row 3 w (.slice (some A) (n - i) c') (n - i) (IV (zs.drop (i * 3))) := by
  have hl : zs.length = n * 3 := by simpa using h.1
  obtain ⟨b', o', e, hc⟩ := h.at_ hn
  cases e
  refine ⟨by simp [IV]; omega, _, _, rfl, ?_⟩
  rcases hA with rfl | hA
  · refine .inr ⟨b, o + i * 3, rfl, fun j u hu => ?_⟩
    have := hc (i * 3 + j) u (by rw [← hu]; unfold IV; rw [List.map_drop, List.getElem?_drop])
    rwa [← Nat.add_assoc] at this
  · exact .inl (by omega)
end Go.Proofs.Ytenhdpemfdecfaa.nt
