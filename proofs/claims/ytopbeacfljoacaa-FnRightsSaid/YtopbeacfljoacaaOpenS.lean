/- Arguments opened: structs of ints by value, slices of them. -/
import Derived.Test.YtopbeacfljoacaaKit
import Derived.Deep.Slices
import Derived.Deep.Fields
import Derived.ChangeSame
namespace Go.Proofs.Ytopbeacfljoacaa.opens
open Go.ChangeShapes Go.WideShapes Go.RowKit Go.Deep Go.Proofs.Ytopbeacfljoacaa.kit
section
variable {H : Type} {enc : TypeId × Value → H} {P : Program} {w : World} {base : Nat} {spare : Nat → Bool} {held : Bool}
/-- Whatever reads at this type is made of ints alone. -/
def Flat (enc : TypeId × Value → H) (P : Program) (w : World) (base : Nat) (spare : Nat → Bool) (held : Bool) (t : TypeId) : Prop :=
  ∀ fuel cs x, DataW.trod enc P w base spare held fuel t cs = some x → ∀ u ∈ cs, ∃ z : Int, u = .int .i64 z ∧ (Lit.int .i64 z).wf = true
theorem Flat.int {t : TypeId} (ht : P.underlying t = some (.int .i64)) : Flat enc P w base spare held t := by
  intro fuel cs x h u hu
  obtain ⟨z, rfl, _, hz⟩ := DataW.trod_int ht h
  simp at hu
  exact ⟨z, hu, hz⟩
theorem Flat.struct {t : TypeId} {fs : Array Field} (ht : P.underlying t = some (.struct fs))
    (hc : ∀ q, q < P.cellsOf t → ∃ (i : Nat) (f : Field), fs[i]? = some f ∧ f.offset ≤ q ∧ q < f.offset + P.cellsOf f.type ∧ Flat enc P w base spare held f.type) : Flat enc P w base spare held t := by
  intro fuel cs x h u hu
  obtain ⟨xs, n, _, _, hl, hxl, hg⟩ := DataW.trod_struct ht h
  obtain ⟨q, hq, rfl⟩ := List.getElem_of_mem hu
  obtain ⟨i, f, hf, h1, h2, h3⟩ := hc q (by omega)
  have hi : i < xs.length := by rw [hxl]; exact (Array.getElem?_eq_some_iff.1 hf).1
  have e := hg i f hf
  rw [List.getElem?_eq_getElem hi] at e
  refine h3 _ _ _ e _ ?_
  refine List.mem_iff_getElem.2 ⟨q - f.offset, by simp; omega, ?_⟩
  simp only [List.getElem_take, List.getElem_drop]
  congr 1
  omega
theorem ints_of : ∀ {cs : List Value}, (∀ u ∈ cs, ∃ z : Int, u = .int .i64 z ∧ (Lit.int .i64 z).wf = true) → ∃ zs : List Int, cs = zs.map (Value.int .i64) ∧ ∀ z ∈ zs, (Lit.int .i64 z).wf = true
  | [], _ => ⟨[], rfl, fun _ h => by cases h⟩
  | c :: cs, h => by
    obtain ⟨z, rfl, hz⟩ := h c (by simp)
    obtain ⟨zs, rfl, hw⟩ := ints_of (cs := cs) fun u hu => h u (by simp [hu])
    exact ⟨z :: zs, rfl, fun x hx => by rcases List.mem_cons.1 hx with rfl | hx; exact hz; exact hw x hx⟩
/-- A struct of ints by value. -/
theorem agg_of {r : Reach} {b0 : Nat} {t : TypeId} {fs : Array Field} {v : Value} {d : DataW H} {p : List MemPlace} (ht : P.underlying t = some (.struct fs))
    (hflat : Flat enc P w base spare held t) (hv : Value.okWide P w r b0 t v) (h : DataW.Trod enc P w base spare held t v d p) :
    ∃ cs : Array Value, v = .agg cs ∧ cs.size = P.cellsOf t ∧ ∃ zs : List Int, v.cells.toList = zs.map (Value.int .i64) ∧ ∀ z ∈ zs, (Lit.int .i64 z).wf = true := by
  obtain ⟨cs, rfl, hsz⟩ := okWide_struct ht hv
  obtain ⟨fuel, hf⟩ := h
  obtain ⟨zs, hz, hw⟩ := ints_of (hflat _ _ _ hf)
  exact ⟨cs, rfl, hsz, zs, hz, hw⟩
/-- A slice of structs of ints. -/
theorem rows_of {t e : TypeId} {fuel : Nat} {cs : List Value} {x : DataW H × List MemPlace} (ht : P.underlying t = some (.slice e)) (m : Nat) (hm0 : 0 < m) (hm : P.cellsOf e = m)
    (hflat : Flat enc P w base spare held e) (h : DataW.trod enc P w base spare held fuel t cs = some x) :
    ∃ (a : Option Addr) (len cap : Nat) (zs : List Int), cs = [.slice a len cap] ∧ Row m w (.slice a len cap) len (zs.map (Value.int .i64)) ∧ len ≤ 9223372036854775807 ∧ (∀ z ∈ zs, (Lit.int .i64 z).wf = true) ∧ len ≤ cap := by
  rcases open_slice ht h with ⟨rfl, _⟩ | ⟨a, len, cap, k, n, D, Pl, rfl, _, hl, hcap, hk, _, hi⟩
  · exact ⟨none, 0, 0, [], rfl, ⟨by simp, none, 0, rfl, .inl rfl⟩, by omega, (fun _ h => by cases h), Nat.le_refl _⟩
  · have hlk : len ≤ k := by rw [hk]; split <;> omega
    rw [hm] at hi
    have hq : ∀ q, q < len * m → ∃ z : Int, w.cell? (a.add q) = some (.int .i64 z) ∧ (Lit.int .i64 z).wf = true := by
      intro q hq
      have hqm : q / m < len := Nat.div_lt_of_lt_mul (by rw [Nat.mul_comm]; exact hq)
      obtain ⟨cs', hc, htr⟩ := hi (q / m) (by omega)
      obtain ⟨_, hcl, hat⟩ := World.cells?_some hc
      have hr := Nat.mod_lt q hm0
      have h1 := hat (q % m) hr
      have hr' : q % m < cs'.length := by omega
      rw [List.getElem?_eq_getElem hr'] at h1
      obtain ⟨z, hz, hw⟩ := hflat _ _ _ htr cs'[q % m] (List.getElem_mem hr')
      refine ⟨z, ?_, hw⟩
      rw [← hz, ← h1, add_add]
      congr 2
      rw [Nat.mul_comm]
      exact (Nat.div_add_mod q m).symm
    obtain ⟨F, hF⟩ := choose_lt (α := Int) (p := fun q z => w.cell? (a.add q) = some (.int .i64 z) ∧ (Lit.int .i64 z).wf = true) hq
    refine ⟨some a, len, cap, (List.range (len * m)).map F, rfl, ⟨by simp, some a, cap, rfl, ?_⟩, by unfold maxLen at hcap; omega, ?_, hl⟩
    · rcases Nat.eq_zero_or_pos (len * m) with h0 | h0
      · rcases Nat.mul_eq_zero.1 h0 with h0 | h0
        · exact .inl h0
        · omega
      · obtain ⟨b, off, spot⟩ := a
        have hspot : spot = none := by simpa [Addr.add] using World.cell?_spot (hF 0 h0).1
        subst hspot
        refine .inr ⟨b, off, rfl, fun j u hu => ?_⟩
        have hj : j < len * m := by
          have := (List.getElem?_eq_some_iff.1 hu).1
          simpa using this
        have := (hF j hj).1
        rw [Go.WideShapes.add_plain] at this
        rw [this, ← hu]
        simp [hj]
    · intro z hz
      obtain ⟨q, hq2, rfl⟩ := List.mem_map.1 hz
      exact (hF q (by simpa using hq2)).2
end
end Go.Proofs.Ytopbeacfljoacaa.opens
