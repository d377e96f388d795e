/- Nets of pipes: the specification's search, a set as bits. -/
import Derived.Test.YtilabfmnaegidaaNetC
import Derived.Test.YtilabfmnaegidaaBits
namespace Go.Proofs.Ytilabfmnaegidaa.nt
open Go.RowKit Go.Proofs.Ytilabfmnaegidaa.kit Go.Proofs.Ytilabfmnaegidaa.lawi Go.Proofs.Ytilabfmnaegidaa.own Go.Proofs.Ytilabfmnaegidaa.rain Go.Proofs.Ytilabfmnaegidaa.yrl Go.Proofs.Ytilabfmnaegidaa.net Go.Proofs.Ytilabfmnaegidaa.bits_
/-- The set of bits s says what f says of the places 0 .. 7. -/
def BS (s : Nat) (f : Int → Bool) : Prop := s < 256 ∧ ∀ u : Nat, u < 8 → s.testBit u = f (u : Int)
theorem BS.one {a : Nat} (h : a < 8) : BS (1 <<< a) (fun v => decide (v = (a : Int))) :=
  ⟨by rw [Nat.one_shiftLeft]; exact Nat.lt_of_lt_of_le (Nat.pow_lt_pow_right (by decide) h) (by decide : 2 ^ 8 ≤ 256), fun u hu => by
    rw [bit_one]
    exact decide_eq_decide.2 ⟨fun h => by rw [h], fun h => by omega⟩⟩
theorem BS.add {s t : Nat} {f : Int → Bool} (h : BS s f) (ht : t < 8) : BS (s ||| 1 <<< t) (fun v => decide (v = (t : Int)) || f v) :=
  ⟨set_lt (n := 8) h.1 ht, fun u hu => by
    rw [bit_add, h.2 u hu]
    congr 1
    exact decide_eq_decide.2 ⟨fun h => by rw [h], fun h => by omega⟩⟩
theorem BS.bit {s : Nat} {f : Int → Bool} (h : BS s f) {u : Nat} (hu : u < 8) : (s >>> u) &&& 1 = if f (u : Int) = true then 1 else 0 := by
  rw [bit_val, h.2 u hu]
end Go.Proofs.Ytilabfmnaegidaa.nt
