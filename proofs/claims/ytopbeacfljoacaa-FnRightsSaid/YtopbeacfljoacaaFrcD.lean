/- Drawn fractions. -/
import Derived.Test.YtopbeacfljoacaaDrawN
import Derived.Test.YtopbeacfljoacaaFrcS
namespace Go.Proofs.Ytopbeacfljoacaa.frc
open Go.RowKit Go.Proofs.Ytopbeacfljoacaa.kit Go.Proofs.Ytopbeacfljoacaa.lawi Go.Proofs.Ytopbeacfljoacaa.own Go.Proofs.Ytopbeacfljoacaa.rain Go.Proofs.Ytopbeacfljoacaa.stFraction Go.Proofs.Ytopbeacfljoacaa.draw
/-- A drawn fraction: valid and small. -/
def FairF (t b : Int) : Prop := Fk t b ∧ t ≤ 39 ∧ b ≤ 40
theorem grown_of {w w' : World} (h : Below w.heap.size w w') : w.grownBy w' none := ⟨h.os, h.tape, h.output, h.size, fun k hk _ => h.block k hk⟩
theorem fair_made {x y : Int} (x0 : 0 ≤ x) (x1 : x < 40) (y0 : 0 ≤ y) (y1 : y < 40) : ∃ t b, Mk x (1 + y) t b true ∧ FairF t b := by
  obtain ⟨T, rfl⟩ : ∃ T : Nat, x = T := ⟨x.toNat, by omega⟩
  obtain ⟨B, hB⟩ : ∃ B : Nat, 1 + y = B := ⟨(1 + y).toNat, by omega⟩
  rw [hB]
  obtain ⟨t, b, r, hr⟩ := Red.ex T B
  obtain ⟨rfl, e1, e2⟩ := hr.small (by omega) (by omega)
  have h1 := rT_le T B
  have h2 := rB_le T B
  refine ⟨t, b, ⟨fun _ => hr, fun hn => absurd ⟨⟨by omega, by omega⟩, by omega, by omega⟩ hn⟩, (hr.ok (by omega)).1, by omega, by omega⟩
def DrewF (w : World) (c : Nat) (a : Option Addr) (len cap : Nat) (e : Ending) (w' : World) : Prop :=
  ∃ t b, e = .returned (R t b) ∧ FairF t b ∧ Cur w' c a len cap ∧ w.grownBy w' (some c)
/-- What is drawn: two fractions. -/
def DrewFF (w : World) (e : Ending) (w' : World) : Prop := ∃ t b t' b', e = .returned (.tuple #[R t b, R t' b']) ∧ FairF t b ∧ FairF t' b' ∧ Below w.heap.size w w'
end Go.Proofs.Ytopbeacfljoacaa.frc
