/- Hexadecimal figures as plain functions on lists of bytes. -/
import Derived.WalkKit
import Derived.Laws.BytesArg
namespace Go.Proofs.YtibenbkkokcpbaaDoor.hexl
/-- The figure of a number from 0 to 15. -/
def fig (x : Int) : Int := if x < 10 then 48 + x else 87 + x
def hexI : List UInt8 → List Int
  | [] => []
  | b :: r => fig ((b.toNat : Int) / 16) :: fig ((b.toNat : Int) % 16) :: hexI r
theorem hexI_append (l m : List UInt8) : hexI (l ++ m) = hexI l ++ hexI m := by
  induction l with
  | nil => rfl
  | cons b r ih => simp [hexI, ih]
theorem hexI_len (l : List UInt8) : (hexI l).length = 2 * l.length := by
  induction l with
  | nil => rfl
  | cons b r ih => simp [hexI, ih]; omega
theorem take_snoc (s : ByteArray) (k : Nat) (h : k < s.size) : s.data.toList.take (k + 1) = s.data.toList.take k ++ [s[k]] := by
  rw [List.take_succ_eq_append_getElem (by simpa using h)]; rfl
theorem hexI_snoc (s : ByteArray) (k : Nat) (h : k < s.size) :
    (hexI (s.data.toList.take (k + 1))).map (Value.int .u8) = (hexI (s.data.toList.take k)).map (Value.int .u8) ++ [.int .u8 (fig ((s[k].toNat : Int) / 16)), .int .u8 (fig ((s[k].toNat : Int) % 16))] := by
  rw [take_snoc s k h, hexI_append]; simp [hexI]
theorem hexI_take_len (s : ByteArray) (k : Nat) (h : k ≤ s.size) : (hexI (s.data.toList.take k)).length = 2 * k := by
  rw [hexI_len, List.length_take]; simp; omega
def hexS (s : ByteArray) : ByteArray := strOfNums (hexI s.data.toList)
theorem figs_nat : ∀ n : Fin 16, (((⟨#[48, 49, 50, 51, 52, 53, 54, 55, 56, 57, 97, 98, 99, 100, 101, 102]⟩ : ByteArray)[n.1]'(n.2)).toNat : Int) = fig n.1 := by decide
theorem figs (y : Int) (h : y.toNat < (⟨#[48, 49, 50, 51, 52, 53, 54, 55, 56, 57, 97, 98, 99, 100, 101, 102]⟩ : ByteArray).size) (h0 : 0 ≤ y) :
    (((⟨#[48, 49, 50, 51, 52, 53, 54, 55, 56, 57, 97, 98, 99, 100, 101, 102]⟩ : ByteArray)[y.toNat]'h).toNat : Int) = fig y := by
  have := figs_nat ⟨y.toNat, h⟩
  rw [this]; congr 1; simp; omega
end Go.Proofs.YtibenbkkokcpbaaDoor.hexl
