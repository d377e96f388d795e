/- Hexadecimal figures read back, as plain functions. -/
import Derived.WalkKit
import Derived.Laws.BytesArg
import Derived.Lib.Bytes
import Derived.Shelf.Small.Strs
import Derived.Test.YtibenbkkokcpbaaDoorHexL
namespace Go.Proofs.YtibenbkkokcpbaaDoor.decl
open Go.Proofs.YtibenbkkokcpbaaDoor.hexl
/-- The value of a figure; -1 if it is none. -/
def val (x : Int) : Int := if 48 ≤ x ∧ x ≤ 57 then x - 48 else if 97 ≤ x ∧ x ≤ 102 then x - 87 else -1
theorem val_bd (x : Int) : -1 ≤ val x ∧ val x ≤ 15 := by unfold val; repeat' split <;> omega
def av (s : ByteArray) (j : Nat) : Int := val ((s.data.toList.getD j 0).toNat : Int)
theorem av_bd (s : ByteArray) (j : Nat) : -1 ≤ av s j ∧ av s j ≤ 15 := val_bd _
theorem val_at (s : ByteArray) (j : Nat) (h : j < s.size) : val (s[j].toNat : Int) = av s j := by
  have : s.data.toList.getD j 0 = s[j] := by
    rw [List.getD_eq_getElem?_getD, List.getElem?_eq_getElem (by simpa using h)]; rfl
  unfold av; rw [this]
def outI (s : ByteArray) (k : Nat) : List Int := (List.range k).map fun j => 16 * av s (2 * j) + av s (2 * j + 1)
theorem outI_len (s : ByteArray) (k : Nat) : (outI s k).length = k := by simp [outI]
theorem outI_succ (s : ByteArray) (k m : Nat) (h : m = 2 * k) (x y : Int) (hx : av s m = x) (hy : av s (m + 1) = y) :
    (outI s (k + 1)).map (Value.int .u8) = (outI s k).map (Value.int .u8) ++ [.int .u8 (16 * x + y)] := by
  subst h hx hy; simp [outI, List.range_succ]
def Good (s : ByteArray) (m : Nat) : Prop := ∀ j, j < m → 0 ≤ av s j
theorem index_nat : ∀ n : Fin 256, Lib.indexByte [48, 49, 50, 51, 52, 53, 54, 55, 56, 57, 97, 98, 99, 100, 101, 102] (UInt8.ofNat n.1) = val n.1 := by decide +kernel
theorem index_val (c : UInt8) : Lib.indexByte [48, 49, 50, 51, 52, 53, 54, 55, 56, 57, 97, 98, 99, 100, 101, 102] c = val (c.toNat : Int) := by
  have := index_nat ⟨c.toNat, c.toNat_lt⟩
  simpa using this
theorem index_int (c : UInt8) : Lib.indexByte [48, 49, 50, 51, 52, 53, 54, 55, 56, 57, 97, 98, 99, 100, 101, 102] ((c.toNat : Int).toNat.toUInt8) = val (c.toNat : Int) := by
  rw [← index_val]; congr 1; simp
theorem or_nat : ∀ a b : Fin 16, bits .or .i64 ((a.1 : Int) * 16) (b.1 : Int) = (a.1 : Int) * 16 + b.1 := by decide +kernel
theorem or_join (x y : Int) (h0 : 0 ≤ x) (h1 : x ≤ 15) (h2 : 0 ≤ y) (h3 : y ≤ 15) : bits .or .i64 (x * 16) y = x * 16 + y := by
  have := or_nat ⟨x.toNat, by omega⟩ ⟨y.toNat, by omega⟩
  simpa [Int.toNat_of_nonneg h0, Int.toNat_of_nonneg h2] using this
end Go.Proofs.YtibenbkkokcpbaaDoor.decl
