/- What was encoded is decoded again: plain lists. -/
import Derived.Test.YtibenbkkokcpbaaDoorDecL
namespace Go.Proofs.YtibenbkkokcpbaaDoor.hext
open Go.Proofs.YtibenbkkokcpbaaDoor.hexl Go.Proofs.YtibenbkkokcpbaaDoor.decl
theorem hexI_at : ∀ (l : List UInt8) (j : Nat) (h : j < l.length), (hexI l)[2 * j]? = some (fig ((l[j].toNat : Int) / 16)) ∧ (hexI l)[2 * j + 1]? = some (fig ((l[j].toNat : Int) % 16))
  | [], j, h => by simp at h
  | b :: r, 0, _ => by simp [hexI]
  | b :: r, j + 1, h => by
    have := hexI_at r j (by simpa using h)
    simpa [hexI, Nat.mul_add, Nat.add_right_comm] using this
theorem val_fig (y : Int) (h0 : 0 ≤ y) (h1 : y < 16) : val (fig y) = y := by unfold val fig; repeat' split <;> omega
theorem fig_bd (y : Int) (h0 : 0 ≤ y) (h1 : y < 16) : 48 ≤ fig y ∧ fig y ≤ 102 := by unfold fig; split <;> omega
theorem av_of {s : ByteArray} {i : Nat} {y : Int} (h : (hexI s.data.toList)[i]? = some (fig y)) (h0 : 0 ≤ y) (h1 : y < 16) : av (hexS s) i = y := by
  have hb := fig_bd y h0 h1
  unfold av hexS
  rw [strOfNums_data, List.getD_eq_getElem?_getD, List.getElem?_map, h]
  simp only [Option.map_some, Option.getD_some, UInt8.toNat_ofNat']
  rw [show (((fig y).toNat % 2 ^ 8 : Nat) : Int) = fig y from by omega]
  exact val_fig y h0 h1
theorem hex_size (s : ByteArray) : (hexS s).size = 2 * s.size := by
  unfold hexS
  rw [strOfNums_size, hexI_len]; rfl
theorem hex_good (s : ByteArray) : decl.Good (hexS s) (hexS s).size := by
  intro j hj
  rw [hex_size] at hj
  have hl : j / 2 < s.data.toList.length := by show _ < s.data.size; have : s.size = s.data.size := rfl; omega
  obtain ⟨h1, h2⟩ := hexI_at s.data.toList (j / 2) hl
  have hlt := (s.data.toList[j / 2]).toNat_lt
  rcases (show j = 2 * (j / 2) ∨ j = 2 * (j / 2) + 1 from by omega) with e | e
  · rw [← e] at h1; rw [av_of h1 (by omega) (by omega)]; omega
  · rw [← e] at h2; rw [av_of h2 (by omega) (by omega)]; omega
theorem hex_back (s : ByteArray) : strOfNums (outI (hexS s) ((hexS s).size / 2)) = s := by
  have e : ∀ a b : ByteArray, a.data.toList = b.data.toList → a = b := fun a b h => by
    cases a; cases b; simp at h; rw [h]
  apply e
  rw [strOfNums_data, hex_size, Nat.mul_div_cancel_left _ (by omega)]
  apply List.ext_getElem?
  intro j
  by_cases hj : j < s.size
  · have hl : j < s.data.toList.length := by show _ < s.data.size; exact hj
    obtain ⟨h1, h2⟩ := hexI_at s.data.toList j hl
    have hlt := (s.data.toList[j]).toNat_lt
    rw [List.getElem?_eq_getElem hl, List.getElem?_map, outI, List.getElem?_map, List.getElem?_range hj]
    simp only [Option.map_some, Option.some.injEq]
    rw [av_of h1 (by omega) (by omega), av_of h2 (by omega) (by omega)]
    rw [show (16 * (((s.data.toList[j]).toNat : Int) / 16) + ((s.data.toList[j]).toNat : Int) % 16).toNat = (s.data.toList[j]).toNat from by omega]
    simp
  · rw [List.getElem?_eq_none (by simp [outI]; omega), List.getElem?_eq_none (by show s.data.size ≤ j; have : s.size = s.data.size := rfl; omega)]
end Go.Proofs.YtibenbkkokcpbaaDoor.hext
