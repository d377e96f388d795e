/- What FnChains asks besides: the laws' own helpers, and circles in two rows that are given. -/
import Derived.Test.YtaofgidhnnlgoaaChnI
import Derived.Test.YtaofgidhnnlgoaaOwn
import Derived.BigQuiet
namespace Go.Proofs.Ytaofgidhnnlgoaa.chn
open Go.RowKit Go.Proofs.Ytaofgidhnnlgoaa.kit Go.Proofs.Ytaofgidhnnlgoaa.lawi Go.Proofs.Ytaofgidhnnlgoaa.own Go.Proofs.Ytaofgidhnnlgoaa.rainl Go.Proofs.Ytaofgidhnnlgoaa.rain Go.Proofs.Ytaofgidhnnlgoaa.cis Go.Proofs.Ytaofgidhnnlgoaa.chl
theorem has_any (w : World) (v : Value) (n : Nat) (zs : List Int) (k : Int) (hn : n ≤ 4611686018427387904) (h : Row 1 w v n (IV zs)) (b : Bool) (hb : b = true ↔ ∃ j, j < n ∧ zs.getD j 0 = k) :
    Calls Try.prog 15 #[v, .int .i64 k] w fun e w' => e = .returned (.bool b) ∧ w = w' := by
  obtain ⟨hl, a, ca, rfl, ha⟩ := h
  have hl : zs.length = n := by simpa using hl
  go_enter Try.func15, Try.ntmps15
  go_wp2
  go_loopw [5] (fun i wr => ∃ j : Nat, j ≤ n ∧ i = .int .i64 j ∧ (∀ i, i < j → zs.getD i 0 ≠ k) ∧ w = wr) (fun i _ => n - (intOf i).toNat)
  case atStart => exact ⟨0, Nat.zero_le _, rfl, fun _ h => by omega, rfl⟩
  case round =>
    obtain ⟨j, hj, rfl, hno, rfl⟩ := hrel
    by_cases hlt : j < n
    · obtain ⟨b1, o1, rfl, h1⟩ := ha.resolve_left (by omega)
      have g1 := h1 j _ (getI (by omega))
      clear h1 ha
      obtain ⟨z, hz⟩ : ∃ z, zs.getD j 0 = z := ⟨_, rfl⟩
      rw [hz] at g1
      by_cases e : z = k
      · obtain rfl : b = true := hb.2 ⟨j, hlt, by rw [hz, e]⟩
        have t : (z == k) = true := by simp [e]
        clear hb hno
        go_wp2
        go_ret
        exact ⟨rfl, rfl⟩
      · have t : (z == k) = false := by simp [e]
        have HB := Lib.hid hb
        have HN := Lib.hid hno
        clear hb hno
        go_wp2
        go_roundw
        case rel => exact ⟨j + 1, by omega, by go_num, fun i hi => by
          by_cases q : i = j
          · subst q; rw [hz]; exact e
          · exact HN.out i (by omega), by first | rfl | trivial⟩
        case measure => simp [intOf]; omega
    · obtain rfl : j = n := by omega
      obtain rfl : b = false := by
        cases b
        · rfl
        · obtain ⟨i, hi, e⟩ := hb.1 rfl
          exact absurd e (hno i hi)
      clear hb hno
      go_wp2
      go_ret
      exact ⟨rfl, rfl⟩
theorem circ_nil {ns : List Int} {n : Nat} (h : ∀ i, i < n → ¬ OnC ns n ((i : Nat) : Int)) : ∀ m, m ≤ n → circ ns n m = []
  | 0, _ => rfl
  | m + 1, hm => by rw [circ_no (h m (by omega)), circ_nil h m (by omega)]
theorem circ3 : circ [1, 0, 0] 3 3 = [0, 1] := by
  have h0 : OnC [1, 0, 0] 3 ((0 : Nat) : Int) := ⟨1, by decide⟩
  have h1 : OnC [1, 0, 0] 3 ((1 : Nat) : Int) := ⟨1, by decide⟩
  have key : ∀ j, it [1, 0, 0] 3 2 (j + 1) = 0 ∨ it [1, 0, 0] 3 2 (j + 1) = 1 := fun j => by
    induction j with
    | zero => exact .inl (by decide)
    | succ j ih =>
      rw [it_succ]
      rcases ih with e | e <;> rw [e]
      · exact .inr (by decide)
      · exact .inl (by decide)
  have h2 : ¬ OnC [1, 0, 0] 3 ((2 : Nat) : Int) := fun ⟨j, hj⟩ => by
    have := key j
    rw [show ((2 : Nat) : Int) = 2 from rfl] at hj
    omega
  rw [circ_no h2, circ_yes h1, circ_yes h0, circ]
  rfl
end Go.Proofs.Ytaofgidhnnlgoaa.chn
