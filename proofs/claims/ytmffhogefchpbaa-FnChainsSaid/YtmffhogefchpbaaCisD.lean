/- Drawn cisterns. -/
import Derived.Test.YtmffhogefchpbaaDrawN
import Derived.Test.YtmffhogefchpbaaCis
namespace Go.Proofs.Ytmffhogefchpbaa.cis
open Go.RowKit Go.Proofs.Ytmffhogefchpbaa.kit Go.Proofs.Ytmffhogefchpbaa.lawi Go.Proofs.Ytmffhogefchpbaa.draw
def FairC (r l : Int) : Prop := 1 ≤ r ∧ r ≤ 250 ∧ 0 ≤ l ∧ l ≤ r
theorem FairC.ok {r l : Int} (h : FairC r l) : COk r l := ⟨h.1, by have := h.2.1; omega, h.2.2⟩
def DrewC (w : World) (c : Nat) (a : Option Addr) (len cap : Nat) (e : Ending) (w' : World) : Prop :=
  ∃ x y, e = .returned (C x y) ∧ FairC x y ∧ Cur w' c a len cap ∧ w.grownBy w' (some c)
set_option maxHeartbeats 400000 in
theorem cistern_any (w : World) (c : Nat) (a : Option Addr) (len cap : Nat) (hcur : Cur w c a len cap) :
    Calls Try.prog 59 #[.pointer (some ⟨c, 0, none⟩)] w (DrewC w c a len cap) := by
  have hclt := hcur.lt
  have hlow := hcur.low
  have x0 := Blk.new w 36 #[.int .i64 0, .int .i64 0]
  go_enter Try.func59, Try.ntmps59
  go_wp2_with fail
  refine (below_any _ c a len cap 250 (by omega) (hcur.above (World.grownBy_alloc w _ none) (by simp) hclt hlow)).mono ?_; rintro e w1 ⟨x, hx, rfl, hc1, hg1⟩
  obtain ⟨x0', x1⟩ := hx.of (by omega)
  have y0 := x0.grown hg1 (by simp; omega)
  have hl1 := hc1.lt
  go_wp2_with fail
  refine (below_any _ c a len cap (1 + x + 1) (by omega) hc1).mono ?_; rintro e w2 ⟨y, hy, rfl, hc2, hg2⟩
  obtain ⟨y1, y2⟩ := hy.of (by omega)
  have y3 := y0.grown hg2 (by simp; omega)
  have q0 := y3.cell 0; have q1 := y3.cell 1; have f0 := y3.frozen 0; have f1 := y3.frozen 1
  go_wp2
  have z := (y3.set_ 0 (.int .i64 (1 + x))).set_ 1 (.int .i64 y)
  have c0 : ((w2.setCell ⟨w.heap.size, 0, none⟩ (.int .i64 (1 + x))).setCell ⟨w.heap.size, 1, none⟩ (.int .i64 y)).cell? ⟨w.heap.size, 0, none⟩ = some (.int .i64 (1 + x)) := by rw [z.cell]; rfl
  have c1 : ((w2.setCell ⟨w.heap.size, 0, none⟩ (.int .i64 (1 + x))).setCell ⟨w.heap.size, 1, none⟩ (.int .i64 y)).cell? ⟨w.heap.size, 1, none⟩ = some (.int .i64 y) := by rw [z.cell]; rfl
  refine bodyPost_ret (v := C (1 + x) y) (by simp [results, Try.results59, go_sem, c0, c1]) rfl ⟨1 + x, y, rfl, ⟨by omega, by omega, y1, by omega⟩, ?_, ?_⟩
  · exact (hc2.grown (grown_setCell (grown_refl _ _) 0 none _) (by simp; omega) (fun u e h0 => by have := hlow u e h0; simp; omega)).grown (grown_setCell (grown_refl _ _) 1 none _) (by simp; omega) (fun u e h0 => by have := hlow u e h0; simp; omega)
  · have e1 : w.grownBy w2 (some c) := grown_trans (grown_trans (World.grownBy_alloc w _ _) hg1) hg2
    have e2 := grown_above e1 (grown_setCell (grown_refl w2 (some w.heap.size)) 0 none (.int .i64 (1 + x))) (by rintro _ ⟨⟩; exact Nat.le_refl _)
    exact grown_above e2 (grown_setCell (grown_refl _ (some w.heap.size)) 1 none (.int .i64 y)) (by rintro _ ⟨⟩; exact Nat.le_refl _)
def DrewC0 (w : World) (e : Ending) (w' : World) : Prop := ∃ x y, e = .returned (C x y) ∧ FairC x y ∧ Below w.heap.size w w'
end Go.Proofs.Ytmffhogefchpbaa.cis
