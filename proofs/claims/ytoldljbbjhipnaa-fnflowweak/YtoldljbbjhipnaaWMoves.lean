/- Walk of impl.dive.moves: it tells all moves of a dive. -/
import Derived.Test.YtoldljbbjhipnaaPartWRange
import Derived.Sort.LoopGhostIn
import Derived.RangeFuncBound
namespace Go.Proofs.Ytoldljbbjhipnaa
open Go.RowKit
set_option linter.unusedVariables false
attribute [local go_sem] Oper.semAt_some

theorem own_cells {W : World} {A n : Nat} {f : Nat → Value} (h : OwnI W A (n + 1) f) : ∃ cs t fr, W.heap[A]? = some (Obj.cells cs t fr) := by
  have h0 := h.1 0 (by omega)
  unfold World.cell? at h0
  cases hb : W.heap[A]? with
  | none => simp [hb] at h0
  | some o => cases o <;> simp_all
/-- a move that is told: the dive ahead of it, and behind it -/
structure Mw where
  d : Dv
  x : Mv
  d' : Dv
def encM (m : Mw) : Array Value := #[mvV m.x.f m.x.t m.x.u m.x.l]
theorem sm_le (nx : Nat → Nat) : ∀ m, sm nx m ≤ 9 * m := by
  intro m
  induction m with
  | zero => exact Nat.le_refl _
  | succ m ih => simp only [sm]; omega
theorem mu_le {d : Dv} (h : Aux d) : mu d ≤ 1000 := by
  have h1 := sm_le d.nx d.m
  have h2 := unm_le (vis d.tu) 8
  have h3 := h.mcn
  have h4 := h.sum
  unfold mu; omega
def noDv : Dv := ⟨0, fun _ => 0, fun _ => 0, fun _ => 0, fun _ => 0, fun _ => 0, 0, fun _ _ => False, fun _ => 0⟩

theorem box_cell1 {wr : World} {B : Nat} {t : TypeId} {fr : Nat × Nat} {v0 : Value} (h : wr.heap[B]? = some (Obj.cells #[v0] t fr)) : wr.cell? ⟨B, 0, none⟩ = some v0 := by simp [World.cell?, h]
theorem mu_pos {d : Dv} (h : Aux d) (hm : 0 < d.m) (hn : d.nx (d.m - 1) ≤ 8) : 0 < mu d := by
  obtain ⟨i, hi⟩ : ∃ i, d.m = i + 1 := ⟨d.m - 1, by omega⟩
  rw [hi] at hn
  unfold mu
  rw [hi]
  show 0 < 10 * unm (vis d.tu) 8 + (sm d.nx i + (9 - d.nx i))
  simp at hn
  omega
end Go.Proofs.Ytoldljbbjhipnaa
