/- Walks of impl.TreeOk and what it calls. -/
import Derived.Test.YtljnjpjnadlmhaaPartMathT
import Derived.Test.YtljnjpjnadlmhaaPartWTree
import Derived.Test.YtljnjpjnadlmhaaPartWCount
import Derived.Laws.BitsAllLaws
import Derived.Deep.RegionHeld3
namespace Go.Proofs.Ytljnjpjnadlmhaa
open Go.RowKit
set_option linter.unusedVariables false

theorem strike_nat (p q : Nat) (hp : p < 2 ^ 64) (hq : q < 2 ^ 64) : bits .andNot .u64 (p : Int) (q : Int) = ((strike p q : Nat) : Int) := by
  have : (2 : Nat) ^ 64 = 18446744073709551616 := by decide
  exact u64_andNot_nat p q (by omega) (by omega)
set_option maxHeartbeats 400000 in
theorem hasAll_v (v : Bool) (p q : Nat) (w : World) (hp : p < 2 ^ 64) (hq : q < 2 ^ 64) (h : decide (strike q p = 0) = v) :
    Calls Try.prog 38 #[.int .u64 (p : Int), .int .u64 (q : Int)] w fun e w' => e = .returned (.bool v) ∧ w' = w := by
  have ha := strike_nat q p hq hp
  have HV : Hid ((((strike q p : Nat) : Int) == 0) = v) := by
    show (((strike q p : Nat) : Int) == 0) = v
    rw [← h]
    by_cases e : strike q p = 0
    · rw [decide_eq_true e, e]; rfl
    · rw [decide_eq_false e]; simp; exact e
  clear hp hq h
  obtain ⟨s, hs⟩ : ∃ s, s = strike q p := ⟨_, rfl⟩
  rw [← hs] at ha HV
  clear hs
  go_enter Try.func38, Try.ntmps38
  go_wp2
  go_ret
  exact ⟨congrArg (fun b => Ending.returned (Value.bool b)) HV.out, rfl⟩
def eqTo (f g : Nat → Nat) (n : Nat) : Bool := (List.range n).all fun j => decide (f j = g j)
theorem eqTo_iff {f g : Nat → Nat} {n : Nat} : eqTo f g n = true ↔ ∀ j, j < n → f j = g j := by simp [eqTo]
theorem eqTo_bad {f g : Nat → Nat} {n j : Nat} (hj : j < n) (h : f j ≠ g j) : eqTo f g n = false := by
  rw [← Bool.not_eq_true, eqTo_iff]; exact fun e => h (e j hj)
/-- a net in its box, ties of the same knots in another one -/
structure Hx (w wr : World) (K : Int) (nv hv : Value) : Prop where
  X : Bx w wr K nv
  d0 : wr.cell? ⟨w.heap.size + 1, 0, none⟩ = some (.int .i64 K)
  d1 : wr.cell? ⟨w.heap.size + 1, 1, none⟩ = some hv
  lt : w.heap.size + 1 < wr.heap.size
theorem Hx.next {w wr w' : World} {K : Int} {nv hv : Value} (h : Hx w wr K nv hv) (hb : Below wr.heap.size wr w') : Hx w w' K nv hv :=
  ⟨h.X.next hb, (hb.cell (p := ⟨w.heap.size + 1, 0, none⟩) h.lt).trans h.d0, (hb.cell (p := ⟨w.heap.size + 1, 1, none⟩) h.lt).trans h.d1, Nat.lt_of_lt_of_le h.lt hb.size⟩
theorem Hx.start (w : World) (K : Int) (nv hv : Value) (t u : TypeId) : Hx w ((w.alloc (.cells #[.int .i64 K, nv] t)).alloc (.cells #[.int .i64 K, hv] u)) K nv hv := by
  refine ⟨(Bx.start w K nv t).next (below_one _ _), ?_, ?_, by simp⟩
  · rw [World.cell?_alloc_at _ _ _ _ (by simp)]; rfl
  · rw [World.cell?_alloc_at _ _ _ _ (by simp)]; rfl
end Go.Proofs.Ytljnjpjnadlmhaa
