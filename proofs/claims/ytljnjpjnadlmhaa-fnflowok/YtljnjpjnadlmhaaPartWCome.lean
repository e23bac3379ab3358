/- Texts put together: WCome, WCan. -/
import Derived.Test.YtljnjpjnadlmhaaPartWQueue
import Derived.Test.YtljnjpjnadlmhaaMathFW
/- Walk of the closure come in impl.wayWhere: a way is put to those that wait, and its end is known. -/
namespace Go.Proofs.Ytljnjpjnadlmhaa
open Go.RowKit
set_option linter.unusedVariables false

/-- eight knots of an array: which are known -/
def KnA (w : World) (B : Nat) (M : Nat → Bool) : Prop := B < w.heap.size ∧ (∀ z, z < 8 → w.cell? ⟨B, z, none⟩ = some (.bool (M z))) ∧ ∀ i, w.frozen? ⟨B, i, none⟩ = false
theorem KnA.same {w w' : World} {B : Nat} {M : Nat → Bool} (h : KnA w B M) (e : w'.heap[B]? = w.heap[B]?) (hs : w.heap.size ≤ w'.heap.size) : KnA w' B M :=
  ⟨Nat.lt_of_lt_of_le h.1 hs, fun z hz => (World.cell?_of_block (a := ⟨B, z, none⟩) e).trans (h.2.1 z hz), fun i => (World.frozen?_of_block (a := ⟨B, i, none⟩) e).trans (h.2.2 i)⟩
theorem KnA.put {w : World} {B : Nat} {M : Nat → Bool} (h : KnA w B M) {k : Nat} (hk : k < 8) : KnA (w.setCell ⟨B, k, none⟩ (.bool true)) B (mark M k) := by
  refine ⟨by simp [World.setCell]; exact h.1, fun z hz => ?_, fun i => ?_⟩
  · unfold mark
    by_cases e : z = k
    · rw [if_pos e, e]; exact World.cell?_setCell_same' w ⟨B, k, none⟩ _ (by rw [h.2.1 k hk]; rfl)
    · rw [if_neg e, show (w.setCell ⟨B, k, none⟩ (.bool true)).cell? ⟨B, z, none⟩ = w.cell? ⟨B, z, none⟩ from World.cell?_setCell_other _ _ _ _ (fun q => e (by injection q with _ q; exact q.symm))]
      exact h.2.1 z hz
  · rw [World.frozen?_setCell]; exact h.2.2 i
theorem QRow.other_set {w : World} {lo : Nat} {v : Value} {ps : List (List Int)} (h : QRow w lo v ps) {p : Addr} {u : Value} (hn : v.ownBlock ≠ some p.block) : QRow (w.setCell p u) lo v ps := by
  rcases h with h | ⟨g, off, cap, e, h⟩
  · exact Or.inl h
  · refine Or.inr ⟨g, off, cap, e, h.same (Below.heap_setCell _ _ _ _ (fun q => hn ?_)) (by simp [World.setCell])⟩
    rw [e, ← q]; rfl
end Go.Proofs.Ytljnjpjnadlmhaa

/- Walk of the closure can in impl.mostWays: a step can be taken if there is a tie, over which nothing goes this way. -/
namespace Go.Proofs.Ytljnjpjnadlmhaa
open Go.RowKit
set_option linter.unusedVariables false

def stepC (S : Nat) (F : Nat → Nat → Int) (x y : Nat) : Bool := decide (S &&& pbit (x : Int) (y : Int) ≠ 0) && !decide (F x y = 1)
theorem stepC_no {S : Nat} {F : Nat → Nat → Int} {x y : Nat} (h : decide (S &&& pbit (x : Int) (y : Int) ≠ 0) = false) : stepC S F x y = false := by unfold stepC; rw [h]; rfl
theorem stepC_yes {S : Nat} {F : Nat → Nat → Int} {x y : Nat} (h : decide (S &&& pbit (x : Int) (y : Int) ≠ 0) = true) : stepC S F x y = !decide (F x y = 1) := by unfold stepC; rw [h]; rfl
theorem can_ne {S x y : Nat} (h : decide (S &&& pbit (x : Int) (y : Int) ≠ 0) = true) : x ≠ y := by
  intro e
  rw [e, pbit_no (Or.inr (Or.inl (by omega)))] at h
  simp at h
theorem can_has_v (v : Bool) (p : Nat) (a b : Int) (w : World) (hp : p < 2 ^ 64) (h : decide (p &&& pbit a b ≠ 0) = v) :
    Calls Try.prog 71 #[.int .u64 (p : Int), .int .i64 a, .int .i64 b] w fun e w' => e = .returned (.bool v) ∧ w' = w := by
  rw [← h]; exact has_any p a b w hp
end Go.Proofs.Ytljnjpjnadlmhaa
