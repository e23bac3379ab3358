/- Walk of the closure can in impl.mostWays: a step can be taken if there is a tie, over which nothing goes this way. -/
import Derived.Test.YthchehmmggnmeaaWCome
namespace Go.Proofs.Ythchehmmggnmeaa
open Go.RowKit
set_option linter.unusedVariables false

def stepC (S : Nat) (F : Nat → Nat → Int) (x y : Nat) : Bool := decide (S &&& pbit (x : Int) (y : Int) ≠ 0) && !decide (F x y = 1)
theorem stepC_no {S : Nat} {F : Nat → Nat → Int} {x y : Nat} (h : decide (S &&& pbit (x : Int) (y : Int) ≠ 0) = false) : stepC S F x y = false := by unfold stepC; rw [h]; rfl
theorem stepC_yes {S : Nat} {F : Nat → Nat → Int} {x y : Nat} (h : decide (S &&& pbit (x : Int) (y : Int) ≠ 0) = true) : stepC S F x y = !decide (F x y = 1) := by unfold stepC; rw [h]; rfl
theorem can_ne {S x y : Nat} (h : decide (S &&& pbit (x : Int) (y : Int) ≠ 0) = true) : x ≠ y := by
  intro e
  rw [e, pbit_no (Or.inr (Or.inl (by omega)))] at h
  simp at h
theorem can_has_v (v : Bool) (p : Nat) (a b : Int) (w : World) (hp : p < 2 ^ 64) (h : decide (p &&& pbit a b ≠ 0) = v) :
    Calls Try.prog 46 #[.int .u64 (p : Int), .int .i64 a, .int .i64 b] w fun e w' => e = .returned (.bool v) ∧ w' = w := by
  rw [← h]; exact has_any p a b w hp
set_option maxRecDepth 100000 in
set_option maxHeartbeats 800000 in
theorem can_any (S Sb Fb B n : Nat) (F : Nat → Nat → Int) (x y : Nat) (w : World) (hS : S < 2 ^ 64) (hset : w.cell? ⟨Sb, 0, none⟩ = some (.int .u64 (S : Int))) (hf : w.cell? ⟨Fb, 0, none⟩ = some (.map (some B))) (hm : Fm w B n F) (ha : ∀ x y, F y x = - F x y) (hx : x < 8) (hy : y < 8) :
    Calls Try.prog 45 #[.int .i64 (x : Int), .int .i64 (y : Int), .pointer (some ⟨Sb, 0, none⟩), .pointer (some ⟨Fb, 0, none⟩)] w fun e w' => e = .returned (.bool (stepC S F x y)) ∧ Below w.heap.size w w' := by
  cases hd : decide (S &&& pbit (x : Int) (y : Int) ≠ 0)
  · have HC : Hid (stepC S F x y = false) := hideP (stepC_no hd)
    have HH := hideP (fun W => can_has_v false S (x : Int) (y : Int) W hS hd)
    clear hd hm ha
    go_enter Try.func45, Try.ntmps45
    go_wp2_with (first | (go_at_call 46; refine (HH.out _).mono ?_; rintro e w2 ⟨rfl, rfl⟩))
    go_ret
    exact ⟨by rw [HC.out]; rfl, Below.refl _ _⟩
  · have hne := can_ne hd
    have HC : Hid (stepC S F x y = !decide (F x y = 1)) := hideP (stepC_yes hd)
    have HH := hideP (fun W => can_has_v true S (x : Int) (y : Int) W hS hd)
    have HI := hideP (isFull_any B n F x y w hx hy hne ha hm)
    clear hd hm ha
    go_enter Try.func45, Try.ntmps45
    go_wp2_with (first | (go_at_call 46; refine (HH.out _).mono ?_; rintro e w2 ⟨rfl, rfl⟩) | (go_at_call 47; refine (HI.out).mono ?_; rintro e w2 ⟨rfl, hb2⟩))
    go_ret
    exact ⟨by rw [HC.out]; rfl, hb2⟩

end Go.Proofs.Ythchehmmggnmeaa
