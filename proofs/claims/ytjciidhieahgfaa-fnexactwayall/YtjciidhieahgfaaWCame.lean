/- What the exact laws carry along: nets in variables, what came in; rows that are only read. -/
import Derived.Test.YtjciidhieahgfaaWMarkB
import Derived.Deep.RegionHeld3
namespace Go.Proofs.Ytjciidhieahgfaa
open Go.RowKit
set_option linter.unusedVariables false

/-- a net in a variable of the call's: its block, its row -/
structure VarAt (w : World) (A : Nat) (K : Int) (lo hi : Nat) (ao : Option Addr) (n cap : Nat) (f : Nat → Value) : Prop where
  c0 : w.cell? ⟨A, 0, none⟩ = some (.int .i64 K)
  c1 : w.cell? ⟨A, 1, none⟩ = some (.slice ao n cap)
  lt : A < w.heap.size
  own : OwnN w lo hi ao n f
theorem VarAt.next {w w' : World} {A : Nat} {K : Int} {lo hi : Nat} {ao : Option Addr} {n cap : Nat} {f : Nat → Value} (h : VarAt w A K lo hi ao n cap f) (hb : Below w.heap.size w w') : VarAt w' A K lo hi ao n cap f :=
  ⟨(hb.cell (p := ⟨A, 0, none⟩) h.lt).trans h.c0, (hb.cell (p := ⟨A, 1, none⟩) h.lt).trans h.c1, Nat.lt_of_lt_of_le h.lt hb.size, h.own.next hb⟩
theorem VarAt.aside {w w' : World} {A : Nat} {K : Int} {lo hi l h : Nat} {ao : Option Addr} {n cap : Nat} {f : Nat → Value} (hv : VarAt w A K lo hi ao n cap f) (ht : Turned l h w w') (hA : A < l ∨ h ≤ A) (hr : hi ≤ l ∨ h ≤ lo) : VarAt w' A K lo hi ao n cap f :=
  ⟨(ht.cell (p := ⟨A, 0, none⟩) hv.lt hA).trans hv.c0, (ht.cell (p := ⟨A, 1, none⟩) hv.lt hA).trans hv.c1, Nat.lt_of_lt_of_le hv.lt ht.size, hv.own.aside ht hr⟩
/-- the variable's own row was written -/
theorem VarAt.marked {w w' : World} {A : Nat} {K : Int} {lo hi l h : Nat} {ao : Option Addr} {n cap : Nat} {f f' : Nat → Value} (hv : VarAt w A K lo hi ao n cap f) (ht : Turned l h w w') (hA : A < l ∨ h ≤ A) (ho : OwnN w' lo hi ao n f') : VarAt w' A K lo hi ao n cap f' :=
  ⟨(ht.cell (p := ⟨A, 0, none⟩) hv.lt hA).trans hv.c0, (ht.cell (p := ⟨A, 1, none⟩) hv.lt hA).trans hv.c1, Nat.lt_of_lt_of_le hv.lt ht.size, ho⟩
theorem VarAt.made {w : World} {K : Int} {lo hi : Nat} {ao : Option Addr} {n cap : Nat} {f : Nat → Value} (t : TypeId) (ho : OwnN w lo hi ao n f) : VarAt (w.alloc (.cells #[.int .i64 K, .slice ao n cap] t)) w.heap.size K lo hi ao n cap f :=
  ⟨by simp, by simp, by simp, ho.next (below_one _ _)⟩
theorem eqIntS_row (a1 a2 : Option Addr) (cap1 cap2 n : Nat) (t : Nat → Nat) (w : World) (hn : n ≤ 1000) (h1 : RowV w w.heap.size a1 n (pcellN t)) (h2 : RowV w w.heap.size a2 n (pcellN t)) :
    Calls Try.prog 9 #[.slice a1 n cap1, .slice a2 n cap2] w fun e w' => e = .returned (.bool true) ∧ Below w.heap.size w w' := by
  have hl : ((List.range n).map fun j => ((t j : Nat) : Int)).length = n := by simp
  have h := eqIntS_same a1 a2 cap1 cap2 ((List.range n).map fun j => ((t j : Nat) : Int)) w (by rw [hl]; omega) h1.ints h2.ints
  rw [hl] at h
  exact h

end Go.Proofs.Ytjciidhieahgfaa
