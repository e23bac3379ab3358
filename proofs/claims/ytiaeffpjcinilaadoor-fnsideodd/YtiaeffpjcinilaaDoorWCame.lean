/- What the exact laws carry along: nets in variables, what came in; rows that are only read. -/
import Derived.Test.YtiaeffpjcinilaaDoorWMarkB
import Derived.Deep.RegionHeld3
namespace Go.Proofs.YtiaeffpjcinilaaDoor
open Go.RowKit
set_option linter.unusedVariables false

/-- a net in a variable of the call's: its block, its row -/
structure VarAt (w : World) (A : Nat) (K : Int) (lo hi : Nat) (ao : Option Addr) (n cap : Nat) (f : Nat → Value) : Prop where
  c0 : w.cell? ⟨A, 0, none⟩ = some (.int .i64 K)
  c1 : w.cell? ⟨A, 1, none⟩ = some (.slice ao n cap)
  lt : A < w.heap.size
  own : OwnN w lo hi ao n f
theorem VarAt.next {w w' : World} {A : Nat} {K : Int} {lo hi : Nat} {ao : Option Addr} {n cap : Nat} {f : Nat → Value} (h : VarAt w A K lo hi ao n cap f) (hb : Below w.heap.size w w') : VarAt w' A K lo hi ao n cap f :=
  ⟨(hb.cell (p := ⟨A, 0, none⟩) h.lt).trans h.c0, (hb.cell (p := ⟨A, 1, none⟩) h.lt).trans h.c1, Nat.lt_of_lt_of_le h.lt hb.size, h.own.next hb⟩
theorem VarAt.aside {w w' : World} {A : Nat} {K : Int} {lo hi l h : Nat} {ao : Option Addr} {n cap : Nat} {f : Nat → Value} (hv : VarAt w A K lo hi ao n cap f) (ht : Turned l h w w') (hA : A < l ∨ h ≤ A) (hr : hi ≤ l ∨ h ≤ lo) : VarAt w' A K lo hi ao n cap f :=
  ⟨(ht.cell (p := ⟨A, 0, none⟩) hv.lt hA).trans hv.c0, (ht.cell (p := ⟨A, 1, none⟩) hv.lt hA).trans hv.c1, Nat.lt_of_lt_of_le hv.lt ht.size, hv.own.aside ht hr⟩
/-- the variable's own row was written -/
theorem VarAt.marked {w w' : World} {A : Nat} {K : Int} {lo hi l h : Nat} {ao : Option Addr} {n cap : Nat} {f f' : Nat → Value} (hv : VarAt w A K lo hi ao n cap f) (ht : Turned l h w w') (hA : A < l ∨ h ≤ A) (ho : OwnN w' lo hi ao n f') : VarAt w' A K lo hi ao n cap f' :=
  ⟨(ht.cell (p := ⟨A, 0, none⟩) hv.lt hA).trans hv.c0, (ht.cell (p := ⟨A, 1, none⟩) hv.lt hA).trans hv.c1, Nat.lt_of_lt_of_le hv.lt ht.size, ho⟩
theorem VarAt.made {w : World} {K : Int} {lo hi : Nat} {ao : Option Addr} {n cap : Nat} {f : Nat → Value} (t : TypeId) (ho : OwnN w lo hi ao n f) : VarAt (w.alloc (.cells #[.int .i64 K, .slice ao n cap] t)) w.heap.size K lo hi ao n cap f :=
  ⟨by simp, by simp, by simp, ho.next (below_one _ _)⟩
/-- what came in: its box, its ties, the library's table; all that was there is as it was -/
structure Came (w wr : World) (K : Int) (ao : Option Addr) (cap : Nat) (ts : List (Int × Int)) : Prop where
  c0 : wr.cell? ⟨w.heap.size, 0, none⟩ = some (.int .i64 K)
  c1 : wr.cell? ⟨w.heap.size, 1, none⟩ = some (.slice ao ts.length cap)
  lt : w.heap.size < wr.heap.size
  ties : TiesIn wr w.heap.size ao ts
  tab : Tab wr
  bel : Below w.heap.size w wr
theorem Came.next {w wr w' : World} {K : Int} {ao : Option Addr} {cap : Nat} {ts : List (Int × Int)} (h : Came w wr K ao cap ts) (hb : Below wr.heap.size wr w') : Came w w' K ao cap ts :=
  ⟨(hb.cell (p := ⟨w.heap.size, 0, none⟩) h.lt).trans h.c0, (hb.cell (p := ⟨w.heap.size, 1, none⟩) h.lt).trans h.c1, Nat.lt_of_lt_of_le h.lt hb.size, h.ties.below hb (Nat.le_of_lt h.lt), h.tab.below hb h.tab.2, h.bel.trans (hb.mono h.bel.size)⟩
theorem Came.aside {w wr w' : World} {K : Int} {ao : Option Addr} {cap : Nat} {ts : List (Int × Int)} {l h : Nat} (hc : Came w wr K ao cap ts) (ht : Turned l h wr w') (hl : w.heap.size < l) (hT : 0 < w.heap.size) : Came w w' K ao cap ts := by
  have hb : Below w.heap.size wr w' := ⟨ht.os, ht.tape, ht.output, ht.size, fun k hk => ht.block k (by have := hc.lt; omega) (by omega)⟩
  exact ⟨(ht.cell (p := ⟨w.heap.size, 0, none⟩) hc.lt (Or.inl hl)).trans hc.c0, (ht.cell (p := ⟨w.heap.size, 1, none⟩) hc.lt (Or.inl hl)).trans hc.c1, Nat.lt_of_lt_of_le hc.lt ht.size, hc.ties.below hb (Nat.le_refl _), hc.tab.below hb hT, hc.bel.trans hb⟩
theorem Came.start {w w1 : World} {K : Int} {ao : Option Addr} {cap : Nat} {ts : List (Int × Int)} {t : TypeId} (ht : TiesIn w w.heap.size ao ts) (hT : Tab w)
    (hb : Below (w.alloc (.cells #[.int .i64 K, .slice ao ts.length cap] t)).heap.size (w.alloc (.cells #[.int .i64 K, .slice ao ts.length cap] t)) w1) : Came w w1 K ao cap ts := by
  have hb' : Below (w.heap.size + 1) (w.alloc (.cells #[.int .i64 K, .slice ao ts.length cap] t)) w1 := by simpa using hb
  have hB : Below w.heap.size w w1 := (below_one _ _).trans (hb'.mono (by omega))
  exact ⟨(hb'.cell (p := ⟨w.heap.size, 0, none⟩) (by simp)).trans (by simp), (hb'.cell (p := ⟨w.heap.size, 1, none⟩) (by simp)).trans (by simp), by have := hb'.size; simp at this; omega, ht.below hB (Nat.le_refl _), hT.below hB hT.2, hB⟩
theorem eqIntS_row (a1 a2 : Option Addr) (cap1 cap2 n : Nat) (t : Nat → Nat) (w : World) (hn : n ≤ 1000) (h1 : RowV w w.heap.size a1 n (pcellN t)) (h2 : RowV w w.heap.size a2 n (pcellN t)) :
    Calls Tryd.prog 36 #[.slice a1 n cap1, .slice a2 n cap2] w fun e w' => e = .returned (.bool true) ∧ Below w.heap.size w w' := by
  have hl : ((List.range n).map fun j => ((t j : Nat) : Int)).length = n := by simp
  have h := eqIntS_same a1 a2 cap1 cap2 ((List.range n).map fun j => ((t j : Nat) : Int)) w (by rw [hl]; omega) h1.ints h2.ints
  rw [hl] at h
  exact h

end Go.Proofs.YtiaeffpjcinilaaDoor
