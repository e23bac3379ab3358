/- What laws.FnWayOk draws: some net and what may be a way, of memory of their own. -/
import Derived.Test.YtljnjpjnadlmhaaPartWCopy
import Derived.Test.YtljnjpjnadlmhaaPartWPickF
import Derived.Deep.RegionWith
namespace Go.Proofs.Ytljnjpjnadlmhaa
open Go.RowKit
set_option linter.unusedVariables false

theorem Turned.toBelowW {lo hi B : Nat} {w w' : World} (h : Turned lo hi w w') (hB : B ≤ lo) (hl : lo ≤ w.heap.size) : Below B w w' :=
  ⟨h.os, h.tape, h.output, h.size, fun k hk => h.block k (by omega) (Or.inl (by omega))⟩
theorem Cel.belowW {w w' : World} {A B : Nat} {K : Int} {v : Value} (h : Cel w A K v) (hb : Below B w w') (hA : A < B) : Cel w' A K v :=
  ⟨(hb.cell (p := ⟨A, 0, none⟩) hA).trans h.c0, (hb.cell (p := ⟨A, 1, none⟩) hA).trans h.c1, (hb.frozen (p := ⟨A, 0, none⟩) hA).trans h.f0, (hb.frozen (p := ⟨A, 1, none⟩) hA).trans h.f1, Nat.lt_of_lt_of_le h.lt hb.size⟩
theorem Cel.turnW {w w' : World} {A R : Nat} {K : Int} {v : Value} (h : Cel w A K v) (ht : Turned R (R + 1) w w') (hA : A < R) : Cel w' A K v :=
  ⟨(ht.cell (p := ⟨A, 0, none⟩) h.lt (Or.inl hA)).trans h.c0, (ht.cell (p := ⟨A, 1, none⟩) h.lt (Or.inl hA)).trans h.c1, (ht.frozen (p := ⟨A, 0, none⟩) h.lt (Or.inl hA)).trans h.f0, (ht.frozen (p := ⟨A, 1, none⟩) h.lt (Or.inl hA)).trans h.f1, Nat.lt_of_lt_of_le h.lt ht.size⟩
/-- a net and a row of numbers were drawn since w, and nothing that was there has turned -/
structure DealtW (w w' : World) (K : Int) (ao : Option Addr) (us : List (Int × Int)) (g off cap : Nat) (xs : List Int) : Prop where
  own : OwnN w' w.heap.size w'.heap.size ao us.length (tcell us)
  lo : -1 ≤ K
  hi : K ≤ 9
  short : us.length ≤ 66
  row : RowZ w' w.heap.size g off cap xs
  few : xs.length ≤ 8
  bel : Below w.heap.size w w'

theorem DealtW.fin {w w1 w2 W w4 : World} {R : Nat} {K : Int} {ao : Option Addr} {us : List (Int × Int)} {g off cap : Nat} {xs : List Int} (hB : Below w.heap.size w w1) (hR : R < w1.heap.size) (hwR : w.heap.size < R) (ht : Turned R (R + 1) w1 w2) (ho : OwnN w2 w1.heap.size w2.heap.size ao us.length (tcell us))
    (hk : -1 ≤ K ∧ K ≤ 9 ∧ us.length ≤ 66) (hb : Below w2.heap.size w2 W) (ht4 : Turned R (R + 1) W w4) (hrow : RowZ w4 W.heap.size g off cap xs) (hf : xs.length ≤ 8) (u0 u1 : Value) :
    DealtW w ((w4.setCell ⟨w.heap.size, 0, none⟩ u0).setCell ⟨w.heap.size, 1, none⟩ u1) K ao us g off cap xs := by
  have hsz : ((w4.setCell ⟨w.heap.size, 0, none⟩ u0).setCell ⟨w.heap.size, 1, none⟩ u1).heap.size = w4.heap.size := by simp [World.setCell]
  have s12 := ht.size
  have s23 := hb.size
  have s34 := ht4.size
  have o2 : OwnN W w1.heap.size W.heap.size ao us.length (tcell us) := (ho.aside (turned_below (lo := 0) (hi := 0) hb) (Or.inr (Nat.zero_le _))).up s23
  have o4 : OwnN w4 w1.heap.size w4.heap.size ao us.length (tcell us) := (o2.aside ht4 (Or.inr (by omega))).up s34
  have bel : Below w.heap.size w w4 := ((hB.trans (ht.toBelowW (Nat.le_of_lt hwR) (Nat.le_of_lt hR))).trans (hb.mono (by omega))).trans (ht4.toBelowW (Nat.le_of_lt hwR) (by omega))
  have hg := hrow.lo
  refine ⟨?_, hk.1, hk.2.1, hk.2.2, (hrow.down (by omega)).same ?_ (by rw [hsz]; exact Nat.le_refl _), hf, (bel.setCell (Nat.le_refl _) _).setCell (Nat.le_refl _) _⟩
  · rw [hsz]
    exact ((o4.far (Or.inl (by show w.heap.size < w1.heap.size; omega)) _).far (Or.inl (by show w.heap.size < w1.heap.size; omega)) _).down (by omega)
  · exact (Below.heap_setCell _ _ _ _ (by show g ≠ w.heap.size; omega)).trans (Below.heap_setCell _ _ _ _ (by show g ≠ w.heap.size; omega))

end Go.Proofs.Ytljnjpjnadlmhaa
