/- Walk of spec.BridgeParts. -/
import Derived.Test.YtjcjabplfbgpnaaDoorPartMathE
import Derived.Test.YtjcjabplfbgpnaaDoorWBridgeL
import Derived.Test.YtjcjabplfbgpnaaDoorWCopy
import Derived.Test.YtjcjabplfbgpnaaDoorPartWReach2
import Derived.Deep.RegionWith
namespace Go.Proofs.YtjcjabplfbgpnaaDoor
open Go.RowKit
set_option linter.unusedVariables false

/-- a net in a variable X of this call, its ties in a later block -/
structure XN (wr : World) (X : Nat) (K : Int) (ao : Option Addr) (cap : Nat) (us : List (Int × Int)) : Prop where
  c0 : wr.cell? ⟨X, 0, none⟩ = some (.int .i64 K)
  c1 : wr.cell? ⟨X, 1, none⟩ = some (.slice ao us.length cap)
  f0 : wr.frozen? ⟨X, 0, none⟩ = false
  f1 : wr.frozen? ⟨X, 1, none⟩ = false
  lt : X < wr.heap.size
  ties : TiesIn wr wr.heap.size ao us
theorem XN.next {w w' : World} {X : Nat} {K : Int} {ao : Option Addr} {cap : Nat} {us : List (Int × Int)} (h : XN w X K ao cap us) (hb : Below w.heap.size w w') : XN w' X K ao cap us :=
  ⟨(hb.cell (p := ⟨X, 0, none⟩) h.lt).trans h.c0, (hb.cell (p := ⟨X, 1, none⟩) h.lt).trans h.c1, (hb.frozen (p := ⟨X, 0, none⟩) h.lt).trans h.f0, (hb.frozen (p := ⟨X, 1, none⟩) h.lt).trans h.f1, Nat.lt_of_lt_of_le h.lt hb.size, (h.ties.below hb (Nat.le_refl _)).wide hb.size⟩
theorem turned_set (X : Nat) (w : World) (K : Int) (v : Value) : Turned X (X + 1) w ((w.setCell ⟨X, 0, none⟩ (.int .i64 K)).setCell ⟨X, 1, none⟩ v) :=
  ⟨rfl, rfl, rfl, by simp [World.setCell], fun k _ ho => (Below.heap_setCell _ _ _ _ (by show k ≠ X; omega)).trans (Below.heap_setCell _ _ _ _ (by show k ≠ X; omega))⟩
/-- another net goes into the variable -/
theorem XN.put {w : World} {X : Nat} {K K' : Int} {ao ao' : Option Addr} {cap cap' lo hi : Nat} {us us' : List (Int × Int)} (h : XN w X K ao cap us) (ho : OwnN w lo hi ao' us'.length (tcell us')) (hl : X + 1 ≤ lo) (hh : hi ≤ w.heap.size) :
    XN ((w.setCell ⟨X, 0, none⟩ (.int .i64 K')).setCell ⟨X, 1, none⟩ (.slice ao' us'.length cap')) X K' ao' cap' us' := by
  have ht := turned_set X w K' (.slice ao' us'.length cap')
  refine ⟨(World.cell?_setCell_other _ _ _ _ (by simp)).trans (World.cell?_setCell_same _ _ _ h.c0), World.cell?_setCell_same _ _ _ ((World.cell?_setCell_other _ _ _ _ (by simp)).trans h.c1), by rw [World.frozen?_setCell, World.frozen?_setCell]; exact h.f0, by rw [World.frozen?_setCell, World.frozen?_setCell]; exact h.f1, Nat.lt_of_lt_of_le h.lt ht.size, ?_⟩
  exact (ho.aside ht (Or.inr hl)).ties (Nat.le_trans hh ht.size)

end Go.Proofs.YtjcjabplfbgpnaaDoor
