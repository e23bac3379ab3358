/- Walk of spec.WayAll: it is all ways, too. -/
import Derived.Test.YtloicmngoaccoaaDoorWOnS2
import Derived.Test.YtloicmngoaccoaaDoorWSpecOk
import Derived.Test.YtloicmngoaccoaaDoorPartMathP
namespace Go.Proofs.YtloicmngoaccoaaDoor
open Go.RowKit
set_option linter.unusedVariables false

theorem Acc.new (w : World) : Acc (w.alloc (.cells #[] 30)) w.heap.size w.heap.size 0 [] (fun _ => 0) (fun _ => 0) :=
  ⟨by simpa [rowVs] using World.ownsRow_lit w #[] 0 (base := w.heap.size) (e := 30) (size := 1) (Nat.le_refl _) (by simp) rfl, ⟨fun i hi => absurd hi (by simp), fun i j _ hj => absurd hj (by simp)⟩⟩
theorem Acc.down {W : World} {lo lo' G C : Nat} {pre : List (List Nat)} {gs cs : Nat → Nat} (h : Acc W lo G C pre gs cs) (hl : lo' ≤ lo) : Acc W lo' G C pre gs cs := ⟨own_low h.out hl, ⟨fun i hi => own_low (h.row.row i hi) hl, h.row.ne⟩⟩
theorem one_row (w : World) (a : Nat) : (w.alloc (.cells #[.int .i64 (a : Int)] 3)).ownsRow w.heap.size 3 1 (.slice (some ⟨w.heap.size, 0, none⟩) 1 1) 1 (plist [a]) := by
  simpa [plist] using World.ownsRow_lit w #[.int .i64 (a : Int)] 1 (base := w.heap.size) (e := 3) (size := 1) (Nat.le_refl _) (by simp [maxLen]) rfl
/-- what stands while spec.WayAll goes through the sizes -/
structure Sst (w wr : World) (Kn : Nat) (nv : Value) (ps : List (List Nat)) (G C : Nat) (gs cs : Nat → Nat) : Prop where
  X : Bx w wr (Kn : Int) nv
  A : Acc wr (w.heap.size + 1) G C ps gs cs
theorem Sst.next {w wr w' : World} {Kn : Nat} {nv : Value} {ps : List (List Nat)} {G C : Nat} {gs cs : Nat → Nat} (h : Sst w wr Kn nv ps G C gs cs) (hb : Below wr.heap.size wr w') : Sst w w' Kn nv ps G C gs cs := ⟨h.X.next hb, h.A.kept hb⟩
theorem Sst.then {w wr w' : World} {Kn : Nat} {nv : Value} {ps ps' : List (List Nat)} {G C G2 C2 : Nat} {gs cs gs2 cs2 : Nat → Nat} (h : Sst w wr Kn nv ps G C gs cs) (hA : Acc w' (w.heap.size + 1) G2 C2 ps' gs2 cs2) (hg : wr.grownBy w' (some G)) : Sst w w' Kn nv ps' G2 C2 gs2 cs2 := by
  have hG := h.A.lt.1
  have hb : Below (w.heap.size + 1) wr w' := ⟨hg.os, hg.tape, hg.output, hg.size, fun k hk => hg.block k (by have := h.X.lt; omega) (by intro e; cases e; omega)⟩
  exact ⟨⟨(hb.cell (p := ⟨w.heap.size, 0, none⟩) (by show w.heap.size < w.heap.size + 1; omega)).trans h.X.c0, (hb.cell (p := ⟨w.heap.size, 1, none⟩) (by show w.heap.size < w.heap.size + 1; omega)).trans h.X.c1, Nat.lt_of_lt_of_le h.X.lt hb.size, h.X.B.trans (hb.mono (by omega))⟩, hA⟩

end Go.Proofs.YtloicmngoaccoaaDoor
