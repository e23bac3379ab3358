/- Walk of impl.WayOk. -/
import Derived.Test.YtoldljbbjhipnaaDoorPartWPath
import Derived.Test.YtoldljbbjhipnaaDoorPartWReach
namespace Go.Proofs.YtoldljbbjhipnaaDoor
open Go.RowKit
set_option linter.unusedVariables false

theorem pcell_lt {l : List Int} {j : Nat} (h : j < 8) : pcell l j = .int .i64 (xi l j) := if_pos h
theorem pcell_8 {l : List Int} : pcell l 8 = .int .i64 (l.length : Int) := rfl
theorem hasKnot_is (v : Bool) (K : Int) (u : Value) (k : Int) (w : World) (h : knotB k K = v) :
    Calls Tryd.prog 31 #[.agg #[.int .i64 K, u], .int .i64 k] w fun e w' => e = .returned (.bool v) ∧ Below w.heap.size w w' := by
  rw [← h]; exact (hasKnot_any K u k w).mono fun e w' ⟨he, hw⟩ => ⟨he, by rw [hw]; exact below_one _ _⟩
theorem with_to (l l2 : List Int) (k : Int) (w : World) (h : l.length < 8) (h2 : l2 = l ++ [k]) : Calls Tryd.prog 72 #[.agg #[.int .i64 (xi l 0), .int .i64 (xi l 1), .int .i64 (xi l 2), .int .i64 (xi l 3), .int .i64 (xi l 4), .int .i64 (xi l 5), .int .i64 (xi l 6), .int .i64 (xi l 7), .int .i64 (l.length : Int)], .int .i64 k] w fun x w' => x = .returned (.agg #[.int .i64 (xi l2 0), .int .i64 (xi l2 1), .int .i64 (xi l2 2), .int .i64 (xi l2 3), .int .i64 (xi l2 4), .int .i64 (xi l2 5), .int .i64 (xi l2 6), .int .i64 (xi l2 7), .int .i64 (l2.length : Int)]) ∧ Below w.heap.size w w' := by
  subst h2; exact with_path l k w h
theorem canGo_is (v : Bool) (l : List Int) (S : Nat) (k : Int) (w : World) (h0 : 0 < l.length) (h : l.length ≤ 8) (hS : S < 2 ^ 64) (hv : canB S l k = v) : Calls Tryd.prog 94 #[.agg #[.int .i64 (xi l 0), .int .i64 (xi l 1), .int .i64 (xi l 2), .int .i64 (xi l 3), .int .i64 (xi l 4), .int .i64 (xi l 5), .int .i64 (xi l 6), .int .i64 (xi l 7), .int .i64 (l.length : Int)], .int .u64 (S : Int), .int .i64 k] w fun x w' => x = .returned (.bool v) ∧ Below w.heap.size w w' := by
  subst hv; exact canGo_any l S k w h0 h hS

theorem own_path (w : World) (l : List Int) (t : TypeId) : OwnI (w.alloc (.cells #[.int .i64 (xi l 0), .int .i64 (xi l 1), .int .i64 (xi l 2), .int .i64 (xi l 3), .int .i64 (xi l 4), .int .i64 (xi l 5), .int .i64 (xi l 6), .int .i64 (xi l 7), .int .i64 (l.length : Int)] t)) w.heap.size 9 (pcell l) :=
  ⟨fun j hj => (World.cell?_alloc_at _ _ _ _ rfl).trans (pathV_cells l j hj), fun j => World.frozen?_alloc_at _ _ _ _ rfl, by simp⟩
/-- a way laid anew, cell by cell -/
def putPath (w : World) (P : Nat) (l : List Int) : World :=
  (((((((((w.setCell ⟨P, 0, none⟩ (.int .i64 (xi l 0))).setCell ⟨P, 1, none⟩ (.int .i64 (xi l 1))).setCell ⟨P, 2, none⟩ (.int .i64 (xi l 2))).setCell ⟨P, 3, none⟩ (.int .i64 (xi l 3))).setCell ⟨P, 4, none⟩ (.int .i64 (xi l 4))).setCell ⟨P, 5, none⟩ (.int .i64 (xi l 5))).setCell ⟨P, 6, none⟩ (.int .i64 (xi l 6))).setCell ⟨P, 7, none⟩ (.int .i64 (xi l 7))).setCell ⟨P, 8, none⟩ (.int .i64 (l.length : Int)))
theorem putPath_own {w : World} {P : Nat} {l l2 : List Int} (h : OwnI w P 9 (pcell l)) : OwnI (putPath w P l2) P 9 (pcell l2) := by
  unfold putPath
  refine ((((((((((h.set (i := 0) (by omega) (.int .i64 (xi l2 0))).set (i := 1) (by omega) (.int .i64 (xi l2 1))).set (i := 2) (by omega) (.int .i64 (xi l2 2))).set (i := 3) (by omega) (.int .i64 (xi l2 3))).set (i := 4) (by omega) (.int .i64 (xi l2 4))).set (i := 5) (by omega) (.int .i64 (xi l2 5))).set (i := 6) (by omega) (.int .i64 (xi l2 6))).set (i := 7) (by omega) (.int .i64 (xi l2 7))).set (i := 8) (by omega) (.int .i64 (l2.length : Int)))).congr ?_
  intro j hj
  have : j = 0 ∨ j = 1 ∨ j = 2 ∨ j = 3 ∨ j = 4 ∨ j = 5 ∨ j = 6 ∨ j = 7 ∨ j = 8 := by omega
  rcases this with rfl | rfl | rfl | rfl | rfl | rfl | rfl | rfl | rfl <;> rfl
theorem putPath_below {w w' : World} {B P : Nat} {l : List Int} (h : Below B w w') (hB : B ≤ P) : Below B w (putPath w' P l) := by
  unfold putPath
  exact (((((((((h.setCell (p := ⟨P, 0, none⟩) hB _).setCell (p := ⟨P, 1, none⟩) hB _).setCell (p := ⟨P, 2, none⟩) hB _).setCell (p := ⟨P, 3, none⟩) hB _).setCell (p := ⟨P, 4, none⟩) hB _).setCell (p := ⟨P, 5, none⟩) hB _).setCell (p := ⟨P, 6, none⟩) hB _).setCell (p := ⟨P, 7, none⟩) hB _).setCell (p := ⟨P, 8, none⟩) hB _)

end Go.Proofs.YtoldljbbjhipnaaDoor
