/- Texts put together: WSpecCut, WAlls. -/
import Derived.Test.YtljnjpjnadlmhaaPartWSpecAdd
import Derived.Test.YtljnjpjnadlmhaaMath4
/- Walks of spec.NetCut and spec.NetWithout. -/
namespace Go.Proofs.Ytljnjpjnadlmhaa
open Go.RowKit
set_option linter.unusedVariables false

/-- what a round reads, as it lay when the loop began -/
structure St2 (w5 : World) (O B : Nat) (nv : Value) (bb at_ : Nat) (x y : Int) : Prop where
  b1 : w5.cell? ⟨B, 1, none⟩ = some nv
  c0 : w5.cell? ⟨bb, at_, none⟩ = some (.int .i64 x)
  c1 : w5.cell? ⟨bb, at_ + 1, none⟩ = some (.int .i64 y)
  zB : B < w5.heap.size ∧ B ≠ O
  zb : bb < w5.heap.size ∧ bb ≠ O
theorem St2.at {w5 wr : World} {K : Int} {O : Nat} {v : Value} {L : List (Int × Int)} {B : Nat} {nv : Value} {bb at_ : Nat} {x y : Int} (h : St2 w5 O B nv bb at_ x y) (M : Made w5 wr K O v L) :
    wr.cell? ⟨B, 1, none⟩ = some nv ∧ wr.cell? ⟨bb, at_, none⟩ = some (.int .i64 x) ∧ wr.cell? ⟨bb, at_ + 1, none⟩ = some (.int .i64 y) ∧ O < wr.heap.size ∧ B < wr.heap.size ∧ bb < wr.heap.size := by
  have z := M.gr.size
  have o := M.hO
  exact ⟨(M.old (p := ⟨B, 1, none⟩) h.zB.1 h.zB.2).trans h.b1, (M.old (p := ⟨bb, at_, none⟩) h.zb.1 h.zb.2).trans h.c0, (M.old (p := ⟨bb, at_ + 1, none⟩) h.zb.1 h.zb.2).trans h.c1,
    by omega, by have := h.zB.1; omega, by have := h.zb.1; omega⟩
theorem Made.begin {w3 : World} {K : Int} (t : TypeId) : Made (w3.alloc (.cells #[.int .i64 K, .slice none 0 0] t)) (w3.alloc (.cells #[.int .i64 K, .slice none 0 0] t)) K w3.heap.size (.slice none 0 0) [] :=
  ⟨⟨rfl, rfl, rfl, Nat.le_refl _, fun _ _ _ => rfl⟩, by simp, by simp, by simp, World.ownsRow_nil _ _ _ _, by simp⟩

end Go.Proofs.Ytljnjpjnadlmhaa

/- The answers of NetAdd, NetCut, NetWithout in one form each. -/
namespace Go.Proofs.Ytljnjpjnadlmhaa
open Go.RowKit
set_option linter.unusedVariables false

theorem cutB_no {K : Int} {ts : List (Int × Int)} {a b : Int} (h : cutB K ts a b = false) : hasB K ts a b = false := h
theorem cutB_yes {K : Int} {ts : List (Int × Int)} {a b : Int} (h : cutB K ts a b = true) : hasB K ts a b = true := h
end Go.Proofs.Ytljnjpjnadlmhaa
