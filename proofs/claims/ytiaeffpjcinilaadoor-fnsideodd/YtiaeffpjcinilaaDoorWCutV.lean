/- A net that is put into a variable, which lay ahead of the call that answers it, or was made behind it. -/
import Derived.Test.YtiaeffpjcinilaaDoorPartWLeaf
import Derived.Test.YtiaeffpjcinilaaDoorPartWSpecOk
import Derived.Test.YtiaeffpjcinilaaDoorPartWLo
namespace Go.Proofs.YtiaeffpjcinilaaDoor
open Go.RowKit
set_option linter.unusedVariables false

theorem wp_weakC {P : Program} {c : Code} {Q' : Exit → Act → World → Prop} {K : Act → World → Prop} {a : Act} {w : World} {aa : Nat → Option Addr → Nat → Act} (J : Nat → Option Addr → Nat → World → Prop) (h : c.wp P (Exit.then (fun a' w' => ∃ l s r, a' = aa l s r ∧ J l s r w') Q') a w) (hk : ∀ l s r w', J l s r w' → K (aa l s r) w') : c.wp P (Exit.then K Q') a w :=
  Code.wp_mono (fun e a' w' h => by
    cases e with
    | normal => obtain ⟨l, s, r, rfl, hj⟩ := h; exact hk l s r _ hj
    | _ => exact h) h
theorem wp_weakL {P : Program} {c : Code} {Q' : Exit → Act → World → Prop} {K : Act → World → Prop} {a : Act} {w : World} {aa : Nat → Act} (J : Nat → World → Prop) (h : c.wp P (Exit.then (fun a' w' => ∃ l, a' = aa l ∧ J l w') Q') a w) (hk : ∀ l w', J l w' → K (aa l) w') : c.wp P (Exit.then K Q') a w :=
  Code.wp_mono (fun e a' w' h => by
    cases e with
    | normal => obtain ⟨l, rfl, hj⟩ := h; exact hk l _ hj
    | _ => exact h) h
theorem own_still {w w' : World} {base : Nat} {e : TypeId} {size : Nat} {v : Value} {n : Nat} {xs : List Value} (h : w.ownsRow base e size v n xs) (hb : ∀ g, g < w.heap.size → w'.heap[g]? = w.heap[g]?) : w'.ownsRow base e size v n xs := by
  refine ⟨h.1, ?_⟩
  rcases h.2 with h1 | ⟨g, cap, cur, h1, h2, h3, h4⟩
  · exact Or.inl h1
  · exact Or.inr ⟨g, cap, cur, h1, h2, (hb g (Array.getElem?_eq_some_iff.1 h3).1).trans h3, h4⟩
theorem two_cells {W : World} {R : Nat} {t : TypeId} {v0 v1 : Value} (h : W.heap[R]? = some (Obj.cells #[v0, v1] t (0, 0))) : W.cell? ⟨R, 0, none⟩ = some v0 ∧ W.cell? ⟨R, 1, none⟩ = some v1 ∧ ∀ j, W.frozen? ⟨R, j, none⟩ = false := by
  refine ⟨?_, ?_, fun j => ?_⟩
  · simp [World.cell?, h]
  · simp [World.cell?, h]
  · simp [World.frozen?, h]
/-- two numbers in a variable -/
def TieSt (w4 W : World) (XB : Nat) (a b : Int) : Prop := W.cell? ⟨XB, 0, none⟩ = some (.int .i64 a) ∧ W.cell? ⟨XB, 1, none⟩ = some (.int .i64 b) ∧ XB < W.heap.size ∧ Below w4.heap.size w4 W
theorem TieSt.put {w4 W : World} {a b : Int} {u0 u1 : Value} {t : TypeId} (hX : W.heap[w4.heap.size]? = some (Obj.cells #[u0, u1] t (0, 0))) (hb : Below w4.heap.size w4 W) : TieSt w4 ((W.setCell ⟨w4.heap.size, 0, none⟩ (.int .i64 a)).setCell ⟨w4.heap.size, 1, none⟩ (.int .i64 b)) w4.heap.size a b := by
  have hl := (Array.getElem?_eq_some_iff.1 hX).1
  have one : ∀ (W : World) (cs : Array Value) (j : Nat) (u : Value), W.heap[w4.heap.size]? = some (Obj.cells cs t (0, 0)) → (W.setCell ⟨w4.heap.size, j, none⟩ u).heap[w4.heap.size]? = some (Obj.cells (cs.setIfInBounds j u) t (0, 0)) := fun W cs j u h => by
    obtain ⟨hl, he⟩ := Array.getElem?_eq_some_iff.1 h
    simp [World.setCell, Array.getElem_modify, hl, he]
  have h2 := one _ _ 1 (.int .i64 b) (one _ _ 0 (.int .i64 a) hX)
  obtain ⟨c0, c1, _⟩ := two_cells (v0 := .int .i64 a) (v1 := .int .i64 b) h2
  exact ⟨c0, c1, by simpa using hl, (hb.setCell (p := ⟨w4.heap.size, 0, none⟩) (Nat.le_refl _) _).setCell (p := ⟨w4.heap.size, 1, none⟩) (Nat.le_refl _) _⟩
theorem TieSt.new {w4 W : World} {a b : Int} (t : TypeId) (hb : Below w4.heap.size w4 W) : TieSt w4 (W.alloc (.cells #[.int .i64 a, .int .i64 b] t)) W.heap.size a b :=
  ⟨by simp, by simp, by simp, hb.alloc hb.size _⟩
/-- the net without a bridge, in a variable -/
def CutSt (w4 W : World) (XB : Nat) (K : Int) (ao : Option Addr) (cap : Nat) (vs : List (Int × Int)) : Prop := NetV W XB K ao cap vs ∧ Below w4.heap.size w4 W
/-- a net that is put into a variable that lay ahead of it -/
theorem CutSt.put {w4 W : World} {K : Int} {ao : Option Addr} {cap : Nat} {vs : List (Int × Int)} {u0 u1 : Value} {t : TypeId} (hX : W.heap[w4.heap.size]? = some (Obj.cells #[u0, u1] t (0, 0))) (ho : OwnN W (w4.heap.size + 1) W.heap.size ao vs.length (tcell vs)) (hb : Below w4.heap.size w4 W) : CutSt w4 ((W.setCell ⟨w4.heap.size, 0, none⟩ (.int .i64 K)).setCell ⟨w4.heap.size, 1, none⟩ (.slice ao vs.length cap)) w4.heap.size K ao cap vs := by
  have hl := (Array.getElem?_eq_some_iff.1 hX).1
  have one : ∀ (W : World) (cs : Array Value) (j : Nat) (u : Value), W.heap[w4.heap.size]? = some (Obj.cells cs t (0, 0)) → (W.setCell ⟨w4.heap.size, j, none⟩ u).heap[w4.heap.size]? = some (Obj.cells (cs.setIfInBounds j u) t (0, 0)) := fun W cs j u h => by
    obtain ⟨hl, he⟩ := Array.getElem?_eq_some_iff.1 h
    simp [World.setCell, Array.getElem_modify, hl, he]
  have h2 := one _ _ 1 (.slice ao vs.length cap) (one _ _ 0 (.int .i64 K) hX)
  obtain ⟨c0, c1, _⟩ := two_cells (v0 := .int .i64 K) (v1 := .slice ao vs.length cap) h2
  refine ⟨⟨c0, c1, by simpa using hl, ?_⟩, (hb.setCell (p := ⟨w4.heap.size, 0, none⟩) (Nat.le_refl _) _).setCell (p := ⟨w4.heap.size, 1, none⟩) (Nat.le_refl _) _⟩
  rcases ho with ⟨hz, _⟩ | ⟨g, e, h1, h2', h3⟩
  · intro j hj; omega
  · have ht : TiesIn W W.heap.size ao vs := OwnN.ties (Or.inr ⟨g, e, h1, h2', h3⟩) (Nat.le_refl _)
    intro j hj
    obtain ⟨b, off, e2, hb2, q0, q1⟩ := ht j hj
    have hbg : b = g := by rw [e] at e2; cases e2; rfl
    refine ⟨b, off, e2, by simpa using hb2, ?_, ?_⟩
    · rw [World.cell?_setCell_other _ _ _ _ (by intro x; have := congrArg Addr.block x; simp at this; omega), World.cell?_setCell_other _ _ _ _ (by intro x; have := congrArg Addr.block x; simp at this; omega)]; exact q0
    · rw [World.cell?_setCell_other _ _ _ _ (by intro x; have := congrArg Addr.block x; simp at this; omega), World.cell?_setCell_other _ _ _ _ (by intro x; have := congrArg Addr.block x; simp at this; omega)]; exact q1

end Go.Proofs.YtiaeffpjcinilaaDoor
