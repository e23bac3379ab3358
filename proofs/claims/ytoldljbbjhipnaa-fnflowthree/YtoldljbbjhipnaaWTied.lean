/- Towards the walks of spec.l71Tied, spec.DrawNetHas. -/
import Derived.Test.YtoldljbbjhipnaaWPairs
namespace Go.Proofs.Ytoldljbbjhipnaa
open Go.RowKit
set_option linter.unusedVariables false

theorem below_set2 {w : World} {o : Obj} (h : Below w.heap.size w (w.alloc o)) (u v : Value) : Below w.heap.size w (((w.alloc o).setCell ⟨w.heap.size, 0, none⟩ u).setCell ⟨w.heap.size, 1, none⟩ v) :=
  (h.setCell (Nat.le_refl _) _).setCell (Nat.le_refl _) _
theorem Pst.next {w wr w' : World} {R A : Nat} {bo : Option Addr} {bn bcap p : Nat} {K : Int} {ao : Option Addr} {cap : Nat} {us : List (Int × Int)} (h : Pst w wr R A bo bn bcap p K ao cap us) (hb : Below wr.heap.size wr w') : Pst w w' R A bo bn bcap p K ao cap us :=
  h.turn (Turned.of_below hb) (h.rd.next hb)
theorem Pst.row {w wr : World} {R A : Nat} {bo : Option Addr} {bn bcap p : Nat} {K : Int} {g cap : Nat} {us : List (Int × Int)} (h : Pst w wr R A bo bn bcap p K (some ⟨g, 0, none⟩) cap us) {k : Nat} (hk : k < us.length) :
    wr.cell? ⟨g, k * 2, none⟩ = some (.int .i64 (tA us k)) ∧ wr.cell? ⟨g, k * 2 + 1, none⟩ = some (.int .i64 (tB us k)) := by
  rcases h.O with ⟨_, e⟩ | ⟨g', e, _, _, ho⟩
  · cases e
  · cases e
    exact ⟨(ho.1 _ (by omega)).trans (by rw [tcell0]), (ho.1 _ (by omega)).trans (by rw [tcell1])⟩
theorem Cel.drew {w : World} {A : Nat} {K : Int} {v : Value} (h : Cel w A K v) : Cel w.drew A K v := ⟨h.c0, h.c1, h.f0, h.f1, h.lt⟩
theorem Cel.set {w : World} {A : Nat} {K : Int} {v : Value} (h : Cel w A K v) {q : Addr} (hq : A ≠ q.block) (u : Value) : Cel (w.setCell q u) A K v := by
  have ea : (w.setCell q u).heap[A]? = w.heap[A]? := Below.heap_setCell _ _ _ _ hq
  exact ⟨(World.cell?_of_block (a := ⟨A, 0, none⟩) ea).trans h.c0, (World.cell?_of_block (a := ⟨A, 1, none⟩) ea).trans h.c1, (World.frozen?_of_block (a := ⟨A, 0, none⟩) ea).trans h.f0, (World.frozen?_of_block (a := ⟨A, 1, none⟩) ea).trans h.f1, by simpa [World.setCell] using h.lt⟩
theorem Cel.put {w : World} {A : Nat} {K : Int} {v : Value} (h : Cel w A K v) (x : Int) (u : Value) : Cel ((w.setCell ⟨A, 0, none⟩ (.int .i64 x)).setCell ⟨A, 1, none⟩ u) A x u :=
  ⟨(World.cell?_setCell_other _ _ _ _ (by simp)).trans (World.cell?_setCell_same _ _ _ h.c0), World.cell?_setCell_same _ _ _ ((World.cell?_setCell_other _ _ _ _ (by simp)).trans h.c1), by rw [World.frozen?_setCell, World.frozen?_setCell]; exact h.f0, by rw [World.frozen?_setCell, World.frozen?_setCell]; exact h.f1, by simpa [World.setCell] using h.lt⟩
/-- a pair of cells made at w2's end is stored, behind a turn -/
theorem Pst.late {w w2 w3 : World} {R A : Nat} {bo : Option Addr} {bn bcap p p' : Nat} {K : Int} {ao : Option Addr} {cap : Nat} {us : List (Int × Int)} {o : Obj} (h : Pst w w2 R A bo bn bcap p K ao cap us) (ht : Turned R (R + 1) ((w2.alloc o).drew) w3) (hr : Rdr w3 R bo bn bcap p') (u v : Value) :
    Pst w ((w3.setCell ⟨w2.heap.size, 0, none⟩ u).setCell ⟨w2.heap.size, 1, none⟩ v) R A bo bn bcap p' K ao cap us := by
  have h1 := h.hR
  have h2 := h.hA
  have h3 := h.N.lt
  have hb : Below w2.heap.size w2 ((w2.alloc o).drew) := (below_one w2 o).drew
  have hsz : ((w3.setCell ⟨w2.heap.size, 0, none⟩ u).setCell ⟨w2.heap.size, 1, none⟩ v).heap.size = w3.heap.size := by simp [World.setCell]
  have hz := ht.size
  have hz' := hb.size
  have S := (h.next hb).turn ht hr
  refine ⟨(S.C.set (by show w.heap.size ≠ w2.heap.size; omega) _).set (by show w.heap.size ≠ w2.heap.size; omega) _, (S.N.set (by show A ≠ w2.heap.size; omega) _).set (by show A ≠ w2.heap.size; omega) _, (hr.far (by show R < w2.heap.size; omega) _).far (by show R < w2.heap.size; omega) _, (S.T.set (by show w.heap.size ≤ w2.heap.size; omega) _).set (by show w.heap.size ≤ w2.heap.size; omega) _, ?_, h1, h2⟩
  rw [hsz]
  exact ((((h.O.next hb).aside ht (Or.inr (by omega))).far (Or.inr (Nat.le_refl _)) _).far (Or.inr (Nat.le_refl _)) _).up (by omega)

end Go.Proofs.Ytoldljbbjhipnaa
