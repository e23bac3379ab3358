/- Walk of spec.l71Spoil. -/
import Derived.Test.YtncjdbhicpgfkaaDoorWCopy
import Derived.Deep.RegionLaw
namespace Go.Proofs.YtncjdbhicpgfkaaDoor
open Go.RowKit
set_option linter.unusedVariables false

theorem own_same {w w' : World} {base : Nat} {e : TypeId} {size : Nat} {v : Value} {n : Nat} {xs : List Value} (h : w.ownsRow base e size v n xs) (hb : ∀ g, base ≤ g → g < w.heap.size → w'.heap[g]? = w.heap[g]?) : w'.ownsRow base e size v n xs := by
  refine ⟨h.1, ?_⟩
  rcases h.2 with h1 | ⟨g, cap, cur, h1, h2, h3, h4⟩
  · exact Or.inl h1
  · exact Or.inr ⟨g, cap, cur, h1, h2, (hb g h2 (Array.getElem?_eq_some_iff.1 h3).1).trans h3, h4⟩

/-- a net in the box of a function that began in w, being spoilt; its answer's cell behind it -/
structure SI (w wr : World) (R : Nat) (bo : Option Addr) (bn bcap p : Nat) (K : Int) (ao : Option Addr) (cap : Nat) (us : List (Int × Int)) : Prop where
  a0 : wr.cell? ⟨w.heap.size, 0, none⟩ = some (.int .i64 K)
  a1 : wr.cell? ⟨w.heap.size, 1, none⟩ = some (.slice ao us.length cap)
  f0 : wr.frozen? ⟨w.heap.size, 0, none⟩ = false
  f1 : wr.frozen? ⟨w.heap.size, 1, none⟩ = false
  r0 : wr.cell? ⟨w.heap.size + 1, 0, none⟩ = some (.int .i64 0)
  r1 : wr.cell? ⟨w.heap.size + 1, 1, none⟩ = some (.slice none 0 0)
  g0 : wr.frozen? ⟨w.heap.size + 1, 0, none⟩ = false
  g1 : wr.frozen? ⟨w.heap.size + 1, 1, none⟩ = false
  own : wr.ownsRow (w.heap.size + 1 + 1) 35 2 (.slice ao us.length cap) us.length (clist us us.length)
  rd : Rdr wr R bo bn bcap p
  tr : Turned R (R + 1) w wr
  ra : R < w.heap.size
  lt : w.heap.size + 1 < wr.heap.size
theorem SI.turn {w wr w' : World} {R : Nat} {bo : Option Addr} {bn bcap p p' : Nat} {K : Int} {ao : Option Addr} {cap : Nat} {us : List (Int × Int)} (h : SI w wr R bo bn bcap p K ao cap us) (ht : Turned R (R + 1) wr w') (hr : Rdr w' R bo bn bcap p') : SI w w' R bo bn bcap p' K ao cap us := by
  have h1 := h.ra
  have h3 := h.lt
  have c := fun (b o : Nat) (hb : b < wr.heap.size) (hb2 : R + 1 ≤ b) => ht.cell (p := ⟨b, o, none⟩) hb (Or.inr hb2)
  have f := fun (b o : Nat) (hb : b < wr.heap.size) (hb2 : R + 1 ≤ b) => ht.frozen (p := ⟨b, o, none⟩) hb (Or.inr hb2)
  exact ⟨(c _ _ (by omega) (by omega)).trans h.a0, (c _ _ (by omega) (by omega)).trans h.a1, (f _ _ (by omega) (by omega)).trans h.f0, (f _ _ (by omega) (by omega)).trans h.f1,
    (c _ _ (by omega) (by omega)).trans h.r0, (c _ _ (by omega) (by omega)).trans h.r1, (f _ _ (by omega) (by omega)).trans h.g0, (f _ _ (by omega) (by omega)).trans h.g1,
    own_same h.own (fun g hg hl => ht.block g hl (Or.inr (by omega))), hr, h.tr.trans ht, h1, Nat.lt_of_lt_of_le h3 ht.size⟩
theorem SI.next {w wr w' : World} {R : Nat} {bo : Option Addr} {bn bcap p : Nat} {K : Int} {ao : Option Addr} {cap : Nat} {us : List (Int × Int)} (h : SI w wr R bo bn bcap p K ao cap us) (hb : Below wr.heap.size wr w') : SI w w' R bo bn bcap p K ao cap us :=
  h.turn (Turned.of_below hb) (h.rd.next hb)
/-- cells of the box are stored -/
theorem SI.knots {w wr : World} {R : Nat} {bo : Option Addr} {bn bcap p : Nat} {K : Int} {ao : Option Addr} {cap : Nat} {us : List (Int × Int)} (h : SI w wr R bo bn bcap p K ao cap us) (K' : Int) : SI w (wr.setCell ⟨w.heap.size, 0, none⟩ (.int .i64 K')) R bo bn bcap p K' ao cap us := by
  have h1 := h.ra
  have h3 := h.lt
  have ea : ∀ k, k ≠ w.heap.size → (wr.setCell ⟨w.heap.size, 0, none⟩ (.int .i64 K')).heap[k]? = wr.heap[k]? := fun k hk => Below.heap_setCell _ _ _ _ hk
  have hsz : (wr.setCell ⟨w.heap.size, 0, none⟩ (.int .i64 K')).heap.size = wr.heap.size := by simp [World.setCell]
  refine ⟨World.cell?_setCell_same _ _ _ h.a0, (World.cell?_setCell_other _ _ _ _ (by simp)).trans h.a1, by rw [World.frozen?_setCell]; exact h.f0, by rw [World.frozen?_setCell]; exact h.f1,
    (World.cell?_of_block (a := ⟨w.heap.size + 1, 0, none⟩) (ea _ (by show w.heap.size + 1 ≠ _; omega))).trans h.r0, (World.cell?_of_block (a := ⟨w.heap.size + 1, 1, none⟩) (ea _ (by show w.heap.size + 1 ≠ _; omega))).trans h.r1, (World.frozen?_of_block (a := ⟨w.heap.size + 1, 0, none⟩) (ea _ (by show w.heap.size + 1 ≠ _; omega))).trans h.g0, (World.frozen?_of_block (a := ⟨w.heap.size + 1, 1, none⟩) (ea _ (by show w.heap.size + 1 ≠ _; omega))).trans h.g1,
    own_same h.own (fun g hg _ => ea g (by omega)), ?_, h.tr.set (Nat.le_refl _) _, h1, by rw [hsz]; exact h3⟩
  refine ⟨(World.cell?_of_block (a := ⟨R, 0, none⟩) (ea _ (by show R ≠ _; omega))).trans h.rd.c0, (World.cell?_of_block (a := ⟨R, 1, none⟩) (ea _ (by show R ≠ _; omega))).trans h.rd.c1, (World.frozen?_of_block (a := ⟨R, 1, none⟩) (ea _ (by show R ≠ _; omega))).trans h.rd.f1, by rw [hsz]; exact h.rd.lt, h.rd.short, fun i hi => ?_⟩
  obtain ⟨b, off, v, e, q1, q3, q4⟩ := h.rd.bytes i hi
  exact ⟨b, off, v, e, q1, (World.cell?_of_block (a := ⟨b, off + i, none⟩) (ea _ (by show b ≠ _; omega))).trans q3, q4⟩
/-- the box's list is stored anew: a row of the call's own, of a world that has grown by an append -/
theorem SI.list {w wr wb : World} {R : Nat} {bo : Option Addr} {bn bcap p : Nat} {K : Int} {ao : Option Addr} {cap : Nat} {us : List (Int × Int)} (h : SI w wr R bo bn bcap p K ao cap us) {r : Option Nat} (hg : wr.grownBy wb r) (hr : ∀ k, r = some k → w.heap.size + 1 + 1 ≤ k) {ao' : Option Addr} {cap' : Nat} {us' : List (Int × Int)}
    (ho : wb.ownsRow (w.heap.size + 1 + 1) 35 2 (.slice ao' us'.length cap') us'.length (clist us' us'.length)) : SI w (wb.setCell ⟨w.heap.size, 1, none⟩ (.slice ao' us'.length cap')) R bo bn bcap p K ao' cap' us' := by
  have h1 := h.ra
  have h3 := h.lt
  have eb : ∀ k, k < w.heap.size + 1 + 1 → wb.heap[k]? = wr.heap[k]? := fun k hk => hg.block k (by omega) (fun e => by have := hr k e.symm; omega)
  have ea : ∀ k, k ≠ w.heap.size → (wb.setCell ⟨w.heap.size, 1, none⟩ (.slice ao' us'.length cap')).heap[k]? = wb.heap[k]? := fun k hk => Below.heap_setCell _ _ _ _ hk
  have hsz : (wb.setCell ⟨w.heap.size, 1, none⟩ (.slice ao' us'.length cap')).heap.size = wb.heap.size := by simp [World.setCell]
  have cb := fun (b o : Nat) (hb : b < w.heap.size + 1 + 1) => World.cell?_of_block (a := ⟨b, o, none⟩) (eb b hb)
  have fb := fun (b o : Nat) (hb : b < w.heap.size + 1 + 1) => World.frozen?_of_block (a := ⟨b, o, none⟩) (eb b hb)
  have ce := fun (b o : Nat) (hb : b < w.heap.size + 1 + 1) (hn : b ≠ w.heap.size) => World.cell?_of_block (a := ⟨b, o, none⟩) ((ea b hn).trans (eb b hb))
  have fe := fun (b o : Nat) (hb : b < w.heap.size + 1 + 1) (hn : b ≠ w.heap.size) => World.frozen?_of_block (a := ⟨b, o, none⟩) ((ea b hn).trans (eb b hb))
  refine ⟨(World.cell?_setCell_other _ _ _ _ (by simp)).trans ((cb _ _ (by omega)).trans h.a0), World.cell?_setCell_same _ _ _ ((cb _ _ (by omega)).trans h.a1), by rw [World.frozen?_setCell]; exact (fb _ _ (by omega)).trans h.f0, by rw [World.frozen?_setCell]; exact (fb _ _ (by omega)).trans h.f1,
    (ce _ _ (by omega) (by omega)).trans h.r0, (ce _ _ (by omega) (by omega)).trans h.r1, (fe _ _ (by omega) (by omega)).trans h.g0, (fe _ _ (by omega) (by omega)).trans h.g1,
    own_same ho (fun g hg _ => ea g (by omega)), ?_, ?_, h1, by rw [hsz]; have := hg.size; omega⟩
  · refine ⟨(ce R 0 (by omega) (by omega)).trans h.rd.c0, (ce R 1 (by omega) (by omega)).trans h.rd.c1, (fe R 1 (by omega) (by omega)).trans h.rd.f1, by rw [hsz]; have := hg.size; have := h.rd.lt; omega, h.rd.short, fun i hi => ?_⟩
    obtain ⟨b, off, v, e, q1, q3, q4⟩ := h.rd.bytes i hi
    exact ⟨b, off, v, e, q1, (ce b (off + i) (by omega) (by omega)).trans q3, q4⟩
  · exact Turned.set ⟨hg.os.trans h.tr.os, hg.tape.trans h.tr.tape, hg.output.trans h.tr.output, Nat.le_trans h.tr.size hg.size, fun k hk ho => (eb k (by omega)).trans (h.tr.block k hk ho)⟩ (Nat.le_refl _) _

end Go.Proofs.YtncjdbhicpgfkaaDoor
