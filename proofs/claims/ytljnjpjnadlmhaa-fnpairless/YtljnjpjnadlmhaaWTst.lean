/- A net drawn into a box, and ties: what stands. -/
import Derived.Test.YtljnjpjnadlmhaaWCapS
import Derived.Test.YtljnjpjnadlmhaaPartWCopy
import Derived.Test.YtljnjpjnadlmhaaPartWSpecCut
import Derived.Deep.RegionLaw
import Derived.BigRegion
namespace Go.Proofs.Ytljnjpjnadlmhaa
open Go.RowKit
set_option linter.unusedVariables false

/-- ties that can be read, in a block from lo on -/
def TiesUp (w : World) (lo : Nat) (ao : Option Addr) (ts : List (Int × Int)) : Prop :=
  ∀ i, i < ts.length → ∃ b off, ao = some ⟨b, off, none⟩ ∧ lo ≤ b ∧ b < w.heap.size ∧ w.cell? ⟨b, off + i * 2, none⟩ = some (.int .i64 (tA ts i)) ∧ w.cell? ⟨b, off + i * 2 + 1, none⟩ = some (.int .i64 (tB ts i))
theorem TiesUp.next {w w' : World} {lo : Nat} {ao : Option Addr} {ts : List (Int × Int)} (h : TiesUp w lo ao ts) (hb : Below w.heap.size w w') : TiesUp w' lo ao ts := by
  intro i hi
  obtain ⟨b, off, e, h1, h2, h3, h4⟩ := h i hi
  exact ⟨b, off, e, h1, Nat.lt_of_lt_of_le h2 hb.size, (hb.cell (p := ⟨b, off + i * 2, none⟩) h2).trans h3, (hb.cell (p := ⟨b, off + i * 2 + 1, none⟩) h2).trans h4⟩
theorem TiesUp.turn {w w' : World} {lo R : Nat} {ao : Option Addr} {ts : List (Int × Int)} (h : TiesUp w lo ao ts) (ht : Turned R (R + 1) w w') (hl : R + 1 ≤ lo) : TiesUp w' lo ao ts := by
  intro i hi
  obtain ⟨b, off, e, h1, h2, h3, h4⟩ := h i hi
  exact ⟨b, off, e, h1, Nat.lt_of_lt_of_le h2 ht.size, (ht.cell (p := ⟨b, off + i * 2, none⟩) h2 (Or.inr (Nat.le_trans hl h1))).trans h3, (ht.cell (p := ⟨b, off + i * 2 + 1, none⟩) h2 (Or.inr (Nat.le_trans hl h1))).trans h4⟩
theorem TiesUp.in {w : World} {lo : Nat} {ao : Option Addr} {ts : List (Int × Int)} (h : TiesUp w lo ao ts) : TiesIn w w.heap.size ao ts := by
  intro i hi
  obtain ⟨b, off, e, h1, h2, h3, h4⟩ := h i hi
  exact ⟨b, off, e, h2, h3, h4⟩
theorem TiesUp.down {w : World} {lo lo' : Nat} {ao : Option Addr} {ts : List (Int × Int)} (h : TiesUp w lo ao ts) (hl : lo' ≤ lo) : TiesUp w lo' ao ts := by
  intro i hi
  obtain ⟨b, off, e, h1, h2⟩ := h i hi
  exact ⟨b, off, e, Nat.le_trans hl h1, h2⟩
theorem OwnN.tiesUp {w : World} {lo hi : Nat} {ao : Option Addr} {ts : List (Int × Int)} (h : OwnN w lo hi ao ts.length (tcell ts)) : TiesUp w lo ao ts := by
  intro i hi'
  rcases h with ⟨h0, _⟩ | ⟨g, rfl, h1, h2, h3⟩
  · omega
  · refine ⟨g, 0, rfl, h1, h3.2.2, ?_, ?_⟩
    · rw [Nat.zero_add, h3.1 (i * 2) (by omega), tcell0]
    · rw [Nat.zero_add, h3.1 (i * 2 + 1) (by omega), tcell1]
theorem TiesUp.tail {w : World} {lo b off : Nat} {ts : List (Int × Int)} (h : TiesUp w lo (some ⟨b, off, none⟩) ts) : TiesUp w lo (some ⟨b, off + 2, none⟩) (ts.drop 1) := by
  intro i hi
  simp only [List.length_drop] at hi
  obtain ⟨b', off', e, h1, h2, h3, h4⟩ := h (i + 1) (by omega)
  simp only [Option.some.injEq, Addr.mk.injEq, and_true] at e
  obtain ⟨rfl, rfl⟩ := e
  have e1 : tA (ts.drop 1) i = tA ts (i + 1) := by simp [tA]
  have e2 : tB (ts.drop 1) i = tB ts (i + 1) := by simp [tB]
  refine ⟨b, off + 2, rfl, h1, h2, ?_, ?_⟩
  · rw [e1, show off + 2 + i * 2 = off + (i + 1) * 2 by omega]; exact h3
  · rw [e2, show off + 2 + i * 2 + 1 = off + (i + 1) * 2 + 1 by omega]; exact h4
/-- a net was drawn into the box A, with the reader at R; the answer's cell stands empty -/
structure Tst (w wr : World) (R : Nat) (bo : Option Addr) (bn bcap p : Nat) (A : Nat) (K : Int) (ao : Option Addr) (cap : Nat) (ts : List (Int × Int)) : Prop where
  rd : Rdr wr R bo bn bcap p
  C : Cel wr w.heap.size 0 (.slice none 0 0)
  n0 : wr.cell? ⟨A, 0, none⟩ = some (.int .i64 K)
  n1 : wr.cell? ⟨A, 1, none⟩ = some (.slice ao ts.length cap)
  hA : R < A
  lt : A < wr.heap.size
  tN : TiesUp wr (R + 1) ao ts
  B : Below w.heap.size w wr
  hR : w.heap.size < R
  hi : ∀ b off, ao = some ⟨b, off, none⟩ → 0 < ts.length → b < A
theorem Cel.nextC {w w' : World} {A : Nat} {K : Int} {v : Value} (h : Cel w A K v) (hb : Below w.heap.size w w') : Cel w' A K v := h.below hb h.lt
theorem Tst.next {w wr w' : World} {R : Nat} {bo : Option Addr} {bn bcap p : Nat} {A : Nat} {K : Int} {ao : Option Addr} {cap : Nat} {ts : List (Int × Int)} (h : Tst w wr R bo bn bcap p A K ao cap ts) (hb : Below wr.heap.size wr w') : Tst w w' R bo bn bcap p A K ao cap ts :=
  ⟨h.rd.next hb, h.C.nextC hb, (hb.cell (p := ⟨A, 0, none⟩) h.lt).trans h.n0, (hb.cell (p := ⟨A, 1, none⟩) h.lt).trans h.n1, h.hA, Nat.lt_of_lt_of_le h.lt hb.size, h.tN.next hb, h.B.trans (hb.mono h.B.size), h.hR, h.hi⟩
theorem Tst.turn {w wr w' : World} {R : Nat} {bo : Option Addr} {bn bcap p p' : Nat} {A : Nat} {K : Int} {ao : Option Addr} {cap : Nat} {ts : List (Int × Int)} (h : Tst w wr R bo bn bcap p A K ao cap ts) (ht : Turned R (R + 1) wr w') (rd : Rdr w' R bo bn bcap p') : Tst w w' R bo bn bcap p' A K ao cap ts :=
  ⟨rd, h.C.turn' ht h.hR, (ht.cell (p := ⟨A, 0, none⟩) h.lt (Or.inr h.hA)).trans h.n0, (ht.cell (p := ⟨A, 1, none⟩) h.lt (Or.inr h.hA)).trans h.n1, h.hA, Nat.lt_of_lt_of_le h.lt ht.size, h.tN.turn ht (Nat.le_refl _), h.B.trans (ht.toBelow (Nat.le_of_lt h.hR) (Nat.le_of_lt h.rd.lt)), h.hR, h.hi⟩
theorem Rdr.same {w w' : World} {R : Nat} {bo : Option Addr} {bn bcap p : Nat} (h : Rdr w R bo bn bcap p) (hb : ∀ k, k ≤ R → w'.heap[k]? = w.heap[k]?) (hs : w.heap.size ≤ w'.heap.size) : Rdr w' R bo bn bcap p := by
  refine ⟨(World.cell?_of_block (a := ⟨R, 0, none⟩) (hb R (Nat.le_refl _))).trans h.c0, (World.cell?_of_block (a := ⟨R, 1, none⟩) (hb R (Nat.le_refl _))).trans h.c1, (World.frozen?_of_block (a := ⟨R, 1, none⟩) (hb R (Nat.le_refl _))).trans h.f1, Nat.lt_of_lt_of_le h.lt hs, h.short, fun i hi => ?_⟩
  obtain ⟨b, off, v, e, h1, h3, h4⟩ := h.bytes i hi
  exact ⟨b, off, v, e, h1, (World.cell?_of_block (a := ⟨b, off + i, none⟩) (hb b (by omega))).trans h3, h4⟩
/-- behind an append to a row of a later block -/
theorem Tst.grown {w wr wa wb : World} {R : Nat} {bo : Option Addr} {bn bcap p : Nat} {A : Nat} {K : Int} {ao : Option Addr} {cap : Nat} {ts : List (Int × Int)} {row : Option Nat} (h : Tst w wr R bo bn bcap p A K ao cap ts) (ha : Below wr.heap.size wr wa) (hg : wa.grownBy wb row) (hr : ∀ k, row = some k → A + 1 ≤ k) : Tst w wb R bo bn bcap p A K ao cap ts := by
  have h1 := h.lt
  have h2 := h.hA
  have h3 := h.hR
  have hs := ha.size
  have eb : ∀ k, k ≤ A → wb.heap[k]? = wr.heap[k]? := fun k hk => (hg.block k (by omega) (fun e => by have := hr k e.symm; omega)).trans (ha.block k (by omega))
  have ce := fun (b o : Nat) (hb : b ≤ A) => World.cell?_of_block (a := ⟨b, o, none⟩) (eb b hb)
  have fe := fun (b o : Nat) (hb : b ≤ A) => World.frozen?_of_block (a := ⟨b, o, none⟩) (eb b hb)
  have hz : wr.heap.size ≤ wb.heap.size := Nat.le_trans hs hg.size
  refine ⟨h.rd.same (fun k hk => eb k (by omega)) hz, ⟨(ce _ _ (by omega)).trans h.C.c0, (ce _ _ (by omega)).trans h.C.c1, (fe _ _ (by omega)).trans h.C.f0, (fe _ _ (by omega)).trans h.C.f1, Nat.lt_of_lt_of_le h.C.lt hz⟩, (ce _ _ (Nat.le_refl _)).trans h.n0, (ce _ _ (Nat.le_refl _)).trans h.n1, h.hA, Nat.lt_of_lt_of_le h.lt hz, fun i hi => ?_, ?_, h.hR, h.hi⟩
  · obtain ⟨b, off, e, q1, q2, q3, q4⟩ := h.tN i hi
    have hbA := h.hi b off e (by omega)
    exact ⟨b, off, e, q1, Nat.lt_of_lt_of_le q2 hz, (ce b _ (by omega)).trans q3, (ce b _ (by omega)).trans q4⟩
  · exact h.B.trans ⟨hg.os.trans ha.os, hg.tape.trans ha.tape, hg.output.trans ha.output, hz, fun k hk => eb k (by omega)⟩
/-- a net and ties were drawn since w, and nothing that was there has turned -/
structure DealtT (w w' : World) (ao : Option Addr) (ts : List (Int × Int)) (co : Option Addr) (us : List (Int × Int)) : Prop where
  net : TiesIn w' w'.heap.size ao ts
  list : TiesIn w' w'.heap.size co us
  short : ts.length ≤ 66
  few : us.length ≤ 67
  bel : Below w.heap.size w w'
theorem TiesUp.far {w : World} {lo : Nat} {ao : Option Addr} {ts : List (Int × Int)} (h : TiesUp w lo ao ts) {q : Addr} (hq : q.block < lo) (u : Value) : TiesUp (w.setCell q u) lo ao ts := by
  intro i hi
  obtain ⟨b, off, e, h1, h2, h3, h4⟩ := h i hi
  have hb : (w.setCell q u).heap[b]? = w.heap[b]? := Below.heap_setCell _ _ _ _ (by omega)
  exact ⟨b, off, e, h1, by simpa [World.setCell] using h2, (World.cell?_of_block (a := ⟨b, off + i * 2, none⟩) hb).trans h3, (World.cell?_of_block (a := ⟨b, off + i * 2 + 1, none⟩) hb).trans h4⟩
theorem Tst.fin {w wr : World} {R : Nat} {bo : Option Addr} {bn bcap p : Nat} {A : Nat} {K : Int} {ao : Option Addr} {cap : Nat} {ts : List (Int × Int)} (h : Tst w wr R bo bn bcap p A K ao cap ts) {co : Option Addr} {us : List (Int × Int)} (hL : TiesUp wr (R + 1) co us) (hs : ts.length ≤ 66) (hf : us.length ≤ 67) (u0 u1 : Value) :
    DealtT w ((wr.setCell ⟨w.heap.size, 0, none⟩ u0).setCell ⟨w.heap.size, 1, none⟩ u1) ao ts co us := by
  have hR := h.hR
  exact ⟨((h.tN.far (q := ⟨w.heap.size, 0, none⟩) (by show w.heap.size < R + 1; omega) u0).far (q := ⟨w.heap.size, 1, none⟩) (by show w.heap.size < R + 1; omega) u1).in, ((hL.far (q := ⟨w.heap.size, 0, none⟩) (by show w.heap.size < R + 1; omega) u0).far (q := ⟨w.heap.size, 1, none⟩) (by show w.heap.size < R + 1; omega) u1).in, hs, hf, (h.B.setCell (Nat.le_refl _) _).setCell (Nat.le_refl _) _⟩


end Go.Proofs.Ytljnjpjnadlmhaa
