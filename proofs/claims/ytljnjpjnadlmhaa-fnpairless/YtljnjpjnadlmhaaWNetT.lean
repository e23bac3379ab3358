/- Walk of spec.l71Net: it draws a net of at most eight knots, in memory of its own. -/
import Derived.Test.YtljnjpjnadlmhaaPartWPick
import Derived.Test.YtljnjpjnadlmhaaPartWSpecAdd
import Derived.Deep.RegionWith
import Derived.Deep.RegionHeld3
namespace Go.Proofs.Ytljnjpjnadlmhaa
open Go.RowKit
set_option linter.unusedVariables false

theorem Turned.trans {lo hi : Nat} {a b c : World} (h : Turned lo hi a b) (k : Turned lo hi b c) : Turned lo hi a c :=
  ⟨k.os.trans h.os, k.tape.trans h.tape, k.output.trans h.output, Nat.le_trans h.size k.size, fun i hi ho => (k.block i (Nat.lt_of_lt_of_le hi h.size) ho).trans (h.block i hi ho)⟩
theorem Turned.of_below {lo hi : Nat} {a b : World} (h : Below a.heap.size a b) : Turned lo hi a b := ⟨h.os, h.tape, h.output, h.size, fun k hk _ => h.block k hk⟩
theorem Turned.frozen {lo hi : Nat} {w w' : World} (h : Turned lo hi w w') {p : Addr} (hp : p.block < w.heap.size) (ho : p.block < lo ∨ hi ≤ p.block) : w'.frozen? p = w.frozen? p := World.frozen?_of_block (h.block p.block hp ho)
theorem Turned.set {lo hi : Nat} {a b : World} (h : Turned lo hi a b) {p : Addr} (hp : a.heap.size ≤ p.block) (u : Value) : Turned lo hi a (b.setCell p u) :=
  ⟨h.os, h.tape, h.output, by simpa [World.setCell] using h.size, fun k hk ho => (Below.heap_setCell b p u k (by omega)).trans (h.block k hk ho)⟩
theorem OwnN.up {w : World} {lo hi hi' n : Nat} {ao : Option Addr} {f : Nat → Value} (h : OwnN w lo hi ao n f) (hh : hi ≤ hi') : OwnN w lo hi' ao n f := by
  rcases h with h | ⟨g, e, h1, h2, h3⟩
  · exact Or.inl h
  · exact Or.inr ⟨g, e, h1, by omega, h3⟩
theorem OwnN.down {w : World} {lo lo' hi n : Nat} {ao : Option Addr} {f : Nat → Value} (h : OwnN w lo hi ao n f) (hl : lo' ≤ lo) : OwnN w lo' hi ao n f := by
  rcases h with h | ⟨g, e, h1, h2, h3⟩
  · exact Or.inl h
  · exact Or.inr ⟨g, e, by omega, h2, h3⟩
theorem OwnN.far {w : World} {lo hi n : Nat} {ao : Option Addr} {f : Nat → Value} (h : OwnN w lo hi ao n f) {p : Addr} (hp : p.block < lo ∨ hi ≤ p.block) (u : Value) : OwnN (w.setCell p u) lo hi ao n f := by
  rcases h with h | ⟨g, e, h1, h2, h3⟩
  · exact Or.inl h
  · exact Or.inr ⟨g, e, h1, h2, h3.other (by omega) u⟩

/-- a net in the variable A of a function that began in w, drawn by the reader at R -/
structure DI (w wr : World) (R A : Nat) (bo : Option Addr) (bn bcap p : Nat) (K : Int) (ao : Option Addr) (cap : Nat) (us : List (Int × Int)) : Prop where
  a0 : wr.cell? ⟨A, 0, none⟩ = some (.int .i64 K)
  a1 : wr.cell? ⟨A, 1, none⟩ = some (.slice ao us.length cap)
  f0 : wr.frozen? ⟨A, 0, none⟩ = false
  f1 : wr.frozen? ⟨A, 1, none⟩ = false
  own : OwnN wr (A + 1) wr.heap.size ao us.length (tcell us)
  rd : Rdr wr R bo bn bcap p
  tr : Turned R (R + 1) w wr
  ra : R < w.heap.size
  wa : w.heap.size < A
  lt : A < wr.heap.size
  r0 : wr.cell? ⟨w.heap.size, 0, none⟩ = some (.int .i64 0)
  r1 : wr.cell? ⟨w.heap.size, 1, none⟩ = some (.slice none 0 0)
  g0 : wr.frozen? ⟨w.heap.size, 0, none⟩ = false
  g1 : wr.frozen? ⟨w.heap.size, 1, none⟩ = false
  k : 0 ≤ K ∧ K ≤ 8
  len : us.length ≤ 65
theorem DI.turn {w wr w' : World} {R A : Nat} {bo : Option Addr} {bn bcap p p' : Nat} {K : Int} {ao : Option Addr} {cap : Nat} {us : List (Int × Int)} (h : DI w wr R A bo bn bcap p K ao cap us) (ht : Turned R (R + 1) wr w') (hr : Rdr w' R bo bn bcap p') : DI w w' R A bo bn bcap p' K ao cap us := by
  have h1 := h.ra
  have h2 := h.wa
  have h3 := h.lt
  exact ⟨(ht.cell (p := ⟨A, 0, none⟩) h3 (Or.inr (by show R + 1 ≤ A; omega))).trans h.a0, (ht.cell (p := ⟨A, 1, none⟩) h3 (Or.inr (by show R + 1 ≤ A; omega))).trans h.a1,
    (ht.frozen (p := ⟨A, 0, none⟩) h3 (Or.inr (by show R + 1 ≤ A; omega))).trans h.f0, (ht.frozen (p := ⟨A, 1, none⟩) h3 (Or.inr (by show R + 1 ≤ A; omega))).trans h.f1,
    (h.own.aside ht (Or.inr (by omega))).up ht.size, hr, h.tr.trans ht, h1, h2, Nat.lt_of_lt_of_le h3 ht.size,
    (ht.cell (p := ⟨w.heap.size, 0, none⟩) (by show w.heap.size < _; omega) (Or.inr (by show R + 1 ≤ w.heap.size; omega))).trans h.r0, (ht.cell (p := ⟨w.heap.size, 1, none⟩) (by show w.heap.size < _; omega) (Or.inr (by show R + 1 ≤ w.heap.size; omega))).trans h.r1,
    (ht.frozen (p := ⟨w.heap.size, 0, none⟩) (by show w.heap.size < _; omega) (Or.inr (by show R + 1 ≤ w.heap.size; omega))).trans h.g0, (ht.frozen (p := ⟨w.heap.size, 1, none⟩) (by show w.heap.size < _; omega) (Or.inr (by show R + 1 ≤ w.heap.size; omega))).trans h.g1, h.k, h.len⟩
theorem DI.next {w wr w' : World} {R A : Nat} {bo : Option Addr} {bn bcap p : Nat} {K : Int} {ao : Option Addr} {cap : Nat} {us : List (Int × Int)} (h : DI w wr R A bo bn bcap p K ao cap us) (hb : Below wr.heap.size wr w') : DI w w' R A bo bn bcap p K ao cap us :=
  h.turn (Turned.of_below hb) (h.rd.next hb)
/-- another net is stored there -/
theorem DI.store {w wr w' : World} {R A : Nat} {bo : Option Addr} {bn bcap p : Nat} {K K' : Int} {ao ao' : Option Addr} {cap cap' : Nat} {us us' : List (Int × Int)} (h : DI w wr R A bo bn bcap p K ao cap us) (hb : Below wr.heap.size wr w')
    (ho : OwnN w' wr.heap.size w'.heap.size ao' us'.length (tcell us')) (hk : 0 ≤ K' ∧ K' ≤ 8) (hl : us'.length ≤ 65) :
    DI w ((w'.setCell ⟨A, 0, none⟩ (.int .i64 K')).setCell ⟨A, 1, none⟩ (.slice ao' us'.length cap')) R A bo bn bcap p K' ao' cap' us' := by
  have h' := h.next hb
  have h1 := h.ra
  have h2 := h.wa
  have h3 := h.lt
  have hsz : ((w'.setCell ⟨A, 0, none⟩ (.int .i64 K')).setCell ⟨A, 1, none⟩ (.slice ao' us'.length cap')).heap.size = w'.heap.size := by simp [World.setCell]
  have hAR : A ≠ R := by omega
  have ea : ∀ q : Addr, q.block ≠ A → ((w'.setCell ⟨A, 0, none⟩ (.int .i64 K')).setCell ⟨A, 1, none⟩ (.slice ao' us'.length cap')).heap[q.block]? = w'.heap[q.block]? := fun q hq => by
    rw [Below.heap_setCell _ _ _ _ (by simpa using hq), Below.heap_setCell _ _ _ _ (by simpa using hq)]
  have ca : ∀ q : Addr, q.block ≠ A → ((w'.setCell ⟨A, 0, none⟩ (.int .i64 K')).setCell ⟨A, 1, none⟩ (.slice ao' us'.length cap')).cell? q = w'.cell? q := fun q hq => World.cell?_of_block (ea q hq)
  have fa : ∀ q : Addr, q.block ≠ A → ((w'.setCell ⟨A, 0, none⟩ (.int .i64 K')).setCell ⟨A, 1, none⟩ (.slice ao' us'.length cap')).frozen? q = w'.frozen? q := fun q hq => World.frozen?_of_block (ea q hq)
  refine ⟨?_, ?_, ?_, ?_, ?_, ?_, ?_, h1, h2, ?_, ?_, ?_, ?_, ?_, hk, hl⟩
  · rw [World.cell?_setCell_other _ _ _ _ (by simp)]; exact World.cell?_setCell_same w' ⟨A, 0, none⟩ _ h'.a0
  · exact World.cell?_setCell_same _ ⟨A, 1, none⟩ _ ((World.cell?_setCell_other _ _ _ _ (by simp)).trans h'.a1)
  · rw [World.frozen?_setCell, World.frozen?_setCell]; exact h'.f0
  · rw [World.frozen?_setCell, World.frozen?_setCell]; exact h'.f1
  · rw [hsz]
    exact ((ho.down (by omega)).far (p := ⟨A, 0, none⟩) (Or.inl (by show A < A + 1; omega)) _).far (p := ⟨A, 1, none⟩) (Or.inl (by show A < A + 1; omega)) _
  · refine ⟨(ca ⟨R, 0, none⟩ (by show R ≠ A; omega)).trans h'.rd.c0, (ca ⟨R, 1, none⟩ (by show R ≠ A; omega)).trans h'.rd.c1, (fa ⟨R, 1, none⟩ (by show R ≠ A; omega)).trans h'.rd.f1, by rw [hsz]; exact h'.rd.lt, h'.rd.short, fun i hi => ?_⟩
    obtain ⟨b, off, v, e, q1, q3, q4⟩ := h'.rd.bytes i hi
    exact ⟨b, off, v, e, q1, (ca ⟨b, off + i, none⟩ (by show b ≠ A; omega)).trans q3, q4⟩
  · exact (h'.tr.set (p := ⟨A, 0, none⟩) (by show w.heap.size ≤ A; omega) _).set (p := ⟨A, 1, none⟩) (by show w.heap.size ≤ A; omega) _
  · rw [hsz]; exact h'.lt
  · exact (ca ⟨w.heap.size, 0, none⟩ (by show w.heap.size ≠ A; omega)).trans h'.r0
  · exact (ca ⟨w.heap.size, 1, none⟩ (by show w.heap.size ≠ A; omega)).trans h'.r1
  · exact (fa ⟨w.heap.size, 0, none⟩ (by show w.heap.size ≠ A; omega)).trans h'.g0
  · exact (fa ⟨w.heap.size, 1, none⟩ (by show w.heap.size ≠ A; omega)).trans h'.g1

/-- a variable that was just made, at block X, behind the net's row -/
structure FX (w wr : World) (R A X : Nat) (ao : Option Addr) (us : List (Int × Int)) : Prop where
  z0 : wr.cell? ⟨X, 0, none⟩ = some (.int .i64 0)
  z1 : wr.cell? ⟨X, 1, none⟩ = some (.slice none 0 0)
  y0 : wr.frozen? ⟨X, 0, none⟩ = false
  y1 : wr.frozen? ⟨X, 1, none⟩ = false
  lt : X < wr.heap.size
  ax : A < X
  own : OwnN wr (A + 1) X ao us.length (tcell us)
theorem FX.made {w wr : World} {R A : Nat} {bo : Option Addr} {bn bcap p : Nat} {K : Int} {ao : Option Addr} {cap : Nat} {us : List (Int × Int)} (h : DI w wr R A bo bn bcap p K ao cap us) (t : TypeId) : FX w (wr.alloc (.cells #[.int .i64 0, .slice none 0 0] t)) R A wr.heap.size ao us :=
  ⟨by simp, by simp, by simp, by simp, by simp, h.lt, h.own.next (below_one _ _)⟩
theorem FX.turn {w wr w' : World} {R A X : Nat} {ao : Option Addr} {us : List (Int × Int)} (h : FX w wr R A X ao us) (ht : Turned R (R + 1) wr w') (hR : R < A) : FX w w' R A X ao us := by
  have h1 := h.ax
  exact ⟨(ht.cell (p := ⟨X, 0, none⟩) h.lt (Or.inr (by show R + 1 ≤ X; omega))).trans h.z0, (ht.cell (p := ⟨X, 1, none⟩) h.lt (Or.inr (by show R + 1 ≤ X; omega))).trans h.z1, (ht.frozen (p := ⟨X, 0, none⟩) h.lt (Or.inr (by show R + 1 ≤ X; omega))).trans h.y0, (ht.frozen (p := ⟨X, 1, none⟩) h.lt (Or.inr (by show R + 1 ≤ X; omega))).trans h.y1,
    Nat.lt_of_lt_of_le h.lt ht.size, h1, h.own.aside ht (Or.inr (by omega))⟩
theorem FX.next {w wr w' : World} {R A X : Nat} {ao : Option Addr} {us : List (Int × Int)} (h : FX w wr R A X ao us) (hb : Below wr.heap.size wr w') (hR : R < A) : FX w w' R A X ao us := h.turn (Turned.of_below hb) hR
/-- another net is stored into the net's variable -/
theorem DI.put {w wr : World} {R A : Nat} {bo : Option Addr} {bn bcap p : Nat} {K K' : Int} {ao ao' : Option Addr} {cap : Nat} (cap' : Nat) {us us' : List (Int × Int)} (h : DI w wr R A bo bn bcap p K ao cap us)
    (ho : OwnN wr (A + 1) wr.heap.size ao' us'.length (tcell us')) (hk : 0 ≤ K' ∧ K' ≤ 8) (hl : us'.length ≤ 65) :
    DI w ((wr.setCell ⟨A, 0, none⟩ (.int .i64 K')).setCell ⟨A, 1, none⟩ (.slice ao' us'.length cap')) R A bo bn bcap p K' ao' cap' us' := by
  have h1 := h.ra
  have h2 := h.wa
  have h3 := h.lt
  have hsz : ((wr.setCell ⟨A, 0, none⟩ (.int .i64 K')).setCell ⟨A, 1, none⟩ (.slice ao' us'.length cap')).heap.size = wr.heap.size := by simp [World.setCell]
  have ea : ∀ q : Addr, q.block ≠ A → ((wr.setCell ⟨A, 0, none⟩ (.int .i64 K')).setCell ⟨A, 1, none⟩ (.slice ao' us'.length cap')).heap[q.block]? = wr.heap[q.block]? := fun q hq => by
    rw [Below.heap_setCell _ _ _ _ (by simpa using hq), Below.heap_setCell _ _ _ _ (by simpa using hq)]
  have ca : ∀ q : Addr, q.block ≠ A → ((wr.setCell ⟨A, 0, none⟩ (.int .i64 K')).setCell ⟨A, 1, none⟩ (.slice ao' us'.length cap')).cell? q = wr.cell? q := fun q hq => World.cell?_of_block (ea q hq)
  have fa : ∀ q : Addr, q.block ≠ A → ((wr.setCell ⟨A, 0, none⟩ (.int .i64 K')).setCell ⟨A, 1, none⟩ (.slice ao' us'.length cap')).frozen? q = wr.frozen? q := fun q hq => World.frozen?_of_block (ea q hq)
  refine ⟨?_, ?_, ?_, ?_, ?_, ?_, ?_, h1, h2, ?_, ?_, ?_, ?_, ?_, hk, hl⟩
  · rw [World.cell?_setCell_other _ _ _ _ (by simp)]; exact World.cell?_setCell_same wr ⟨A, 0, none⟩ _ h.a0
  · exact World.cell?_setCell_same _ ⟨A, 1, none⟩ _ ((World.cell?_setCell_other _ _ _ _ (by simp)).trans h.a1)
  · rw [World.frozen?_setCell, World.frozen?_setCell]; exact h.f0
  · rw [World.frozen?_setCell, World.frozen?_setCell]; exact h.f1
  · rw [hsz]
    exact (ho.far (p := ⟨A, 0, none⟩) (Or.inl (by show A < A + 1; omega)) _).far (p := ⟨A, 1, none⟩) (Or.inl (by show A < A + 1; omega)) _
  · refine ⟨(ca ⟨R, 0, none⟩ (by show R ≠ A; omega)).trans h.rd.c0, (ca ⟨R, 1, none⟩ (by show R ≠ A; omega)).trans h.rd.c1, (fa ⟨R, 1, none⟩ (by show R ≠ A; omega)).trans h.rd.f1, by rw [hsz]; exact h.rd.lt, h.rd.short, fun i hi => ?_⟩
    obtain ⟨b, off, v, e, q1, q3, q4⟩ := h.rd.bytes i hi
    exact ⟨b, off, v, e, q1, (ca ⟨b, off + i, none⟩ (by show b ≠ A; omega)).trans q3, q4⟩
  · exact (h.tr.set (p := ⟨A, 0, none⟩) (by show w.heap.size ≤ A; omega) _).set (p := ⟨A, 1, none⟩) (by show w.heap.size ≤ A; omega) _
  · rw [hsz]; exact h.lt
  · exact (ca ⟨w.heap.size, 0, none⟩ (by show w.heap.size ≠ A; omega)).trans h.r0
  · exact (ca ⟨w.heap.size, 1, none⟩ (by show w.heap.size ≠ A; omega)).trans h.r1
  · exact (fa ⟨w.heap.size, 0, none⟩ (by show w.heap.size ≠ A; omega)).trans h.g0
  · exact (fa ⟨w.heap.size, 1, none⟩ (by show w.heap.size ≠ A; omega)).trans h.g1
/-- the answer lies in the variable that was made; the net is as it was -/
theorem FX.stored {w wr : World} {R A X : Nat} {bo : Option Addr} {bn bcap p : Nat} {K : Int} {ao ao' : Option Addr} {cap : Nat} {us us' : List (Int × Int)} (h : DI w wr R A bo bn bcap p K ao cap us) (f : FX w wr R A X ao us) (K' : Int) (cap' : Nat) {lo : Nat}
    (ho : OwnN wr lo wr.heap.size ao' us'.length (tcell us')) (hlo : X < lo) :
    ∃ w9, w9 = (wr.setCell ⟨X, 0, none⟩ (.int .i64 K')).setCell ⟨X, 1, none⟩ (.slice ao' us'.length cap') ∧ DI w w9 R A bo bn bcap p K ao cap us ∧ w9.cell? ⟨X, 0, none⟩ = some (.int .i64 K') ∧ w9.cell? ⟨X, 1, none⟩ = some (.slice ao' us'.length cap') ∧ OwnN w9 (A + 1) w9.heap.size ao' us'.length (tcell us') := by
  have h1 := h.ra
  have h2 := h.wa
  have h3 := h.lt
  have h4 := f.ax
  have hsz : ((wr.setCell ⟨X, 0, none⟩ (.int .i64 K')).setCell ⟨X, 1, none⟩ (.slice ao' us'.length cap')).heap.size = wr.heap.size := by simp [World.setCell]
  have ea : ∀ q : Addr, q.block ≠ X → ((wr.setCell ⟨X, 0, none⟩ (.int .i64 K')).setCell ⟨X, 1, none⟩ (.slice ao' us'.length cap')).heap[q.block]? = wr.heap[q.block]? := fun q hq => by
    rw [Below.heap_setCell _ _ _ _ (by simpa using hq), Below.heap_setCell _ _ _ _ (by simpa using hq)]
  have ca : ∀ q : Addr, q.block ≠ X → ((wr.setCell ⟨X, 0, none⟩ (.int .i64 K')).setCell ⟨X, 1, none⟩ (.slice ao' us'.length cap')).cell? q = wr.cell? q := fun q hq => World.cell?_of_block (ea q hq)
  have fa : ∀ q : Addr, q.block ≠ X → ((wr.setCell ⟨X, 0, none⟩ (.int .i64 K')).setCell ⟨X, 1, none⟩ (.slice ao' us'.length cap')).frozen? q = wr.frozen? q := fun q hq => World.frozen?_of_block (ea q hq)
  refine ⟨_, rfl, ⟨(ca ⟨A, 0, none⟩ (by show A ≠ X; omega)).trans h.a0, (ca ⟨A, 1, none⟩ (by show A ≠ X; omega)).trans h.a1, (fa ⟨A, 0, none⟩ (by show A ≠ X; omega)).trans h.f0, (fa ⟨A, 1, none⟩ (by show A ≠ X; omega)).trans h.f1, ?_, ?_, ?_, h1, h2, by rw [hsz]; exact h.lt, (ca ⟨w.heap.size, 0, none⟩ (by show w.heap.size ≠ X; omega)).trans h.r0, (ca ⟨w.heap.size, 1, none⟩ (by show w.heap.size ≠ X; omega)).trans h.r1, (fa ⟨w.heap.size, 0, none⟩ (by show w.heap.size ≠ X; omega)).trans h.g0, (fa ⟨w.heap.size, 1, none⟩ (by show w.heap.size ≠ X; omega)).trans h.g1, h.k, h.len⟩, ?_, ?_, ?_⟩
  · rw [hsz]
    exact ((f.own.far (p := ⟨X, 0, none⟩) (Or.inr (Nat.le_refl _)) _).far (p := ⟨X, 1, none⟩) (Or.inr (Nat.le_refl _)) _).up (Nat.le_of_lt f.lt)
  · refine ⟨(ca ⟨R, 0, none⟩ (by show R ≠ X; omega)).trans h.rd.c0, (ca ⟨R, 1, none⟩ (by show R ≠ X; omega)).trans h.rd.c1, (fa ⟨R, 1, none⟩ (by show R ≠ X; omega)).trans h.rd.f1, by rw [hsz]; exact h.rd.lt, h.rd.short, fun i hi => ?_⟩
    obtain ⟨b, off, v, e, q1, q3, q4⟩ := h.rd.bytes i hi
    exact ⟨b, off, v, e, q1, (ca ⟨b, off + i, none⟩ (by show b ≠ X; omega)).trans q3, q4⟩
  · exact (h.tr.set (p := ⟨X, 0, none⟩) (by show w.heap.size ≤ X; omega) _).set (p := ⟨X, 1, none⟩) (by show w.heap.size ≤ X; omega) _
  · rw [World.cell?_setCell_other _ _ _ _ (by simp)]; exact World.cell?_setCell_same wr ⟨X, 0, none⟩ _ f.z0
  · exact World.cell?_setCell_same _ ⟨X, 1, none⟩ _ ((World.cell?_setCell_other _ _ _ _ (by simp)).trans f.z1)
  · rw [hsz]
    exact ((ho.far (p := ⟨X, 0, none⟩) (Or.inl hlo) _).far (p := ⟨X, 1, none⟩) (Or.inl hlo) _).down (by omega)

theorem addK_in {K : Int} (h : 0 ≤ K ∧ K ≤ 8) (ts : List (Int × Int)) (a b : Int) : 0 ≤ addK K ts a b ∧ addK K ts a b ≤ 8 := by
  unfold addK; split <;> omega

/-- a net that was drawn: its knots, its ties, in a row of the function's own -/
def Drawn (w w' : World) (R : Nat) (bo : Option Addr) (bn bcap p q : Nat) (K : Int) (ao : Option Addr) (us : List (Int × Int)) : Prop :=
  (∃ p', p' ≤ p + q ∧ Rdr w' R bo bn bcap p') ∧ Turned R (R + 1) w w' ∧ OwnN w' w.heap.size w'.heap.size ao us.length (tcell us) ∧ 0 ≤ K ∧ K ≤ 8 ∧ us.length ≤ 65

/-- the net is answered: it is stored into the cell of the answer -/
theorem DI.finish {w wr : World} {R A : Nat} {bo : Option Addr} {bn bcap p q : Nat} {K : Int} {ao : Option Addr} {cap : Nat} {us : List (Int × Int)} (h : DI w wr R A bo bn bcap q K ao cap us) (hq : q ≤ p + 50) :
    Drawn w ((wr.setCell ⟨w.heap.size, 0, none⟩ (.int .i64 K)).setCell ⟨w.heap.size, 1, none⟩ (.slice ao us.length cap)) R bo bn bcap p 50 K ao us := by
  have h1 := h.ra
  have h2 := h.wa
  have h3 := h.lt
  have hsz : ((wr.setCell ⟨w.heap.size, 0, none⟩ (.int .i64 K)).setCell ⟨w.heap.size, 1, none⟩ (.slice ao us.length cap)).heap.size = wr.heap.size := by simp [World.setCell]
  have ea : ∀ q : Addr, q.block ≠ w.heap.size → ((wr.setCell ⟨w.heap.size, 0, none⟩ (.int .i64 K)).setCell ⟨w.heap.size, 1, none⟩ (.slice ao us.length cap)).heap[q.block]? = wr.heap[q.block]? := fun q hq => by
    rw [Below.heap_setCell _ _ _ _ (by simpa using hq), Below.heap_setCell _ _ _ _ (by simpa using hq)]
  refine ⟨⟨q, hq, ?_⟩, (h.tr.set (p := ⟨w.heap.size, 0, none⟩) (Nat.le_refl _) _).set (p := ⟨w.heap.size, 1, none⟩) (Nat.le_refl _) _, ?_, h.k.1, h.k.2, h.len⟩
  · refine ⟨(World.cell?_of_block (a := ⟨R, 0, none⟩) (ea ⟨R, 0, none⟩ (by show R ≠ _; omega))).trans h.rd.c0, (World.cell?_of_block (a := ⟨R, 1, none⟩) (ea ⟨R, 1, none⟩ (by show R ≠ _; omega))).trans h.rd.c1, (World.frozen?_of_block (a := ⟨R, 1, none⟩) (ea ⟨R, 1, none⟩ (by show R ≠ _; omega))).trans h.rd.f1, by rw [hsz]; exact h.rd.lt, h.rd.short, fun i hi => ?_⟩
    obtain ⟨b, off, v, e, q1, q3, q4⟩ := h.rd.bytes i hi
    exact ⟨b, off, v, e, q1, (World.cell?_of_block (a := ⟨b, off + i, none⟩) (ea ⟨b, off + i, none⟩ (by show b ≠ _; omega))).trans q3, q4⟩
  · rw [hsz]
    exact ((h.own.far (p := ⟨w.heap.size, 0, none⟩) (Or.inl (by show w.heap.size < A + 1; omega)) _).far (p := ⟨w.heap.size, 1, none⟩) (Or.inl (by show w.heap.size < A + 1; omega)) _).down (by omega)

set_option maxHeartbeats 8000000 in
theorem l71Net_any (R : Nat) (bo : Option Addr) (bn bcap p : Nat) (w : World) (h : Rdr w R bo bn bcap p) (hp : p ≤ 999000) :
    Calls Try.prog 58 #[.pointer (some ⟨R, 0, none⟩)] w fun e w' => ∃ K ao cap us, e = .returned (.agg #[.int .i64 K, .slice ao us.length cap]) ∧ Drawn w w' R bo bn bcap p 50 K ao us := by
  have hR := h.lt
  have hp0 : (p : Int) ≤ 999000 := by omega
  have h1 := fun o => h.next (below_one w o)
  go_enter Try.func58, Try.ntmps58
  go_wp2_with fail
  refine (pick_any R bo bn bcap p 8 _ (h1 _) (by omega)).mono ?_
  rintro e w1 ⟨v, rfl, v0, v1, rd1, tr1⟩
  have v1' := v1 (by omega)
  have t1 : Turned R (R + 1) w w1 := (Turned.of_below (below_one _ _)).trans tr1
  have q0 : w1.cell? ⟨w.heap.size, 0, none⟩ = some (.int .i64 0) := (tr1.cell (p := ⟨w.heap.size, 0, none⟩) (by simp) (Or.inr (by show R + 1 ≤ w.heap.size; omega))).trans (by simp)
  have q1 : w1.cell? ⟨w.heap.size, 1, none⟩ = some (.slice none 0 0) := (tr1.cell (p := ⟨w.heap.size, 1, none⟩) (by simp) (Or.inr (by show R + 1 ≤ w.heap.size; omega))).trans (by simp)
  have q2 : w1.frozen? ⟨w.heap.size, 0, none⟩ = false := (tr1.frozen (p := ⟨w.heap.size, 0, none⟩) (by simp) (Or.inr (by show R + 1 ≤ w.heap.size; omega))).trans (by simp)
  have q3 : w1.frozen? ⟨w.heap.size, 1, none⟩ = false := (tr1.frozen (p := ⟨w.heap.size, 1, none⟩) (by simp) (Or.inr (by show R + 1 ≤ w.heap.size; omega))).trans (by simp)
  have s1 : w.heap.size + 1 ≤ w1.heap.size := by have := tr1.size; simpa using this
  have D1 : DI w (w1.alloc (.cells #[.int .i64 (1 + v), .slice none 0 0] 25)) R w1.heap.size bo bn bcap (p + 1) (1 + v) none 0 [] := by
    refine ⟨by simp, by simp, by simp, by simp, Or.inl ⟨rfl, rfl⟩, rd1.next (below_one _ _), t1.trans (Turned.of_below (below_one _ _)), hR, by omega, by simp, ?_, ?_, ?_, ?_, ⟨by omega, by omega⟩, by simp⟩
    · rw [World.cell?_alloc_past _ _ _ (by omega)]; exact q0
    · rw [World.cell?_alloc_past _ _ _ (by omega)]; exact q1
    · rw [World.frozen?_alloc_past _ _ _ (by omega)]; exact q2
    · rw [World.frozen?_alloc_past _ _ _ (by omega)]; exact q3
  clear q0 q1 q2 q3 t1 tr1 rd1 h h1 v1
  go_wp2_with fail
  refine (pick_any R bo bn bcap (p + 1) 6 _ D1.rd (by omega)).mono ?_
  rintro e w2 ⟨u, rfl, u0, u1, rd2, tr2⟩
  have D2 := D1.turn tr2 rd2
  have u1' := u1 (by omega)
  clear D1 u1 rd2 tr2
  obtain ⟨A, hA⟩ : ∃ A, A = w1.heap.size := ⟨_, rfl⟩
  obtain ⟨K0, hK0⟩ : ∃ K0, K0 = 1 + v := ⟨_, rfl⟩
  rw [← hA, ← hK0] at D2
  rw [← hA]
  clear hA hK0 s1 v0 v1'
  have hwA := D2.wa
  by_cases hu0 : u = 0
  · have hub : (u == 0) = true := by simp [hu0]
    clear u1' u0 hu0
    go_wp2
    go_loopw [4] (fun i wr => ∃ (k p' : Nat) (K : Int) (ao : Option Addr) (cap : Nat) (us : List (Int × Int)), 1 ≤ k ∧ k ≤ 9 ∧ i = .int .i64 k ∧ p' ≤ p + 2 + k ∧ DI w wr R A bo bn bcap p' K ao cap us) (fun i _ => 9 - (intOf i).toNat)
    case atStart => exact ⟨1, p + 1 + 1, K0, none, 0, [], by omega, by omega, rfl, by omega, D2⟩
    case round =>
      obtain ⟨k, p', K, ao, cap, us, hk1, hk9, rfl, hp', D⟩ := hrel
      clear D2
      have a0 := D.a0
      have a1 := D.a1
      have hK := D.k
      by_cases hlt : (k : Int) < K
      · have D' : DI w wr.drew R A bo bn bcap p' K ao cap us := D.next (Below.refl _ _).drew
        have HD := hideP D'
        have f0 := D.f0
        have f1 := D.f1
        have hlen : us.length ≤ 1099511627776 := by have := D.len; omega
        clear D D'
        go_wp2
        go_region_with (first | (go_at_call 26; refine (pick_any R bo bn bcap p' (k : Int) _ HD.out.rd (by omega)).mono ?_; rintro e w6 ⟨b, rfl, hb0, hb1, rd6, tr6⟩; have D6 := HD.out.turn tr6 rd6; have a06 := D6.a0; have a16 := D6.a1) | (go_at_call 68; refine (specAdd_all K ao cap us (k : Int) b _ hlen (D6.own.ties (Nat.le_refl _))).mono ?_; rintro e w7 ⟨ao', cap', rfl, ho7, hb7⟩; have D7 := D6.next hb7; have a07 := D7.a0; have a17 := D7.a1; have f07 := D7.f0; have f17 := D7.f1))
        all_goals
          have DS := hideP (D6.store hb7 (cap' := cap') ho7 (addK_in hK us (k : Int) b) (addTs_len K us (k : Int) b))
          clear D6 D7 hb7 ho7 rd6 tr6 a06 a16 a07 a17 f07 f17 hb0 hb1 HD
          go_wp2
          go_roundw
          case rel => exact ⟨k + 1, _, _, _, _, _, by omega, by omega, by go_num, by omega, DS.out⟩
          case measure => simp [intOf]; omega
      · have D' := D
        clear D
        go_wp2_with fail
        refine (pick_any R bo bn bcap p' 13 _ D'.rd (by omega)).mono ?_
        rintro e wp ⟨i13, rfl, i0, i1, rdp, trp⟩
        have Dp := D'.turn trp rdp
        have i1' := i1 (by omega)
        obtain ⟨i, rfl⟩ := Int.eq_ofNat_of_zero_le i0
        clear D' i1 rdp trp i0
        go_wp2
        go_loopw [6] (fun j wr => ∃ (j' q : Nat) (K : Int) (ao : Option Addr) (cap : Nat) (us : List (Int × Int)), j' ≤ 13 ∧ j = .int .i64 j' ∧ q + 2 * j' ≤ p + 40 ∧ DI w wr R A bo bn bcap q K ao cap us) (fun j _ => (intOf j).toNat)
        case atStart => exact ⟨i, p' + 1, _, _, _, _, by omega, rfl, by omega, Dp⟩
        case round =>
          obtain ⟨j, q, K2, ao2, cap2, us2, hj13, rfl, hq, D⟩ := hrel
          clear Dp
          have a0 := D.a0
          have a1 := D.a1
          have hK := D.k
          by_cases hj : 0 < j ∧ 1 < K2
          · obtain ⟨hj0, hKK⟩ := hj
            have hj0' : (0 : Int) < (j : Int) := by omega
            have hRA : R < A := by have := D.ra; have := D.wa; omega
            have HD := hideP (D.next (Below.refl _ _).drew)
            have HDA := hideP ((D.next (below_one wr (.cells #[.int .i64 0, .slice none 0 0] 25))).next (Below.refl _ _).drew)
            have FXA := hideP ((FX.made D 25).next (Below.refl _ _).drew hRA)
            have hlen : us2.length ≤ 1099511627776 := by have := D.len; omega
            clear D
            go_wp2
            go_region_held3 (fun w' => w'.cell? ⟨A, 0, none⟩ = some (.int .i64 K2) ∧ w'.cell? ⟨A, 1, none⟩ = some (.slice ao2 us2.length cap2)) (first | exact ⟨D8.a0, D8.a1⟩ | exact ⟨D7.a0, D7.a1⟩ | exact ⟨D6.a0, D6.a1⟩ | exact ⟨a0, a1⟩ | exact ⟨(D8.next (below_one _ _)).a0, (D8.next (below_one _ _)).a1⟩ | exact ⟨(D7.next (below_one _ _)).a0, (D7.next (below_one _ _)).a1⟩ | exact ⟨(D6.next (below_one _ _)).a0, (D6.next (below_one _ _)).a1⟩ | exact ⟨HDA.out.a0, HDA.out.a1⟩ | (obtain ⟨_, hq, Dq, _, _, _⟩ := FX.stored D8 FX8 (addK K2 us2 x y) cap' ho8 hlo8; rw [← hq]; exact ⟨Dq.a0, Dq.a1⟩)) (first | (go_at_call 26; refine (pick_any R bo bn bcap (q + 1) K2 _ D6.rd (by omega)).mono ?_; rintro e w7 ⟨y, rfl, y0, y1, rd7, tr7⟩; have D7 := D6.turn tr7 rd7; (try (have FX7 := FX6.turn tr7 hRA))) | (go_at_call 26; refine (pick_any R bo bn bcap (q + 1) K2 _ (D6.next (below_one _ _)).rd (by omega)).mono ?_; rintro e w7 ⟨y, rfl, y0, y1, rd7, tr7⟩; have D7 := (D6.next (below_one _ _)).turn tr7 rd7; have FX7 := (FX.made D6 25).turn tr7 hRA) | (go_at_call 26; refine (pick_any R bo bn bcap q K2 _ HD.out.rd (by omega)).mono ?_; rintro e w6 ⟨x, rfl, x0, x1, rd6, tr6⟩; have D6 := HD.out.turn tr6 rd6) | (go_at_call 26; refine (pick_any R bo bn bcap q K2 _ HDA.out.rd (by omega)).mono ?_; rintro e w6 ⟨x, rfl, x0, x1, rd6, tr6⟩; have D6 := HDA.out.turn tr6 rd6; have FX6 := FXA.out.turn tr6 hRA) | (go_at_call 68; refine (specAdd_all K2 ao2 cap2 us2 x y _ hlen (D7.own.ties (Nat.le_refl _))).mono ?_; rintro e w8 ⟨ao', cap', rfl, ho8, hb8⟩; have D8 := D7.next hb8; (try (have FX8 := FX7.next hb8 hRA; have hlo8 := FX7.lt; have z08 := FX8.z0; have z18 := FX8.z1; have y08 := FX8.y0; have y18 := FX8.y1))) | (go_at_call 68; refine (specAdd_all K2 ao2 cap2 us2 x y _ hlen ((D7.next (below_one _ _)).own.ties (Nat.le_refl _))).mono ?_; rintro e w8 ⟨ao', cap', rfl, ho8, hb8⟩; have D8 := (D7.next (below_one _ _)).next hb8; have FX8 := (FX.made D7 25).next hb8 hRA; have hlo8 := (FX.made D7 25).lt; have z08 := FX8.z0; have z18 := FX8.z1; have y08 := FX8.y0; have y18 := FX8.y1))
            all_goals
              have hK9 := addK_in hK us2 x y
              have hl9 := addTs_len K2 us2 x y
              first
              | (obtain ⟨w9, hw9, D9, n0, n1, ho9⟩ := FX.stored D8 FX8 (addK K2 us2 x y) cap' ho8 hlo8
                 rw [← hw9]
                 have DS := hideP (D9.put cap' ho9 hK9 hl9)
                 have HD9 := hideP D9
                 have a09 := D9.a0
                 have a19 := D9.a1
                 have f09 := D9.f0
                 have f19 := D9.f1
                 clear hw9 D9 ho9 FX8 D8 ho8 hb8 z08 z18 y08 y18)
              | (obtain ⟨w9, hw9⟩ : ∃ w9, w9 = w8.alloc (.cells #[.int .i64 (addK K2 us2 x y), .slice ao' (addTs K2 us2 x y).length cap'] 25) := ⟨_, rfl⟩
                 have D9 : DI w w9 R A bo bn bcap (q + 1 + 1) K2 ao2 cap2 us2 := by rw [hw9]; exact D8.next (below_one _ _)
                 have n0 : w9.cell? ⟨w8.heap.size, 0, none⟩ = some (.int .i64 (addK K2 us2 x y)) := by rw [hw9]; simp
                 have n1 : w9.cell? ⟨w8.heap.size, 1, none⟩ = some (.slice ao' (addTs K2 us2 x y).length cap') := by rw [hw9]; simp
                 have ho9 : OwnN w9 (A + 1) w9.heap.size ao' (addTs K2 us2 x y).length (tcell (addTs K2 us2 x y)) := by
                   rw [hw9]; exact ((ho8.next (below_one _ _)).up (by simp)).down (by have := D7.lt; omega)
                 rw [← hw9]
                 have DS := hideP (D9.put cap' ho9 hK9 hl9)
                 have HD9 := hideP D9
                 have a09 := D9.a0
                 have a19 := D9.a1
                 have f09 := D9.f0
                 have f19 := D9.f1
                 clear hw9 D9 ho9 D8 ho8 hb8)
              cases hadd : addB K2 us2 x y
              · go_wp2
                go_roundw
                case rel => exact ⟨j - 1, _, _, _, _, _, by omega, by go_num, by omega, HD9.out⟩
                case measure => simp [intOf]; omega
              · go_wp2
                go_roundw
                case rel => exact ⟨j - 1, _, _, _, _, _, by omega, by go_num, by omega, DS.out⟩
                case measure => simp [intOf]; omega
          · have hb : Hid (Drawn w ((wr.setCell ⟨w.heap.size, 0, none⟩ (.int .i64 K2)).setCell ⟨w.heap.size, 1, none⟩ (.slice ao2 us2.length cap2)) R bo bn bcap p 50 K2 ao2 us2) := hideP (D.finish (by omega))
            have r0 := D.r0
            have r1 := D.r1
            have g0 := D.g0
            have g1 := D.g1
            have hwr : w.heap.size < wr.heap.size := by have := D.lt; omega
            clear D
            by_cases hj0 : 0 < j
            · have hj0' : (0 : Int) < (j : Int) := by omega
              have hKK : K2 ≤ 1 := by omega
              go_wp2
              refine bodyPost_ret (v := .agg #[.int .i64 K2, .slice ao2 us2.length cap2]) ?_ rfl ⟨K2, ao2, cap2, us2, rfl, hb.out⟩
              simp [results, Try.results58, go_sem, r0, r1]
            · have hj0' : decide ((0 : Int) < (j : Int)) = false := by simp; omega
              have hj2 : decide (0 < j) = false := by simp; omega
              have hjz : j = 0 := by omega
              subst hjz
              go_wp2
              refine bodyPost_ret (v := .agg #[.int .i64 K2, .slice ao2 us2.length cap2]) ?_ rfl ⟨K2, ao2, cap2, us2, rfl, hb.out⟩
              simp [results, Try.results58, go_sem, r0, r1]
  · have hub : (u == 0) = false := by simp [hu0]
    by_cases hu1 : u = 1
    · have huc : (u == 1) = true := by simp [hu1]
      clear u1' u0 hu0 hu1
      go_wp2
      go_loopw [5] (fun i wr => ∃ (k : Nat) (K : Int) (ao : Option Addr) (cap : Nat) (us : List (Int × Int)), k ≤ 9 ∧ i = .int .i64 k ∧ DI w wr R A bo bn bcap (p + 2) K ao cap us) (fun i _ => 9 - (intOf i).toNat)
      case atStart => exact ⟨0, K0, none, 0, [], by omega, rfl, D2⟩
      case round =>
        obtain ⟨k, K, ao, cap, us, hk9, rfl, D⟩ := hrel
        clear D2
        have a0 := D.a0
        have a1 := D.a1
        have hK := D.k
        obtain ⟨p', hp'⟩ : ∃ p', p' = p + 2 := ⟨_, rfl⟩
        rw [← hp'] at D
        have hp' : p' ≤ p + 11 := by omega
        by_cases hlt : (k : Int) < K
        · have hd1 : decide ((k : Int) < K) = true := by simp [hlt]
          by_cases h2 : 2 < K
          · have f0 := D.f0
            have f1 := D.f1
            have hlen : us.length ≤ 1099511627776 := by have := D.len; omega
            have hKz : (K == 0) = false := by simp; omega
            have HD := hideP (D.next (Below.refl _ _).drew)
            have hp2 : p' = p + 2 := by omega
            clear D
            go_wp2
            go_region_with (go_at_call 68; refine (specAdd_all K ao cap us (k : Int) _ _ hlen (HD.out.own.ties (Nat.le_refl _))).mono ?_; rintro e w7 ⟨ao', cap', rfl, ho7, hb7⟩; have D7 := HD.out.next hb7; have a07 := D7.a0; have a17 := D7.a1; have f07 := D7.f0; have f17 := D7.f1)
            all_goals
              have DS := hideP (HD.out.store hb7 (cap' := cap') ho7 (addK_in hK us (k : Int) (((k : Int) + 1) % K)) (addTs_len K us (k : Int) (((k : Int) + 1) % K)))
              clear D7 hb7 ho7 a07 a17 f07 f17 HD
              subst hp2
              go_wp2
              go_roundw
              case rel => exact ⟨k + 1, _, _, _, _, by omega, by go_num, DS.out⟩
              case measure => simp [intOf]; omega
          · have D' := D
            clear D
            go_wp2_with fail
            refine (pick_any R bo bn bcap p' 13 _ D'.rd (by omega)).mono ?_
            rintro e wp ⟨i13, rfl, i0, i1, rdp, trp⟩
            have Dp := D'.turn trp rdp
            have i1' := i1 (by omega)
            obtain ⟨i, rfl⟩ := Int.eq_ofNat_of_zero_le i0
            clear D' i1 rdp trp i0
            go_wp2
            go_loopw [6] (fun j wr => ∃ (j' q : Nat) (K : Int) (ao : Option Addr) (cap : Nat) (us : List (Int × Int)), j' ≤ 13 ∧ j = .int .i64 j' ∧ q + 2 * j' ≤ p + 40 ∧ DI w wr R A bo bn bcap q K ao cap us) (fun j _ => (intOf j).toNat)
            case atStart => exact ⟨i, p' + 1, _, _, _, _, by omega, rfl, by omega, Dp⟩
            case round =>
              obtain ⟨j, q, K2, ao2, cap2, us2, hj13, rfl, hq, D⟩ := hrel
              clear Dp
              have a0 := D.a0
              have a1 := D.a1
              have hK := D.k
              by_cases hj : 0 < j ∧ 1 < K2
              · obtain ⟨hj0, hKK⟩ := hj
                have hj0' : (0 : Int) < (j : Int) := by omega
                have hRA : R < A := by have := D.ra; have := D.wa; omega
                have HD := hideP (D.next (Below.refl _ _).drew)
                have HDA := hideP ((D.next (below_one wr (.cells #[.int .i64 0, .slice none 0 0] 25))).next (Below.refl _ _).drew)
                have FXA := hideP ((FX.made D 25).next (Below.refl _ _).drew hRA)
                have hlen : us2.length ≤ 1099511627776 := by have := D.len; omega
                clear D
                go_wp2
                go_region_held3 (fun w' => w'.cell? ⟨A, 0, none⟩ = some (.int .i64 K2) ∧ w'.cell? ⟨A, 1, none⟩ = some (.slice ao2 us2.length cap2)) (first | exact ⟨D8.a0, D8.a1⟩ | exact ⟨D7.a0, D7.a1⟩ | exact ⟨D6.a0, D6.a1⟩ | exact ⟨a0, a1⟩ | exact ⟨(D8.next (below_one _ _)).a0, (D8.next (below_one _ _)).a1⟩ | exact ⟨(D7.next (below_one _ _)).a0, (D7.next (below_one _ _)).a1⟩ | exact ⟨(D6.next (below_one _ _)).a0, (D6.next (below_one _ _)).a1⟩ | exact ⟨HDA.out.a0, HDA.out.a1⟩ | (obtain ⟨_, hq, Dq, _, _, _⟩ := FX.stored D8 FX8 (addK K2 us2 x y) cap' ho8 hlo8; rw [← hq]; exact ⟨Dq.a0, Dq.a1⟩)) (first | (go_at_call 26; refine (pick_any R bo bn bcap (q + 1) K2 _ D6.rd (by omega)).mono ?_; rintro e w7 ⟨y, rfl, y0, y1, rd7, tr7⟩; have D7 := D6.turn tr7 rd7; (try (have FX7 := FX6.turn tr7 hRA))) | (go_at_call 26; refine (pick_any R bo bn bcap (q + 1) K2 _ (D6.next (below_one _ _)).rd (by omega)).mono ?_; rintro e w7 ⟨y, rfl, y0, y1, rd7, tr7⟩; have D7 := (D6.next (below_one _ _)).turn tr7 rd7; have FX7 := (FX.made D6 25).turn tr7 hRA) | (go_at_call 26; refine (pick_any R bo bn bcap q K2 _ HD.out.rd (by omega)).mono ?_; rintro e w6 ⟨x, rfl, x0, x1, rd6, tr6⟩; have D6 := HD.out.turn tr6 rd6) | (go_at_call 26; refine (pick_any R bo bn bcap q K2 _ HDA.out.rd (by omega)).mono ?_; rintro e w6 ⟨x, rfl, x0, x1, rd6, tr6⟩; have D6 := HDA.out.turn tr6 rd6; have FX6 := FXA.out.turn tr6 hRA) | (go_at_call 68; refine (specAdd_all K2 ao2 cap2 us2 x y _ hlen (D7.own.ties (Nat.le_refl _))).mono ?_; rintro e w8 ⟨ao', cap', rfl, ho8, hb8⟩; have D8 := D7.next hb8; (try (have FX8 := FX7.next hb8 hRA; have hlo8 := FX7.lt; have z08 := FX8.z0; have z18 := FX8.z1; have y08 := FX8.y0; have y18 := FX8.y1))) | (go_at_call 68; refine (specAdd_all K2 ao2 cap2 us2 x y _ hlen ((D7.next (below_one _ _)).own.ties (Nat.le_refl _))).mono ?_; rintro e w8 ⟨ao', cap', rfl, ho8, hb8⟩; have D8 := (D7.next (below_one _ _)).next hb8; have FX8 := (FX.made D7 25).next hb8 hRA; have hlo8 := (FX.made D7 25).lt; have z08 := FX8.z0; have z18 := FX8.z1; have y08 := FX8.y0; have y18 := FX8.y1))
                all_goals
                  have hK9 := addK_in hK us2 x y
                  have hl9 := addTs_len K2 us2 x y
                  first
                  | (obtain ⟨w9, hw9, D9, n0, n1, ho9⟩ := FX.stored D8 FX8 (addK K2 us2 x y) cap' ho8 hlo8
                     rw [← hw9]
                     have DS := hideP (D9.put cap' ho9 hK9 hl9)
                     have HD9 := hideP D9
                     have a09 := D9.a0
                     have a19 := D9.a1
                     have f09 := D9.f0
                     have f19 := D9.f1
                     clear hw9 D9 ho9 FX8 D8 ho8 hb8 z08 z18 y08 y18)
                  | (obtain ⟨w9, hw9⟩ : ∃ w9, w9 = w8.alloc (.cells #[.int .i64 (addK K2 us2 x y), .slice ao' (addTs K2 us2 x y).length cap'] 25) := ⟨_, rfl⟩
                     have D9 : DI w w9 R A bo bn bcap (q + 1 + 1) K2 ao2 cap2 us2 := by rw [hw9]; exact D8.next (below_one _ _)
                     have n0 : w9.cell? ⟨w8.heap.size, 0, none⟩ = some (.int .i64 (addK K2 us2 x y)) := by rw [hw9]; simp
                     have n1 : w9.cell? ⟨w8.heap.size, 1, none⟩ = some (.slice ao' (addTs K2 us2 x y).length cap') := by rw [hw9]; simp
                     have ho9 : OwnN w9 (A + 1) w9.heap.size ao' (addTs K2 us2 x y).length (tcell (addTs K2 us2 x y)) := by
                       rw [hw9]; exact ((ho8.next (below_one _ _)).up (by simp)).down (by have := D7.lt; omega)
                     rw [← hw9]
                     have DS := hideP (D9.put cap' ho9 hK9 hl9)
                     have HD9 := hideP D9
                     have a09 := D9.a0
                     have a19 := D9.a1
                     have f09 := D9.f0
                     have f19 := D9.f1
                     clear hw9 D9 ho9 D8 ho8 hb8)
                  cases hadd : addB K2 us2 x y
                  · go_wp2
                    go_roundw
                    case rel => exact ⟨j - 1, _, _, _, _, _, by omega, by go_num, by omega, HD9.out⟩
                    case measure => simp [intOf]; omega
                  · go_wp2
                    go_roundw
                    case rel => exact ⟨j - 1, _, _, _, _, _, by omega, by go_num, by omega, DS.out⟩
                    case measure => simp [intOf]; omega
              · have hb : Hid (Drawn w ((wr.setCell ⟨w.heap.size, 0, none⟩ (.int .i64 K2)).setCell ⟨w.heap.size, 1, none⟩ (.slice ao2 us2.length cap2)) R bo bn bcap p 50 K2 ao2 us2) := hideP (D.finish (by omega))
                have r0 := D.r0
                have r1 := D.r1
                have g0 := D.g0
                have g1 := D.g1
                have hwr : w.heap.size < wr.heap.size := by have := D.lt; omega
                clear D
                by_cases hj0 : 0 < j
                · have hj0' : (0 : Int) < (j : Int) := by omega
                  have hKK : K2 ≤ 1 := by omega
                  go_wp2
                  refine bodyPost_ret (v := .agg #[.int .i64 K2, .slice ao2 us2.length cap2]) ?_ rfl ⟨K2, ao2, cap2, us2, rfl, hb.out⟩
                  simp [results, Try.results58, go_sem, r0, r1]
                · have hj0' : decide ((0 : Int) < (j : Int)) = false := by simp; omega
                  have hj2 : decide (0 < j) = false := by simp; omega
                  have hjz : j = 0 := by omega
                  subst hjz
                  go_wp2
                  refine bodyPost_ret (v := .agg #[.int .i64 K2, .slice ao2 us2.length cap2]) ?_ rfl ⟨K2, ao2, cap2, us2, rfl, hb.out⟩
                  simp [results, Try.results58, go_sem, r0, r1]
        · have hd1 : decide ((k : Int) < K) = false := by simp; omega
          have D' := D
          clear D
          go_wp2_with fail
          refine (pick_any R bo bn bcap p' 13 _ D'.rd (by omega)).mono ?_
          rintro e wp ⟨i13, rfl, i0, i1, rdp, trp⟩
          have Dp := D'.turn trp rdp
          have i1' := i1 (by omega)
          obtain ⟨i, rfl⟩ := Int.eq_ofNat_of_zero_le i0
          clear D' i1 rdp trp i0
          go_wp2
          go_loopw [6] (fun j wr => ∃ (j' q : Nat) (K : Int) (ao : Option Addr) (cap : Nat) (us : List (Int × Int)), j' ≤ 13 ∧ j = .int .i64 j' ∧ q + 2 * j' ≤ p + 40 ∧ DI w wr R A bo bn bcap q K ao cap us) (fun j _ => (intOf j).toNat)
          case atStart => exact ⟨i, p' + 1, _, _, _, _, by omega, rfl, by omega, Dp⟩
          case round =>
            obtain ⟨j, q, K2, ao2, cap2, us2, hj13, rfl, hq, D⟩ := hrel
            clear Dp
            have a0 := D.a0
            have a1 := D.a1
            have hK := D.k
            by_cases hj : 0 < j ∧ 1 < K2
            · obtain ⟨hj0, hKK⟩ := hj
              have hj0' : (0 : Int) < (j : Int) := by omega
              have hRA : R < A := by have := D.ra; have := D.wa; omega
              have HD := hideP (D.next (Below.refl _ _).drew)
              have HDA := hideP ((D.next (below_one wr (.cells #[.int .i64 0, .slice none 0 0] 25))).next (Below.refl _ _).drew)
              have FXA := hideP ((FX.made D 25).next (Below.refl _ _).drew hRA)
              have hlen : us2.length ≤ 1099511627776 := by have := D.len; omega
              clear D
              go_wp2
              go_region_held3 (fun w' => w'.cell? ⟨A, 0, none⟩ = some (.int .i64 K2) ∧ w'.cell? ⟨A, 1, none⟩ = some (.slice ao2 us2.length cap2)) (first | exact ⟨D8.a0, D8.a1⟩ | exact ⟨D7.a0, D7.a1⟩ | exact ⟨D6.a0, D6.a1⟩ | exact ⟨a0, a1⟩ | exact ⟨(D8.next (below_one _ _)).a0, (D8.next (below_one _ _)).a1⟩ | exact ⟨(D7.next (below_one _ _)).a0, (D7.next (below_one _ _)).a1⟩ | exact ⟨(D6.next (below_one _ _)).a0, (D6.next (below_one _ _)).a1⟩ | exact ⟨HDA.out.a0, HDA.out.a1⟩ | (obtain ⟨_, hq, Dq, _, _, _⟩ := FX.stored D8 FX8 (addK K2 us2 x y) cap' ho8 hlo8; rw [← hq]; exact ⟨Dq.a0, Dq.a1⟩)) (first | (go_at_call 26; refine (pick_any R bo bn bcap (q + 1) K2 _ D6.rd (by omega)).mono ?_; rintro e w7 ⟨y, rfl, y0, y1, rd7, tr7⟩; have D7 := D6.turn tr7 rd7; (try (have FX7 := FX6.turn tr7 hRA))) | (go_at_call 26; refine (pick_any R bo bn bcap (q + 1) K2 _ (D6.next (below_one _ _)).rd (by omega)).mono ?_; rintro e w7 ⟨y, rfl, y0, y1, rd7, tr7⟩; have D7 := (D6.next (below_one _ _)).turn tr7 rd7; have FX7 := (FX.made D6 25).turn tr7 hRA) | (go_at_call 26; refine (pick_any R bo bn bcap q K2 _ HD.out.rd (by omega)).mono ?_; rintro e w6 ⟨x, rfl, x0, x1, rd6, tr6⟩; have D6 := HD.out.turn tr6 rd6) | (go_at_call 26; refine (pick_any R bo bn bcap q K2 _ HDA.out.rd (by omega)).mono ?_; rintro e w6 ⟨x, rfl, x0, x1, rd6, tr6⟩; have D6 := HDA.out.turn tr6 rd6; have FX6 := FXA.out.turn tr6 hRA) | (go_at_call 68; refine (specAdd_all K2 ao2 cap2 us2 x y _ hlen (D7.own.ties (Nat.le_refl _))).mono ?_; rintro e w8 ⟨ao', cap', rfl, ho8, hb8⟩; have D8 := D7.next hb8; (try (have FX8 := FX7.next hb8 hRA; have hlo8 := FX7.lt; have z08 := FX8.z0; have z18 := FX8.z1; have y08 := FX8.y0; have y18 := FX8.y1))) | (go_at_call 68; refine (specAdd_all K2 ao2 cap2 us2 x y _ hlen ((D7.next (below_one _ _)).own.ties (Nat.le_refl _))).mono ?_; rintro e w8 ⟨ao', cap', rfl, ho8, hb8⟩; have D8 := (D7.next (below_one _ _)).next hb8; have FX8 := (FX.made D7 25).next hb8 hRA; have hlo8 := (FX.made D7 25).lt; have z08 := FX8.z0; have z18 := FX8.z1; have y08 := FX8.y0; have y18 := FX8.y1))
              all_goals
                have hK9 := addK_in hK us2 x y
                have hl9 := addTs_len K2 us2 x y
                first
                | (obtain ⟨w9, hw9, D9, n0, n1, ho9⟩ := FX.stored D8 FX8 (addK K2 us2 x y) cap' ho8 hlo8
                   rw [← hw9]
                   have DS := hideP (D9.put cap' ho9 hK9 hl9)
                   have HD9 := hideP D9
                   have a09 := D9.a0
                   have a19 := D9.a1
                   have f09 := D9.f0
                   have f19 := D9.f1
                   clear hw9 D9 ho9 FX8 D8 ho8 hb8 z08 z18 y08 y18)
                | (obtain ⟨w9, hw9⟩ : ∃ w9, w9 = w8.alloc (.cells #[.int .i64 (addK K2 us2 x y), .slice ao' (addTs K2 us2 x y).length cap'] 25) := ⟨_, rfl⟩
                   have D9 : DI w w9 R A bo bn bcap (q + 1 + 1) K2 ao2 cap2 us2 := by rw [hw9]; exact D8.next (below_one _ _)
                   have n0 : w9.cell? ⟨w8.heap.size, 0, none⟩ = some (.int .i64 (addK K2 us2 x y)) := by rw [hw9]; simp
                   have n1 : w9.cell? ⟨w8.heap.size, 1, none⟩ = some (.slice ao' (addTs K2 us2 x y).length cap') := by rw [hw9]; simp
                   have ho9 : OwnN w9 (A + 1) w9.heap.size ao' (addTs K2 us2 x y).length (tcell (addTs K2 us2 x y)) := by
                     rw [hw9]; exact ((ho8.next (below_one _ _)).up (by simp)).down (by have := D7.lt; omega)
                   rw [← hw9]
                   have DS := hideP (D9.put cap' ho9 hK9 hl9)
                   have HD9 := hideP D9
                   have a09 := D9.a0
                   have a19 := D9.a1
                   have f09 := D9.f0
                   have f19 := D9.f1
                   clear hw9 D9 ho9 D8 ho8 hb8)
                cases hadd : addB K2 us2 x y
                · go_wp2
                  go_roundw
                  case rel => exact ⟨j - 1, _, _, _, _, _, by omega, by go_num, by omega, HD9.out⟩
                  case measure => simp [intOf]; omega
                · go_wp2
                  go_roundw
                  case rel => exact ⟨j - 1, _, _, _, _, _, by omega, by go_num, by omega, DS.out⟩
                  case measure => simp [intOf]; omega
            · have hb : Hid (Drawn w ((wr.setCell ⟨w.heap.size, 0, none⟩ (.int .i64 K2)).setCell ⟨w.heap.size, 1, none⟩ (.slice ao2 us2.length cap2)) R bo bn bcap p 50 K2 ao2 us2) := hideP (D.finish (by omega))
              have r0 := D.r0
              have r1 := D.r1
              have g0 := D.g0
              have g1 := D.g1
              have hwr : w.heap.size < wr.heap.size := by have := D.lt; omega
              clear D
              by_cases hj0 : 0 < j
              · have hj0' : (0 : Int) < (j : Int) := by omega
                have hKK : K2 ≤ 1 := by omega
                go_wp2
                refine bodyPost_ret (v := .agg #[.int .i64 K2, .slice ao2 us2.length cap2]) ?_ rfl ⟨K2, ao2, cap2, us2, rfl, hb.out⟩
                simp [results, Try.results58, go_sem, r0, r1]
              · have hj0' : decide ((0 : Int) < (j : Int)) = false := by simp; omega
                have hj2 : decide (0 < j) = false := by simp; omega
                have hjz : j = 0 := by omega
                subst hjz
                go_wp2
                refine bodyPost_ret (v := .agg #[.int .i64 K2, .slice ao2 us2.length cap2]) ?_ rfl ⟨K2, ao2, cap2, us2, rfl, hb.out⟩
                simp [results, Try.results58, go_sem, r0, r1]
    · have huc : (u == 1) = false := by simp [hu1]
      have D' := D2
      have hp' : p + 1 + 1 ≤ p + 11 := by omega
      obtain ⟨p', hpp⟩ : ∃ p', p' = p + 1 + 1 := ⟨_, rfl⟩
      rw [← hpp] at D' hp'
      clear D2 hpp u1' u0 hu0 hu1
      go_wp2_with fail
      refine (pick_any R bo bn bcap p' 13 _ D'.rd (by omega)).mono ?_
      rintro e wp ⟨i13, rfl, i0, i1, rdp, trp⟩
      have Dp := D'.turn trp rdp
      have i1' := i1 (by omega)
      obtain ⟨i, rfl⟩ := Int.eq_ofNat_of_zero_le i0
      clear D' i1 rdp trp i0
      go_wp2
      go_loopw [6] (fun j wr => ∃ (j' q : Nat) (K : Int) (ao : Option Addr) (cap : Nat) (us : List (Int × Int)), j' ≤ 13 ∧ j = .int .i64 j' ∧ q + 2 * j' ≤ p + 40 ∧ DI w wr R A bo bn bcap q K ao cap us) (fun j _ => (intOf j).toNat)
      case atStart => exact ⟨i, p' + 1, _, _, _, _, by omega, rfl, by omega, Dp⟩
      case round =>
        obtain ⟨j, q, K2, ao2, cap2, us2, hj13, rfl, hq, D⟩ := hrel
        clear Dp
        have a0 := D.a0
        have a1 := D.a1
        have hK := D.k
        by_cases hj : 0 < j ∧ 1 < K2
        · obtain ⟨hj0, hKK⟩ := hj
          have hj0' : (0 : Int) < (j : Int) := by omega
          have hRA : R < A := by have := D.ra; have := D.wa; omega
          have HD := hideP (D.next (Below.refl _ _).drew)
          have HDA := hideP ((D.next (below_one wr (.cells #[.int .i64 0, .slice none 0 0] 25))).next (Below.refl _ _).drew)
          have FXA := hideP ((FX.made D 25).next (Below.refl _ _).drew hRA)
          have hlen : us2.length ≤ 1099511627776 := by have := D.len; omega
          clear D
          go_wp2
          go_region_held3 (fun w' => w'.cell? ⟨A, 0, none⟩ = some (.int .i64 K2) ∧ w'.cell? ⟨A, 1, none⟩ = some (.slice ao2 us2.length cap2)) (first | exact ⟨D8.a0, D8.a1⟩ | exact ⟨D7.a0, D7.a1⟩ | exact ⟨D6.a0, D6.a1⟩ | exact ⟨a0, a1⟩ | exact ⟨(D8.next (below_one _ _)).a0, (D8.next (below_one _ _)).a1⟩ | exact ⟨(D7.next (below_one _ _)).a0, (D7.next (below_one _ _)).a1⟩ | exact ⟨(D6.next (below_one _ _)).a0, (D6.next (below_one _ _)).a1⟩ | exact ⟨HDA.out.a0, HDA.out.a1⟩ | (obtain ⟨_, hq, Dq, _, _, _⟩ := FX.stored D8 FX8 (addK K2 us2 x y) cap' ho8 hlo8; rw [← hq]; exact ⟨Dq.a0, Dq.a1⟩)) (first | (go_at_call 26; refine (pick_any R bo bn bcap (q + 1) K2 _ D6.rd (by omega)).mono ?_; rintro e w7 ⟨y, rfl, y0, y1, rd7, tr7⟩; have D7 := D6.turn tr7 rd7; (try (have FX7 := FX6.turn tr7 hRA))) | (go_at_call 26; refine (pick_any R bo bn bcap (q + 1) K2 _ (D6.next (below_one _ _)).rd (by omega)).mono ?_; rintro e w7 ⟨y, rfl, y0, y1, rd7, tr7⟩; have D7 := (D6.next (below_one _ _)).turn tr7 rd7; have FX7 := (FX.made D6 25).turn tr7 hRA) | (go_at_call 26; refine (pick_any R bo bn bcap q K2 _ HD.out.rd (by omega)).mono ?_; rintro e w6 ⟨x, rfl, x0, x1, rd6, tr6⟩; have D6 := HD.out.turn tr6 rd6) | (go_at_call 26; refine (pick_any R bo bn bcap q K2 _ HDA.out.rd (by omega)).mono ?_; rintro e w6 ⟨x, rfl, x0, x1, rd6, tr6⟩; have D6 := HDA.out.turn tr6 rd6; have FX6 := FXA.out.turn tr6 hRA) | (go_at_call 68; refine (specAdd_all K2 ao2 cap2 us2 x y _ hlen (D7.own.ties (Nat.le_refl _))).mono ?_; rintro e w8 ⟨ao', cap', rfl, ho8, hb8⟩; have D8 := D7.next hb8; (try (have FX8 := FX7.next hb8 hRA; have hlo8 := FX7.lt; have z08 := FX8.z0; have z18 := FX8.z1; have y08 := FX8.y0; have y18 := FX8.y1))) | (go_at_call 68; refine (specAdd_all K2 ao2 cap2 us2 x y _ hlen ((D7.next (below_one _ _)).own.ties (Nat.le_refl _))).mono ?_; rintro e w8 ⟨ao', cap', rfl, ho8, hb8⟩; have D8 := (D7.next (below_one _ _)).next hb8; have FX8 := (FX.made D7 25).next hb8 hRA; have hlo8 := (FX.made D7 25).lt; have z08 := FX8.z0; have z18 := FX8.z1; have y08 := FX8.y0; have y18 := FX8.y1))
          all_goals
            have hK9 := addK_in hK us2 x y
            have hl9 := addTs_len K2 us2 x y
            first
            | (obtain ⟨w9, hw9, D9, n0, n1, ho9⟩ := FX.stored D8 FX8 (addK K2 us2 x y) cap' ho8 hlo8
               rw [← hw9]
               have DS := hideP (D9.put cap' ho9 hK9 hl9)
               have HD9 := hideP D9
               have a09 := D9.a0
               have a19 := D9.a1
               have f09 := D9.f0
               have f19 := D9.f1
               clear hw9 D9 ho9 FX8 D8 ho8 hb8 z08 z18 y08 y18)
            | (obtain ⟨w9, hw9⟩ : ∃ w9, w9 = w8.alloc (.cells #[.int .i64 (addK K2 us2 x y), .slice ao' (addTs K2 us2 x y).length cap'] 25) := ⟨_, rfl⟩
               have D9 : DI w w9 R A bo bn bcap (q + 1 + 1) K2 ao2 cap2 us2 := by rw [hw9]; exact D8.next (below_one _ _)
               have n0 : w9.cell? ⟨w8.heap.size, 0, none⟩ = some (.int .i64 (addK K2 us2 x y)) := by rw [hw9]; simp
               have n1 : w9.cell? ⟨w8.heap.size, 1, none⟩ = some (.slice ao' (addTs K2 us2 x y).length cap') := by rw [hw9]; simp
               have ho9 : OwnN w9 (A + 1) w9.heap.size ao' (addTs K2 us2 x y).length (tcell (addTs K2 us2 x y)) := by
                 rw [hw9]; exact ((ho8.next (below_one _ _)).up (by simp)).down (by have := D7.lt; omega)
               rw [← hw9]
               have DS := hideP (D9.put cap' ho9 hK9 hl9)
               have HD9 := hideP D9
               have a09 := D9.a0
               have a19 := D9.a1
               have f09 := D9.f0
               have f19 := D9.f1
               clear hw9 D9 ho9 D8 ho8 hb8)
            cases hadd : addB K2 us2 x y
            · go_wp2
              go_roundw
              case rel => exact ⟨j - 1, _, _, _, _, _, by omega, by go_num, by omega, HD9.out⟩
              case measure => simp [intOf]; omega
            · go_wp2
              go_roundw
              case rel => exact ⟨j - 1, _, _, _, _, _, by omega, by go_num, by omega, DS.out⟩
              case measure => simp [intOf]; omega
        · have hb : Hid (Drawn w ((wr.setCell ⟨w.heap.size, 0, none⟩ (.int .i64 K2)).setCell ⟨w.heap.size, 1, none⟩ (.slice ao2 us2.length cap2)) R bo bn bcap p 50 K2 ao2 us2) := hideP (D.finish (by omega))
          have r0 := D.r0
          have r1 := D.r1
          have g0 := D.g0
          have g1 := D.g1
          have hwr : w.heap.size < wr.heap.size := by have := D.lt; omega
          clear D
          by_cases hj0 : 0 < j
          · have hj0' : (0 : Int) < (j : Int) := by omega
            have hKK : K2 ≤ 1 := by omega
            go_wp2
            refine bodyPost_ret (v := .agg #[.int .i64 K2, .slice ao2 us2.length cap2]) ?_ rfl ⟨K2, ao2, cap2, us2, rfl, hb.out⟩
            simp [results, Try.results58, go_sem, r0, r1]
          · have hj0' : decide ((0 : Int) < (j : Int)) = false := by simp; omega
            have hj2 : decide (0 < j) = false := by simp; omega
            have hjz : j = 0 := by omega
            subst hjz
            go_wp2
            refine bodyPost_ret (v := .agg #[.int .i64 K2, .slice ao2 us2.length cap2]) ?_ rfl ⟨K2, ao2, cap2, us2, rfl, hb.out⟩
            simp [results, Try.results58, go_sem, r0, r1]

end Go.Proofs.Ytljnjpjnadlmhaa
