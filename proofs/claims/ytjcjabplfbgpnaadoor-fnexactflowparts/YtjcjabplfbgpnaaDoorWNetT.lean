/- Walk of spec.l71Net: it draws a net of at most eight knots, in memory of its own. -/
import Derived.Test.YtjcjabplfbgpnaaDoorWPick
import Derived.Test.YtjcjabplfbgpnaaDoorPartWSpecAdd
import Derived.Deep.RegionWith
import Derived.Deep.RegionHeld3
namespace Go.Proofs.YtjcjabplfbgpnaaDoor
open Go.RowKit
set_option linter.unusedVariables false

theorem Turned.trans {lo hi : Nat} {a b c : World} (h : Turned lo hi a b) (k : Turned lo hi b c) : Turned lo hi a c :=
  ⟨k.os.trans h.os, k.tape.trans h.tape, k.output.trans h.output, Nat.le_trans h.size k.size, fun i hi ho => (k.block i (Nat.lt_of_lt_of_le hi h.size) ho).trans (h.block i hi ho)⟩
theorem Turned.of_below {lo hi : Nat} {a b : World} (h : Below a.heap.size a b) : Turned lo hi a b := ⟨h.os, h.tape, h.output, h.size, fun k hk _ => h.block k hk⟩
theorem Turned.frozen {lo hi : Nat} {w w' : World} (h : Turned lo hi w w') {p : Addr} (hp : p.block < w.heap.size) (ho : p.block < lo ∨ hi ≤ p.block) : w'.frozen? p = w.frozen? p := World.frozen?_of_block (h.block p.block hp ho)
theorem Turned.set {lo hi : Nat} {a b : World} (h : Turned lo hi a b) {p : Addr} (hp : a.heap.size ≤ p.block) (u : Value) : Turned lo hi a (b.setCell p u) :=
  ⟨h.os, h.tape, h.output, by simpa [World.setCell] using h.size, fun k hk ho => (Below.heap_setCell b p u k (by omega)).trans (h.block k hk ho)⟩
theorem OwnN.up {w : World} {lo hi hi' n : Nat} {ao : Option Addr} {f : Nat → Value} (h : OwnN w lo hi ao n f) (hh : hi ≤ hi') : OwnN w lo hi' ao n f := by
  rcases h with h | ⟨g, e, h1, h2, h3⟩
  · exact Or.inl h
  · exact Or.inr ⟨g, e, h1, by omega, h3⟩
theorem OwnN.down {w : World} {lo lo' hi n : Nat} {ao : Option Addr} {f : Nat → Value} (h : OwnN w lo hi ao n f) (hl : lo' ≤ lo) : OwnN w lo' hi ao n f := by
  rcases h with h | ⟨g, e, h1, h2, h3⟩
  · exact Or.inl h
  · exact Or.inr ⟨g, e, by omega, h2, h3⟩
theorem OwnN.far {w : World} {lo hi n : Nat} {ao : Option Addr} {f : Nat → Value} (h : OwnN w lo hi ao n f) {p : Addr} (hp : p.block < lo ∨ hi ≤ p.block) (u : Value) : OwnN (w.setCell p u) lo hi ao n f := by
  rcases h with h | ⟨g, e, h1, h2, h3⟩
  · exact Or.inl h
  · exact Or.inr ⟨g, e, h1, h2, h3.other (by omega) u⟩

/-- a net in the variable A of a function that began in w, drawn by the reader at R -/
structure DI (w wr : World) (R A : Nat) (bo : Option Addr) (bn bcap p : Nat) (K : Int) (ao : Option Addr) (cap : Nat) (us : List (Int × Int)) : Prop where
  a0 : wr.cell? ⟨A, 0, none⟩ = some (.int .i64 K)
  a1 : wr.cell? ⟨A, 1, none⟩ = some (.slice ao us.length cap)
  f0 : wr.frozen? ⟨A, 0, none⟩ = false
  f1 : wr.frozen? ⟨A, 1, none⟩ = false
  own : OwnN wr (A + 1) wr.heap.size ao us.length (tcell us)
  rd : Rdr wr R bo bn bcap p
  tr : Turned R (R + 1) w wr
  ra : R < w.heap.size
  wa : w.heap.size < A
  lt : A < wr.heap.size
  r0 : wr.cell? ⟨w.heap.size, 0, none⟩ = some (.int .i64 0)
  r1 : wr.cell? ⟨w.heap.size, 1, none⟩ = some (.slice none 0 0)
  g0 : wr.frozen? ⟨w.heap.size, 0, none⟩ = false
  g1 : wr.frozen? ⟨w.heap.size, 1, none⟩ = false
  k : 0 ≤ K ∧ K ≤ 8
  len : us.length ≤ 65
theorem DI.turn {w wr w' : World} {R A : Nat} {bo : Option Addr} {bn bcap p p' : Nat} {K : Int} {ao : Option Addr} {cap : Nat} {us : List (Int × Int)} (h : DI w wr R A bo bn bcap p K ao cap us) (ht : Turned R (R + 1) wr w') (hr : Rdr w' R bo bn bcap p') : DI w w' R A bo bn bcap p' K ao cap us := by
  have h1 := h.ra
  have h2 := h.wa
  have h3 := h.lt
  exact ⟨(ht.cell (p := ⟨A, 0, none⟩) h3 (Or.inr (by show R + 1 ≤ A; omega))).trans h.a0, (ht.cell (p := ⟨A, 1, none⟩) h3 (Or.inr (by show R + 1 ≤ A; omega))).trans h.a1,
    (ht.frozen (p := ⟨A, 0, none⟩) h3 (Or.inr (by show R + 1 ≤ A; omega))).trans h.f0, (ht.frozen (p := ⟨A, 1, none⟩) h3 (Or.inr (by show R + 1 ≤ A; omega))).trans h.f1,
    (h.own.aside ht (Or.inr (by omega))).up ht.size, hr, h.tr.trans ht, h1, h2, Nat.lt_of_lt_of_le h3 ht.size,
    (ht.cell (p := ⟨w.heap.size, 0, none⟩) (by show w.heap.size < _; omega) (Or.inr (by show R + 1 ≤ w.heap.size; omega))).trans h.r0, (ht.cell (p := ⟨w.heap.size, 1, none⟩) (by show w.heap.size < _; omega) (Or.inr (by show R + 1 ≤ w.heap.size; omega))).trans h.r1,
    (ht.frozen (p := ⟨w.heap.size, 0, none⟩) (by show w.heap.size < _; omega) (Or.inr (by show R + 1 ≤ w.heap.size; omega))).trans h.g0, (ht.frozen (p := ⟨w.heap.size, 1, none⟩) (by show w.heap.size < _; omega) (Or.inr (by show R + 1 ≤ w.heap.size; omega))).trans h.g1, h.k, h.len⟩
theorem DI.next {w wr w' : World} {R A : Nat} {bo : Option Addr} {bn bcap p : Nat} {K : Int} {ao : Option Addr} {cap : Nat} {us : List (Int × Int)} (h : DI w wr R A bo bn bcap p K ao cap us) (hb : Below wr.heap.size wr w') : DI w w' R A bo bn bcap p K ao cap us :=
  h.turn (Turned.of_below hb) (h.rd.next hb)
/-- another net is stored there -/
theorem DI.store {w wr w' : World} {R A : Nat} {bo : Option Addr} {bn bcap p : Nat} {K K' : Int} {ao ao' : Option Addr} {cap cap' : Nat} {us us' : List (Int × Int)} (h : DI w wr R A bo bn bcap p K ao cap us) (hb : Below wr.heap.size wr w')
    (ho : OwnN w' wr.heap.size w'.heap.size ao' us'.length (tcell us')) (hk : 0 ≤ K' ∧ K' ≤ 8) (hl : us'.length ≤ 65) :
    DI w ((w'.setCell ⟨A, 0, none⟩ (.int .i64 K')).setCell ⟨A, 1, none⟩ (.slice ao' us'.length cap')) R A bo bn bcap p K' ao' cap' us' := by
  have h' := h.next hb
  have h1 := h.ra
  have h2 := h.wa
  have h3 := h.lt
  have hsz : ((w'.setCell ⟨A, 0, none⟩ (.int .i64 K')).setCell ⟨A, 1, none⟩ (.slice ao' us'.length cap')).heap.size = w'.heap.size := by simp [World.setCell]
  have hAR : A ≠ R := by omega
  have ea : ∀ q : Addr, q.block ≠ A → ((w'.setCell ⟨A, 0, none⟩ (.int .i64 K')).setCell ⟨A, 1, none⟩ (.slice ao' us'.length cap')).heap[q.block]? = w'.heap[q.block]? := fun q hq => by
    rw [Below.heap_setCell _ _ _ _ (by simpa using hq), Below.heap_setCell _ _ _ _ (by simpa using hq)]
  have ca : ∀ q : Addr, q.block ≠ A → ((w'.setCell ⟨A, 0, none⟩ (.int .i64 K')).setCell ⟨A, 1, none⟩ (.slice ao' us'.length cap')).cell? q = w'.cell? q := fun q hq => World.cell?_of_block (ea q hq)
  have fa : ∀ q : Addr, q.block ≠ A → ((w'.setCell ⟨A, 0, none⟩ (.int .i64 K')).setCell ⟨A, 1, none⟩ (.slice ao' us'.length cap')).frozen? q = w'.frozen? q := fun q hq => World.frozen?_of_block (ea q hq)
  refine ⟨?_, ?_, ?_, ?_, ?_, ?_, ?_, h1, h2, ?_, ?_, ?_, ?_, ?_, hk, hl⟩
  · rw [World.cell?_setCell_other _ _ _ _ (by simp)]; exact World.cell?_setCell_same w' ⟨A, 0, none⟩ _ h'.a0
  · exact World.cell?_setCell_same _ ⟨A, 1, none⟩ _ ((World.cell?_setCell_other _ _ _ _ (by simp)).trans h'.a1)
  · rw [World.frozen?_setCell, World.frozen?_setCell]; exact h'.f0
  · rw [World.frozen?_setCell, World.frozen?_setCell]; exact h'.f1
  · rw [hsz]
    exact ((ho.down (by omega)).far (p := ⟨A, 0, none⟩) (Or.inl (by show A < A + 1; omega)) _).far (p := ⟨A, 1, none⟩) (Or.inl (by show A < A + 1; omega)) _
  · refine ⟨(ca ⟨R, 0, none⟩ (by show R ≠ A; omega)).trans h'.rd.c0, (ca ⟨R, 1, none⟩ (by show R ≠ A; omega)).trans h'.rd.c1, (fa ⟨R, 1, none⟩ (by show R ≠ A; omega)).trans h'.rd.f1, by rw [hsz]; exact h'.rd.lt, h'.rd.short, fun i hi => ?_⟩
    obtain ⟨b, off, v, e, q1, q3, q4⟩ := h'.rd.bytes i hi
    exact ⟨b, off, v, e, q1, (ca ⟨b, off + i, none⟩ (by show b ≠ A; omega)).trans q3, q4⟩
  · exact (h'.tr.set (p := ⟨A, 0, none⟩) (by show w.heap.size ≤ A; omega) _).set (p := ⟨A, 1, none⟩) (by show w.heap.size ≤ A; omega) _
  · rw [hsz]; exact h'.lt
  · exact (ca ⟨w.heap.size, 0, none⟩ (by show w.heap.size ≠ A; omega)).trans h'.r0
  · exact (ca ⟨w.heap.size, 1, none⟩ (by show w.heap.size ≠ A; omega)).trans h'.r1
  · exact (fa ⟨w.heap.size, 0, none⟩ (by show w.heap.size ≠ A; omega)).trans h'.g0
  · exact (fa ⟨w.heap.size, 1, none⟩ (by show w.heap.size ≠ A; omega)).trans h'.g1

/-- a variable that was just made, at block X, behind the net's row -/
structure FX (w wr : World) (R A X : Nat) (ao : Option Addr) (us : List (Int × Int)) : Prop where
  z0 : wr.cell? ⟨X, 0, none⟩ = some (.int .i64 0)
  z1 : wr.cell? ⟨X, 1, none⟩ = some (.slice none 0 0)
  y0 : wr.frozen? ⟨X, 0, none⟩ = false
  y1 : wr.frozen? ⟨X, 1, none⟩ = false
  lt : X < wr.heap.size
  ax : A < X
  own : OwnN wr (A + 1) X ao us.length (tcell us)
theorem FX.made {w wr : World} {R A : Nat} {bo : Option Addr} {bn bcap p : Nat} {K : Int} {ao : Option Addr} {cap : Nat} {us : List (Int × Int)} (h : DI w wr R A bo bn bcap p K ao cap us) (t : TypeId) : FX w (wr.alloc (.cells #[.int .i64 0, .slice none 0 0] t)) R A wr.heap.size ao us :=
  ⟨by simp, by simp, by simp, by simp, by simp, h.lt, h.own.next (below_one _ _)⟩
theorem FX.turn {w wr w' : World} {R A X : Nat} {ao : Option Addr} {us : List (Int × Int)} (h : FX w wr R A X ao us) (ht : Turned R (R + 1) wr w') (hR : R < A) : FX w w' R A X ao us := by
  have h1 := h.ax
  exact ⟨(ht.cell (p := ⟨X, 0, none⟩) h.lt (Or.inr (by show R + 1 ≤ X; omega))).trans h.z0, (ht.cell (p := ⟨X, 1, none⟩) h.lt (Or.inr (by show R + 1 ≤ X; omega))).trans h.z1, (ht.frozen (p := ⟨X, 0, none⟩) h.lt (Or.inr (by show R + 1 ≤ X; omega))).trans h.y0, (ht.frozen (p := ⟨X, 1, none⟩) h.lt (Or.inr (by show R + 1 ≤ X; omega))).trans h.y1,
    Nat.lt_of_lt_of_le h.lt ht.size, h1, h.own.aside ht (Or.inr (by omega))⟩
theorem FX.next {w wr w' : World} {R A X : Nat} {ao : Option Addr} {us : List (Int × Int)} (h : FX w wr R A X ao us) (hb : Below wr.heap.size wr w') (hR : R < A) : FX w w' R A X ao us := h.turn (Turned.of_below hb) hR
/-- another net is stored into the net's variable -/
theorem DI.put {w wr : World} {R A : Nat} {bo : Option Addr} {bn bcap p : Nat} {K K' : Int} {ao ao' : Option Addr} {cap : Nat} (cap' : Nat) {us us' : List (Int × Int)} (h : DI w wr R A bo bn bcap p K ao cap us)
    (ho : OwnN wr (A + 1) wr.heap.size ao' us'.length (tcell us')) (hk : 0 ≤ K' ∧ K' ≤ 8) (hl : us'.length ≤ 65) :
    DI w ((wr.setCell ⟨A, 0, none⟩ (.int .i64 K')).setCell ⟨A, 1, none⟩ (.slice ao' us'.length cap')) R A bo bn bcap p K' ao' cap' us' := by
  have h1 := h.ra
  have h2 := h.wa
  have h3 := h.lt
  have hsz : ((wr.setCell ⟨A, 0, none⟩ (.int .i64 K')).setCell ⟨A, 1, none⟩ (.slice ao' us'.length cap')).heap.size = wr.heap.size := by simp [World.setCell]
  have ea : ∀ q : Addr, q.block ≠ A → ((wr.setCell ⟨A, 0, none⟩ (.int .i64 K')).setCell ⟨A, 1, none⟩ (.slice ao' us'.length cap')).heap[q.block]? = wr.heap[q.block]? := fun q hq => by
    rw [Below.heap_setCell _ _ _ _ (by simpa using hq), Below.heap_setCell _ _ _ _ (by simpa using hq)]
  have ca : ∀ q : Addr, q.block ≠ A → ((wr.setCell ⟨A, 0, none⟩ (.int .i64 K')).setCell ⟨A, 1, none⟩ (.slice ao' us'.length cap')).cell? q = wr.cell? q := fun q hq => World.cell?_of_block (ea q hq)
  have fa : ∀ q : Addr, q.block ≠ A → ((wr.setCell ⟨A, 0, none⟩ (.int .i64 K')).setCell ⟨A, 1, none⟩ (.slice ao' us'.length cap')).frozen? q = wr.frozen? q := fun q hq => World.frozen?_of_block (ea q hq)
  refine ⟨?_, ?_, ?_, ?_, ?_, ?_, ?_, h1, h2, ?_, ?_, ?_, ?_, ?_, hk, hl⟩
  · rw [World.cell?_setCell_other _ _ _ _ (by simp)]; exact World.cell?_setCell_same wr ⟨A, 0, none⟩ _ h.a0
  · exact World.cell?_setCell_same _ ⟨A, 1, none⟩ _ ((World.cell?_setCell_other _ _ _ _ (by simp)).trans h.a1)
  · rw [World.frozen?_setCell, World.frozen?_setCell]; exact h.f0
  · rw [World.frozen?_setCell, World.frozen?_setCell]; exact h.f1
  · rw [hsz]
    exact (ho.far (p := ⟨A, 0, none⟩) (Or.inl (by show A < A + 1; omega)) _).far (p := ⟨A, 1, none⟩) (Or.inl (by show A < A + 1; omega)) _
  · refine ⟨(ca ⟨R, 0, none⟩ (by show R ≠ A; omega)).trans h.rd.c0, (ca ⟨R, 1, none⟩ (by show R ≠ A; omega)).trans h.rd.c1, (fa ⟨R, 1, none⟩ (by show R ≠ A; omega)).trans h.rd.f1, by rw [hsz]; exact h.rd.lt, h.rd.short, fun i hi => ?_⟩
    obtain ⟨b, off, v, e, q1, q3, q4⟩ := h.rd.bytes i hi
    exact ⟨b, off, v, e, q1, (ca ⟨b, off + i, none⟩ (by show b ≠ A; omega)).trans q3, q4⟩
  · exact (h.tr.set (p := ⟨A, 0, none⟩) (by show w.heap.size ≤ A; omega) _).set (p := ⟨A, 1, none⟩) (by show w.heap.size ≤ A; omega) _
  · rw [hsz]; exact h.lt
  · exact (ca ⟨w.heap.size, 0, none⟩ (by show w.heap.size ≠ A; omega)).trans h.r0
  · exact (ca ⟨w.heap.size, 1, none⟩ (by show w.heap.size ≠ A; omega)).trans h.r1
  · exact (fa ⟨w.heap.size, 0, none⟩ (by show w.heap.size ≠ A; omega)).trans h.g0
  · exact (fa ⟨w.heap.size, 1, none⟩ (by show w.heap.size ≠ A; omega)).trans h.g1
/-- the answer lies in the variable that was made; the net is as it was -/
theorem FX.stored {w wr : World} {R A X : Nat} {bo : Option Addr} {bn bcap p : Nat} {K : Int} {ao ao' : Option Addr} {cap : Nat} {us us' : List (Int × Int)} (h : DI w wr R A bo bn bcap p K ao cap us) (f : FX w wr R A X ao us) (K' : Int) (cap' : Nat) {lo : Nat}
    (ho : OwnN wr lo wr.heap.size ao' us'.length (tcell us')) (hlo : X < lo) :
    ∃ w9, w9 = (wr.setCell ⟨X, 0, none⟩ (.int .i64 K')).setCell ⟨X, 1, none⟩ (.slice ao' us'.length cap') ∧ DI w w9 R A bo bn bcap p K ao cap us ∧ w9.cell? ⟨X, 0, none⟩ = some (.int .i64 K') ∧ w9.cell? ⟨X, 1, none⟩ = some (.slice ao' us'.length cap') ∧ OwnN w9 (A + 1) w9.heap.size ao' us'.length (tcell us') := by
  have h1 := h.ra
  have h2 := h.wa
  have h3 := h.lt
  have h4 := f.ax
  have hsz : ((wr.setCell ⟨X, 0, none⟩ (.int .i64 K')).setCell ⟨X, 1, none⟩ (.slice ao' us'.length cap')).heap.size = wr.heap.size := by simp [World.setCell]
  have ea : ∀ q : Addr, q.block ≠ X → ((wr.setCell ⟨X, 0, none⟩ (.int .i64 K')).setCell ⟨X, 1, none⟩ (.slice ao' us'.length cap')).heap[q.block]? = wr.heap[q.block]? := fun q hq => by
    rw [Below.heap_setCell _ _ _ _ (by simpa using hq), Below.heap_setCell _ _ _ _ (by simpa using hq)]
  have ca : ∀ q : Addr, q.block ≠ X → ((wr.setCell ⟨X, 0, none⟩ (.int .i64 K')).setCell ⟨X, 1, none⟩ (.slice ao' us'.length cap')).cell? q = wr.cell? q := fun q hq => World.cell?_of_block (ea q hq)
  have fa : ∀ q : Addr, q.block ≠ X → ((wr.setCell ⟨X, 0, none⟩ (.int .i64 K')).setCell ⟨X, 1, none⟩ (.slice ao' us'.length cap')).frozen? q = wr.frozen? q := fun q hq => World.frozen?_of_block (ea q hq)
  refine ⟨_, rfl, ⟨(ca ⟨A, 0, none⟩ (by show A ≠ X; omega)).trans h.a0, (ca ⟨A, 1, none⟩ (by show A ≠ X; omega)).trans h.a1, (fa ⟨A, 0, none⟩ (by show A ≠ X; omega)).trans h.f0, (fa ⟨A, 1, none⟩ (by show A ≠ X; omega)).trans h.f1, ?_, ?_, ?_, h1, h2, by rw [hsz]; exact h.lt, (ca ⟨w.heap.size, 0, none⟩ (by show w.heap.size ≠ X; omega)).trans h.r0, (ca ⟨w.heap.size, 1, none⟩ (by show w.heap.size ≠ X; omega)).trans h.r1, (fa ⟨w.heap.size, 0, none⟩ (by show w.heap.size ≠ X; omega)).trans h.g0, (fa ⟨w.heap.size, 1, none⟩ (by show w.heap.size ≠ X; omega)).trans h.g1, h.k, h.len⟩, ?_, ?_, ?_⟩
  · rw [hsz]
    exact ((f.own.far (p := ⟨X, 0, none⟩) (Or.inr (Nat.le_refl _)) _).far (p := ⟨X, 1, none⟩) (Or.inr (Nat.le_refl _)) _).up (Nat.le_of_lt f.lt)
  · refine ⟨(ca ⟨R, 0, none⟩ (by show R ≠ X; omega)).trans h.rd.c0, (ca ⟨R, 1, none⟩ (by show R ≠ X; omega)).trans h.rd.c1, (fa ⟨R, 1, none⟩ (by show R ≠ X; omega)).trans h.rd.f1, by rw [hsz]; exact h.rd.lt, h.rd.short, fun i hi => ?_⟩
    obtain ⟨b, off, v, e, q1, q3, q4⟩ := h.rd.bytes i hi
    exact ⟨b, off, v, e, q1, (ca ⟨b, off + i, none⟩ (by show b ≠ X; omega)).trans q3, q4⟩
  · exact (h.tr.set (p := ⟨X, 0, none⟩) (by show w.heap.size ≤ X; omega) _).set (p := ⟨X, 1, none⟩) (by show w.heap.size ≤ X; omega) _
  · rw [World.cell?_setCell_other _ _ _ _ (by simp)]; exact World.cell?_setCell_same wr ⟨X, 0, none⟩ _ f.z0
  · exact World.cell?_setCell_same _ ⟨X, 1, none⟩ _ ((World.cell?_setCell_other _ _ _ _ (by simp)).trans f.z1)
  · rw [hsz]
    exact ((ho.far (p := ⟨X, 0, none⟩) (Or.inl hlo) _).far (p := ⟨X, 1, none⟩) (Or.inl hlo) _).down (by omega)

theorem addK_in {K : Int} (h : 0 ≤ K ∧ K ≤ 8) (ts : List (Int × Int)) (a b : Int) : 0 ≤ addK K ts a b ∧ addK K ts a b ≤ 8 := by
  unfold addK; split <;> omega

/-- a net that was drawn: its knots, its ties, in a row of the function's own -/
def Drawn (w w' : World) (R : Nat) (bo : Option Addr) (bn bcap p q : Nat) (K : Int) (ao : Option Addr) (us : List (Int × Int)) : Prop :=
  (∃ p', p' ≤ p + q ∧ Rdr w' R bo bn bcap p') ∧ Turned R (R + 1) w w' ∧ OwnN w' w.heap.size w'.heap.size ao us.length (tcell us) ∧ 0 ≤ K ∧ K ≤ 8 ∧ us.length ≤ 65

/-- the net is answered: it is stored into the cell of the answer -/
theorem DI.finish {w wr : World} {R A : Nat} {bo : Option Addr} {bn bcap p q : Nat} {K : Int} {ao : Option Addr} {cap : Nat} {us : List (Int × Int)} (h : DI w wr R A bo bn bcap q K ao cap us) (hq : q ≤ p + 50) :
    Drawn w ((wr.setCell ⟨w.heap.size, 0, none⟩ (.int .i64 K)).setCell ⟨w.heap.size, 1, none⟩ (.slice ao us.length cap)) R bo bn bcap p 50 K ao us := by
  have h1 := h.ra
  have h2 := h.wa
  have h3 := h.lt
  have hsz : ((wr.setCell ⟨w.heap.size, 0, none⟩ (.int .i64 K)).setCell ⟨w.heap.size, 1, none⟩ (.slice ao us.length cap)).heap.size = wr.heap.size := by simp [World.setCell]
  have ea : ∀ q : Addr, q.block ≠ w.heap.size → ((wr.setCell ⟨w.heap.size, 0, none⟩ (.int .i64 K)).setCell ⟨w.heap.size, 1, none⟩ (.slice ao us.length cap)).heap[q.block]? = wr.heap[q.block]? := fun q hq => by
    rw [Below.heap_setCell _ _ _ _ (by simpa using hq), Below.heap_setCell _ _ _ _ (by simpa using hq)]
  refine ⟨⟨q, hq, ?_⟩, (h.tr.set (p := ⟨w.heap.size, 0, none⟩) (Nat.le_refl _) _).set (p := ⟨w.heap.size, 1, none⟩) (Nat.le_refl _) _, ?_, h.k.1, h.k.2, h.len⟩
  · refine ⟨(World.cell?_of_block (a := ⟨R, 0, none⟩) (ea ⟨R, 0, none⟩ (by show R ≠ _; omega))).trans h.rd.c0, (World.cell?_of_block (a := ⟨R, 1, none⟩) (ea ⟨R, 1, none⟩ (by show R ≠ _; omega))).trans h.rd.c1, (World.frozen?_of_block (a := ⟨R, 1, none⟩) (ea ⟨R, 1, none⟩ (by show R ≠ _; omega))).trans h.rd.f1, by rw [hsz]; exact h.rd.lt, h.rd.short, fun i hi => ?_⟩
    obtain ⟨b, off, v, e, q1, q3, q4⟩ := h.rd.bytes i hi
    exact ⟨b, off, v, e, q1, (World.cell?_of_block (a := ⟨b, off + i, none⟩) (ea ⟨b, off + i, none⟩ (by show b ≠ _; omega))).trans q3, q4⟩
  · rw [hsz]
    exact ((h.own.far (p := ⟨w.heap.size, 0, none⟩) (Or.inl (by show w.heap.size < A + 1; omega)) _).far (p := ⟨w.heap.size, 1, none⟩) (Or.inl (by show w.heap.size < A + 1; omega)) _).down (by omega)

end Go.Proofs.YtjcjabplfbgpnaaDoor
