/- What the exact laws carry along where the library's table is not met. -/
import Derived.Test.YtiaeffpjcinilaaDoorWCame
namespace Go.Proofs.YtiaeffpjcinilaaDoor
open Go.RowKit
set_option linter.unusedVariables false

/-- what came in: its box, its ties; all that was there is as it was -/
structure Camp (w wr : World) (K : Int) (ao : Option Addr) (cap : Nat) (ts : List (Int × Int)) : Prop where
  c0 : wr.cell? ⟨w.heap.size, 0, none⟩ = some (.int .i64 K)
  c1 : wr.cell? ⟨w.heap.size, 1, none⟩ = some (.slice ao ts.length cap)
  lt : w.heap.size < wr.heap.size
  ties : TiesIn wr w.heap.size ao ts
  bel : Below w.heap.size w wr
theorem Camp.next {w wr w' : World} {K : Int} {ao : Option Addr} {cap : Nat} {ts : List (Int × Int)} (h : Camp w wr K ao cap ts) (hb : Below wr.heap.size wr w') : Camp w w' K ao cap ts :=
  ⟨(hb.cell (p := ⟨w.heap.size, 0, none⟩) h.lt).trans h.c0, (hb.cell (p := ⟨w.heap.size, 1, none⟩) h.lt).trans h.c1, Nat.lt_of_lt_of_le h.lt hb.size, h.ties.below hb (Nat.le_of_lt h.lt), h.bel.trans (hb.mono h.bel.size)⟩
theorem Camp.aside {w wr w' : World} {K : Int} {ao : Option Addr} {cap : Nat} {ts : List (Int × Int)} {l h : Nat} (hc : Camp w wr K ao cap ts) (ht : Turned l h wr w') (hl : w.heap.size < l) : Camp w w' K ao cap ts := by
  have hb : Below w.heap.size wr w' := ⟨ht.os, ht.tape, ht.output, ht.size, fun k hk => ht.block k (by have := hc.lt; omega) (by omega)⟩
  exact ⟨(ht.cell (p := ⟨w.heap.size, 0, none⟩) hc.lt (Or.inl hl)).trans hc.c0, (ht.cell (p := ⟨w.heap.size, 1, none⟩) hc.lt (Or.inl hl)).trans hc.c1, Nat.lt_of_lt_of_le hc.lt ht.size, hc.ties.below hb (Nat.le_refl _), hc.bel.trans hb⟩
theorem Camp.start {w w1 : World} {K : Int} {ao : Option Addr} {cap : Nat} {ts : List (Int × Int)} {t : TypeId} (ht : TiesIn w w.heap.size ao ts)
    (hb : Below (w.alloc (.cells #[.int .i64 K, .slice ao ts.length cap] t)).heap.size (w.alloc (.cells #[.int .i64 K, .slice ao ts.length cap] t)) w1) : Camp w w1 K ao cap ts := by
  have hb' : Below (w.heap.size + 1) (w.alloc (.cells #[.int .i64 K, .slice ao ts.length cap] t)) w1 := by simpa using hb
  have hB : Below w.heap.size w w1 := (below_one _ _).trans (hb'.mono (by omega))
  exact ⟨(hb'.cell (p := ⟨w.heap.size, 0, none⟩) (by simp)).trans (by simp), (hb'.cell (p := ⟨w.heap.size, 1, none⟩) (by simp)).trans (by simp), by have := hb'.size; simp at this; omega, ht.below hB (Nat.le_refl _), hB⟩

end Go.Proofs.YtiaeffpjcinilaaDoor
