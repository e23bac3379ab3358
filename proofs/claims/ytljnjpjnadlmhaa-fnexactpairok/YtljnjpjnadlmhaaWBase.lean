/- Which ties may be tied; boxes of nets; hasKnot and has by their answers. -/
import Derived.Test.YtljnjpjnadlmhaaWRow
import Derived.Test.YtljnjpjnadlmhaaWHas
namespace Go.Proofs.Ytljnjpjnadlmhaa
open Go.RowKit
set_option linter.unusedVariables false

def addB (K : Int) (ts : List (Int × Int)) (a b : Int) : Bool := okB K ts && knotB a K && knotB b K && decide (a ≠ b) && !(hasB K ts a b)
theorem addB_yes {K : Int} {ts : List (Int × Int)} {a b : Int} (h : addB K ts a b = true) : okB K ts = true ∧ 0 ≤ a ∧ a < K ∧ 0 ≤ b ∧ b < K ∧ a ≠ b ∧ hasB K ts a b = false := by
  simp only [addB, knotB, Bool.and_eq_true, decide_eq_true_eq, Bool.not_eq_true'] at h
  obtain ⟨⟨⟨⟨h1, h2, h3⟩, h4, h5⟩, h6⟩, h7⟩ := h
  exact ⟨h1, h2, h3, h4, h5, h6, h7⟩
theorem addB_no {K : Int} {ts : List (Int × Int)} {a b : Int} (h : addB K ts a b = false) :
    okB K ts = false ∨ (okB K ts = true ∧ ((a < 0 ∨ K ≤ a) ∨ (0 ≤ a ∧ a < K ∧ ((b < 0 ∨ K ≤ b) ∨ (0 ≤ b ∧ b < K ∧ (a = b ∨ (a ≠ b ∧ hasB K ts a b = true))))))) := by
  cases hok : okB K ts
  · exact Or.inl rfl
  · refine Or.inr ⟨rfl, ?_⟩
    by_cases h1 : 0 ≤ a ∧ a < K
    · refine Or.inr ⟨h1.1, h1.2, ?_⟩
      by_cases h2 : 0 ≤ b ∧ b < K
      · refine Or.inr ⟨h2.1, h2.2, ?_⟩
        by_cases h3 : a = b
        · exact Or.inl h3
        · refine Or.inr ⟨h3, ?_⟩
          simp only [addB, hok, knotB, h1, h2] at h
          simp at h
          exact h h3
      · exact Or.inl (by omega)
    · exact Or.inl (by omega)
theorem has_is (v : Bool) (K : Int) (ts : List (Int × Int)) (a b : Int) (w : World) (hok : okB K ts = true) (h : hasB K ts a b = v) :
    Calls Try.prog 71 #[.int .u64 ((setN K ts : Nat) : Int), .int .i64 a, .int .i64 b] w fun e w' => e = .returned (.bool v) ∧ w' = w := by
  rw [← h, ← has_set K ts a b hok]; exact has_any (setN K ts) a b w (setN_lt K ts)
/-- the net's own cells behind the calls that only make memory -/
theorem box_cells {w w1 : World} {K : Int} {v : Value} {o : Obj} {t : TypeId} (hb : Below (w.heap.size + 1 + 1) ((w.alloc (.cells #[.int .i64 K, v] t)).alloc o) w1) :
    w1.cell? ⟨w.heap.size, 0, none⟩ = some (.int .i64 K) ∧ w1.cell? ⟨w.heap.size, 1, none⟩ = some v := by
  constructor
  · rw [hb.cell (p := ⟨w.heap.size, 0, none⟩) (by simp; omega), World.cell?_alloc_past _ _ _ (by simp)]; simp
  · rw [hb.cell (p := ⟨w.heap.size, 1, none⟩) (by simp; omega), World.cell?_alloc_past _ _ _ (by simp)]; simp
theorem res_cells {w w1 : World} {u v : Value} {o : Obj} {t : TypeId} (hb : Below (w.heap.size + 1 + 1) ((w.alloc o).alloc (.cells #[u, v] t)) w1) :
    w1.cell? ⟨w.heap.size + 1, 0, none⟩ = some u ∧ w1.cell? ⟨w.heap.size + 1, 1, none⟩ = some v ∧ w1.frozen? ⟨w.heap.size + 1, 0, none⟩ = false ∧ w1.frozen? ⟨w.heap.size + 1, 1, none⟩ = false := by
  have c := fun i => World.cell?_alloc_at (w := w.alloc o) #[u, v] t (w.heap.size + 1) i (by simp)
  have f := fun i => World.frozen?_alloc_at (w := w.alloc o) #[u, v] t (w.heap.size + 1) i (by simp)
  refine ⟨?_, ?_, ?_, ?_⟩
  · rw [hb.cell (p := ⟨w.heap.size + 1, 0, none⟩) (by simp), c]; rfl
  · rw [hb.cell (p := ⟨w.heap.size + 1, 1, none⟩) (by simp), c]; rfl
  · rw [hb.frozen (p := ⟨w.heap.size + 1, 0, none⟩) (by simp), f]
  · rw [hb.frozen (p := ⟨w.heap.size + 1, 1, none⟩) (by simp), f]
theorem hasKnot_b (r : Bool) (K : Int) (v : Value) (k : Int) (w : World) (h : knotB k K = r) :
    Calls Try.prog 51 #[.agg #[.int .i64 K, v], .int .i64 k] w fun e w' => e = .returned (.bool r) ∧ Below w.heap.size w w' := by
  rw [← h]
  refine (hasKnot_any K v k w).mono ?_
  rintro e w' ⟨rfl, rfl⟩
  exact ⟨rfl, below_one _ _⟩
theorem knot_yes {k K : Int} (h0 : 0 ≤ k) (h1 : k < K) : knotB k K = true := by simp [knotB, h0, h1]
theorem knot_no {k K : Int} (h : k < 0 ∨ K ≤ k) : knotB k K = false := by simp [knotB]; omega
/-- the box of a net that came in, and the cell of the net that goes out, behind calls that only make memory -/
structure Boxes (w w1 : World) (K : Int) (v : Value) : Prop where
  c0 : w1.cell? ⟨w.heap.size, 0, none⟩ = some (.int .i64 K)
  c1 : w1.cell? ⟨w.heap.size, 1, none⟩ = some v
  r0 : w1.cell? ⟨w.heap.size + 1, 0, none⟩ = some (.int .i64 0)
  r1 : w1.cell? ⟨w.heap.size + 1, 1, none⟩ = some (.slice none 0 0)
  f0 : w1.frozen? ⟨w.heap.size + 1, 0, none⟩ = false
  f1 : w1.frozen? ⟨w.heap.size + 1, 1, none⟩ = false
  hz : w.heap.size + 1 < w1.heap.size
  bel : Below w.heap.size w w1
theorem Boxes.start {w w1 : World} {K : Int} {v : Value} {t t' : TypeId} (hb : Below ((w.alloc (.cells #[.int .i64 K, v] t)).alloc (.cells #[.int .i64 0, .slice none 0 0] t')).heap.size ((w.alloc (.cells #[.int .i64 K, v] t)).alloc (.cells #[.int .i64 0, .slice none 0 0] t')) w1) : Boxes w w1 K v := by
  have hb' : Below (w.heap.size + 1 + 1) ((w.alloc (.cells #[.int .i64 K, v] t)).alloc (.cells #[.int .i64 0, .slice none 0 0] t')) w1 := by simpa using hb
  obtain ⟨c0, c1⟩ := box_cells hb'
  obtain ⟨r0, r1, f0, f1⟩ := res_cells hb'
  exact ⟨c0, c1, r0, r1, f0, f1, by have := hb'.size; simp at this; omega, (below_two _ _ _).trans (hb'.mono (by omega))⟩
theorem Boxes.next {w w1 w2 : World} {K : Int} {v : Value} (h : Boxes w w1 K v) (hb : Below w1.heap.size w1 w2) : Boxes w w2 K v := by
  have z := h.hz
  exact ⟨(hb.cell (p := ⟨w.heap.size, 0, none⟩) (by simp; omega)).trans h.c0, (hb.cell (p := ⟨w.heap.size, 1, none⟩) (by simp; omega)).trans h.c1,
    (hb.cell (p := ⟨w.heap.size + 1, 0, none⟩) z).trans h.r0, (hb.cell (p := ⟨w.heap.size + 1, 1, none⟩) z).trans h.r1,
    (hb.frozen (p := ⟨w.heap.size + 1, 0, none⟩) z).trans h.f0, (hb.frozen (p := ⟨w.heap.size + 1, 1, none⟩) z).trans h.f1,
    Nat.lt_of_lt_of_le z hb.size, h.bel.trans (hb.mono h.bel.size)⟩
theorem ok_parts {K : Int} {ts : List (Int × Int)} (h : okB K ts = true) : 0 ≤ K ∧ K ≤ 8 ∧ Srt K ts := ok_srt.1 (okB_iff.1 h)
/-- the tie of two knots, as the net has it -/
def tieOf (a b : Int) : Int × Int := (min a b, max a b)
theorem add_good {K : Int} {ts : List (Int × Int)} {a b : Int} (h : addB K ts a b = true) : Srt K (ins (tieOf a b) ts) ∧ K ≤ 8 ∧ BitsOf (setN K ts ||| pbit a b) (ins (tieOf a b) ts) := by
  obtain ⟨hok, a0, a1, b0, b1, hab, hno⟩ := addB_yes h
  obtain ⟨k0, k8, hs⟩ := ok_parts hok
  have ht : TieOk K (tieOf a b).1 (tieOf a b).2 := by unfold tieOf TieOk; dsimp only; omega
  rw [hasB_ok hok] at hno
  have hn : tieOf a b ∉ ts := fun hm => by
    have := tied_mem.2 hm
    rw [hno] at this; simp at this
  refine ⟨srt_ins k8 ht hs hn, k8, ?_⟩
  rw [setN_yes hok, pbit_yes (by omega) (by omega) (by omega)]
  exact bits_ins (mask_bitsOf ts) (tieOf a b)
theorem or_lt (p q : Nat) (hp : p < 2 ^ 64) (hq : q < 2 ^ 64) : p ||| q < 2 ^ 64 := Nat.or_lt_two_pow hp hq

end Go.Proofs.Ytljnjpjnadlmhaa
