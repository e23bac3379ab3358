/- Walks of the laws' own helpers: toTie, toTieS, toNet, eqTie, eqTieS, eqNet, szTieS, szNet. -/
import Derived.Test.YtpjnhgdjfbhmcaaWOk
import Derived.Deep.RegionHeld3
namespace Go.Proofs.Ytpjnhgdjfbhmcaa
open Go.RowKit
set_option linter.unusedVariables false

theorem Try.infoTie : (Try.prog.info? 63).map (fun i => (i.zero, i.size, i.bytes)) = some (some (.agg #[.int .i64 0, .int .i64 0]), 2, 16) := by kernel_rfl

theorem cell_twod (w : World) (o p : Obj) (b i : Nat) (h : b < w.heap.size) : (((w.alloc o).alloc p).drew).cell? ⟨b, i, none⟩ = w.cell? ⟨b, i, none⟩ := by
  show ((w.alloc o).alloc p).cell? ⟨b, i, none⟩ = _
  rw [World.cell?_alloc_past _ _ _ (by simp; omega), World.cell?_alloc_past _ _ _ h]
/-- block g of w holds 2 * n cells, f j at place j, none frozen -/
def OwnT (w : World) (g n : Nat) (f : Nat → Value) : Prop :=
  (∀ j, j < n * 2 → w.cell? ⟨g, j, none⟩ = some (f j)) ∧ (∀ j, w.frozen? ⟨g, j, none⟩ = false) ∧ g < w.heap.size
def tcell (ts : List (Int × Int)) (j : Nat) : Value := .int .i64 (if j % 2 = 0 then tA ts (j / 2) else tB ts (j / 2))
def fcell (ts : List (Int × Int)) (k j : Nat) : Value := if j < k * 2 then tcell ts j else .int .i64 0

theorem tcell0 (ts : List (Int × Int)) (k : Nat) : tcell ts (k * 2) = .int .i64 (tA ts k) := by
  have h1 : (k * 2) % 2 = 0 := by omega
  have h2 : k * 2 / 2 = k := by omega
  simp [tcell, h1, h2]
theorem tcell1 (ts : List (Int × Int)) (k : Nat) : tcell ts (k * 2 + 1) = .int .i64 (tB ts k) := by
  have h1 : (k * 2 + 1) % 2 = 1 := by omega
  have h2 : (k * 2 + 1) / 2 = k := by omega
  simp [tcell, h1, h2]

theorem OwnT.below {w w' : World} {g n : Nat} {f : Nat → Value} {B : Nat} (h : OwnT w g n f) (hb : Below B w w') (hg : g < B) : OwnT w' g n f :=
  ⟨fun j hj => (hb.cell (p := ⟨g, j, none⟩) hg).trans (h.1 j hj), fun j => (hb.frozen (p := ⟨g, j, none⟩) hg).trans (h.2.1 j), Nat.lt_of_lt_of_le h.2.2 hb.size⟩
theorem OwnT.congr {w : World} {g n : Nat} {f f' : Nat → Value} (h : OwnT w g n f) (he : ∀ j, j < n * 2 → f j = f' j) : OwnT w g n f' :=
  ⟨fun j hj => (h.1 j hj).trans (by rw [he j hj]), h.2⟩
theorem OwnT.set {w : World} {g n : Nat} {f : Nat → Value} (h : OwnT w g n f) {i : Nat} (hi : i < n * 2) (u : Value) : OwnT (w.setCell ⟨g, i, none⟩ u) g n (fun j => if j = i then u else f j) := by
  refine ⟨fun j hj => ?_, fun j => ?_, by simpa using h.2.2⟩
  · by_cases hji : j = i
    · subst hji; simp only [if_true]; exact World.cell?_setCell_same w ⟨g, j, none⟩ u (h.1 j hj)
    · show _ = some (if j = i then u else f j)
      rw [if_neg hji, World.cell?_setCell_other _ _ _ _ (by simp)]; exact h.1 j hj
  · rw [World.frozen?_setCell]; exact h.2.1 j
theorem OwnT.other {w : World} {g n : Nat} {f : Nat → Value} (h : OwnT w g n f) {p : Addr} (hp : p.block ≠ g) (u : Value) : OwnT (w.setCell p u) g n f := by
  have e := Below.heap_setCell w p u g (fun e => hp e.symm)
  exact ⟨fun j hj => (World.cell?_of_block (a := ⟨g, j, none⟩) e).trans (h.1 j hj), fun j => (World.frozen?_of_block (a := ⟨g, j, none⟩) e).trans (h.2.1 j), by simpa using h.2.2⟩
theorem OwnT.ties {w : World} {g : Nat} {ts : List (Int × Int)} (h : OwnT w g ts.length (tcell ts)) {B : Nat} (hB : g < B) : TiesIn w B (some ⟨g, 0, none⟩) ts := by
  intro i hi
  refine ⟨g, 0, rfl, hB, ?_, ?_⟩
  · rw [show 0 + i * 2 = i * 2 by omega, h.1 (i * 2) (by omega), tcell0]
  · rw [show 0 + i * 2 + 1 = i * 2 + 1 by omega, h.1 (i * 2 + 1) (by omega), tcell1]
theorem OwnT.made {w : World} {g n cap : Nat} {base : Nat} (h : w.ownsRow base 63 2 (.slice (some ⟨g, 0, none⟩) n cap) n (madeCells #[.int .i64 0, .int .i64 0] (n * 2)).toList) (ts : List (Int × Int)) : OwnT w g n (fcell ts 0) := by
  refine ⟨fun j hj => ?_, fun j => h.frozenAt j, ?_⟩
  · rw [h.cellAt j hj]
    simp [madeCells, hj, fcell]
    have : j % 2 = 0 ∨ j % 2 = 1 := by omega
    rcases this with e | e <;> simp [e]
  · rcases h.2 with ⟨h', _⟩ | ⟨g', cap', cur, h', _, hg, _⟩
    · simp at h'
    · simp only [Value.slice.injEq, Option.some.injEq, Addr.mk.injEq, and_true, true_and] at h'
      obtain ⟨rfl, _⟩ := h'
      exact (Array.getElem?_eq_some_iff.1 hg).1
theorem fill_step (ts : List (Int × Int)) (n k j : Nat) (hk : k < n) (hj : j < n * 2) :
    (if j = k * 2 + 1 then Value.int .i64 (tB ts k) else if j = k * 2 then .int .i64 (tA ts k) else fcell ts k j) = fcell ts (k + 1) j := by
  by_cases h1 : j = k * 2 + 1
  · subst h1; rw [if_pos rfl, fcell, if_pos (by omega), tcell1]
  · rw [if_neg h1]
    by_cases h2 : j = k * 2
    · subst h2; rw [if_pos rfl, fcell, if_pos (by omega), tcell0]
    · rw [if_neg h2]
      unfold fcell
      by_cases h3 : j < k * 2
      · rw [if_pos h3, if_pos (by omega)]
      · rw [if_neg h3, if_neg (by omega)]
theorem fill_end (ts : List (Int × Int)) (n j : Nat) (hj : j < n * 2) : fcell ts n j = tcell ts j := by rw [fcell, if_pos hj]





theorem three_last (w : World) (o p : Obj) (c : Array Value) (t : TypeId) (i : Nat) : (((w.alloc o).alloc p).alloc (.cells c t)).cell? ⟨w.heap.size + 2, i, none⟩ = c[i]? := World.cell?_alloc_at _ _ _ _ (by simp)
theorem three_mid (w : World) (o q : Obj) (c : Array Value) (t : TypeId) (i : Nat) : (((w.alloc o).alloc (.cells c t)).alloc q).cell? ⟨w.heap.size + 1, i, none⟩ = c[i]? := by
  rw [World.cell?_alloc_past _ _ _ (by simp)]; exact World.cell?_alloc_at _ _ _ _ (by simp)
theorem three_lastF (w : World) (o p : Obj) (c : Array Value) (t : TypeId) (i : Nat) : (((w.alloc o).alloc p).alloc (.cells c t)).frozen? ⟨w.heap.size + 2, i, none⟩ = false := World.frozen?_alloc_at _ _ _ _ (by simp)
theorem three_midF (w : World) (o q : Obj) (c : Array Value) (t : TypeId) (i : Nat) : (((w.alloc o).alloc (.cells c t)).alloc q).frozen? ⟨w.heap.size + 1, i, none⟩ = false := by
  rw [World.frozen?_alloc_past _ _ _ (by simp)]; exact World.frozen?_alloc_at _ _ _ _ (by simp)
theorem below_three (w : World) (o p q : Obj) : Below w.heap.size w (((w.alloc o).alloc p).alloc q) := (below_two w o p).alloc (by simp; omega) q





end Go.Proofs.Ytpjnhgdjfbhmcaa
