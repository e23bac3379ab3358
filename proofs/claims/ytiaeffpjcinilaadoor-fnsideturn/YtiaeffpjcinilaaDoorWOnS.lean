/- Walk of spec.l2On: all ways that go on from one, put behind others. -/
import Derived.Test.YtiaeffpjcinilaaDoorWAllI
import Derived.Test.YtiaeffpjcinilaaDoorPartWRows
import Derived.Deep.RegionLaw
import Derived.Deep.AppendLies
import Derived.Deep.LoopGhost
namespace Go.Proofs.YtiaeffpjcinilaaDoor
open Go.RowKit
set_option linter.unusedVariables false

/-- ways that were put together: the row of rows, and each row -/
structure Acc (W : World) (lo : Nat) (G C : Nat) (pre : List (List Nat)) (gs cs : Nat → Nat) : Prop where
  out : W.ownsRow lo 27 1 (.slice (some ⟨G, 0, none⟩) pre.length C) pre.length (rowVs pre gs cs)
  row : Rws W lo pre gs cs
theorem Acc.kept {W W' : World} {lo G C : Nat} {pre : List (List Nat)} {gs cs : Nat → Nat} (h : Acc W lo G C pre gs cs) (hb : Below W.heap.size W W') : Acc W' lo G C pre gs cs :=
  ⟨own_kept2 h.out (fun g hg => hb.block g hg), h.row.kept hb.size (fun k _ _ hk => hb.block k (Array.getElem?_eq_some_iff.1 hk).1)⟩
theorem Acc.lt {W : World} {lo G C : Nat} {pre : List (List Nat)} {gs cs : Nat → Nat} (h : Acc W lo G C pre gs cs) : lo ≤ G ∧ G < W.heap.size := by
  obtain ⟨_, _, hb, hl⟩ := row_type (g := G) (c := C) h.out rfl
  exact ⟨hl, (Array.getElem?_eq_some_iff.1 hb).1⟩
/-- one more is put behind -/
theorem Acc.snoc {w w1 w3 : World} {lo G C G' C' : Nat} {pre : List (List Nat)} {x : List Nat} {gs cs : Nat → Nat} {g c lo1 : Nat} (h : Acc w lo G C pre gs cs) (hx : clip x = x) (hl : lo ≤ w.heap.size) (hb : Below w.heap.size w w1)
    (hn : w1.ownsRow lo1 3 1 (.slice (some ⟨g, 0, none⟩) x.length c) x.length (plist x)) (hlo : w.heap.size ≤ lo1)
    (h3 : w3.ownsRow lo 27 1 (.slice (some ⟨G', 0, none⟩) (pre.length + 1) C') (pre.length + 1) (rowVs pre gs cs ++ [.slice (some ⟨g, 0, none⟩) x.length c])) (hgr : (w1.alloc (.cells #[.slice (some ⟨g, 0, none⟩) x.length c] 27)).grownBy w3 (some G)) :
    Acc w3 lo G' C' (pre ++ [x]) (upd' gs pre.length g) (upd' cs pre.length c) ∧ w.grownBy w3 (some G) := by
  have hA := (h.kept hb).out
  obtain ⟨cG, fG, hGb, _⟩ := row_type (g := G) (c := C) hA rfl
  have same : ∀ (k : Nat) (ce : Array Value) (fr : Nat × Nat), w1.heap[k]? = some (Obj.cells ce 3 fr) → w3.heap[k]? = w1.heap[k]? := fun k ce fr hk => by
    have hkl := (Array.getElem?_eq_some_iff.1 hk).1
    refine (hgr.block k (by simp; omega) (fun e => ?_)).trans (Below.heap_alloc _ _ _ hkl)
    cases e
    rw [hGb] at hk; cases hk
  have hsz : w1.heap.size + 1 ≤ w3.heap.size := by have := hgr.size; simpa using this
  have hs1 := hb.size
  have hl2 : (pre ++ [x]).length = pre.length + 1 := by simp
  obtain ⟨cg, fg, hgb, hgl⟩ := row_type (g := g) (c := c) hn rfl
  refine ⟨⟨?_, ?_⟩, ⟨hgr.os.trans hb.os, hgr.tape.trans hb.tape, hgr.output.trans hb.output, by omega, fun k hk hne => ?_⟩⟩
  · rw [rowVs_snoc, hl2, hx]; exact h3
  · refine h.row.snoc (h.row.kept (by omega) (fun k ce fr hk => ?_)) ?_ (by omega)
    · have e := hb.block k (Array.getElem?_eq_some_iff.1 hk).1
      exact (same k ce fr (e.trans hk)).trans e
    · rw [hx]; exact own_low (own_at hn (same g cg fg hgb)) (by omega)
  · exact (hgr.block k (by simp; omega) hne).trans ((Below.heap_alloc _ _ _ (by omega)).trans (hb.block k hk))
theorem last_at' {p : List Nat} (h0 : 0 < p.length) : p.getD (p.length - 1) 0 = lastN p := by
  obtain ⟨q, z, rfl⟩ : ∃ q z, p = q ++ [z] := ⟨p.dropLast, p.getLast (by intro e; simp [e] at h0), (List.dropLast_concat_getLast _).symm⟩
  rw [lastN_snoc]; simp
/-- what is behind when ways were put behind others -/
def OnPost (w : World) (lo G : Nat) (all : List (List Nat)) (e : Ending) (w' : World) : Prop :=
  ∃ G' C' gs' cs', e = .returned (.slice (some ⟨G', 0, none⟩) all.length C') ∧ Acc w' lo G' C' all gs' cs' ∧ w.grownBy w' (some G) ∧ (G' = G ∨ w.heap.size ≤ G')

end Go.Proofs.YtiaeffpjcinilaaDoor
