/- Walk of impl.TreeRings. -/
import Derived.Test.YtiaeffpjcinilaaDoorPartWHang
import Derived.Test.YtiaeffpjcinilaaDoorPartWTell
import Derived.Test.YtiaeffpjcinilaaDoorWOnS
import Derived.Test.YtiaeffpjcinilaaDoorPartWTree
import Derived.Test.YtiaeffpjcinilaaDoorPartMathX
import Derived.Test.YtiaeffpjcinilaaDoorPartWTies
import Derived.Deep.RegionHeld3
namespace Go.Proofs.YtiaeffpjcinilaaDoor
open Go.RowKit
set_option linter.unusedVariables false

/-- ways that were put together, the row of rows nil at first -/
structure AccV (W : World) (lo : Nat) (v : Value) (pre : List (List Nat)) (gs cs : Nat → Nat) : Prop where
  own : W.ownsRow lo 27 1 v pre.length (rowVs pre gs cs)
  row : Rws W lo pre gs cs
theorem AccV.kept {W W' : World} {lo : Nat} {v : Value} {pre : List (List Nat)} {gs cs : Nat → Nat} (h : AccV W lo v pre gs cs) (hb : Below W.heap.size W W') : AccV W' lo v pre gs cs :=
  ⟨own_kept2 h.own (fun g hg => hb.block g hg), h.row.kept hb.size (fun k _ _ hk => hb.block k (Array.getElem?_eq_some_iff.1 hk).1)⟩
theorem AccV.nil (W : World) (lo : Nat) : AccV W lo (.slice none 0 0) [] (fun _ => 0) (fun _ => 0) :=
  ⟨World.ownsRow_nil W lo _ _, ⟨fun i hi => absurd hi (by simp), fun i j _ hj => absurd hj (by simp)⟩⟩
theorem AccV.snoc {w w1 w3 : World} {lo : Nat} {v v' : Value} {pre : List (List Nat)} {x : List Nat} {gs cs : Nat → Nat} {g c lo1 : Nat} (h : AccV w lo v pre gs cs) (hx : clip x = x) (hl : lo ≤ w.heap.size) (hb : Below w.heap.size w w1)
    (hn : w1.ownsRow lo1 3 1 (.slice (some ⟨g, 0, none⟩) x.length c) x.length (plist x)) (hlo : w.heap.size ≤ lo1)
    (h3 : w3.ownsRow lo 27 1 v' (pre.length + 1) (rowVs pre gs cs ++ [.slice (some ⟨g, 0, none⟩) x.length c])) (hgr : (w1.alloc (.cells #[.slice (some ⟨g, 0, none⟩) x.length c] 27)).grownBy w3 v.ownBlock) :
    AccV w3 lo v' (pre ++ [x]) (upd' gs pre.length g) (upd' cs pre.length c) ∧ Below lo w w3 := by
  have hA := (h.kept hb).own
  have hown : ∀ (k : Nat) (ce : Array Value) (fr : Nat × Nat), w1.heap[k]? = some (Obj.cells ce 3 fr) → some k ≠ v.ownBlock := fun k ce fr hk e => by
    rcases hA.2 with ⟨q, _⟩ | ⟨G, cap, cur, q, _, hG, _⟩
    · rw [q] at e; simp [Value.ownBlock] at e
    · rw [q] at e
      simp [Value.ownBlock] at e
      subst e
      rw [hG] at hk; cases hk
  have hlow : ∀ k, k < lo → some k ≠ v.ownBlock := fun k hk e => by
    rcases hA.2 with ⟨q, _⟩ | ⟨G, cap, cur, q, hG, _⟩
    · rw [q] at e; simp [Value.ownBlock] at e
    · rw [q] at e
      simp [Value.ownBlock] at e
      omega
  have same : ∀ (k : Nat) (ce : Array Value) (fr : Nat × Nat), w1.heap[k]? = some (Obj.cells ce 3 fr) → w3.heap[k]? = w1.heap[k]? := fun k ce fr hk => by
    have hkl := (Array.getElem?_eq_some_iff.1 hk).1
    exact (hgr.block k (by simp; omega) (hown k ce fr hk)).trans (Below.heap_alloc _ _ _ hkl)
  have hsz : w1.heap.size + 1 ≤ w3.heap.size := by have := hgr.size; simpa using this
  have hs1 := hb.size
  have hl2 : (pre ++ [x]).length = pre.length + 1 := by simp
  obtain ⟨cg, fg, hgb, hgl⟩ := row_type (g := g) (c := c) hn rfl
  refine ⟨⟨?_, ?_⟩, ⟨hgr.os.trans hb.os, hgr.tape.trans hb.tape, hgr.output.trans hb.output, by omega, fun k hk => ?_⟩⟩
  · rw [rowVs_snoc, hl2, hx]; exact h3
  · refine h.row.snoc (h.row.kept (by omega) (fun k ce fr hk => ?_)) ?_ (by omega)
    · have e := hb.block k (Array.getElem?_eq_some_iff.1 hk).1
      exact (same k ce fr (e.trans hk)).trans e
    · rw [hx]; exact own_low (own_at hn (same g cg fg hgb)) (by omega)
  · exact (hgr.block k (by simp; omega) (hlow k hk)).trans ((Below.heap_alloc _ _ _ (by omega)).trans (hb.block k (by omega)))
theorem rws_down {W : World} {lo lo' : Nat} {pre : List (List Nat)} {gs cs : Nat → Nat} (h : Rws W lo pre gs cs) (hl : lo' ≤ lo) : Rws W lo' pre gs cs := ⟨fun i hi => own_low (h.row i hi) hl, h.ne⟩
/-- what was put together, told as an answer -/
theorem AccV.told {W : World} {lo lo' : Nat} {v : Value} {ps : List (List Nat)} {gs cs : Nat → Nat} (h : AccV W lo v ps gs cs) (hl : lo' ≤ lo) : ∃ ao cap, v = .slice ao ps.length cap ∧ AllR W lo' ao ps := by
  rcases h.own.2 with ⟨q1, q2⟩ | ⟨G, c, cur, q1, q2, _⟩
  · have e := List.length_eq_zero_iff.1 q2
    subst e
    exact ⟨none, 0, q1, Or.inl ⟨rfl, rfl⟩⟩
  · have HO := h.own
    rw [q1] at HO
    refine ⟨some ⟨G, 0, none⟩, c, q1, Or.inr ⟨G, gs, cs, rfl, by omega, ?_, rws_down h.row hl, ?_⟩⟩
    · by_cases h0 : ps.length = 0
      · obtain ⟨ce, fr, hb, _⟩ := row_type (g := G) (c := c) HO rfl
        exact ⟨fun j hj => absurd hj (by omega), fun j => HO.frozenAt j, (Array.getElem?_eq_some_iff.1 hb).1⟩
      · obtain ⟨g', cap', e, r1, r2⟩ := HO.form (by omega)
        simp only [Value.slice.injEq, Option.some.injEq, Addr.mk.injEq, and_true, true_and] at e
        obtain ⟨rfl, _⟩ := e
        refine ⟨fun j hj => ?_, fun j => HO.frozenAt j, r2⟩
        rw [HO.cellAt j (by omega)]
        simp [rowVs, hj]
    · intro i hi e
      obtain ⟨c1, f1, hb1, _⟩ := row_type (g := gs i) (c := cs i) (h.row.row i hi) rfl
      obtain ⟨c2, f2, hb2, _⟩ := row_type (g := G) (c := c) HO rfl
      rw [e, hb2] at hb1
      simp at hb1
/-- what stands while rings are told -/
structure Rgs (w5 wr : World) (A : Nat) (vs us : List (Int × Int)) (aoU : Option Addr) (v : Value) (pre : List (List Nat)) (gs cs : Nat → Nat) : Prop where
  B : Below w5.heap.size w5 wr
  U : OwnI wr A 8 (pcellN (parN 8 vs))
  T : TiesIn wr w5.heap.size aoU us
  a : AccV wr w5.heap.size v pre gs cs
  hA : A < w5.heap.size
end Go.Proofs.YtiaeffpjcinilaaDoor
