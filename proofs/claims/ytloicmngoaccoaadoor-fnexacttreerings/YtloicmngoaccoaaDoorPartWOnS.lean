/- Texts put together: WOnS, WOnS2, WAllS. -/
import Derived.Test.YtloicmngoaccoaaDoorPartWAllI
import Derived.Test.YtloicmngoaccoaaDoorWNext
import Derived.Deep.RegionLaw
import Derived.Deep.AppendLies
import Derived.Deep.LoopGhost
import Derived.Deep.RegionWith
import Derived.Test.YtloicmngoaccoaaDoorWSpecOk
import Derived.Test.YtloicmngoaccoaaDoorPartMathP
/- Walk of spec.l2On: all ways that go on from one, put behind others. -/
namespace Go.Proofs.YtloicmngoaccoaaDoor
open Go.RowKit
set_option linter.unusedVariables false

/-- ways that were put together: the row of rows, and each row -/
structure Acc (W : World) (lo : Nat) (G C : Nat) (pre : List (List Nat)) (gs cs : Nat → Nat) : Prop where
  out : W.ownsRow lo 30 1 (.slice (some ⟨G, 0, none⟩) pre.length C) pre.length (rowVs pre gs cs)
  row : Rws W lo pre gs cs
theorem Acc.kept {W W' : World} {lo G C : Nat} {pre : List (List Nat)} {gs cs : Nat → Nat} (h : Acc W lo G C pre gs cs) (hb : Below W.heap.size W W') : Acc W' lo G C pre gs cs :=
  ⟨own_kept2 h.out (fun g hg => hb.block g hg), h.row.kept hb.size (fun k _ _ hk => hb.block k (Array.getElem?_eq_some_iff.1 hk).1)⟩
theorem Acc.lt {W : World} {lo G C : Nat} {pre : List (List Nat)} {gs cs : Nat → Nat} (h : Acc W lo G C pre gs cs) : lo ≤ G ∧ G < W.heap.size := by
  obtain ⟨_, _, hb, hl⟩ := row_type (g := G) (c := C) h.out rfl
  exact ⟨hl, (Array.getElem?_eq_some_iff.1 hb).1⟩
/-- one more is put behind -/
theorem Acc.snoc {w w1 w3 : World} {lo G C G' C' : Nat} {pre : List (List Nat)} {x : List Nat} {gs cs : Nat → Nat} {g c lo1 : Nat} (h : Acc w lo G C pre gs cs) (hx : clip x = x) (hl : lo ≤ w.heap.size) (hb : Below w.heap.size w w1)
    (hn : w1.ownsRow lo1 3 1 (.slice (some ⟨g, 0, none⟩) x.length c) x.length (plist x)) (hlo : w.heap.size ≤ lo1)
    (h3 : w3.ownsRow lo 30 1 (.slice (some ⟨G', 0, none⟩) (pre.length + 1) C') (pre.length + 1) (rowVs pre gs cs ++ [.slice (some ⟨g, 0, none⟩) x.length c])) (hgr : (w1.alloc (.cells #[.slice (some ⟨g, 0, none⟩) x.length c] 30)).grownBy w3 (some G)) :
    Acc w3 lo G' C' (pre ++ [x]) (upd' gs pre.length g) (upd' cs pre.length c) ∧ w.grownBy w3 (some G) := by
  have hA := (h.kept hb).out
  obtain ⟨cG, fG, hGb, _⟩ := row_type (g := G) (c := C) hA rfl
  have same : ∀ (k : Nat) (ce : Array Value) (fr : Nat × Nat), w1.heap[k]? = some (Obj.cells ce 3 fr) → w3.heap[k]? = w1.heap[k]? := fun k ce fr hk => by
    have hkl := (Array.getElem?_eq_some_iff.1 hk).1
    refine (hgr.block k (by simp; omega) (fun e => ?_)).trans (Below.heap_alloc _ _ _ hkl)
    cases e
    rw [hGb] at hk; cases hk
  have hsz : w1.heap.size + 1 ≤ w3.heap.size := by have := hgr.size; simpa using this
  have hs1 := hb.size
  have hl2 : (pre ++ [x]).length = pre.length + 1 := by simp
  obtain ⟨cg, fg, hgb, hgl⟩ := row_type (g := g) (c := c) hn rfl
  refine ⟨⟨?_, ?_⟩, ⟨hgr.os.trans hb.os, hgr.tape.trans hb.tape, hgr.output.trans hb.output, by omega, fun k hk hne => ?_⟩⟩
  · rw [rowVs_snoc, hl2, hx]; exact h3
  · refine h.row.snoc (h.row.kept (by omega) (fun k ce fr hk => ?_)) ?_ (by omega)
    · have e := hb.block k (Array.getElem?_eq_some_iff.1 hk).1
      exact (same k ce fr (e.trans hk)).trans e
    · rw [hx]; exact own_low (own_at hn (same g cg fg hgb)) (by omega)
  · exact (hgr.block k (by simp; omega) hne).trans ((Below.heap_alloc _ _ _ (by omega)).trans (hb.block k hk))
theorem last_at' {p : List Nat} (h0 : 0 < p.length) : p.getD (p.length - 1) 0 = lastN p := by
  obtain ⟨q, z, rfl⟩ : ∃ q z, p = q ++ [z] := ⟨p.dropLast, p.getLast (by intro e; simp [e] at h0), (List.dropLast_concat_getLast _).symm⟩
  rw [lastN_snoc]; simp
/-- what is behind when ways were put behind others -/
def OnPost (w : World) (lo G : Nat) (all : List (List Nat)) (e : Ending) (w' : World) : Prop :=
  ∃ G' C' gs' cs', e = .returned (.slice (some ⟨G', 0, none⟩) all.length C') ∧ Acc w' lo G' C' all gs' cs' ∧ w.grownBy w' (some G) ∧ (G' = G ∨ w.heap.size ≤ G')

end Go.Proofs.YtloicmngoaccoaaDoor

/- Walk of spec.l2On: where it goes on. -/
namespace Go.Proofs.YtloicmngoaccoaaDoor
open Go.RowKit
set_option linter.unusedVariables false

/-- what the first of the neighbours add -/
def onN (E : Nat → Nat → Bool) (b s f : Nat) (p : List Nat) (k : Nat) : List (List Nat) := if k ∈ p then [] else onW E b s f (p ++ [k])
def onL (E : Nat → Nat → Bool) (b s f : Nat) (p L : List Nat) (j : Nat) : List (List Nat) := (L.take j).flatMap (onN E b s f p)
theorem onL_zero (E : Nat → Nat → Bool) (b s f : Nat) (p L : List Nat) : onL E b s f p L 0 = [] := rfl
theorem onL_succ (E : Nat → Nat → Bool) (b s f : Nat) (p L : List Nat) {j : Nat} (h : j < L.length) : onL E b s f p L (j + 1) = onL E b s f p L j ++ onN E b s f p (L.getD j 0) := by
  unfold onL
  rw [List.take_succ_eq_append_getElem h, List.flatMap_append]
  simp [h]
theorem onL_all {ts : List (Int × Int)} {Kn : Nat} (hok : NetOk (Kn : Int) ts) (hK : Kn ≤ 8) (b s f : Nat) (p : List Nat) : onL (tieNB ts) b s f p (nbrs ts (lastN p) Kn) (nbrs ts (lastN p) Kn).length = onTo (tieNB ts) b s f p 8 := by
  have h1 : ∀ m, (nbrs ts (lastN p) m).flatMap (onN (tieNB ts) b s f p) = onTo (tieNB ts) b s f p m := by
    intro m
    induction m with
    | zero => rfl
    | succ m ih =>
      rw [onTo_succ, ← ih]
      cases hv : tieNB ts (lastN p) m
      · rw [nbrs_no hv, onK_no (by rw [hv]; rfl), List.append_nil]
      · rw [nbrs_yes hv, List.flatMap_append]
        congr 1
        simp only [List.flatMap_cons, List.flatMap_nil, List.append_nil, onN]
        by_cases hm : m ∈ p
        · rw [if_pos hm, onK_no (by simp [hm])]
        · rw [if_neg hm, onK_yes (by rw [hv]; simp [hm])]
  have h2 : ∀ j, onTo (tieNB ts) b s f p (Kn + j) = onTo (tieNB ts) b s f p Kn := by
    intro j
    induction j with
    | zero => rfl
    | succ j ih =>
      rw [← Nat.add_assoc, onTo_succ, ih, onK_no, List.append_nil]
      have : tieNB ts (lastN p) (Kn + j) = false := by
        rw [← Bool.not_eq_true]
        intro h
        have := tieNB_lt hok h
        simp at this
        omega
      rw [this]; rfl
  unfold onL
  rw [List.take_length, h1]
  have := h2 (8 - Kn)
  rw [show Kn + (8 - Kn) = 8 by omega] at this
  exact this.symm
theorem onL_pre (E : Nat → Nat → Bool) (b s f : Nat) (p L : List Nat) {j : Nat} (h : j ≤ L.length) : (onL E b s f p L j).length ≤ (onL E b s f p L L.length).length := by
  unfold onL
  have : L.take L.length = L.take j ++ L.drop j := by rw [List.take_length, List.take_append_drop]
  rw [this, List.flatMap_append, List.length_append]; omega
/-- what stands while neighbours are gone through -/
structure Ost (w w5 wr : World) (lo G : Nat) (all : List (List Nat)) (G' C' : Nat) (gs cs : Nat → Nat) : Prop where
  A : Acc wr lo G' C' all gs cs
  fr : w5.grownBy wr (some G)
  at' : G' = G ∨ w5.heap.size ≤ G'
theorem Ost.block {w w5 wr : World} {lo G : Nat} {all : List (List Nat)} {G' C' : Nat} {gs cs : Nat → Nat} (h : Ost w w5 wr lo G all G' C' gs cs) {k : Nat} (hk : k < w5.heap.size) (hne : k ≠ G) : wr.heap[k]? = w5.heap[k]? := h.fr.block k hk (fun e => hne (by cases e; rfl))
theorem Ost.next {w w5 wr w' : World} {lo G : Nat} {all : List (List Nat)} {G' C' : Nat} {gs cs : Nat → Nat} (h : Ost w w5 wr lo G all G' C' gs cs) (hb : Below wr.heap.size wr w') : Ost w w5 w' lo G all G' C' gs cs :=
  ⟨h.A.kept hb, ⟨hb.os.trans h.fr.os, hb.tape.trans h.fr.tape, hb.output.trans h.fr.output, Nat.le_trans h.fr.size hb.size, fun k hk hne => (hb.block k (Nat.lt_of_lt_of_le hk h.fr.size)).trans (h.fr.block k hk hne)⟩, h.at'⟩
theorem Ost.then {w w5 wr w' : World} {lo G : Nat} {all all' : List (List Nat)} {G' C' G2 C2 : Nat} {gs cs gs2 cs2 : Nat → Nat} (h : Ost w w5 wr lo G all G' C' gs cs) (hA : Acc w' lo G2 C2 all' gs2 cs2) (hg : wr.grownBy w' (some G')) (ha : G2 = G' ∨ wr.heap.size ≤ G2) : Ost w w5 w' lo G all' G2 C2 gs2 cs2 :=
  ⟨hA, ⟨hg.os.trans h.fr.os, hg.tape.trans h.fr.tape, hg.output.trans h.fr.output, Nat.le_trans h.fr.size hg.size, fun k hk hne => (hg.block k (Nat.lt_of_lt_of_le hk h.fr.size) (fun e => by
    cases e
    rcases h.at' with q | q
    · exact hne (by rw [q])
    · omega)).trans (h.fr.block k hk hne)⟩, by
    have := h.at'
    have := h.fr.size
    omega⟩
end Go.Proofs.YtloicmngoaccoaaDoor

/- Walk of spec.WayAll: it is all ways, too. -/
namespace Go.Proofs.YtloicmngoaccoaaDoor
open Go.RowKit
set_option linter.unusedVariables false

theorem Acc.new (w : World) : Acc (w.alloc (.cells #[] 30)) w.heap.size w.heap.size 0 [] (fun _ => 0) (fun _ => 0) :=
  ⟨by simpa [rowVs] using World.ownsRow_lit w #[] 0 (base := w.heap.size) (e := 30) (size := 1) (Nat.le_refl _) (by simp) rfl, ⟨fun i hi => absurd hi (by simp), fun i j _ hj => absurd hj (by simp)⟩⟩
theorem Acc.down {W : World} {lo lo' G C : Nat} {pre : List (List Nat)} {gs cs : Nat → Nat} (h : Acc W lo G C pre gs cs) (hl : lo' ≤ lo) : Acc W lo' G C pre gs cs := ⟨own_low h.out hl, ⟨fun i hi => own_low (h.row.row i hi) hl, h.row.ne⟩⟩
theorem one_row (w : World) (a : Nat) : (w.alloc (.cells #[.int .i64 (a : Int)] 3)).ownsRow w.heap.size 3 1 (.slice (some ⟨w.heap.size, 0, none⟩) 1 1) 1 (plist [a]) := by
  simpa [plist] using World.ownsRow_lit w #[.int .i64 (a : Int)] 1 (base := w.heap.size) (e := 3) (size := 1) (Nat.le_refl _) (by simp [maxLen]) rfl
/-- what stands while spec.WayAll goes through the sizes -/
structure Sst (w wr : World) (Kn : Nat) (nv : Value) (ps : List (List Nat)) (G C : Nat) (gs cs : Nat → Nat) : Prop where
  X : Bx w wr (Kn : Int) nv
  A : Acc wr (w.heap.size + 1) G C ps gs cs
theorem Sst.next {w wr w' : World} {Kn : Nat} {nv : Value} {ps : List (List Nat)} {G C : Nat} {gs cs : Nat → Nat} (h : Sst w wr Kn nv ps G C gs cs) (hb : Below wr.heap.size wr w') : Sst w w' Kn nv ps G C gs cs := ⟨h.X.next hb, h.A.kept hb⟩
theorem Sst.then {w wr w' : World} {Kn : Nat} {nv : Value} {ps ps' : List (List Nat)} {G C G2 C2 : Nat} {gs cs gs2 cs2 : Nat → Nat} (h : Sst w wr Kn nv ps G C gs cs) (hA : Acc w' (w.heap.size + 1) G2 C2 ps' gs2 cs2) (hg : wr.grownBy w' (some G)) : Sst w w' Kn nv ps' G2 C2 gs2 cs2 := by
  have hG := h.A.lt.1
  have hb : Below (w.heap.size + 1) wr w' := ⟨hg.os, hg.tape, hg.output, hg.size, fun k hk => hg.block k (by have := h.X.lt; omega) (by intro e; cases e; omega)⟩
  exact ⟨⟨(hb.cell (p := ⟨w.heap.size, 0, none⟩) (by show w.heap.size < w.heap.size + 1; omega)).trans h.X.c0, (hb.cell (p := ⟨w.heap.size, 1, none⟩) (by show w.heap.size < w.heap.size + 1; omega)).trans h.X.c1, Nat.lt_of_lt_of_le h.X.lt hb.size, h.X.B.trans (hb.mono (by omega))⟩, hA⟩

end Go.Proofs.YtloicmngoaccoaaDoor
