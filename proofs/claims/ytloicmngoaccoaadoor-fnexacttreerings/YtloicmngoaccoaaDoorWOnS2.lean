/- Walk of spec.l2On: where it goes on. -/
import Derived.Test.YtloicmngoaccoaaDoorWOnS
import Derived.Deep.RegionWith
namespace Go.Proofs.YtloicmngoaccoaaDoor
open Go.RowKit
set_option linter.unusedVariables false

/-- what the first of the neighbours add -/
def onN (E : Nat → Nat → Bool) (b s f : Nat) (p : List Nat) (k : Nat) : List (List Nat) := if k ∈ p then [] else onW E b s f (p ++ [k])
def onL (E : Nat → Nat → Bool) (b s f : Nat) (p L : List Nat) (j : Nat) : List (List Nat) := (L.take j).flatMap (onN E b s f p)
theorem onL_zero (E : Nat → Nat → Bool) (b s f : Nat) (p L : List Nat) : onL E b s f p L 0 = [] := rfl
theorem onL_succ (E : Nat → Nat → Bool) (b s f : Nat) (p L : List Nat) {j : Nat} (h : j < L.length) : onL E b s f p L (j + 1) = onL E b s f p L j ++ onN E b s f p (L.getD j 0) := by
  unfold onL
  rw [List.take_succ_eq_append_getElem h, List.flatMap_append]
  simp [h]
theorem onL_all {ts : List (Int × Int)} {Kn : Nat} (hok : NetOk (Kn : Int) ts) (hK : Kn ≤ 8) (b s f : Nat) (p : List Nat) : onL (tieNB ts) b s f p (nbrs ts (lastN p) Kn) (nbrs ts (lastN p) Kn).length = onTo (tieNB ts) b s f p 8 := by
  have h1 : ∀ m, (nbrs ts (lastN p) m).flatMap (onN (tieNB ts) b s f p) = onTo (tieNB ts) b s f p m := by
    intro m
    induction m with
    | zero => rfl
    | succ m ih =>
      rw [onTo_succ, ← ih]
      cases hv : tieNB ts (lastN p) m
      · rw [nbrs_no hv, onK_no (by rw [hv]; rfl), List.append_nil]
      · rw [nbrs_yes hv, List.flatMap_append]
        congr 1
        simp only [List.flatMap_cons, List.flatMap_nil, List.append_nil, onN]
        by_cases hm : m ∈ p
        · rw [if_pos hm, onK_no (by simp [hm])]
        · rw [if_neg hm, onK_yes (by rw [hv]; simp [hm])]
  have h2 : ∀ j, onTo (tieNB ts) b s f p (Kn + j) = onTo (tieNB ts) b s f p Kn := by
    intro j
    induction j with
    | zero => rfl
    | succ j ih =>
      rw [← Nat.add_assoc, onTo_succ, ih, onK_no, List.append_nil]
      have : tieNB ts (lastN p) (Kn + j) = false := by
        rw [← Bool.not_eq_true]
        intro h
        have := tieNB_lt hok h
        simp at this
        omega
      rw [this]; rfl
  unfold onL
  rw [List.take_length, h1]
  have := h2 (8 - Kn)
  rw [show Kn + (8 - Kn) = 8 by omega] at this
  exact this.symm
theorem onL_pre (E : Nat → Nat → Bool) (b s f : Nat) (p L : List Nat) {j : Nat} (h : j ≤ L.length) : (onL E b s f p L j).length ≤ (onL E b s f p L L.length).length := by
  unfold onL
  have : L.take L.length = L.take j ++ L.drop j := by rw [List.take_length, List.take_append_drop]
  rw [this, List.flatMap_append, List.length_append]; omega
/-- what stands while neighbours are gone through -/
structure Ost (w w5 wr : World) (lo G : Nat) (all : List (List Nat)) (G' C' : Nat) (gs cs : Nat → Nat) : Prop where
  A : Acc wr lo G' C' all gs cs
  fr : w5.grownBy wr (some G)
  at' : G' = G ∨ w5.heap.size ≤ G'
theorem Ost.block {w w5 wr : World} {lo G : Nat} {all : List (List Nat)} {G' C' : Nat} {gs cs : Nat → Nat} (h : Ost w w5 wr lo G all G' C' gs cs) {k : Nat} (hk : k < w5.heap.size) (hne : k ≠ G) : wr.heap[k]? = w5.heap[k]? := h.fr.block k hk (fun e => hne (by cases e; rfl))
theorem Ost.next {w w5 wr w' : World} {lo G : Nat} {all : List (List Nat)} {G' C' : Nat} {gs cs : Nat → Nat} (h : Ost w w5 wr lo G all G' C' gs cs) (hb : Below wr.heap.size wr w') : Ost w w5 w' lo G all G' C' gs cs :=
  ⟨h.A.kept hb, ⟨hb.os.trans h.fr.os, hb.tape.trans h.fr.tape, hb.output.trans h.fr.output, Nat.le_trans h.fr.size hb.size, fun k hk hne => (hb.block k (Nat.lt_of_lt_of_le hk h.fr.size)).trans (h.fr.block k hk hne)⟩, h.at'⟩
theorem Ost.then {w w5 wr w' : World} {lo G : Nat} {all all' : List (List Nat)} {G' C' G2 C2 : Nat} {gs cs gs2 cs2 : Nat → Nat} (h : Ost w w5 wr lo G all G' C' gs cs) (hA : Acc w' lo G2 C2 all' gs2 cs2) (hg : wr.grownBy w' (some G')) (ha : G2 = G' ∨ wr.heap.size ≤ G2) : Ost w w5 w' lo G all' G2 C2 gs2 cs2 :=
  ⟨hA, ⟨hg.os.trans h.fr.os, hg.tape.trans h.fr.tape, hg.output.trans h.fr.output, Nat.le_trans h.fr.size hg.size, fun k hk hne => (hg.block k (Nat.lt_of_lt_of_le hk h.fr.size) (fun e => by
    cases e
    rcases h.at' with q | q
    · exact hne (by rw [q])
    · omega)).trans (h.fr.block k hk hne)⟩, by
    have := h.at'
    have := h.fr.size
    omega⟩
end Go.Proofs.YtloicmngoaccoaaDoor
