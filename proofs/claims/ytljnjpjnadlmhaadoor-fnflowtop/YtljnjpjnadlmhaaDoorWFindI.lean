/- Walk of impl.WayFind: it is the first of all ways. -/
import Derived.Test.YtljnjpjnadlmhaaDoorPartWTell
import Derived.Test.YtljnjpjnadlmhaaDoorPartWCount
namespace Go.Proofs.YtljnjpjnadlmhaaDoor
open Go.RowKit Go.Shelf
set_option linter.unusedVariables false
attribute [local go_sem] Oper.semAt_some

theorem onW_len {E : Nat → Nat → Bool} {b s : Nat} : ∀ f p q, q ∈ onW E b s f p → q.length = s := by
  intro f
  induction f with
  | zero =>
    intro p q hq
    by_cases h : lastN p = b
    · rw [onW_end h] at hq
      by_cases e : p.length = s
      · rw [if_pos e] at hq; simp at hq; subst hq; exact e
      · rw [if_neg e] at hq; simp at hq
    · rw [onW_stop h] at hq; simp at hq
  | succ f ih =>
    intro p q hq
    by_cases h : lastN p = b
    · rw [onW_end h] at hq
      by_cases e : p.length = s
      · rw [if_pos e] at hq; simp at hq; subst hq; exact e
      · rw [if_neg e] at hq; simp at hq
    · rw [onW_go h, onTo, List.mem_flatMap] at hq
      obtain ⟨k, hk, hq⟩ := hq
      by_cases hc : (E (lastN p) k && !decide (k ∈ p)) = true
      · rw [onK_yes hc] at hq; exact ih _ _ hq
      · rw [onK_no (by simpa using hc)] at hq; simp at hq
theorem waysB_len {K : Int} {ts : List (Int × Int)} {a b : Int} {q : List Nat} (h : q ∈ waysB K ts a b) : 0 < q.length ∧ q.length ≤ 8 := by
  cases hc : (okB K ts && knotB a K && knotB b K)
  · rw [waysB_no hc] at h; simp at h
  · rw [waysB_yes hc, allTo, List.mem_flatMap] at h
    obtain ⟨i, hi, hq⟩ := h
    have := onW_len _ _ _ hq
    have := List.mem_range.1 hi
    have : okB K ts = true := by simp only [Bool.and_eq_true] at hc; exact hc.1.1
    have := (okB_iff.1 this).2.1
    omega
/-- the answer's row, in the world in which it is told -/
structure Fnd (w W : World) (x : List Nat) (g cap : Nat) : Prop where
  own : OwnI W g x.length (pcellN (pn x))
  lo : w.heap.size + 3 ≤ g
  blk : ∃ cs t fr, W.heap[g]? = some (Obj.cells cs t fr)
  room : x.length ≤ cap
theorem Fnd.kept {w W W' : World} {x : List Nat} {g cap : Nat} (h : Fnd w W x g cap) {row : Option Nat} (hg : W.grownBy W' row) (hr : ∀ r, row = some r → ∃ o : Obj, W.heap[r]? = some o ∧ o.isCells = false) : Fnd w W' x g cap := by
  obtain ⟨cs, t, fr, hb⟩ := h.blk
  have e : W'.heap[g]? = W.heap[g]? := hg.block g h.own.2.2 (fun e => by
    obtain ⟨o, ho, hc⟩ := hr g e.symm
    rw [hb] at ho; cases ho; cases hc)
  exact ⟨h.own.same e hg.size, h.lo, ⟨cs, t, fr, e.trans hb⟩, h.room⟩

end Go.Proofs.YtljnjpjnadlmhaaDoor
