/- Rows of ways that are read; walks of laws.loInts, laws.loAhead over any two rows. -/
import Derived.Test.YtjciidhieahgfaaWAllI2
import Derived.Test.YtjciidhieahgfaaMathS
import Derived.Test.YtjciidhieahgfaaWRowV
namespace Go.Proofs.Ytjciidhieahgfaa
open Go.RowKit
set_option linter.unusedVariables false

/-- all ways behind an address, read -/
structure AllV (W : World) (ao : Option Addr) (ps : List (List Nat)) : Prop where
  at' : ∀ i, i < ps.length → ∃ G off g c, ao = some ⟨G, off, none⟩ ∧ G < W.heap.size ∧ W.cell? ⟨G, off + i, none⟩ = some (.slice (some ⟨g, 0, none⟩) (ps.getD i []).length c) ∧ RowV W W.heap.size (some ⟨g, 0, none⟩) (ps.getD i []).length (pcellN (pn (ps.getD i [])))
theorem AllV.next {W W' : World} {ao : Option Addr} {ps : List (List Nat)} (h : AllV W ao ps) (hb : Below W.heap.size W W') : AllV W' ao ps := ⟨fun i hi => by
  obtain ⟨G, off, g, c, h1, h2, h3, h4⟩ := h.at' i hi
  exact ⟨G, off, g, c, h1, Nat.lt_of_lt_of_le h2 hb.size, (hb.cell (p := ⟨G, off + i, none⟩) h2).trans h3, (h4.next hb).wide hb.size⟩⟩
theorem AllR.seen {W : World} {lo : Nat} {ao : Option Addr} {ps : List (List Nat)} (h : AllR W lo ao ps) (hp : ∀ q, q ∈ ps → 0 < q.length ∧ q.length ≤ 8) : AllV W ao ps := ⟨fun i hi => by
  rcases h with ⟨h1, _⟩ | ⟨G, gs, cs, h1, h2, h3, h4, h5⟩
  · rw [h1] at hi; simp at hi
  have hm : ps.getD i [] ∈ ps := by simp [hi]
  have hc : wayAt ps i = ps.getD i [] := clip_is (hp _ hm).1 (hp _ hm).2
  have hr := h4.row i hi
  unfold rowV at hr
  rw [hc] at hr
  obtain ⟨ow, _, hlt⟩ := row_own hr rfl (hp _ hm).1
  refine ⟨G, 0, gs i, cs i, h1, h3.2.2, ?_, fun j hj => ⟨gs i, 0, rfl, hlt, by rw [Nat.zero_add]; exact ow.1 j hj⟩⟩
  rw [Nat.zero_add, h3.1 i hi]
  unfold rowV
  rw [hc]⟩
theorem implAll_v (ps : List (List Nat)) (K : Int) (ao : Option Addr) (cap : Nat) (ts : List (Int × Int)) (a b : Int) (w : World) (hn : ts.length ≤ 1099511627776) (ht : TiesIn w w.heap.size ao ts) (hp : waysB K ts a b = ps) :
    Calls Try.prog 15 #[.agg #[.int .i64 K, .slice ao ts.length cap], .int .i64 a, .int .i64 b] w fun e w' => ∃ ao' cap', e = .returned (.slice ao' ps.length cap') ∧ AllV w' ao' ps ∧ Below w.heap.size w w' := by
  subst hp
  refine (implAll_any K ao cap ts a b w hn ht (waysB_few K ts a b)).mono ?_
  rintro e w' ⟨ao', cap', rfl, h, hb⟩
  exact ⟨ao', cap', rfl, h.seen (fun q hq => waysB_len hq), hb⟩
/-- two rows are the same up to there -/
def SameTo (p q : List Nat) (k : Nat) : Prop := ∀ j, j < k → pn p j = pn q j
theorem same_all {p q : List Nat} (hl : p.length = q.length) (h : SameTo p q p.length) : p = q := by
  apply List.ext_getElem hl
  intro i h1 h2
  have := h i h1
  simp [pn, h1, h2] at this
  exact this
theorem lex_at {p q : List Nat} : ∀ {k : Nat}, k < p.length → k < q.length → SameTo p q k → pn p k ≠ pn q k → lexB p q = decide (pn p k < pn q k) := by
  intro k
  induction k generalizing p q with
  | zero =>
    intro h1 h2 _ hne
    cases p with
    | nil => simp at h1
    | cons x xs =>
      cases q with
      | nil => simp at h2
      | cons y ys =>
        have : x ≠ y := hne
        simp [lexB, this, pn]
  | succ k ih =>
    intro h1 h2 hs hne
    cases p with
    | nil => simp at h1
    | cons x xs =>
      cases q with
      | nil => simp at h2
      | cons y ys =>
        have h0 : x = y := hs 0 (by omega)
        have := ih (p := xs) (q := ys) (by simpa using h1) (by simpa using h2) (fun j hj => hs (j + 1) (by omega)) hne
        simp only [lexB, if_pos h0]
        exact this
end Go.Proofs.Ytjciidhieahgfaa
