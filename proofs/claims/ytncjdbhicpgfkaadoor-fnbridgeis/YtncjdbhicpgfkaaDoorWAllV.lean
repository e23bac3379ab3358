/- Rows of ways that are read; walks of laws.loInts, laws.loAhead over any two rows. -/
import Derived.Test.YtncjdbhicpgfkaaDoorWAllI2
import Derived.Test.YtncjdbhicpgfkaaDoorMathS
import Derived.Test.YtncjdbhicpgfkaaDoorPartWCount
namespace Go.Proofs.YtncjdbhicpgfkaaDoor
open Go.RowKit
set_option linter.unusedVariables false

/-- all ways behind an address, read -/
structure AllV (W : World) (ao : Option Addr) (ps : List (List Nat)) : Prop where
  at' : ∀ i, i < ps.length → ∃ G off g c, ao = some ⟨G, off, none⟩ ∧ G < W.heap.size ∧ W.cell? ⟨G, off + i, none⟩ = some (.slice (some ⟨g, 0, none⟩) (ps.getD i []).length c) ∧ RowV W W.heap.size (some ⟨g, 0, none⟩) (ps.getD i []).length (pcellN (pn (ps.getD i [])))
theorem AllV.next {W W' : World} {ao : Option Addr} {ps : List (List Nat)} (h : AllV W ao ps) (hb : Below W.heap.size W W') : AllV W' ao ps := ⟨fun i hi => by
  obtain ⟨G, off, g, c, h1, h2, h3, h4⟩ := h.at' i hi
  exact ⟨G, off, g, c, h1, Nat.lt_of_lt_of_le h2 hb.size, (hb.cell (p := ⟨G, off + i, none⟩) h2).trans h3, (h4.next hb).wide hb.size⟩⟩
theorem AllR.seen {W : World} {lo : Nat} {ao : Option Addr} {ps : List (List Nat)} (h : AllR W lo ao ps) (hp : ∀ q, q ∈ ps → 0 < q.length ∧ q.length ≤ 8) : AllV W ao ps := ⟨fun i hi => by
  rcases h with ⟨h1, _⟩ | ⟨G, gs, cs, h1, h2, h3, h4, h5⟩
  · rw [h1] at hi; simp at hi
  have hm : ps.getD i [] ∈ ps := by simp [hi]
  have hc : wayAt ps i = ps.getD i [] := clip_is (hp _ hm).1 (hp _ hm).2
  have hr := h4.row i hi
  unfold rowV at hr
  rw [hc] at hr
  obtain ⟨ow, _, hlt⟩ := row_own hr rfl (hp _ hm).1
  refine ⟨G, 0, gs i, cs i, h1, h3.2.2, ?_, fun j hj => ⟨gs i, 0, rfl, hlt, by rw [Nat.zero_add]; exact ow.1 j hj⟩⟩
  rw [Nat.zero_add, h3.1 i hi]
  unfold rowV
  rw [hc]⟩
theorem implAll_v (ps : List (List Nat)) (K : Int) (ao : Option Addr) (cap : Nat) (ts : List (Int × Int)) (a b : Int) (w : World) (hn : ts.length ≤ 1099511627776) (ht : TiesIn w w.heap.size ao ts) (hp : waysB K ts a b = ps) :
    Calls Tryd.prog 42 #[.agg #[.int .i64 K, .slice ao ts.length cap], .int .i64 a, .int .i64 b] w fun e w' => ∃ ao' cap', e = .returned (.slice ao' ps.length cap') ∧ AllV w' ao' ps ∧ Below w.heap.size w w' := by
  subst hp
  refine (implAll_any K ao cap ts a b w hn ht (waysB_few K ts a b)).mono ?_
  rintro e w' ⟨ao', cap', rfl, h, hb⟩
  exact ⟨ao', cap', rfl, h.seen (fun q hq => waysB_len hq), hb⟩
/-- two rows are the same up to there -/
def SameTo (p q : List Nat) (k : Nat) : Prop := ∀ j, j < k → pn p j = pn q j
theorem same_all {p q : List Nat} (hl : p.length = q.length) (h : SameTo p q p.length) : p = q := by
  apply List.ext_getElem hl
  intro i h1 h2
  have := h i h1
  simp [pn, h1, h2] at this
  exact this
theorem loInts_any (v : Bool) (a1 a2 : Option Addr) (cap1 cap2 : Nat) (p q : List Nat) (w : World) (h8 : p.length ≤ 1000) (h9 : q.length ≤ 1000) (h1 : RowV w w.heap.size a1 p.length (pcellN (pn p))) (h2 : RowV w w.heap.size a2 q.length (pcellN (pn q))) (hv : decide (p = q) = v) :
    Calls Tryd.prog 18 #[.slice a1 p.length cap1, .slice a2 q.length cap2] w fun e w' => e = .returned (.bool v) ∧ Below w.heap.size w w' := by
  by_cases hl : p.length = q.length
  · obtain ⟨n, hnn⟩ : ∃ n, n = p.length := ⟨_, rfl⟩
    have hq : q.length = n := by omega
    have HV : Hid ((∃ j, j < n ∧ pn p j ≠ pn q j) → v = false) := fun ⟨j, hj, hne⟩ => by
      rw [← hv]; exact decide_eq_false (fun e => hne (by rw [e]))
    have HY : Hid (SameTo p q n → v = true) := fun h => by
      rw [← hv]; exact decide_eq_true (same_all hl (by rw [← hnn]; exact h))
    rw [hq] at h2 h9 ⊢
    rw [← hnn] at h1 h8 ⊢
    have HR1 := hideP h1
    have HR2 := hideP h2
    clear hl hq h1 h2 hv hnn
    go_enter Tryd.func18, Tryd.ntmps18
    go_wp2
    go_loopw [5] (fun i wr => ∃ k : Nat, k ≤ n ∧ i = .int .i64 k ∧ SameTo p q k ∧ Below w.heap.size w wr) (fun i _ => n - (intOf i).toNat)
    case atStart => exact ⟨0, Nat.zero_le _, rfl, fun j hj => absurd hj (by omega), by repeat (first | exact Below.refl _ _ | apply Below.drew)⟩
    case round =>
      obtain ⟨k, hk, rfl, hs, hbr⟩ := hrel
      have HS := hideP hs
      have HBR := hideP hbr
      by_cases hlt : k < n
      · obtain ⟨g1, o1, rfl, l1, d1⟩ := HR1.out k hlt
        obtain ⟨g2, o2, rfl, l2, d2⟩ := HR2.out k hlt
        have e1 : wr.cell? ⟨g1, o1 + k, none⟩ = some (.int .i64 (pn p k : Int)) := (hbr.cell (p := ⟨g1, o1 + k, none⟩) l1).trans d1
        have e2 : wr.cell? ⟨g2, o2 + k, none⟩ = some (.int .i64 (pn q k : Int)) := (hbr.cell (p := ⟨g2, o2 + k, none⟩) l2).trans d2
        have hk0 : (0 : Int) ≤ (k : Int) := by omega
        have hk1 : (k : Int) < (n : Int) := by omega
        clear hs hbr d1 d2 l1 l2
        by_cases he : pn p k = pn q k
        · have hne : ((pn p k : Int) != (pn q k : Int)) = false := by simp [he]
          have HS2 : Hid (SameTo p q (k + 1)) := fun j hj => by
            by_cases e : j = k
            · subst e; exact he
            · exact HS.out j (by omega)
          rw [he] at e1
          obtain ⟨z, hz⟩ : ∃ z, z = pn q k := ⟨_, rfl⟩
          rw [← hz] at e1 e2
          clear hne he hz
          go_wp2
          go_region
          go_wp2
          go_roundw
          case rel => exact ⟨k + 1, by omega, by go_num, HS2.out, by repeat (first | exact HBR.out | apply Below.drew)⟩
          case measure => simp [intOf]; omega
        · have hne : ((pn p k : Int) == (pn q k : Int)) = false := by rw [beq_eq_false_iff_ne]; omega
          have HF : Hid (v = false) := HV.out ⟨k, hlt, he⟩
          clear he
          go_wp2
          go_region
          go_wp2
          go_ret
          exact ⟨by rw [HF.out]; rfl, by repeat (first | exact HBR.out | apply Below.drew)⟩
      · obtain rfl : k = n := by omega
        have HF : Hid (v = true) := HY.out hs
        clear hs hbr
        go_wp2
        go_ret
        exact ⟨by rw [HF.out]; rfl, HBR.out⟩
  · have hne : ((p.length : Int) == (q.length : Int)) = false := by rw [beq_eq_false_iff_ne]; omega
    have HF : Hid (v = false) := by
      rw [← hv]; exact hideP (decide_eq_false (fun e => hl (by rw [e])))
    clear hl hv h1 h2
    obtain ⟨n, hnn⟩ : ∃ n, n = p.length := ⟨_, rfl⟩
    obtain ⟨m, hmm⟩ : ∃ m, m = q.length := ⟨_, rfl⟩
    rw [← hnn, ← hmm] at hne
    rw [← hnn, ← hmm]
    rw [← hnn] at h8
    rw [← hmm] at h9
    clear hnn hmm
    go_enter Tryd.func18, Tryd.ntmps18
    go_wp2
    go_ret
    exact ⟨by rw [HF.out]; rfl, Below.refl _ _⟩

theorem lex_at {p q : List Nat} : ∀ {k : Nat}, k < p.length → k < q.length → SameTo p q k → pn p k ≠ pn q k → lexB p q = decide (pn p k < pn q k) := by
  intro k
  induction k generalizing p q with
  | zero =>
    intro h1 h2 _ hne
    cases p with
    | nil => simp at h1
    | cons x xs =>
      cases q with
      | nil => simp at h2
      | cons y ys =>
        have : x ≠ y := hne
        simp [lexB, this, pn]
  | succ k ih =>
    intro h1 h2 hs hne
    cases p with
    | nil => simp at h1
    | cons x xs =>
      cases q with
      | nil => simp at h2
      | cons y ys =>
        have h0 : x = y := hs 0 (by omega)
        have := ih (p := xs) (q := ys) (by simpa using h1) (by simpa using h2) (fun j hj => hs (j + 1) (by omega)) hne
        simp only [lexB, if_pos h0]
        exact this
end Go.Proofs.YtncjdbhicpgfkaaDoor
