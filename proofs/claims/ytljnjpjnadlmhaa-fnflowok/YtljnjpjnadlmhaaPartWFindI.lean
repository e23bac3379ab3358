/- Texts put together: WFindI, WAllI. -/
import Derived.Test.YtljnjpjnadlmhaaPartWTell
import Derived.Test.YtljnjpjnadlmhaaPartWCount
import Derived.Maps.AppendAt
/- Walk of impl.WayFind: it is the first of all ways. -/
namespace Go.Proofs.Ytljnjpjnadlmhaa
open Go.RowKit Go.Shelf
set_option linter.unusedVariables false
attribute [local go_sem] Oper.semAt_some

theorem onW_len {E : Nat → Nat → Bool} {b s : Nat} : ∀ f p q, q ∈ onW E b s f p → q.length = s := by
  intro f
  induction f with
  | zero =>
    intro p q hq
    by_cases h : lastN p = b
    · rw [onW_end h] at hq
      by_cases e : p.length = s
      · rw [if_pos e] at hq; simp at hq; subst hq; exact e
      · rw [if_neg e] at hq; simp at hq
    · rw [onW_stop h] at hq; simp at hq
  | succ f ih =>
    intro p q hq
    by_cases h : lastN p = b
    · rw [onW_end h] at hq
      by_cases e : p.length = s
      · rw [if_pos e] at hq; simp at hq; subst hq; exact e
      · rw [if_neg e] at hq; simp at hq
    · rw [onW_go h, onTo, List.mem_flatMap] at hq
      obtain ⟨k, hk, hq⟩ := hq
      by_cases hc : (E (lastN p) k && !decide (k ∈ p)) = true
      · rw [onK_yes hc] at hq; exact ih _ _ hq
      · rw [onK_no (by simpa using hc)] at hq; simp at hq
theorem waysB_len {K : Int} {ts : List (Int × Int)} {a b : Int} {q : List Nat} (h : q ∈ waysB K ts a b) : 0 < q.length ∧ q.length ≤ 8 := by
  cases hc : (okB K ts && knotB a K && knotB b K)
  · rw [waysB_no hc] at h; simp at h
  · rw [waysB_yes hc, allTo, List.mem_flatMap] at h
    obtain ⟨i, hi, hq⟩ := h
    have := onW_len _ _ _ hq
    have := List.mem_range.1 hi
    have : okB K ts = true := by simp only [Bool.and_eq_true] at hc; exact hc.1.1
    have := (okB_iff.1 this).2.1
    omega
/-- the answer's row, in the world in which it is told -/
structure Fnd (w W : World) (x : List Nat) (g cap : Nat) : Prop where
  own : OwnI W g x.length (pcellN (pn x))
  lo : w.heap.size + 3 ≤ g
  blk : ∃ cs t fr, W.heap[g]? = some (Obj.cells cs t fr)
  room : x.length ≤ cap
theorem Fnd.kept {w W W' : World} {x : List Nat} {g cap : Nat} (h : Fnd w W x g cap) {row : Option Nat} (hg : W.grownBy W' row) (hr : ∀ r, row = some r → ∃ o : Obj, W.heap[r]? = some o ∧ o.isCells = false) : Fnd w W' x g cap := by
  obtain ⟨cs, t, fr, hb⟩ := h.blk
  have e : W'.heap[g]? = W.heap[g]? := hg.block g h.own.2.2 (fun e => by
    obtain ⟨o, ho, hc⟩ := hr g e.symm
    rw [hb] at ho; cases ho; cases hc)
  exact ⟨h.own.same e hg.size, h.lo, ⟨cs, t, fr, e.trans hb⟩, h.room⟩

end Go.Proofs.Ytljnjpjnadlmhaa

/- Walk of impl.WayAll: it is all ways, each in memory of its own. -/
namespace Go.Proofs.Ytljnjpjnadlmhaa
open Go.RowKit Go.Shelf
set_option linter.unusedVariables false
attribute [local go_sem] Oper.semAt_some

theorem Try.infoInts : (Try.prog.info? 30).map (fun i => (i.zero, i.size, i.bytes)) = some (some (.slice none 0 0), 1, 24) := by kernel_rfl
/-- the k-th way as it came -/
def wayAt (pre : List (List Nat)) (i : Nat) : List Nat := clip (pre.getD i [])
def rowV (pre : List (List Nat)) (gs cs : Nat → Nat) (i : Nat) : Value := .slice (some ⟨gs i, 0, none⟩) (wayAt pre i).length (cs i)
def rowVs (pre : List (List Nat)) (gs cs : Nat → Nat) : List Value := (List.range pre.length).map (rowV pre gs cs)
/-- ways in rows of their own -/
structure Rws (W : World) (lo : Nat) (pre : List (List Nat)) (gs cs : Nat → Nat) : Prop where
  row : ∀ i, i < pre.length → W.ownsRow lo 3 1 (rowV pre gs cs i) (wayAt pre i).length (plist (wayAt pre i))
  ne : ∀ i j, i < j → j < pre.length → gs i ≠ gs j
theorem wayAt_old (pre : List (List Nat)) (x : List Nat) {i : Nat} (h : i < pre.length) : wayAt (pre ++ [x]) i = wayAt pre i := by
  unfold wayAt; rw [List.getD_eq_getElem?_getD, List.getD_eq_getElem?_getD, List.getElem?_append_left h]
theorem wayAt_new (pre : List (List Nat)) (x : List Nat) : wayAt (pre ++ [x]) pre.length = clip x := by
  unfold wayAt; simp
def upd' (f : Nat → Nat) (i v : Nat) : Nat → Nat := fun j => if j = i then v else f j
theorem rowV_old (pre : List (List Nat)) (x : List Nat) (gs cs : Nat → Nat) (g c : Nat) {i : Nat} (h : i < pre.length) : rowV (pre ++ [x]) (upd' gs pre.length g) (upd' cs pre.length c) i = rowV pre gs cs i := by
  unfold rowV upd'
  rw [wayAt_old pre x h, if_neg (by omega), if_neg (by omega)]

theorem rowVs_snoc (pre : List (List Nat)) (x : List Nat) (gs cs : Nat → Nat) (g c : Nat) : rowVs (pre ++ [x]) (upd' gs pre.length g) (upd' cs pre.length c) = rowVs pre gs cs ++ [.slice (some ⟨g, 0, none⟩) (clip x).length c] := by
  unfold rowVs
  have hl : (pre ++ [x]).length = pre.length + 1 := by simp
  rw [hl, List.range_succ, List.map_append]
  congr 1
  · apply List.map_congr_left
    intro i hi
    exact rowV_old pre x gs cs g c (List.mem_range.1 hi)
  · simp only [List.map_cons, List.map_nil, rowV, wayAt_new, upd', if_true]
theorem row_type {W : World} {lo : Nat} {e : TypeId} {v : Value} {g n c : Nat} {xs : List Value} (h : W.ownsRow lo e 1 v n xs) (hv : v = .slice (some ⟨g, 0, none⟩) n c) : ∃ cs fr, W.heap[g]? = some (Obj.cells cs e fr) ∧ lo ≤ g := by
  subst hv
  rcases h.2 with ⟨h', _⟩ | ⟨g', cap', cur, h', hb, hg, _⟩
  · simp at h'
  · simp only [Value.slice.injEq, Option.some.injEq, Addr.mk.injEq, and_true, true_and] at h'
    obtain ⟨rfl, _⟩ := h'
    exact ⟨_, _, hg, hb⟩
/-- rows stay where their blocks do -/
theorem Rws.kept {W W' : World} {lo : Nat} {pre : List (List Nat)} {gs cs : Nat → Nat} (h : Rws W lo pre gs cs) (hs : W.heap.size ≤ W'.heap.size) (hk : ∀ (k : Nat) (cs : Array Value) (fr : Nat × Nat), W.heap[k]? = some (Obj.cells cs 3 fr) → W'.heap[k]? = W.heap[k]?) : Rws W' lo pre gs cs := by
  refine ⟨fun i hi => ?_, h.ne⟩
  have hr := h.row i hi
  obtain ⟨c, fr, hb, hlo⟩ := row_type (g := gs i) (c := cs i) hr rfl
  have e := hk _ _ _ hb
  refine ⟨hr.1, ?_⟩
  rcases hr.2 with h1 | ⟨g, cap, cur, h1, h2, h3, h4⟩
  · exact Or.inl h1
  · refine Or.inr ⟨g, cap, cur, h1, h2, ?_, h4⟩
    have : g = gs i := by
      unfold rowV at h1
      simp only [Value.slice.injEq, Option.some.injEq, Addr.mk.injEq, and_true] at h1
      exact h1.1.symm
    subst this
    exact e.trans h3
/-- one way more -/
theorem Rws.snoc {W W' : World} {lo : Nat} {pre : List (List Nat)} {x : List Nat} {gs cs : Nat → Nat} {g c : Nat} (h : Rws W lo pre gs cs) (h' : Rws W' lo pre gs cs) (hn : W'.ownsRow lo 3 1 (.slice (some ⟨g, 0, none⟩) (clip x).length c) (clip x).length (plist (clip x))) (hg : W.heap.size ≤ g) : Rws W' lo (pre ++ [x]) (upd' gs pre.length g) (upd' cs pre.length c) := by
  refine ⟨fun i hi => ?_, fun i j hij hj => ?_⟩
  · simp at hi
    by_cases e : i = pre.length
    · subst e
      have : rowV (pre ++ [x]) (upd' gs pre.length g) (upd' cs pre.length c) pre.length = .slice (some ⟨g, 0, none⟩) (clip x).length c := by simp only [rowV, wayAt_new, upd', if_true]
      rw [this, wayAt_new]; exact hn
    · rw [rowV_old pre x gs cs g c (by omega), wayAt_old pre x (by omega)]; exact h'.row i (by omega)
  · simp at hj
    have old : ∀ i, i < pre.length → gs i < W.heap.size := fun i hi => by
      obtain ⟨_, _, hb, _⟩ := row_type (g := gs i) (c := cs i) (h.row i hi) rfl
      exact (Array.getElem?_eq_some_iff.1 hb).1
    by_cases e : j = pre.length
    · subst e
      have := old i hij
      simp only [upd', if_true, if_neg (show i ≠ pre.length by omega)]; omega
    · simp only [upd', if_neg e, if_neg (show i ≠ pre.length by omega)]; exact h.ne i j hij (by omega)
theorem stepIn_append {F : Fence} {n : Nat} {P : Program} {w : World} {ops : Array Oper} {o : Oper} {a : Act} {K : Act → World → Prop} {Q : Exit → Act → World → Prop} {E : Prop} (hgd : o.guard = none) (s x : Operand) (t : TypeId)
    (hop : o.op = .call { callee := .builtin .append, args := #[s, x], argTypes := #[t, t] })
    (base : Nat) (e : TypeId) (i : TypeInfo) (z : Value) (bytes : Nat) (ht : P.underlying t = some (.slice e)) (hi : P.info? e = some i) (hz : i.zero = some z) (h4 : i.size = 1) (h5 : i.bytes = bytes) (h6 : z.cells.size = 1)
    (v : Value) (k : Nat) (xs : List Value) (hs : a.eval s = v) (hown : w.ownsRow base e 1 v k xs) (ad : Addr) (c : Nat) (u : Value) (hx : a.eval x = .slice (some ad) 1 c) (hc : w.cell? ad = some u) (h1 : u.oneCell' = true)
    (b1 : k + 1 ≤ maxLen) (b2 : (k + 1) * bytes ≤ 140737488355328) (b3 : base ≤ w.heap.size)
    (hK : ∀ v' w', w'.ownsRow base e 1 v' (k + 1) (xs ++ [u]) → w.grownBy w' v.ownBlock → K (a.put o.dst v') w') :
    if Region.wanted o (yielded ops a.tmps) = true then Oper.wpIn F n P o a w K Q else E := by
  have hw : Region.wanted o (yielded ops a.tmps) = true := by simp [Region.wanted, hgd]
  rw [if_pos hw]
  obtain ⟨v', w', hrun, r1, r2, _⟩ := run_append_own (P := P) w base t o.type e i z 1 bytes ht hi hz h4 h5 h6 (by omega) v k xs hown ad 1 c [u] rfl (fun j q hq => by
    have hj : j = 0 := by have := (List.getElem?_eq_some_iff.1 hq).1; simp at this; omega
    subst hj
    simp at hq
    subst hq
    have hadd : ad.add 0 = ad := by unfold Addr.add; split <;> simp_all
    rw [hadd]; exact hc) (fun q hq => by simp at hq; subst hq; exact h1) b1 b2 b3
  unfold Oper.wpIn
  refine ⟨by simp [Oper.about, hop, resolve, Target.leads, Sem.run_pure], ?_⟩
  rw [Oper.semAt_plain F _ _ (by rw [hop]; intro c hc'; cases hc')]
  simp [execOp, hop, resolve, invoke, builtin, hs, hx, hrun, Result.andThen]
  exact hK _ _ r1 r2

/-- what stands while ways are collected -/
def AllI (w : World) (pre : List (List Nat)) (W : World) : Prop :=
  (∃ v gs cs, Boxed W (w.heap.size + 1) 26 v ∧ W.ownsRow (w.heap.size + 2) 30 1 v pre.length (rowVs pre gs cs) ∧ Rws W (w.heap.size + 2) pre gs cs) ∧ Below w.heap.size w W
theorem allI_own (w : World) {B : Nat} (hB : w.heap.size ≤ B) : OwnFrom B (AllI w) := by
  rintro pre A A' row ⟨⟨v, gs, cs, h1, h2, h3⟩, h4⟩ hg hr
  have hr' : ∀ r, row = some r → ∃ o : Obj, A.heap[r]? = some o ∧ o.isCells = false := fun r e => (hr r e).2
  have hsame : ∀ (k : Nat) (cs : Array Value) (t : TypeId) (fr : Nat × Nat), A.heap[k]? = some (Obj.cells cs t fr) → A'.heap[k]? = A.heap[k]? := fun k cs t fr hk =>
    hg.block k (Array.getElem?_eq_some_iff.1 hk).1 (fun e => by
      obtain ⟨o, ho, hc⟩ := hr' k e.symm
      rw [hk] at ho; cases ho; cases hc)
  refine ⟨⟨v, gs, cs, (hsame _ _ _ _ h1).trans h1, ?_, h3.kept hg.size (fun k c fr hk => hsame k c _ fr hk)⟩, ownFrom_below (n₀ := w.heap.size) (B := B) (w₀ := w) (Nat.le_refl _) hB () A A' row h4 hg hr⟩
  refine ⟨h2.1, ?_⟩
  rcases h2.2 with q | ⟨g, cap, cur, q1, q2, q3, q4⟩
  · exact Or.inl q
  · exact Or.inr ⟨g, cap, cur, q1, q2, (hsame _ _ _ _ q3).trans q3, q4⟩

theorem own_kept2 {w w' : World} {base : Nat} {e : TypeId} {size : Nat} {v : Value} {n : Nat} {xs : List Value} (h : w.ownsRow base e size v n xs) (hb : ∀ g, g < w.heap.size → w'.heap[g]? = w.heap[g]?) : w'.ownsRow base e size v n xs := by
  refine ⟨h.1, ?_⟩
  rcases h.2 with h1 | ⟨g, cap, cur, h1, h2, h3, h4⟩
  · exact Or.inl h1
  · exact Or.inr ⟨g, cap, cur, h1, h2, (hb g (Array.getElem?_eq_some_iff.1 h3).1).trans h3, h4⟩
theorem own_low {w : World} {base base' : Nat} {e : TypeId} {size : Nat} {v : Value} {n : Nat} {xs : List Value} (h : w.ownsRow base e size v n xs) (hb : base' ≤ base) : w.ownsRow base' e size v n xs := by
  refine ⟨h.1, ?_⟩
  rcases h.2 with h1 | ⟨g, cap, cur, h1, h2, h3⟩
  · exact Or.inl h1
  · exact Or.inr ⟨g, cap, cur, h1, by omega, h3⟩
theorem own_high {w w' : World} {base base' : Nat} {e : TypeId} {size : Nat} {v : Value} {n : Nat} {xs : List Value} (h : w.ownsRow base e size v n xs) (h' : w'.ownsRow base' e size v n xs) : w.ownsRow base' e size v n xs := by
  refine ⟨h.1, ?_⟩
  rcases h.2 with h1 | ⟨g, cap, cur, h1, h2, h3⟩
  · exact Or.inl h1
  · rcases h'.2 with ⟨q, _⟩ | ⟨g', cap', cur', q, q2, _⟩
    · rw [q] at h1; simp at h1
    · rw [h1] at q
      simp only [Value.slice.injEq, Option.some.injEq, Addr.mk.injEq, and_true, true_and] at q
      exact Or.inr ⟨g, cap, cur, h1, by omega, h3⟩
theorem own_at {w w' : World} {base : Nat} {e : TypeId} {size g n c : Nat} {xs : List Value} (h : w.ownsRow base e size (.slice (some ⟨g, 0, none⟩) n c) n xs) (hb : w'.heap[g]? = w.heap[g]?) : w'.ownsRow base e size (.slice (some ⟨g, 0, none⟩) n c) n xs := by
  refine ⟨h.1, ?_⟩
  rcases h.2 with h1 | ⟨g', cap, cur, h1, h2, h3, h4⟩
  · exact Or.inl h1
  · have : g' = g := by simp only [Value.slice.injEq, Option.some.injEq, Addr.mk.injEq, and_true, true_and] at h1; exact h1.1.symm
    subst this
    exact Or.inr ⟨g', cap, cur, h1, h2, hb.trans h3, h4⟩
/-- all ways in memory of the call's own -/
def AllR (W : World) (lo : Nat) (ao : Option Addr) (ps : List (List Nat)) : Prop :=
  (ps = [] ∧ ao = none) ∨ ∃ G gs cs, ao = some ⟨G, 0, none⟩ ∧ lo ≤ G ∧ OwnI W G ps.length (rowV ps gs cs) ∧ Rws W lo ps gs cs ∧ ∀ i, i < ps.length → gs i ≠ G

end Go.Proofs.Ytljnjpjnadlmhaa
