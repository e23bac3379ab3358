/- Texts put together: WAllI, WAllI2, WAllV. -/
import Derived.Test.YtncjdbhicpgfkaaDoorWFindI
import Derived.Maps.AppendAt
import Derived.Test.YtncjdbhicpgfkaaDoorPartMathP
import Derived.Test.YtncjdbhicpgfkaaDoorPartWCount
/- Walk of impl.WayAll: it is all ways, each in memory of its own. -/
namespace Go.Proofs.YtncjdbhicpgfkaaDoor
open Go.RowKit Go.Shelf
set_option linter.unusedVariables false
attribute [local go_sem] Oper.semAt_some

theorem Tryd.infoInts : (Tryd.prog.info? 30).map (fun i => (i.zero, i.size, i.bytes)) = some (some (.slice none 0 0), 1, 24) := by kernel_rfl
/-- the k-th way as it came -/
def wayAt (pre : List (List Nat)) (i : Nat) : List Nat := clip (pre.getD i [])
def rowV (pre : List (List Nat)) (gs cs : Nat → Nat) (i : Nat) : Value := .slice (some ⟨gs i, 0, none⟩) (wayAt pre i).length (cs i)
def rowVs (pre : List (List Nat)) (gs cs : Nat → Nat) : List Value := (List.range pre.length).map (rowV pre gs cs)
/-- ways in rows of their own -/
structure Rws (W : World) (lo : Nat) (pre : List (List Nat)) (gs cs : Nat → Nat) : Prop where
  row : ∀ i, i < pre.length → W.ownsRow lo 3 1 (rowV pre gs cs i) (wayAt pre i).length (plist (wayAt pre i))
  ne : ∀ i j, i < j → j < pre.length → gs i ≠ gs j
theorem wayAt_old (pre : List (List Nat)) (x : List Nat) {i : Nat} (h : i < pre.length) : wayAt (pre ++ [x]) i = wayAt pre i := by
  unfold wayAt; rw [List.getD_eq_getElem?_getD, List.getD_eq_getElem?_getD, List.getElem?_append_left h]
theorem wayAt_new (pre : List (List Nat)) (x : List Nat) : wayAt (pre ++ [x]) pre.length = clip x := by
  unfold wayAt; simp
def upd' (f : Nat → Nat) (i v : Nat) : Nat → Nat := fun j => if j = i then v else f j
theorem rowV_old (pre : List (List Nat)) (x : List Nat) (gs cs : Nat → Nat) (g c : Nat) {i : Nat} (h : i < pre.length) : rowV (pre ++ [x]) (upd' gs pre.length g) (upd' cs pre.length c) i = rowV pre gs cs i := by
  unfold rowV upd'
  rw [wayAt_old pre x h, if_neg (by omega), if_neg (by omega)]

theorem rowVs_snoc (pre : List (List Nat)) (x : List Nat) (gs cs : Nat → Nat) (g c : Nat) : rowVs (pre ++ [x]) (upd' gs pre.length g) (upd' cs pre.length c) = rowVs pre gs cs ++ [.slice (some ⟨g, 0, none⟩) (clip x).length c] := by
  unfold rowVs
  have hl : (pre ++ [x]).length = pre.length + 1 := by simp
  rw [hl, List.range_succ, List.map_append]
  congr 1
  · apply List.map_congr_left
    intro i hi
    exact rowV_old pre x gs cs g c (List.mem_range.1 hi)
  · simp only [List.map_cons, List.map_nil, rowV, wayAt_new, upd', if_true]
theorem row_type {W : World} {lo : Nat} {e : TypeId} {v : Value} {g n c : Nat} {xs : List Value} (h : W.ownsRow lo e 1 v n xs) (hv : v = .slice (some ⟨g, 0, none⟩) n c) : ∃ cs fr, W.heap[g]? = some (Obj.cells cs e fr) ∧ lo ≤ g := by
  subst hv
  rcases h.2 with ⟨h', _⟩ | ⟨g', cap', cur, h', hb, hg, _⟩
  · simp at h'
  · simp only [Value.slice.injEq, Option.some.injEq, Addr.mk.injEq, and_true, true_and] at h'
    obtain ⟨rfl, _⟩ := h'
    exact ⟨_, _, hg, hb⟩
/-- rows stay where their blocks do -/
theorem Rws.kept {W W' : World} {lo : Nat} {pre : List (List Nat)} {gs cs : Nat → Nat} (h : Rws W lo pre gs cs) (hs : W.heap.size ≤ W'.heap.size) (hk : ∀ (k : Nat) (cs : Array Value) (fr : Nat × Nat), W.heap[k]? = some (Obj.cells cs 3 fr) → W'.heap[k]? = W.heap[k]?) : Rws W' lo pre gs cs := by
  refine ⟨fun i hi => ?_, h.ne⟩
  have hr := h.row i hi
  obtain ⟨c, fr, hb, hlo⟩ := row_type (g := gs i) (c := cs i) hr rfl
  have e := hk _ _ _ hb
  refine ⟨hr.1, ?_⟩
  rcases hr.2 with h1 | ⟨g, cap, cur, h1, h2, h3, h4⟩
  · exact Or.inl h1
  · refine Or.inr ⟨g, cap, cur, h1, h2, ?_, h4⟩
    have : g = gs i := by
      unfold rowV at h1
      simp only [Value.slice.injEq, Option.some.injEq, Addr.mk.injEq, and_true] at h1
      exact h1.1.symm
    subst this
    exact e.trans h3
/-- one way more -/
theorem Rws.snoc {W W' : World} {lo : Nat} {pre : List (List Nat)} {x : List Nat} {gs cs : Nat → Nat} {g c : Nat} (h : Rws W lo pre gs cs) (h' : Rws W' lo pre gs cs) (hn : W'.ownsRow lo 3 1 (.slice (some ⟨g, 0, none⟩) (clip x).length c) (clip x).length (plist (clip x))) (hg : W.heap.size ≤ g) : Rws W' lo (pre ++ [x]) (upd' gs pre.length g) (upd' cs pre.length c) := by
  refine ⟨fun i hi => ?_, fun i j hij hj => ?_⟩
  · simp at hi
    by_cases e : i = pre.length
    · subst e
      have : rowV (pre ++ [x]) (upd' gs pre.length g) (upd' cs pre.length c) pre.length = .slice (some ⟨g, 0, none⟩) (clip x).length c := by simp only [rowV, wayAt_new, upd', if_true]
      rw [this, wayAt_new]; exact hn
    · rw [rowV_old pre x gs cs g c (by omega), wayAt_old pre x (by omega)]; exact h'.row i (by omega)
  · simp at hj
    have old : ∀ i, i < pre.length → gs i < W.heap.size := fun i hi => by
      obtain ⟨_, _, hb, _⟩ := row_type (g := gs i) (c := cs i) (h.row i hi) rfl
      exact (Array.getElem?_eq_some_iff.1 hb).1
    by_cases e : j = pre.length
    · subst e
      have := old i hij
      simp only [upd', if_true, if_neg (show i ≠ pre.length by omega)]; omega
    · simp only [upd', if_neg e, if_neg (show i ≠ pre.length by omega)]; exact h.ne i j hij (by omega)
theorem stepIn_append {F : Fence} {n : Nat} {P : Program} {w : World} {ops : Array Oper} {o : Oper} {a : Act} {K : Act → World → Prop} {Q : Exit → Act → World → Prop} {E : Prop} (hgd : o.guard = none) (s x : Operand) (t : TypeId)
    (hop : o.op = .call { callee := .builtin .append, args := #[s, x], argTypes := #[t, t] })
    (base : Nat) (e : TypeId) (i : TypeInfo) (z : Value) (bytes : Nat) (ht : P.underlying t = some (.slice e)) (hi : P.info? e = some i) (hz : i.zero = some z) (h4 : i.size = 1) (h5 : i.bytes = bytes) (h6 : z.cells.size = 1)
    (v : Value) (k : Nat) (xs : List Value) (hs : a.eval s = v) (hown : w.ownsRow base e 1 v k xs) (ad : Addr) (c : Nat) (u : Value) (hx : a.eval x = .slice (some ad) 1 c) (hc : w.cell? ad = some u) (h1 : u.oneCell' = true)
    (b1 : k + 1 ≤ maxLen) (b2 : (k + 1) * bytes ≤ 140737488355328) (b3 : base ≤ w.heap.size)
    (hK : ∀ v' w', w'.ownsRow base e 1 v' (k + 1) (xs ++ [u]) → w.grownBy w' v.ownBlock → K (a.put o.dst v') w') :
    if Region.wanted o (yielded ops a.tmps) = true then Oper.wpIn F n P o a w K Q else E := by
  have hw : Region.wanted o (yielded ops a.tmps) = true := by simp [Region.wanted, hgd]
  rw [if_pos hw]
  obtain ⟨v', w', hrun, r1, r2, _⟩ := run_append_own (P := P) w base t o.type e i z 1 bytes ht hi hz h4 h5 h6 (by omega) v k xs hown ad 1 c [u] rfl (fun j q hq => by
    have hj : j = 0 := by have := (List.getElem?_eq_some_iff.1 hq).1; simp at this; omega
    subst hj
    simp at hq
    subst hq
    have hadd : ad.add 0 = ad := by unfold Addr.add; split <;> simp_all
    rw [hadd]; exact hc) (fun q hq => by simp at hq; subst hq; exact h1) b1 b2 b3
  unfold Oper.wpIn
  refine ⟨by simp [Oper.about, hop, resolve, Target.leads, Sem.run_pure], ?_⟩
  rw [Oper.semAt_plain F _ _ (by rw [hop]; intro c hc'; cases hc')]
  simp [execOp, hop, resolve, invoke, builtin, hs, hx, hrun, Result.andThen]
  exact hK _ _ r1 r2

/-- what stands while ways are collected -/
def AllI (w : World) (pre : List (List Nat)) (W : World) : Prop :=
  (∃ v gs cs, Boxed W (w.heap.size + 1) 41 v ∧ W.ownsRow (w.heap.size + 2) 30 1 v pre.length (rowVs pre gs cs) ∧ Rws W (w.heap.size + 2) pre gs cs) ∧ Below w.heap.size w W
theorem allI_own (w : World) {B : Nat} (hB : w.heap.size ≤ B) : OwnFrom B (AllI w) := by
  rintro pre A A' row ⟨⟨v, gs, cs, h1, h2, h3⟩, h4⟩ hg hr
  have hr' : ∀ r, row = some r → ∃ o : Obj, A.heap[r]? = some o ∧ o.isCells = false := fun r e => (hr r e).2
  have hsame : ∀ (k : Nat) (cs : Array Value) (t : TypeId) (fr : Nat × Nat), A.heap[k]? = some (Obj.cells cs t fr) → A'.heap[k]? = A.heap[k]? := fun k cs t fr hk =>
    hg.block k (Array.getElem?_eq_some_iff.1 hk).1 (fun e => by
      obtain ⟨o, ho, hc⟩ := hr' k e.symm
      rw [hk] at ho; cases ho; cases hc)
  refine ⟨⟨v, gs, cs, (hsame _ _ _ _ h1).trans h1, ?_, h3.kept hg.size (fun k c fr hk => hsame k c _ fr hk)⟩, ownFrom_below (n₀ := w.heap.size) (B := B) (w₀ := w) (Nat.le_refl _) hB () A A' row h4 hg hr⟩
  refine ⟨h2.1, ?_⟩
  rcases h2.2 with q | ⟨g, cap, cur, q1, q2, q3, q4⟩
  · exact Or.inl q
  · exact Or.inr ⟨g, cap, cur, q1, q2, (hsame _ _ _ _ q3).trans q3, q4⟩

theorem own_kept2 {w w' : World} {base : Nat} {e : TypeId} {size : Nat} {v : Value} {n : Nat} {xs : List Value} (h : w.ownsRow base e size v n xs) (hb : ∀ g, g < w.heap.size → w'.heap[g]? = w.heap[g]?) : w'.ownsRow base e size v n xs := by
  refine ⟨h.1, ?_⟩
  rcases h.2 with h1 | ⟨g, cap, cur, h1, h2, h3, h4⟩
  · exact Or.inl h1
  · exact Or.inr ⟨g, cap, cur, h1, h2, (hb g (Array.getElem?_eq_some_iff.1 h3).1).trans h3, h4⟩
theorem own_low {w : World} {base base' : Nat} {e : TypeId} {size : Nat} {v : Value} {n : Nat} {xs : List Value} (h : w.ownsRow base e size v n xs) (hb : base' ≤ base) : w.ownsRow base' e size v n xs := by
  refine ⟨h.1, ?_⟩
  rcases h.2 with h1 | ⟨g, cap, cur, h1, h2, h3⟩
  · exact Or.inl h1
  · exact Or.inr ⟨g, cap, cur, h1, by omega, h3⟩
theorem own_high {w w' : World} {base base' : Nat} {e : TypeId} {size : Nat} {v : Value} {n : Nat} {xs : List Value} (h : w.ownsRow base e size v n xs) (h' : w'.ownsRow base' e size v n xs) : w.ownsRow base' e size v n xs := by
  refine ⟨h.1, ?_⟩
  rcases h.2 with h1 | ⟨g, cap, cur, h1, h2, h3⟩
  · exact Or.inl h1
  · rcases h'.2 with ⟨q, _⟩ | ⟨g', cap', cur', q, q2, _⟩
    · rw [q] at h1; simp at h1
    · rw [h1] at q
      simp only [Value.slice.injEq, Option.some.injEq, Addr.mk.injEq, and_true, true_and] at q
      exact Or.inr ⟨g, cap, cur, h1, by omega, h3⟩
theorem own_at {w w' : World} {base : Nat} {e : TypeId} {size g n c : Nat} {xs : List Value} (h : w.ownsRow base e size (.slice (some ⟨g, 0, none⟩) n c) n xs) (hb : w'.heap[g]? = w.heap[g]?) : w'.ownsRow base e size (.slice (some ⟨g, 0, none⟩) n c) n xs := by
  refine ⟨h.1, ?_⟩
  rcases h.2 with h1 | ⟨g', cap, cur, h1, h2, h3, h4⟩
  · exact Or.inl h1
  · have : g' = g := by simp only [Value.slice.injEq, Option.some.injEq, Addr.mk.injEq, and_true, true_and] at h1; exact h1.1.symm
    subst this
    exact Or.inr ⟨g', cap, cur, h1, h2, hb.trans h3, h4⟩
/-- all ways in memory of the call's own -/
def AllR (W : World) (lo : Nat) (ao : Option Addr) (ps : List (List Nat)) : Prop :=
  (ps = [] ∧ ao = none) ∨ ∃ G gs cs, ao = some ⟨G, 0, none⟩ ∧ lo ≤ G ∧ OwnI W G ps.length (rowV ps gs cs) ∧ Rws W lo ps gs cs ∧ ∀ i, i < ps.length → gs i ≠ G
/-- what the body of the loop does -/
theorem allI_snoc {w W W2 w4 : World} {pre : List (List Nat)} {x : List Nat} {v v' : Value} {gs cs : Nat → Nat} {g c : Nat} (hB : Below w.heap.size w W)
    (h1 : Boxed W (w.heap.size + 1) 41 v) (h2 : W.ownsRow (w.heap.size + 2) 30 1 v pre.length (rowVs pre gs cs)) (h3 : Rws W (w.heap.size + 2) pre gs cs)
    (hb2 : Below W.heap.size W W2) (hn : W2.ownsRow (W.heap.size + 1) 3 1 (.slice (some ⟨g, 0, none⟩) (clip x).length c) (clip x).length (plist (clip x))) (hl : w.heap.size + 2 ≤ W.heap.size)
    (h4 : w4.ownsRow (w.heap.size + 2) 30 1 v' (pre.length + 1) (rowVs pre gs cs ++ [.slice (some ⟨g, 0, none⟩) (clip x).length c])) (hgr : (W2.alloc (.cells #[.slice (some ⟨g, 0, none⟩) (clip x).length c] 30)).grownBy w4 v.ownBlock) :
    Boxed w4 (w.heap.size + 1) 41 v ∧ AllI w (pre ++ [x]) (w4.setCell ⟨w.heap.size + 1, 0, none⟩ v') ∧ KpT W (w4.setCell ⟨w.heap.size + 1, 0, none⟩ v') ∧ KeepsOthers W (w4.setCell ⟨w.heap.size + 1, 0, none⟩ v') := by
  have hv2 : Boxed W2 (w.heap.size + 1) 41 v := (hb2.block _ h1.lt).trans h1
  have hr2 : W2.ownsRow (w.heap.size + 2) 30 1 v pre.length (rowVs pre gs cs) := own_kept2 h2 (fun g hg => hb2.block g hg)
  obtain ⟨a1, a2, a3, a4, a5⟩ := hv2.appended (n₀ := w.heap.size + 2 - 1) (by decide) (own_low hr2 (by omega)) (by have := hb2.size; omega) (by omega) (own_low h4 (by omega)) hgr
  have hS : W.heap.size ≤ W2.heap.size := hb2.size
  have hz : W2.heap.size + 1 ≤ w4.heap.size := by have := hgr.size; simpa using this
  -- blocks of other types lie as they lay
  have same2 : ∀ (k : Nat) (cs : Array Value) (t : TypeId) (fr : Nat × Nat), W2.heap[k]? = some (Obj.cells cs t fr) → t ≠ 30 → t ≠ 41 → (w4.setCell ⟨w.heap.size + 1, 0, none⟩ v').heap[k]? = W2.heap[k]? := fun k ce t fr hk t1 t2 => by
    have hkl := (Array.getElem?_eq_some_iff.1 hk).1
    have e1 : k ≠ w.heap.size + 1 := fun e => by
      subst e
      rw [show W2.heap[w.heap.size + 1]? = _ from hv2] at hk
      cases hk; exact t2 rfl
    refine (Below.heap_setCell _ _ _ _ (by show k ≠ w.heap.size + 1; exact e1)).trans ((hgr.block k (by simp; omega) (fun e => ?_)).trans (Below.heap_alloc _ _ _ hkl))
    rcases hr2.2 with ⟨q, _⟩ | ⟨G, cap, cur, q, _, hG, _⟩
    · rw [q] at e; simp [Value.ownBlock] at e
    · rw [q] at e
      simp [Value.ownBlock] at e
      subst e
      rw [hG] at hk; cases hk; exact t1 rfl
  have same1 : ∀ (k : Nat) (cs : Array Value) (t : TypeId) (fr : Nat × Nat), W.heap[k]? = some (Obj.cells cs t fr) → t ≠ 30 → t ≠ 41 → (w4.setCell ⟨w.heap.size + 1, 0, none⟩ v').heap[k]? = W.heap[k]? := fun k ce t fr hk t1 t2 => by
    have e := hb2.block k (Array.getElem?_eq_some_iff.1 hk).1
    exact (same2 k ce t fr (e.trans hk) t1 t2).trans e
  have hsz : (w4.setCell ⟨w.heap.size + 1, 0, none⟩ v').heap.size = w4.heap.size := by simp [World.setCell]
  refine ⟨a1, ⟨⟨v', upd' gs pre.length g, upd' cs pre.length c, a2, ?_, ?_⟩, ?_⟩, ⟨by rw [hsz]; omega, same1⟩, ?_⟩
  · rw [rowVs_snoc]
    have hl2 : (pre ++ [x]).length = pre.length + 1 := by simp
    rw [hl2]
    exact own_high a3 h4
  · refine h3.snoc (h3.kept (by rw [hsz]; omega) (fun k ce fr hk => same1 k ce _ fr hk (by decide) (by decide))) ?_ ?_
    · obtain ⟨ce, fr, hb, hlo⟩ := row_type (g := g) (c := c) hn rfl
      exact own_low (own_at hn (same2 g ce _ fr hb (by decide) (by decide))) (by omega)
    · obtain ⟨_, _, _, hlo⟩ := row_type (g := g) (c := c) hn rfl
      omega
  · exact hB.trans ((hb2.mono hB.size).trans (a5.mono (by omega)))
  · exact (⟨hb2.size, fun k o hk _ => (hb2.block k (Array.getElem?_eq_some_iff.1 hk).1).trans hk⟩ : KeepsOthers W W2).trans a4

end Go.Proofs.YtncjdbhicpgfkaaDoor

/- Walk of impl.WayAll. -/
namespace Go.Proofs.YtncjdbhicpgfkaaDoor
open Go.RowKit Go.Shelf
set_option linter.unusedVariables false
attribute [local go_sem] Oper.semAt_some

theorem own_rws_low {W : World} {lo lo' : Nat} {pre : List (List Nat)} {gs cs : Nat → Nat} (h : Rws W lo pre gs cs) (hl : lo' ≤ lo) : Rws W lo' pre gs cs := ⟨fun i hi => own_low (h.row i hi) hl, h.ne⟩
set_option maxRecDepth 100000 in
set_option maxHeartbeats 1000000 in
theorem implAll_any (K : Int) (ao : Option Addr) (cap : Nat) (ts : List (Int × Int)) (a b : Int) (w : World) (hn : ts.length ≤ 1099511627776) (ht : TiesIn w w.heap.size ao ts) (hfew : (waysB K ts a b).length ≤ 20000000) :
    Calls Tryd.prog 42 #[.agg #[.int .i64 K, .slice ao ts.length cap], .int .i64 a, .int .i64 b] w fun e w' => ∃ ao' cap', e = .returned (.slice ao' (waysB K ts a b).length cap') ∧ AllR w' w.heap.size ao' (waysB K ts a b) ∧ Below w.heap.size w w' := by
  have HT := hideP ht
  obtain ⟨i0, hi0, hz0, hz1, hz2⟩ := info_parts Tryd.infoInts
  have HI : Hid (Tryd.prog.info? 30 = some i0 ∧ i0.zero = some (.slice none 0 0) ∧ i0.size = 1 ∧ i0.bytes = 24) := ⟨hi0, hz0, hz1, hz2⟩
  clear ht hi0 hz0 hz1 hz2
  refine (callsIn_wide (n := 5)).1 ?_
  refine callsIn_of_wp_marks Tryd.func42 rfl trivial ?_ rfl
  simp only [Tryd.ntmps42, List.size_toArray, List.length_cons, List.length_nil, Nat.reduceAdd, Nat.reduceSub, Array.replicate_succ, Array.replicate_zero, List.push_toArray, List.append_toArray, List.nil_append, List.cons_append]
  gi_wp2_with fail
  refine ⟨trivial, (callsIn_wide.2 (waysOf_in 0 K (.slice ao ts.length cap) a b _)).mono ?_⟩
  have X7 : Hid (Boxed ((w.alloc (.cells #[.int .i64 K, .slice ao ts.length cap] 25)).alloc (.cells #[.slice none 0 0] 41)) (w.heap.size + 1) 41 (.slice none 0 0)) := by
    have := Boxed.new (w.alloc (.cells #[.int .i64 K, .slice ao ts.length cap] 25)) 41 (.slice none 0 0)
    rw [World.size_alloc] at this
    exact this
  have BB : Hid (Below w.heap.size w ((w.alloc (.cells #[.int .i64 K, .slice ao ts.length cap] 25)).alloc (.cells #[.slice none 0 0] 41))) := ((Below.refl _ w).alloc (Nat.le_refl _) _).alloc (by simp) _
  have hsz : ((w.alloc (.cells #[.int .i64 K, .slice ao ts.length cap] 25)).alloc (.cells #[.slice none 0 0] 41)).heap.size = w.heap.size + 2 := by simp
  obtain ⟨w0, hw0⟩ : ∃ w0, w0 = ((w.alloc (.cells #[.int .i64 K, .slice ao ts.length cap] 25)).alloc (.cells #[.slice none 0 0] 41)) := ⟨_, rfl⟩
  rw [← hw0] at X7 BB hsz ⊢
  clear hw0
  rintro e w1 ⟨rfl, hK1, hb1⟩
  have KK := hideP hK1
  have Y7 : Hid (Boxed w1 (w.heap.size + 1) 41 (.slice none 0 0)) := (hb1.block _ X7.out.lt).trans X7.out
  have B1 : Hid (Below w.heap.size w w1) := BB.out.trans (hb1.mono BB.out.size)
  have hs1 : w.heap.size + 2 ≤ w1.heap.size := by have := hb1.size; omega
  have T1 := hideP ((HT.out.below B1.out (Nat.le_refl _)).wide B1.out.size)
  have A1 : Hid (AllI w [] w1) := ⟨⟨.slice none 0 0, fun _ => 0, fun _ => 0, Y7.out, World.ownsRow_nil _ _ _ _, ⟨fun i hi => absurd hi (by simp), fun i j _ hj => absurd hj (by simp)⟩⟩, B1.out⟩
  clear hK1 hb1 X7 BB HT
  rw [hsz] at KK ⊢
  gi_wp2_with fail
  refine wpIn_rangeFunc_ownH (α := List Nat) rfl (by omega) (gf := 101) (lb := #[.pointer (some ⟨w.heap.size + 2, 0, none⟩), .pointer (some ⟨w.heap.size + 2 + 1, 0, none⟩), .pointer (some ⟨w.heap.size + 2 + 2, 0, none⟩)]) rfl trivial (enters_of Tryd.func101 (by kernel_rfl) rfl)
    (ways_stops _ _ K ao cap ts a b w1 hn T1.out KK.out) (fun h k => KpT.trans h k) (fun W l o o' _ h hc _ => KpT.putObj W l o o' h hc) (Below.refl _ _) (fun _ => rfl)
    (AllI w) (fun _ _ _ => False) (allI_own w B1.out.size) (fun _ _ _ _ _ hs _ _ => hs) A1.out
    (fun x a' W => ∃ Bx, w.heap.size + 2 ≤ Bx ∧ W.heap[Bx]? = some (Obj.cells #[.int .i64 (xi (cI (clip x)) 0), .int .i64 (xi (cI (clip x)) 1), .int .i64 (xi (cI (clip x)) 2), .int .i64 (xi (cI (clip x)) 3), .int .i64 (xi (cI (clip x)) 4), .int .i64 (xi (cI (clip x)) 5), .int .i64 (xi (cI (clip x)) 6), .int .i64 (xi (cI (clip x)) 7), .int .i64 ((cI (clip x)).length : Int)] 73 (0, 0)) ∧ a' = { tmps := #[.agg #[.int .i64 K, .slice ao ts.length cap], .int .i64 a, .int .i64 b, .pointer (some ⟨w.heap.size, 0, none⟩), undef, undef, .slice none 0 0, .pointer (some ⟨w.heap.size + 1, 0, none⟩), .pointer (some ⟨Bx, 0, none⟩), .agg #[.int .i64 K, .slice ao ts.length cap], .int .i64 a, .int .i64 b, .func (.func 101) #[] #[.pointer (some ⟨w.heap.size + 2, 0, none⟩), .pointer (some ⟨w.heap.size + 2 + 1, 0, none⟩), .pointer (some ⟨w.heap.size + 2 + 2, 0, none⟩)], pathV (cI (clip x)), undef, undef, undef, undef, undef, undef], defers := [] }) ?hAx ?assign ?body ?done ?stop
  case hAx =>
    rintro x a' s A B row ⟨Bx, h1, h2, h3⟩ hg hr
    refine ⟨Bx, h1, (hg.block Bx (Array.getElem?_eq_some_iff.1 h2).1 (fun e => ?_)).trans h2, h3⟩
    obtain ⟨_, o, ho, hc⟩ := hr Bx e.symm
    rw [h2] at ho; cases ho; cases hc
  case assign =>
    rintro l pre x W K' hA hK
    have HK := hideP hK
    have HA := hideP hA
    have h7lt : w.heap.size + 1 < W.heap.size := by obtain ⟨⟨v, gs, cs, h1, _⟩, _⟩ := hA; exact h1.lt
    clear hK hA
    unfold pathV
    gi_wp2
    exact HK.out _ _ ((KeepsOthers.alloc _ _).from _) (KpT.below (below_one _ _)) (allI_own w (Nat.le_refl _) pre W _ none HA.out (World.grownBy_alloc W _ none) (fun r e => by cases e)) ⟨W.heap.size, by omega, World.alloc_heap_new W _, rfl⟩
  case body =>
    rintro l pre x a' W hl hr ⟨⟨v, gs, cs, h1, h2, h3⟩, hB⟩ ⟨Bx, hBx, bX, rfl⟩ hlt
    obtain ⟨c0, c1, c2, c3, c4, c5, c6, c7, c8⟩ := path_cells bX
    have HL : Hid (∀ w', Calls Tryd.prog 69 #[pathV (cI (clip x))] w' fun e w2 => ∃ g cap, e = .returned (.slice (some ⟨g, 0, none⟩) (clip x).length cap) ∧ w2.ownsRow (w'.heap.size + 1) 3 1 (.slice (some ⟨g, 0, none⟩) (clip x).length cap) (clip x).length (plist (clip x)) ∧ Below w'.heap.size w' w2) := fun w' => list_any (clip x) w' (clip_pos x) (clip_le x)
    have e7 := h1.cell
    have H1 := hideP h1
    have H2 := hideP h2
    have H3 := hideP h3
    have HB := hideP hB
    have hl2 : w.heap.size + 2 ≤ W.heap.size := by have := h1.lt; omega
    have hmix : Tryd.prog.follows .mixedOrders = true := by kernel_rfl
    have hpl : pre.length < 20000000 := by omega
    unfold pathV at HL ⊢
    clear h1 h2 h3 hB bX hr hlt
    gi_wp2_with fail
    refine wpIn_region_any hmix ?_
    try (change wpAnyIn _ _ _ _ _ _ _ _ _ (World.drew _))
    refine wpAnyIn_ready (rs := [0, 1]) (by kernel_rfl) (by simp) ?_
    refine AllReadyIn.cons rfl (fun K' hK => ?_) (AllReadyIn.cons rfl (fun K' hK => ?_) AllReadyIn.nil)
    · go_simp
      refine hK _ _ ?_
      clear hK K'
      refine wpAnyIn_ready (rs := [1]) (by kernel_rfl) (by simp) ?_
      refine AllReadyIn.cons rfl (fun K' hK => ?_) AllReadyIn.nil
      go_simp
      refine hK _ _ ?_
      clear hK K'
      refine wpAnyIn_ready (rs := [2]) (by kernel_rfl) (by simp) ?_
      refine AllReadyIn.cons rfl (fun K' hK => ?_) AllReadyIn.nil
      go_simp
      refine ⟨trivial, (CallsIn.inRound l (callsIn_wide.2 (HL.out _))).mono ?_⟩
      rintro e W2 ⟨g, c, rfl, ho, hb2⟩
      have hb2' : Below W.heap.size W W2 := ((Below.refl _ _).drew).trans hb2
      have ho' : W2.ownsRow (W.heap.size + 1) 3 1 (.slice (some ⟨g, 0, none⟩) (clip x).length c) (clip x).length (plist (clip x)) := ho
      have d7 : W2.cell? ⟨w.heap.size + 1, 0, none⟩ = some v := (hb2'.cell (p := ⟨w.heap.size + 1, 0, none⟩) H1.out.lt).trans H1.out.cell
      refine hK _ _ ?_
      clear hK K' hb2 ho
      refine wpAnyIn_ready (rs := [3]) (by kernel_rfl) (by simp) ?_
      refine AllReadyIn.cons rfl (fun K' hK => ?_) AllReadyIn.nil
      go_simp
      refine hK _ _ ?_
      clear hK K'
      refine wpAnyIn_ready (rs := [4]) (by kernel_rfl) (by simp) ?_
      refine AllReadyIn.cons rfl (fun K' hK => ?_) AllReadyIn.nil
      refine stepIn_append rfl _ _ _ rfl (w.heap.size + 2) 30 i0 _ 24 Tryd.underlying41 HI.out.1 HI.out.2.1 HI.out.2.2.1 HI.out.2.2.2 rfl v pre.length (rowVs pre gs cs) (by rfl) ((own_kept2 H2.out (fun g hg => hb2'.block g hg)).alloc _) ⟨W2.heap.size, 0, none⟩ 1 (.slice (some ⟨g, 0, none⟩) (clip x).length c) (by rfl) (by rw [World.cell?_alloc_at _ _ _ _ rfl]; rfl) rfl (by unfold maxLen; omega) (by omega) (by have := hb2'.size; simp; omega) ?_
      intro v' w4 hown' hgr
      obtain ⟨q1, q2, q3, q4⟩ := allI_snoc HB.out H1.out H2.out H3.out hb2' ho' hl2 hown' hgr
      obtain ⟨g', cap', rfl⟩ := ownsRow_succ hown'
      have r1 := q1.cell
      have r2 := q1.frozen
      have Q2 := hideP q2
      have Q3 := hideP q3
      have Q4 := hideP q4
      refine hK _ _ ?_
      clear hK K' hown' hgr q1 q2 q3 q4
      refine wpAnyIn_ready (rs := [5]) (by kernel_rfl) (by simp) ?_
      refine AllReadyIn.cons rfl (fun K' hK => ?_) AllReadyIn.nil
      go_simp
      refine hK _ _ ?_
      clear hK K'
      refine wpAnyIn_done (by kernel_rfl) ?_ _
      exact ⟨Q4.out.from _, Q3.out, Q2.out⟩
    · go_simp
      refine hK _ _ ?_
      clear hK K'
      refine wpAnyIn_ready (rs := [0, 2]) (by kernel_rfl) (by simp) ?_
      refine AllReadyIn.cons rfl (fun K' hK => ?_) (AllReadyIn.cons rfl (fun K' hK => ?_) AllReadyIn.nil)
      · go_simp
        refine hK _ _ ?_
        clear hK K'
        refine wpAnyIn_ready (rs := [2]) (by kernel_rfl) (by simp) ?_
        refine AllReadyIn.cons rfl (fun K' hK => ?_) AllReadyIn.nil
        go_simp
        refine ⟨trivial, (CallsIn.inRound l (callsIn_wide.2 (HL.out _))).mono ?_⟩
        rintro e W2 ⟨g, c, rfl, ho, hb2⟩
        have hb2' : Below W.heap.size W W2 := ((Below.refl _ _).drew).trans hb2
        have ho' : W2.ownsRow (W.heap.size + 1) 3 1 (.slice (some ⟨g, 0, none⟩) (clip x).length c) (clip x).length (plist (clip x)) := ho
        have d7 : W2.cell? ⟨w.heap.size + 1, 0, none⟩ = some v := (hb2'.cell (p := ⟨w.heap.size + 1, 0, none⟩) H1.out.lt).trans H1.out.cell
        refine hK _ _ ?_
        clear hK K' hb2 ho
        refine wpAnyIn_ready (rs := [3]) (by kernel_rfl) (by simp) ?_
        refine AllReadyIn.cons rfl (fun K' hK => ?_) AllReadyIn.nil
        go_simp
        refine hK _ _ ?_
        clear hK K'
        refine wpAnyIn_ready (rs := [4]) (by kernel_rfl) (by simp) ?_
        refine AllReadyIn.cons rfl (fun K' hK => ?_) AllReadyIn.nil
        refine stepIn_append rfl _ _ _ rfl (w.heap.size + 2) 30 i0 _ 24 Tryd.underlying41 HI.out.1 HI.out.2.1 HI.out.2.2.1 HI.out.2.2.2 rfl v pre.length (rowVs pre gs cs) (by rfl) ((own_kept2 H2.out (fun g hg => hb2'.block g hg)).alloc _) ⟨W2.heap.size, 0, none⟩ 1 (.slice (some ⟨g, 0, none⟩) (clip x).length c) (by rfl) (by rw [World.cell?_alloc_at _ _ _ _ rfl]; rfl) rfl (by unfold maxLen; omega) (by omega) (by have := hb2'.size; simp; omega) ?_
        intro v' w4 hown' hgr
        obtain ⟨q1, q2, q3, q4⟩ := allI_snoc HB.out H1.out H2.out H3.out hb2' ho' hl2 hown' hgr
        obtain ⟨g', cap', rfl⟩ := ownsRow_succ hown'
        have r1 := q1.cell
        have r2 := q1.frozen
        have Q2 := hideP q2
        have Q3 := hideP q3
        have Q4 := hideP q4
        refine hK _ _ ?_
        clear hK K' hown' hgr q1 q2 q3 q4
        refine wpAnyIn_ready (rs := [5]) (by kernel_rfl) (by simp) ?_
        refine AllReadyIn.cons rfl (fun K' hK => ?_) AllReadyIn.nil
        go_simp
        refine hK _ _ ?_
        clear hK K'
        refine wpAnyIn_done (by kernel_rfl) ?_ _
        exact ⟨Q4.out.from _, Q3.out, Q2.out⟩
      · go_simp
        refine ⟨trivial, (CallsIn.inRound l (callsIn_wide.2 (HL.out _))).mono ?_⟩
        rintro e W2 ⟨g, c, rfl, ho, hb2⟩
        have hb2' : Below W.heap.size W W2 := ((Below.refl _ _).drew).trans hb2
        have ho' : W2.ownsRow (W.heap.size + 1) 3 1 (.slice (some ⟨g, 0, none⟩) (clip x).length c) (clip x).length (plist (clip x)) := ho
        have d7 : W2.cell? ⟨w.heap.size + 1, 0, none⟩ = some v := (hb2'.cell (p := ⟨w.heap.size + 1, 0, none⟩) H1.out.lt).trans H1.out.cell
        refine hK _ _ ?_
        clear hK K' hb2 ho
        refine wpAnyIn_ready (rs := [0, 3]) (by kernel_rfl) (by simp) ?_
        refine AllReadyIn.cons rfl (fun K' hK => ?_) (AllReadyIn.cons rfl (fun K' hK => ?_) AllReadyIn.nil)
        · go_simp
          refine hK _ _ ?_
          clear hK K'
          refine wpAnyIn_ready (rs := [3]) (by kernel_rfl) (by simp) ?_
          refine AllReadyIn.cons rfl (fun K' hK => ?_) AllReadyIn.nil
          go_simp
          refine hK _ _ ?_
          clear hK K'
          refine wpAnyIn_ready (rs := [4]) (by kernel_rfl) (by simp) ?_
          refine AllReadyIn.cons rfl (fun K' hK => ?_) AllReadyIn.nil
          refine stepIn_append rfl _ _ _ rfl (w.heap.size + 2) 30 i0 _ 24 Tryd.underlying41 HI.out.1 HI.out.2.1 HI.out.2.2.1 HI.out.2.2.2 rfl v pre.length (rowVs pre gs cs) (by rfl) ((own_kept2 H2.out (fun g hg => hb2'.block g hg)).alloc _) ⟨W2.heap.size, 0, none⟩ 1 (.slice (some ⟨g, 0, none⟩) (clip x).length c) (by rfl) (by rw [World.cell?_alloc_at _ _ _ _ rfl]; rfl) rfl (by unfold maxLen; omega) (by omega) (by have := hb2'.size; simp; omega) ?_
          intro v' w4 hown' hgr
          obtain ⟨q1, q2, q3, q4⟩ := allI_snoc HB.out H1.out H2.out H3.out hb2' ho' hl2 hown' hgr
          obtain ⟨g', cap', rfl⟩ := ownsRow_succ hown'
          have r1 := q1.cell
          have r2 := q1.frozen
          have Q2 := hideP q2
          have Q3 := hideP q3
          have Q4 := hideP q4
          refine hK _ _ ?_
          clear hK K' hown' hgr q1 q2 q3 q4
          refine wpAnyIn_ready (rs := [5]) (by kernel_rfl) (by simp) ?_
          refine AllReadyIn.cons rfl (fun K' hK => ?_) AllReadyIn.nil
          go_simp
          refine hK _ _ ?_
          clear hK K'
          refine wpAnyIn_done (by kernel_rfl) ?_ _
          exact ⟨Q4.out.from _, Q3.out, Q2.out⟩
        · go_simp
          refine hK _ _ ?_
          clear hK K'
          have d8 : (W2.alloc (.cells #[.slice (some ⟨g, 0, none⟩) (clip x).length c] 30)).cell? ⟨w.heap.size + 1, 0, none⟩ = some v := (World.cell?_alloc_past _ _ _ (Nat.lt_of_lt_of_le H1.out.lt hb2'.size)).trans d7
          refine wpAnyIn_ready (rs := [0]) (by kernel_rfl) (by simp) ?_
          refine AllReadyIn.cons rfl (fun K' hK => ?_) AllReadyIn.nil
          go_simp
          refine hK _ _ ?_
          clear hK K'
          refine wpAnyIn_ready (rs := [4]) (by kernel_rfl) (by simp) ?_
          refine AllReadyIn.cons rfl (fun K' hK => ?_) AllReadyIn.nil
          refine stepIn_append rfl _ _ _ rfl (w.heap.size + 2) 30 i0 _ 24 Tryd.underlying41 HI.out.1 HI.out.2.1 HI.out.2.2.1 HI.out.2.2.2 rfl v pre.length (rowVs pre gs cs) (by rfl) ((own_kept2 H2.out (fun g hg => hb2'.block g hg)).alloc _) ⟨W2.heap.size, 0, none⟩ 1 (.slice (some ⟨g, 0, none⟩) (clip x).length c) (by rfl) (by rw [World.cell?_alloc_at _ _ _ _ rfl]; rfl) rfl (by unfold maxLen; omega) (by omega) (by have := hb2'.size; simp; omega) ?_
          intro v' w4 hown' hgr
          obtain ⟨q1, q2, q3, q4⟩ := allI_snoc HB.out H1.out H2.out H3.out hb2' ho' hl2 hown' hgr
          obtain ⟨g', cap', rfl⟩ := ownsRow_succ hown'
          have r1 := q1.cell
          have r2 := q1.frozen
          have Q2 := hideP q2
          have Q3 := hideP q3
          have Q4 := hideP q4
          refine hK _ _ ?_
          clear hK K' hown' hgr q1 q2 q3 q4
          refine wpAnyIn_ready (rs := [5]) (by kernel_rfl) (by simp) ?_
          refine AllReadyIn.cons rfl (fun K' hK => ?_) AllReadyIn.nil
          go_simp
          refine hK _ _ ?_
          clear hK K'
          refine wpAnyIn_done (by kernel_rfl) ?_ _
          exact ⟨Q4.out.from _, Q3.out, Q2.out⟩
  case done =>
    rintro D xs W hD hxs ⟨⟨v, gs, cs, h1, h2, h3⟩, hB⟩ hK
    have hxs' : xs = waysB K ts a b := hxs
    rw [hxs'] at h2 h3
    have e7 := h1.cell
    have HB := hideP hB
    have H1 := hideP h1
    have H2 := hideP h2
    have H3 := hideP h3
    clear h1 h2 h3 hB hxs hxs'
    obtain ⟨N, hN⟩ : ∃ N, N = (waysB K ts a b).length := ⟨_, rfl⟩
    have HV : Hid ((waysB K ts a b = [] ∧ v = .slice none 0 0) ∨ ∃ G c, v = .slice (some ⟨G, 0, none⟩) (waysB K ts a b).length c ∧ w.heap.size + 2 ≤ G) := by
      rcases H2.out.2 with ⟨q1, q2⟩ | ⟨G, c, cur, q1, q2, _⟩
      · exact Or.inl ⟨List.length_eq_zero_iff.1 q2, q1⟩
      · exact Or.inr ⟨G, c, q1, q2⟩
    rcases HV.out with ⟨q1, q2⟩ | ⟨G, c, q1, q2⟩
    · rw [q2] at e7
      gi_wp2
      refine ⟨by simp, .inl ⟨_, _, rfl, run_takeDeferred hK, ?_⟩⟩
      refine ⟨.slice none 0 0, by simp [results, Tryd.f42, go_sem], none, 0, by rw [q1]; rfl, Or.inl ⟨q1, rfl⟩, HB.out.trans (belowK_b (w := w) (Nat.le_refl _) W D _ _ (by omega) hK rfl rfl)⟩
    · rw [q1] at e7
      have HO := hideP (q1 ▸ H2.out)
      gi_wp2
      refine ⟨by simp, .inl ⟨_, _, rfl, run_takeDeferred hK, ?_⟩⟩
      refine ⟨.slice (some ⟨G, 0, none⟩) (waysB K ts a b).length c, by simp [results, Tryd.f42, go_sem], some ⟨G, 0, none⟩, c, rfl, Or.inr ⟨G, gs, cs, rfl, by omega, ?_, ?_, ?_⟩, HB.out.trans (belowK_b (w := w) (Nat.le_refl _) W D _ _ (by omega) hK rfl rfl)⟩
      · have hp := ownsRow_putObj HO.out (.deferred none) hK rfl
        by_cases h0 : (waysB K ts a b).length = 0
        · obtain ⟨ce, fr, hb, _⟩ := row_type (g := G) (c := c) hp rfl
          exact ⟨fun j hj => absurd hj (by omega), fun j => hp.frozenAt j, (Array.getElem?_eq_some_iff.1 hb).1⟩
        · obtain ⟨g', cap', e, r1, r2⟩ := hp.form (by omega)
          simp only [Value.slice.injEq, Option.some.injEq, Addr.mk.injEq, and_true, true_and] at e
          obtain ⟨rfl, _⟩ := e
          refine ⟨fun j hj => ?_, fun j => hp.frozenAt j, r2⟩
          rw [hp.cellAt j (by omega)]
          simp [rowVs, hj]
      · refine own_rws_low (H3.out.kept (by simp) (fun k ce fr hk => World.putObj_heap_other (fun e => by subst e; rw [hK] at hk; cases hk))) (by omega)
      · intro i hi e
        obtain ⟨c1, f1, hb1, _⟩ := row_type (g := gs i) (c := cs i) (H3.out.row i hi) rfl
        obtain ⟨c2, f2, hb2, _⟩ := row_type (g := G) (c := c) HO.out rfl
        rw [e, hb2] at hb1
        simp at hb1
  case stop =>
    rintro D c pre W hD hpre hf hK
    exact hf.elim

end Go.Proofs.YtncjdbhicpgfkaaDoor

/- Rows of ways that are read; walks of laws.loInts, laws.loAhead over any two rows. -/
namespace Go.Proofs.YtncjdbhicpgfkaaDoor
open Go.RowKit
set_option linter.unusedVariables false

/-- all ways behind an address, read -/
structure AllV (W : World) (ao : Option Addr) (ps : List (List Nat)) : Prop where
  at' : ∀ i, i < ps.length → ∃ G off g c, ao = some ⟨G, off, none⟩ ∧ G < W.heap.size ∧ W.cell? ⟨G, off + i, none⟩ = some (.slice (some ⟨g, 0, none⟩) (ps.getD i []).length c) ∧ RowV W W.heap.size (some ⟨g, 0, none⟩) (ps.getD i []).length (pcellN (pn (ps.getD i [])))
theorem AllV.next {W W' : World} {ao : Option Addr} {ps : List (List Nat)} (h : AllV W ao ps) (hb : Below W.heap.size W W') : AllV W' ao ps := ⟨fun i hi => by
  obtain ⟨G, off, g, c, h1, h2, h3, h4⟩ := h.at' i hi
  exact ⟨G, off, g, c, h1, Nat.lt_of_lt_of_le h2 hb.size, (hb.cell (p := ⟨G, off + i, none⟩) h2).trans h3, (h4.next hb).wide hb.size⟩⟩
theorem AllR.seen {W : World} {lo : Nat} {ao : Option Addr} {ps : List (List Nat)} (h : AllR W lo ao ps) (hp : ∀ q, q ∈ ps → 0 < q.length ∧ q.length ≤ 8) : AllV W ao ps := ⟨fun i hi => by
  rcases h with ⟨h1, _⟩ | ⟨G, gs, cs, h1, h2, h3, h4, h5⟩
  · rw [h1] at hi; simp at hi
  have hm : ps.getD i [] ∈ ps := by simp [hi]
  have hc : wayAt ps i = ps.getD i [] := clip_is (hp _ hm).1 (hp _ hm).2
  have hr := h4.row i hi
  unfold rowV at hr
  rw [hc] at hr
  obtain ⟨ow, _, hlt⟩ := row_own hr rfl (hp _ hm).1
  refine ⟨G, 0, gs i, cs i, h1, h3.2.2, ?_, fun j hj => ⟨gs i, 0, rfl, hlt, by rw [Nat.zero_add]; exact ow.1 j hj⟩⟩
  rw [Nat.zero_add, h3.1 i hi]
  unfold rowV
  rw [hc]⟩
theorem implAll_v (ps : List (List Nat)) (K : Int) (ao : Option Addr) (cap : Nat) (ts : List (Int × Int)) (a b : Int) (w : World) (hn : ts.length ≤ 1099511627776) (ht : TiesIn w w.heap.size ao ts) (hp : waysB K ts a b = ps) :
    Calls Tryd.prog 42 #[.agg #[.int .i64 K, .slice ao ts.length cap], .int .i64 a, .int .i64 b] w fun e w' => ∃ ao' cap', e = .returned (.slice ao' ps.length cap') ∧ AllV w' ao' ps ∧ Below w.heap.size w w' := by
  subst hp
  refine (implAll_any K ao cap ts a b w hn ht (waysB_few K ts a b)).mono ?_
  rintro e w' ⟨ao', cap', rfl, h, hb⟩
  exact ⟨ao', cap', rfl, h.seen (fun q hq => waysB_len hq), hb⟩
/-- two rows are the same up to there -/
def SameTo (p q : List Nat) (k : Nat) : Prop := ∀ j, j < k → pn p j = pn q j
theorem same_all {p q : List Nat} (hl : p.length = q.length) (h : SameTo p q p.length) : p = q := by
  apply List.ext_getElem hl
  intro i h1 h2
  have := h i h1
  simp [pn, h1, h2] at this
  exact this
theorem loInts_any (v : Bool) (a1 a2 : Option Addr) (cap1 cap2 : Nat) (p q : List Nat) (w : World) (h8 : p.length ≤ 1000) (h9 : q.length ≤ 1000) (h1 : RowV w w.heap.size a1 p.length (pcellN (pn p))) (h2 : RowV w w.heap.size a2 q.length (pcellN (pn q))) (hv : decide (p = q) = v) :
    Calls Tryd.prog 18 #[.slice a1 p.length cap1, .slice a2 q.length cap2] w fun e w' => e = .returned (.bool v) ∧ Below w.heap.size w w' := by
  by_cases hl : p.length = q.length
  · obtain ⟨n, hnn⟩ : ∃ n, n = p.length := ⟨_, rfl⟩
    have hq : q.length = n := by omega
    have HV : Hid ((∃ j, j < n ∧ pn p j ≠ pn q j) → v = false) := fun ⟨j, hj, hne⟩ => by
      rw [← hv]; exact decide_eq_false (fun e => hne (by rw [e]))
    have HY : Hid (SameTo p q n → v = true) := fun h => by
      rw [← hv]; exact decide_eq_true (same_all hl (by rw [← hnn]; exact h))
    rw [hq] at h2 h9 ⊢
    rw [← hnn] at h1 h8 ⊢
    have HR1 := hideP h1
    have HR2 := hideP h2
    clear hl hq h1 h2 hv hnn
    go_enter Tryd.func18, Tryd.ntmps18
    go_wp2
    go_loopw [5] (fun i wr => ∃ k : Nat, k ≤ n ∧ i = .int .i64 k ∧ SameTo p q k ∧ Below w.heap.size w wr) (fun i _ => n - (intOf i).toNat)
    case atStart => exact ⟨0, Nat.zero_le _, rfl, fun j hj => absurd hj (by omega), by repeat (first | exact Below.refl _ _ | apply Below.drew)⟩
    case round =>
      obtain ⟨k, hk, rfl, hs, hbr⟩ := hrel
      have HS := hideP hs
      have HBR := hideP hbr
      by_cases hlt : k < n
      · obtain ⟨g1, o1, rfl, l1, d1⟩ := HR1.out k hlt
        obtain ⟨g2, o2, rfl, l2, d2⟩ := HR2.out k hlt
        have e1 : wr.cell? ⟨g1, o1 + k, none⟩ = some (.int .i64 (pn p k : Int)) := (hbr.cell (p := ⟨g1, o1 + k, none⟩) l1).trans d1
        have e2 : wr.cell? ⟨g2, o2 + k, none⟩ = some (.int .i64 (pn q k : Int)) := (hbr.cell (p := ⟨g2, o2 + k, none⟩) l2).trans d2
        have hk0 : (0 : Int) ≤ (k : Int) := by omega
        have hk1 : (k : Int) < (n : Int) := by omega
        clear hs hbr d1 d2 l1 l2
        by_cases he : pn p k = pn q k
        · have hne : ((pn p k : Int) != (pn q k : Int)) = false := by simp [he]
          have HS2 : Hid (SameTo p q (k + 1)) := fun j hj => by
            by_cases e : j = k
            · subst e; exact he
            · exact HS.out j (by omega)
          rw [he] at e1
          obtain ⟨z, hz⟩ : ∃ z, z = pn q k := ⟨_, rfl⟩
          rw [← hz] at e1 e2
          clear hne he hz
          go_wp2
          go_region
          go_wp2
          go_roundw
          case rel => exact ⟨k + 1, by omega, by go_num, HS2.out, by repeat (first | exact HBR.out | apply Below.drew)⟩
          case measure => simp [intOf]; omega
        · have hne : ((pn p k : Int) == (pn q k : Int)) = false := by rw [beq_eq_false_iff_ne]; omega
          have HF : Hid (v = false) := HV.out ⟨k, hlt, he⟩
          clear he
          go_wp2
          go_region
          go_wp2
          go_ret
          exact ⟨by rw [HF.out]; rfl, by repeat (first | exact HBR.out | apply Below.drew)⟩
      · obtain rfl : k = n := by omega
        have HF : Hid (v = true) := HY.out hs
        clear hs hbr
        go_wp2
        go_ret
        exact ⟨by rw [HF.out]; rfl, HBR.out⟩
  · have hne : ((p.length : Int) == (q.length : Int)) = false := by rw [beq_eq_false_iff_ne]; omega
    have HF : Hid (v = false) := by
      rw [← hv]; exact hideP (decide_eq_false (fun e => hl (by rw [e])))
    clear hl hv h1 h2
    obtain ⟨n, hnn⟩ : ∃ n, n = p.length := ⟨_, rfl⟩
    obtain ⟨m, hmm⟩ : ∃ m, m = q.length := ⟨_, rfl⟩
    rw [← hnn, ← hmm] at hne
    rw [← hnn, ← hmm]
    rw [← hnn] at h8
    rw [← hmm] at h9
    clear hnn hmm
    go_enter Tryd.func18, Tryd.ntmps18
    go_wp2
    go_ret
    exact ⟨by rw [HF.out]; rfl, Below.refl _ _⟩

theorem lex_at {p q : List Nat} : ∀ {k : Nat}, k < p.length → k < q.length → SameTo p q k → pn p k ≠ pn q k → lexB p q = decide (pn p k < pn q k) := by
  intro k
  induction k generalizing p q with
  | zero =>
    intro h1 h2 _ hne
    cases p with
    | nil => simp at h1
    | cons x xs =>
      cases q with
      | nil => simp at h2
      | cons y ys =>
        have : x ≠ y := hne
        simp [lexB, this, pn]
  | succ k ih =>
    intro h1 h2 hs hne
    cases p with
    | nil => simp at h1
    | cons x xs =>
      cases q with
      | nil => simp at h2
      | cons y ys =>
        have h0 : x = y := hs 0 (by omega)
        have := ih (p := xs) (q := ys) (by simpa using h1) (by simpa using h2) (fun j hj => hs (j + 1) (by omega)) hne
        simp only [lexB, if_pos h0]
        exact this
end Go.Proofs.YtncjdbhicpgfkaaDoor
