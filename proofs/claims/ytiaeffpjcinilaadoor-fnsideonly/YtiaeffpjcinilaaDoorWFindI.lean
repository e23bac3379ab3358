/- Walk of impl.WayFind: it is the first of all ways. -/
import Derived.Test.YtiaeffpjcinilaaDoorPartWTell
import Derived.Test.YtiaeffpjcinilaaDoorPartWCount
namespace Go.Proofs.YtiaeffpjcinilaaDoor
open Go.RowKit Go.Shelf
set_option linter.unusedVariables false
attribute [local go_sem] Oper.semAt_some

theorem onW_len {E : Nat → Nat → Bool} {b s : Nat} : ∀ f p q, q ∈ onW E b s f p → q.length = s := by
  intro f
  induction f with
  | zero =>
    intro p q hq
    by_cases h : lastN p = b
    · rw [onW_end h] at hq
      by_cases e : p.length = s
      · rw [if_pos e] at hq; simp at hq; subst hq; exact e
      · rw [if_neg e] at hq; simp at hq
    · rw [onW_stop h] at hq; simp at hq
  | succ f ih =>
    intro p q hq
    by_cases h : lastN p = b
    · rw [onW_end h] at hq
      by_cases e : p.length = s
      · rw [if_pos e] at hq; simp at hq; subst hq; exact e
      · rw [if_neg e] at hq; simp at hq
    · rw [onW_go h, onTo, List.mem_flatMap] at hq
      obtain ⟨k, hk, hq⟩ := hq
      by_cases hc : (E (lastN p) k && !decide (k ∈ p)) = true
      · rw [onK_yes hc] at hq; exact ih _ _ hq
      · rw [onK_no (by simpa using hc)] at hq; simp at hq
theorem waysB_len {K : Int} {ts : List (Int × Int)} {a b : Int} {q : List Nat} (h : q ∈ waysB K ts a b) : 0 < q.length ∧ q.length ≤ 8 := by
  cases hc : (okB K ts && knotB a K && knotB b K)
  · rw [waysB_no hc] at h; simp at h
  · rw [waysB_yes hc, allTo, List.mem_flatMap] at h
    obtain ⟨i, hi, hq⟩ := h
    have := onW_len _ _ _ hq
    have := List.mem_range.1 hi
    have : okB K ts = true := by simp only [Bool.and_eq_true] at hc; exact hc.1.1
    have := (okB_iff.1 this).2.1
    omega
/-- the answer's row, in the world in which it is told -/
structure Fnd (w W : World) (x : List Nat) (g cap : Nat) : Prop where
  own : OwnI W g x.length (pcellN (pn x))
  lo : w.heap.size + 3 ≤ g
  blk : ∃ cs t fr, W.heap[g]? = some (Obj.cells cs t fr)
  room : x.length ≤ cap
theorem Fnd.kept {w W W' : World} {x : List Nat} {g cap : Nat} (h : Fnd w W x g cap) {row : Option Nat} (hg : W.grownBy W' row) (hr : ∀ r, row = some r → ∃ o : Obj, W.heap[r]? = some o ∧ o.isCells = false) : Fnd w W' x g cap := by
  obtain ⟨cs, t, fr, hb⟩ := h.blk
  have e : W'.heap[g]? = W.heap[g]? := hg.block g h.own.2.2 (fun e => by
    obtain ⟨o, ho, hc⟩ := hr g e.symm
    rw [hb] at ho; cases ho; cases hc)
  exact ⟨h.own.same e hg.size, h.lo, ⟨cs, t, fr, e.trans hb⟩, h.room⟩

set_option maxRecDepth 100000 in
set_option maxHeartbeats 1000000 in
theorem implFind_any (K : Int) (ao : Option Addr) (cap : Nat) (ts : List (Int × Int)) (a b : Int) (w : World) (hn : ts.length ≤ 1099511627776) (ht : TiesIn w w.heap.size ao ts) :
    Calls Tryd.prog 33 #[.agg #[.int .i64 K, .slice ao ts.length cap], .int .i64 a, .int .i64 b] w fun e w' => ∃ ao' cap', e = .returned (.tuple #[.slice ao' (findB K ts a b).length cap', .bool (foundB K ts a b)]) ∧ OwnR w' w.heap.size w'.heap.size ao' (findB K ts a b).length (pcellN (pn (findB K ts a b))) ∧ Below w.heap.size w w' ∧ (findB K ts a b).length ≤ cap' := by
  have HT := hideP ht
  clear ht
  refine (callsIn_wide (n := 5)).1 ?_
  refine callsIn_of_wp_marks Tryd.func33 rfl trivial ?_ rfl
  simp only [Tryd.ntmps33, List.size_toArray, List.length_cons, List.length_nil, Nat.reduceAdd, Nat.reduceSub, Array.replicate_succ, Array.replicate_zero, List.push_toArray, List.append_toArray, List.nil_append, List.cons_append]
  gi_wp2_with fail
  refine ⟨trivial, (callsIn_wide.2 (waysOf_in 0 K (.slice ao ts.length cap) a b _)).mono ?_⟩
  have X6 : Hid (Boxed (((w.alloc (.cells #[.int .i64 K, .slice ao ts.length cap] 25)).alloc (.cells #[.slice none 0 0] 27)).alloc (.cells #[.bool false] 4)) (w.heap.size + 1) 27 (.slice none 0 0)) := by
    have := Boxed.new (w.alloc (.cells #[.int .i64 K, .slice ao ts.length cap] 25)) 27 (.slice none 0 0)
    rw [World.size_alloc] at this
    exact this.alloc _
  have X7 : Hid (Boxed (((w.alloc (.cells #[.int .i64 K, .slice ao ts.length cap] 25)).alloc (.cells #[.slice none 0 0] 27)).alloc (.cells #[.bool false] 4)) (w.heap.size + 1 + 1) 4 (.bool false)) := by
    have := Boxed.new ((w.alloc (.cells #[.int .i64 K, .slice ao ts.length cap] 25)).alloc (.cells #[.slice none 0 0] 27)) 4 (.bool false)
    rw [World.size_alloc, World.size_alloc] at this
    exact this
  have BB : Hid (Below w.heap.size w (((w.alloc (.cells #[.int .i64 K, .slice ao ts.length cap] 25)).alloc (.cells #[.slice none 0 0] 27)).alloc (.cells #[.bool false] 4))) := (((Below.refl _ w).alloc (Nat.le_refl _) _).alloc (by simp) _).alloc (by simp; omega) _
  have hsz : (((w.alloc (.cells #[.int .i64 K, .slice ao ts.length cap] 25)).alloc (.cells #[.slice none 0 0] 27)).alloc (.cells #[.bool false] 4)).heap.size = w.heap.size + 3 := by simp
  obtain ⟨w0, hw0⟩ : ∃ w0, w0 = (((w.alloc (.cells #[.int .i64 K, .slice ao ts.length cap] 25)).alloc (.cells #[.slice none 0 0] 27)).alloc (.cells #[.bool false] 4)) := ⟨_, rfl⟩
  rw [← hw0] at X6 X7 BB hsz ⊢
  clear hw0
  rintro e w1 ⟨rfl, hK1, hb1⟩
  have KK := hideP hK1
  have Y6 : Hid (Boxed w1 (w.heap.size + 1) 27 (.slice none 0 0)) := (hb1.block _ X6.out.lt).trans X6.out
  have Y7 : Hid (Boxed w1 (w.heap.size + 1 + 1) 4 (.bool false)) := (hb1.block _ X7.out.lt).trans X7.out
  have B1 : Hid (Below w.heap.size w w1) := BB.out.trans (hb1.mono BB.out.size)
  have hs1 : w.heap.size + 3 ≤ w1.heap.size := by have := hb1.size; omega
  have T1 := hideP ((HT.out.below B1.out (Nat.le_refl _)).wide B1.out.size)
  clear hK1 hb1 X6 X7 BB HT
  rw [hsz] at KK ⊢
  gi_wp2_with fail
  refine wpIn_rangeFunc_ownH (α := List Nat) rfl (by omega) (gf := 94) (lb := #[.pointer (some ⟨w.heap.size + 3, 0, none⟩), .pointer (some ⟨w.heap.size + 3 + 1, 0, none⟩), .pointer (some ⟨w.heap.size + 3 + 2, 0, none⟩)]) rfl trivial (enters_of Tryd.func94 (by kernel_rfl) rfl)
    (ways_stops _ _ K ao cap ts a b w1 hn T1.out KK.out) (fun h k => KpT.trans h k) (fun W l o o' _ h hc _ => KpT.putObj W l o o' h hc) (Below.refl _ _) (fun _ => rfl)
    (fun pre W => pre = [] ∧ (Boxed W (w.heap.size + 1) 27 (.slice none 0 0) ∧ Boxed W (w.heap.size + 1 + 1) 4 (.bool false)) ∧ Below w.heap.size w W)
    (fun c pre W => c = .ret ∧ ((∃ x g cap', pre = [x] ∧ Boxed W (w.heap.size + 1) 27 (.slice (some ⟨g, 0, none⟩) (clip x).length cap') ∧ Boxed W (w.heap.size + 1 + 1) 4 (.bool true) ∧ Fnd w W (clip x) g cap') ∧ Below w.heap.size w W))
    (OwnFrom.and (ownFrom_pure _ _) (OwnFrom.and (OwnFrom.and (Own.from (boxed_own _ _ _) _) (Own.from (boxed_own _ _ _) _)) (ownFrom_below (Nat.le_refl _) B1.out.size)))
    (fun c => OwnFrom.and (ownFrom_pure _ _) (OwnFrom.and (Own.from (fun s A B row hs hg hr => by
      obtain ⟨x, g, cap', h1, h2, h3, h4⟩ := hs
      exact ⟨x, g, cap', h1, boxed_own _ _ (fun _ => _) () A B row h2 hg hr, boxed_own _ _ (fun _ => _) () A B row h3 hg hr, h4.kept hg hr⟩) _) (ownFrom_below (Nat.le_refl _) B1.out.size)))
    ⟨rfl, ⟨Y6.out, Y7.out⟩, B1.out⟩
    (fun x a' W => ∃ Bx, w.heap.size + 3 ≤ Bx ∧ W.heap[Bx]? = some (Obj.cells #[.int .i64 (xi (cI (clip x)) 0), .int .i64 (xi (cI (clip x)) 1), .int .i64 (xi (cI (clip x)) 2), .int .i64 (xi (cI (clip x)) 3), .int .i64 (xi (cI (clip x)) 4), .int .i64 (xi (cI (clip x)) 5), .int .i64 (xi (cI (clip x)) 6), .int .i64 (xi (cI (clip x)) 7), .int .i64 ((cI (clip x)).length : Int)] 77 (0, 0)) ∧ a' = { tmps := #[.agg #[.int .i64 K, .slice ao ts.length cap], .int .i64 a, .int .i64 b, .pointer (some ⟨w.heap.size, 0, none⟩), undef, undef, .pointer (some ⟨w.heap.size + 1, 0, none⟩), .pointer (some ⟨w.heap.size + 1 + 1, 0, none⟩), .pointer (some ⟨Bx, 0, none⟩), .agg #[.int .i64 K, .slice ao ts.length cap], .int .i64 a, .int .i64 b, .func (.func 94) #[] #[.pointer (some ⟨w.heap.size + 3, 0, none⟩), .pointer (some ⟨w.heap.size + 3 + 1, 0, none⟩), .pointer (some ⟨w.heap.size + 3 + 2, 0, none⟩)], pathV (cI (clip x)), undef, undef], defers := [] }) ?hAx ?assign ?body ?done ?stop
  case hAx =>
    rintro x a' s A B row ⟨Bx, h1, h2, h3⟩ hg hr
    refine ⟨Bx, h1, (hg.block Bx (Array.getElem?_eq_some_iff.1 h2).1 (fun e => ?_)).trans h2, h3⟩
    obtain ⟨_, o, ho, hc⟩ := hr Bx e.symm
    rw [h2] at ho; cases ho; cases hc
  case assign =>
    rintro l pre x W K' ⟨rfl, ⟨h6, h7⟩, hB⟩ hK
    have HK := hideP hK
    clear hK
    have h7lt := h7.lt
    unfold pathV
    gi_wp2
    exact HK.out _ _ ((KeepsOthers.alloc _ _).from _) (KpT.below (below_one _ _)) ⟨by simp, ⟨h6.alloc _, h7.alloc _⟩, hB.alloc hB.size _⟩ ⟨W.heap.size, by omega, World.alloc_heap_new W _, rfl⟩
  case body =>
    rintro l pre x a' W hl hr ⟨rfl, ⟨h6, h7⟩, hB⟩ ⟨Bx, hBx, bX, rfl⟩ hlt
    obtain ⟨c0, c1, c2, c3, c4, c5, c6, c7, c8⟩ := path_cells bX
    have HL : Hid (∀ w', Calls Tryd.prog 56 #[pathV (cI (clip x))] w' fun e w2 => ∃ g cap, e = .returned (.slice (some ⟨g, 0, none⟩) (clip x).length cap) ∧ w2.ownsRow (w'.heap.size + 1) 3 1 (.slice (some ⟨g, 0, none⟩) (clip x).length cap) (clip x).length (plist (clip x)) ∧ Below w'.heap.size w' w2) := fun w' => list_any (clip x) w' (clip_pos x) (clip_le x)
    have H6 := hideP h6
    have H7 := hideP h7
    have HB := hideP hB
    have HBX := hideP bX
    have hpos := clip_pos x
    unfold pathV at HL ⊢
    clear h6 h7 hB bX hr hlt
    gi_wp2_with fail
    refine ⟨trivial, (CallsIn.inRound l (callsIn_wide.2 (HL.out _))).mono ?_⟩
    rintro e W2 ⟨g, cap', rfl, ho, hb2⟩
    have Z6 : Boxed W2 (w.heap.size + 1) 27 (.slice none 0 0) := (hb2.block _ H6.out.lt).trans H6.out
    have Z7 : Boxed W2 (w.heap.size + 1 + 1) 4 (.bool false) := (hb2.block _ H7.out.lt).trans H7.out
    obtain ⟨r1, r2, r3⟩ := row_own ho rfl hpos
    have h7lt := H7.out.lt
    have FN : Hid (Fnd w W2 (clip x) g cap') := ⟨r1, by omega, by
      rcases ho.2 with ⟨h', _⟩ | ⟨g', cap'', cur, h', _, hgb, _⟩
      · simp at h'
      · simp only [Value.slice.injEq, Option.some.injEq, Addr.mk.injEq, and_true, true_and] at h'
        obtain ⟨rfl, _⟩ := h'
        exact ⟨_, _, _, hgb⟩, by
      rcases ho.2 with ⟨h', _⟩ | ⟨g', cap'', cur, h', _, hgb, hroom, _⟩
      · simp at h'
      · simp only [Value.slice.injEq, Option.some.injEq, Addr.mk.injEq, and_true, true_and] at h'
        obtain ⟨_, rfl⟩ := h'
        exact hroom⟩
    have BK : Hid (Below w.heap.size w W2) := HB.out.trans (hb2.mono HB.out.size)
    have KO : Hid (KeepsOthers W W2) := ⟨hb2.size, fun k o hk _ => (hb2.block k (Array.getElem?_eq_some_iff.1 hk).1).trans hk⟩
    have S6 := hideP Z6
    have S7 := hideP Z7
    have d6 := Z6.cell
    have d7 := Z7.cell
    have f6 := Z6.frozen
    have f7 := Z7.frozen
    clear ho hb2 Z6 Z7 r1 r2 r3 HL H6 H7 HB HBX c0 c1 c2 c3 c4 c5 c6 c7 c8
    gi_wp2
    refine ⟨((KO.out.trans (KeepsOthers.setCell _ _ _)).trans (KeepsOthers.setCell _ _ _)).from _, rfl, ⟨x, g, cap', by simp, (S6.out.set _).other (by omega) _, (S7.out.other (by omega) _).set _, ?_⟩, (BK.out.setCell (p := ⟨w.heap.size + 1, 0, none⟩) (by simp) _).setCell (p := ⟨w.heap.size + 1 + 1, 0, none⟩) (by show w.heap.size ≤ w.heap.size + 1 + 1; omega) _⟩
    have hlo := FN.out.lo
    obtain ⟨cs, t, fr, hb⟩ := FN.out.blk
    refine ⟨(FN.out.own.other (by show w.heap.size + 1 ≠ g; omega) _).other (by show w.heap.size + 1 + 1 ≠ g; omega) _, hlo, ⟨cs, t, fr, ?_⟩, FN.out.room⟩
    exact (Below.heap_setCell _ _ _ _ (by show g ≠ w.heap.size + 1 + 1; omega)).trans ((Below.heap_setCell _ _ _ _ (by show g ≠ w.heap.size + 1; omega)).trans hb)
  case done =>
    rintro D xs W hD hxs ⟨rfl, ⟨h6, h7⟩, hB⟩ hK
    have HF : Hid (findB K ts a b = [] ∧ foundB K ts a b = false) := by
      unfold findB foundB; rw [← hxs]; exact ⟨rfl, rfl⟩
    have d6 := h6.cell
    have d7 := h7.cell
    have f6 := h6.frozen
    have f7 := h7.frozen
    have HB := hideP hB
    clear hB hxs
    gi_wp2
    have hK' := ((KeepsOthers.setCell W ⟨w.heap.size + 1, 0, none⟩ (.slice none 0 0)).trans (KeepsOthers.setCell _ ⟨w.heap.size + 1 + 1, 0, none⟩ (.bool false))).same D _ hK rfl
    refine ⟨by simp, .inl ⟨_, _, rfl, run_takeDeferred hK', ?_⟩⟩
    have q6 := ((h6.set (.slice none 0 0)).other (B' := w.heap.size + 1 + 1) (by omega) (.bool false)).kept (grownBy_putObj' _ D (.deferred none)) (by simp; omega)
    have q7 := ((h7.other (B' := w.heap.size + 1) (by omega) (.slice none 0 0)).set (.bool false)).kept (grownBy_putObj' _ D (.deferred none)) (by simp; omega)
    refine ⟨.tuple #[.slice none 0 0, .bool false], ?_, none, 0, by rw [HF.out.1, HF.out.2]; rfl, by rw [HF.out.1]; exact Or.inl ⟨rfl, rfl⟩, ?_, by rw [HF.out.1]; exact Nat.le_refl _⟩
    · simp [results, Tryd.f33, go_sem, q6.cell, q7.cell]
    · exact ((HB.out.setCell (p := ⟨w.heap.size + 1, 0, none⟩) (by simp) _).setCell (p := ⟨w.heap.size + 1 + 1, 0, none⟩) (by show w.heap.size ≤ w.heap.size + 1 + 1; omega) _).trans (belowK_b (w := w) (Nat.le_refl _) _ D _ _ (by omega) hK' rfl rfl)
  case stop =>
    rintro D c pre W hD hpre ⟨rfl, ⟨x, g, cap', rfl, h6, h7, hF⟩, hB⟩ hK
    obtain ⟨rest, hrest⟩ := hpre
    have hmem : x ∈ waysB K ts a b := by rw [← hrest]; simp
    have hl := waysB_len hmem
    rw [clip_is hl.1 hl.2] at h6 hF
    have HFB : Hid (findB K ts a b = x ∧ foundB K ts a b = true) := by
      unfold findB foundB; rw [← hrest]; exact ⟨rfl, rfl⟩
    gi_wp2
    refine ⟨by simp, .inl ⟨_, _, rfl, run_takeDeferred hK, ?_⟩⟩
    have q6 := h6.kept (grownBy_putObj' W D (.deferred none)) (by simp; omega)
    have q7 := h7.kept (grownBy_putObj' W D (.deferred none)) (by simp; omega)
    have qF := hF.kept (grownBy_putObj' W D (.deferred none)) (fun r e => by cases e; exact ⟨_, hK, rfl⟩)
    refine ⟨.tuple #[.slice (some ⟨g, 0, none⟩) x.length cap', .bool true], ?_, some ⟨g, 0, none⟩, cap', by rw [HFB.out.1, HFB.out.2], by rw [HFB.out.1]; exact Or.inr ⟨g, rfl, by have := qF.lo; omega, qF.own.2.2, qF.own⟩, hB.trans (belowK_b (w := w) (Nat.le_refl _) W D _ _ (by omega) hK rfl rfl), by rw [HFB.out.1]; exact qF.room⟩
    simp [results, Tryd.f33, go_sem, q6.cell, q7.cell]

end Go.Proofs.YtiaeffpjcinilaaDoor
