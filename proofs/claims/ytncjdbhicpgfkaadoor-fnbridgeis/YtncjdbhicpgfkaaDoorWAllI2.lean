/- Walk of impl.WayAll. -/
import Derived.Test.YtncjdbhicpgfkaaDoorWAllI
namespace Go.Proofs.YtncjdbhicpgfkaaDoor
open Go.RowKit Go.Shelf
set_option linter.unusedVariables false
attribute [local go_sem] Oper.semAt_some

theorem own_rws_low {W : World} {lo lo' : Nat} {pre : List (List Nat)} {gs cs : Nat → Nat} (h : Rws W lo pre gs cs) (hl : lo' ≤ lo) : Rws W lo' pre gs cs := ⟨fun i hi => own_low (h.row i hi) hl, h.ne⟩
set_option maxRecDepth 100000 in
set_option maxHeartbeats 1000000 in
theorem implAll_any (K : Int) (ao : Option Addr) (cap : Nat) (ts : List (Int × Int)) (a b : Int) (w : World) (hn : ts.length ≤ 1099511627776) (ht : TiesIn w w.heap.size ao ts) (hfew : (waysB K ts a b).length ≤ 20000000) :
    Calls Tryd.prog 42 #[.agg #[.int .i64 K, .slice ao ts.length cap], .int .i64 a, .int .i64 b] w fun e w' => ∃ ao' cap', e = .returned (.slice ao' (waysB K ts a b).length cap') ∧ AllR w' w.heap.size ao' (waysB K ts a b) ∧ Below w.heap.size w w' := by
  have HT := hideP ht
  obtain ⟨i0, hi0, hz0, hz1, hz2⟩ := info_parts Tryd.infoInts
  have HI : Hid (Tryd.prog.info? 30 = some i0 ∧ i0.zero = some (.slice none 0 0) ∧ i0.size = 1 ∧ i0.bytes = 24) := ⟨hi0, hz0, hz1, hz2⟩
  clear ht hi0 hz0 hz1 hz2
  refine (callsIn_wide (n := 5)).1 ?_
  refine callsIn_of_wp_marks Tryd.func42 rfl trivial ?_ rfl
  simp only [Tryd.ntmps42, List.size_toArray, List.length_cons, List.length_nil, Nat.reduceAdd, Nat.reduceSub, Array.replicate_succ, Array.replicate_zero, List.push_toArray, List.append_toArray, List.nil_append, List.cons_append]
  gi_wp2_with fail
  refine ⟨trivial, (callsIn_wide.2 (waysOf_in 0 K (.slice ao ts.length cap) a b _)).mono ?_⟩
  have X7 : Hid (Boxed ((w.alloc (.cells #[.int .i64 K, .slice ao ts.length cap] 25)).alloc (.cells #[.slice none 0 0] 41)) (w.heap.size + 1) 41 (.slice none 0 0)) := by
    have := Boxed.new (w.alloc (.cells #[.int .i64 K, .slice ao ts.length cap] 25)) 41 (.slice none 0 0)
    rw [World.size_alloc] at this
    exact this
  have BB : Hid (Below w.heap.size w ((w.alloc (.cells #[.int .i64 K, .slice ao ts.length cap] 25)).alloc (.cells #[.slice none 0 0] 41))) := ((Below.refl _ w).alloc (Nat.le_refl _) _).alloc (by simp) _
  have hsz : ((w.alloc (.cells #[.int .i64 K, .slice ao ts.length cap] 25)).alloc (.cells #[.slice none 0 0] 41)).heap.size = w.heap.size + 2 := by simp
  obtain ⟨w0, hw0⟩ : ∃ w0, w0 = ((w.alloc (.cells #[.int .i64 K, .slice ao ts.length cap] 25)).alloc (.cells #[.slice none 0 0] 41)) := ⟨_, rfl⟩
  rw [← hw0] at X7 BB hsz ⊢
  clear hw0
  rintro e w1 ⟨rfl, hK1, hb1⟩
  have KK := hideP hK1
  have Y7 : Hid (Boxed w1 (w.heap.size + 1) 41 (.slice none 0 0)) := (hb1.block _ X7.out.lt).trans X7.out
  have B1 : Hid (Below w.heap.size w w1) := BB.out.trans (hb1.mono BB.out.size)
  have hs1 : w.heap.size + 2 ≤ w1.heap.size := by have := hb1.size; omega
  have T1 := hideP ((HT.out.below B1.out (Nat.le_refl _)).wide B1.out.size)
  have A1 : Hid (AllI w [] w1) := ⟨⟨.slice none 0 0, fun _ => 0, fun _ => 0, Y7.out, World.ownsRow_nil _ _ _ _, ⟨fun i hi => absurd hi (by simp), fun i j _ hj => absurd hj (by simp)⟩⟩, B1.out⟩
  clear hK1 hb1 X7 BB HT
  rw [hsz] at KK ⊢
  gi_wp2_with fail
  refine wpIn_rangeFunc_ownH (α := List Nat) rfl (by omega) (gf := 101) (lb := #[.pointer (some ⟨w.heap.size + 2, 0, none⟩), .pointer (some ⟨w.heap.size + 2 + 1, 0, none⟩), .pointer (some ⟨w.heap.size + 2 + 2, 0, none⟩)]) rfl trivial (enters_of Tryd.func101 (by kernel_rfl) rfl)
    (ways_stops _ _ K ao cap ts a b w1 hn T1.out KK.out) (fun h k => KpT.trans h k) (fun W l o o' _ h hc _ => KpT.putObj W l o o' h hc) (Below.refl _ _) (fun _ => rfl)
    (AllI w) (fun _ _ _ => False) (allI_own w B1.out.size) (fun _ _ _ _ _ hs _ _ => hs) A1.out
    (fun x a' W => ∃ Bx, w.heap.size + 2 ≤ Bx ∧ W.heap[Bx]? = some (Obj.cells #[.int .i64 (xi (cI (clip x)) 0), .int .i64 (xi (cI (clip x)) 1), .int .i64 (xi (cI (clip x)) 2), .int .i64 (xi (cI (clip x)) 3), .int .i64 (xi (cI (clip x)) 4), .int .i64 (xi (cI (clip x)) 5), .int .i64 (xi (cI (clip x)) 6), .int .i64 (xi (cI (clip x)) 7), .int .i64 ((cI (clip x)).length : Int)] 73 (0, 0)) ∧ a' = { tmps := #[.agg #[.int .i64 K, .slice ao ts.length cap], .int .i64 a, .int .i64 b, .pointer (some ⟨w.heap.size, 0, none⟩), undef, undef, .slice none 0 0, .pointer (some ⟨w.heap.size + 1, 0, none⟩), .pointer (some ⟨Bx, 0, none⟩), .agg #[.int .i64 K, .slice ao ts.length cap], .int .i64 a, .int .i64 b, .func (.func 101) #[] #[.pointer (some ⟨w.heap.size + 2, 0, none⟩), .pointer (some ⟨w.heap.size + 2 + 1, 0, none⟩), .pointer (some ⟨w.heap.size + 2 + 2, 0, none⟩)], pathV (cI (clip x)), undef, undef, undef, undef, undef, undef], defers := [] }) ?hAx ?assign ?body ?done ?stop
  case hAx =>
    rintro x a' s A B row ⟨Bx, h1, h2, h3⟩ hg hr
    refine ⟨Bx, h1, (hg.block Bx (Array.getElem?_eq_some_iff.1 h2).1 (fun e => ?_)).trans h2, h3⟩
    obtain ⟨_, o, ho, hc⟩ := hr Bx e.symm
    rw [h2] at ho; cases ho; cases hc
  case assign =>
    rintro l pre x W K' hA hK
    have HK := hideP hK
    have HA := hideP hA
    have h7lt : w.heap.size + 1 < W.heap.size := by obtain ⟨⟨v, gs, cs, h1, _⟩, _⟩ := hA; exact h1.lt
    clear hK hA
    unfold pathV
    gi_wp2
    exact HK.out _ _ ((KeepsOthers.alloc _ _).from _) (KpT.below (below_one _ _)) (allI_own w (Nat.le_refl _) pre W _ none HA.out (World.grownBy_alloc W _ none) (fun r e => by cases e)) ⟨W.heap.size, by omega, World.alloc_heap_new W _, rfl⟩
  case body =>
    rintro l pre x a' W hl hr ⟨⟨v, gs, cs, h1, h2, h3⟩, hB⟩ ⟨Bx, hBx, bX, rfl⟩ hlt
    obtain ⟨c0, c1, c2, c3, c4, c5, c6, c7, c8⟩ := path_cells bX
    have HL : Hid (∀ w', Calls Tryd.prog 69 #[pathV (cI (clip x))] w' fun e w2 => ∃ g cap, e = .returned (.slice (some ⟨g, 0, none⟩) (clip x).length cap) ∧ w2.ownsRow (w'.heap.size + 1) 3 1 (.slice (some ⟨g, 0, none⟩) (clip x).length cap) (clip x).length (plist (clip x)) ∧ Below w'.heap.size w' w2) := fun w' => list_any (clip x) w' (clip_pos x) (clip_le x)
    have e7 := h1.cell
    have H1 := hideP h1
    have H2 := hideP h2
    have H3 := hideP h3
    have HB := hideP hB
    have hl2 : w.heap.size + 2 ≤ W.heap.size := by have := h1.lt; omega
    have hmix : Tryd.prog.follows .mixedOrders = true := by kernel_rfl
    have hpl : pre.length < 20000000 := by omega
    unfold pathV at HL ⊢
    clear h1 h2 h3 hB bX hr hlt
    gi_wp2_with fail
    refine wpIn_region_any hmix ?_
    try (change wpAnyIn _ _ _ _ _ _ _ _ _ (World.drew _))
    refine wpAnyIn_ready (rs := [0, 1]) (by kernel_rfl) (by simp) ?_
    refine AllReadyIn.cons rfl (fun K' hK => ?_) (AllReadyIn.cons rfl (fun K' hK => ?_) AllReadyIn.nil)
    · go_simp
      refine hK _ _ ?_
      clear hK K'
      refine wpAnyIn_ready (rs := [1]) (by kernel_rfl) (by simp) ?_
      refine AllReadyIn.cons rfl (fun K' hK => ?_) AllReadyIn.nil
      go_simp
      refine hK _ _ ?_
      clear hK K'
      refine wpAnyIn_ready (rs := [2]) (by kernel_rfl) (by simp) ?_
      refine AllReadyIn.cons rfl (fun K' hK => ?_) AllReadyIn.nil
      go_simp
      refine ⟨trivial, (CallsIn.inRound l (callsIn_wide.2 (HL.out _))).mono ?_⟩
      rintro e W2 ⟨g, c, rfl, ho, hb2⟩
      have hb2' : Below W.heap.size W W2 := ((Below.refl _ _).drew).trans hb2
      have ho' : W2.ownsRow (W.heap.size + 1) 3 1 (.slice (some ⟨g, 0, none⟩) (clip x).length c) (clip x).length (plist (clip x)) := ho
      have d7 : W2.cell? ⟨w.heap.size + 1, 0, none⟩ = some v := (hb2'.cell (p := ⟨w.heap.size + 1, 0, none⟩) H1.out.lt).trans H1.out.cell
      refine hK _ _ ?_
      clear hK K' hb2 ho
      refine wpAnyIn_ready (rs := [3]) (by kernel_rfl) (by simp) ?_
      refine AllReadyIn.cons rfl (fun K' hK => ?_) AllReadyIn.nil
      go_simp
      refine hK _ _ ?_
      clear hK K'
      refine wpAnyIn_ready (rs := [4]) (by kernel_rfl) (by simp) ?_
      refine AllReadyIn.cons rfl (fun K' hK => ?_) AllReadyIn.nil
      refine stepIn_append rfl _ _ _ rfl (w.heap.size + 2) 30 i0 _ 24 Tryd.underlying41 HI.out.1 HI.out.2.1 HI.out.2.2.1 HI.out.2.2.2 rfl v pre.length (rowVs pre gs cs) (by rfl) ((own_kept2 H2.out (fun g hg => hb2'.block g hg)).alloc _) ⟨W2.heap.size, 0, none⟩ 1 (.slice (some ⟨g, 0, none⟩) (clip x).length c) (by rfl) (by rw [World.cell?_alloc_at _ _ _ _ rfl]; rfl) rfl (by unfold maxLen; omega) (by omega) (by have := hb2'.size; simp; omega) ?_
      intro v' w4 hown' hgr
      obtain ⟨q1, q2, q3, q4⟩ := allI_snoc HB.out H1.out H2.out H3.out hb2' ho' hl2 hown' hgr
      obtain ⟨g', cap', rfl⟩ := ownsRow_succ hown'
      have r1 := q1.cell
      have r2 := q1.frozen
      have Q2 := hideP q2
      have Q3 := hideP q3
      have Q4 := hideP q4
      refine hK _ _ ?_
      clear hK K' hown' hgr q1 q2 q3 q4
      refine wpAnyIn_ready (rs := [5]) (by kernel_rfl) (by simp) ?_
      refine AllReadyIn.cons rfl (fun K' hK => ?_) AllReadyIn.nil
      go_simp
      refine hK _ _ ?_
      clear hK K'
      refine wpAnyIn_done (by kernel_rfl) ?_ _
      exact ⟨Q4.out.from _, Q3.out, Q2.out⟩
    · go_simp
      refine hK _ _ ?_
      clear hK K'
      refine wpAnyIn_ready (rs := [0, 2]) (by kernel_rfl) (by simp) ?_
      refine AllReadyIn.cons rfl (fun K' hK => ?_) (AllReadyIn.cons rfl (fun K' hK => ?_) AllReadyIn.nil)
      · go_simp
        refine hK _ _ ?_
        clear hK K'
        refine wpAnyIn_ready (rs := [2]) (by kernel_rfl) (by simp) ?_
        refine AllReadyIn.cons rfl (fun K' hK => ?_) AllReadyIn.nil
        go_simp
        refine ⟨trivial, (CallsIn.inRound l (callsIn_wide.2 (HL.out _))).mono ?_⟩
        rintro e W2 ⟨g, c, rfl, ho, hb2⟩
        have hb2' : Below W.heap.size W W2 := ((Below.refl _ _).drew).trans hb2
        have ho' : W2.ownsRow (W.heap.size + 1) 3 1 (.slice (some ⟨g, 0, none⟩) (clip x).length c) (clip x).length (plist (clip x)) := ho
        have d7 : W2.cell? ⟨w.heap.size + 1, 0, none⟩ = some v := (hb2'.cell (p := ⟨w.heap.size + 1, 0, none⟩) H1.out.lt).trans H1.out.cell
        refine hK _ _ ?_
        clear hK K' hb2 ho
        refine wpAnyIn_ready (rs := [3]) (by kernel_rfl) (by simp) ?_
        refine AllReadyIn.cons rfl (fun K' hK => ?_) AllReadyIn.nil
        go_simp
        refine hK _ _ ?_
        clear hK K'
        refine wpAnyIn_ready (rs := [4]) (by kernel_rfl) (by simp) ?_
        refine AllReadyIn.cons rfl (fun K' hK => ?_) AllReadyIn.nil
        refine stepIn_append rfl _ _ _ rfl (w.heap.size + 2) 30 i0 _ 24 Tryd.underlying41 HI.out.1 HI.out.2.1 HI.out.2.2.1 HI.out.2.2.2 rfl v pre.length (rowVs pre gs cs) (by rfl) ((own_kept2 H2.out (fun g hg => hb2'.block g hg)).alloc _) ⟨W2.heap.size, 0, none⟩ 1 (.slice (some ⟨g, 0, none⟩) (clip x).length c) (by rfl) (by rw [World.cell?_alloc_at _ _ _ _ rfl]; rfl) rfl (by unfold maxLen; omega) (by omega) (by have := hb2'.size; simp; omega) ?_
        intro v' w4 hown' hgr
        obtain ⟨q1, q2, q3, q4⟩ := allI_snoc HB.out H1.out H2.out H3.out hb2' ho' hl2 hown' hgr
        obtain ⟨g', cap', rfl⟩ := ownsRow_succ hown'
        have r1 := q1.cell
        have r2 := q1.frozen
        have Q2 := hideP q2
        have Q3 := hideP q3
        have Q4 := hideP q4
        refine hK _ _ ?_
        clear hK K' hown' hgr q1 q2 q3 q4
        refine wpAnyIn_ready (rs := [5]) (by kernel_rfl) (by simp) ?_
        refine AllReadyIn.cons rfl (fun K' hK => ?_) AllReadyIn.nil
        go_simp
        refine hK _ _ ?_
        clear hK K'
        refine wpAnyIn_done (by kernel_rfl) ?_ _
        exact ⟨Q4.out.from _, Q3.out, Q2.out⟩
      · go_simp
        refine ⟨trivial, (CallsIn.inRound l (callsIn_wide.2 (HL.out _))).mono ?_⟩
        rintro e W2 ⟨g, c, rfl, ho, hb2⟩
        have hb2' : Below W.heap.size W W2 := ((Below.refl _ _).drew).trans hb2
        have ho' : W2.ownsRow (W.heap.size + 1) 3 1 (.slice (some ⟨g, 0, none⟩) (clip x).length c) (clip x).length (plist (clip x)) := ho
        have d7 : W2.cell? ⟨w.heap.size + 1, 0, none⟩ = some v := (hb2'.cell (p := ⟨w.heap.size + 1, 0, none⟩) H1.out.lt).trans H1.out.cell
        refine hK _ _ ?_
        clear hK K' hb2 ho
        refine wpAnyIn_ready (rs := [0, 3]) (by kernel_rfl) (by simp) ?_
        refine AllReadyIn.cons rfl (fun K' hK => ?_) (AllReadyIn.cons rfl (fun K' hK => ?_) AllReadyIn.nil)
        · go_simp
          refine hK _ _ ?_
          clear hK K'
          refine wpAnyIn_ready (rs := [3]) (by kernel_rfl) (by simp) ?_
          refine AllReadyIn.cons rfl (fun K' hK => ?_) AllReadyIn.nil
          go_simp
          refine hK _ _ ?_
          clear hK K'
          refine wpAnyIn_ready (rs := [4]) (by kernel_rfl) (by simp) ?_
          refine AllReadyIn.cons rfl (fun K' hK => ?_) AllReadyIn.nil
          refine stepIn_append rfl _ _ _ rfl (w.heap.size + 2) 30 i0 _ 24 Tryd.underlying41 HI.out.1 HI.out.2.1 HI.out.2.2.1 HI.out.2.2.2 rfl v pre.length (rowVs pre gs cs) (by rfl) ((own_kept2 H2.out (fun g hg => hb2'.block g hg)).alloc _) ⟨W2.heap.size, 0, none⟩ 1 (.slice (some ⟨g, 0, none⟩) (clip x).length c) (by rfl) (by rw [World.cell?_alloc_at _ _ _ _ rfl]; rfl) rfl (by unfold maxLen; omega) (by omega) (by have := hb2'.size; simp; omega) ?_
          intro v' w4 hown' hgr
          obtain ⟨q1, q2, q3, q4⟩ := allI_snoc HB.out H1.out H2.out H3.out hb2' ho' hl2 hown' hgr
          obtain ⟨g', cap', rfl⟩ := ownsRow_succ hown'
          have r1 := q1.cell
          have r2 := q1.frozen
          have Q2 := hideP q2
          have Q3 := hideP q3
          have Q4 := hideP q4
          refine hK _ _ ?_
          clear hK K' hown' hgr q1 q2 q3 q4
          refine wpAnyIn_ready (rs := [5]) (by kernel_rfl) (by simp) ?_
          refine AllReadyIn.cons rfl (fun K' hK => ?_) AllReadyIn.nil
          go_simp
          refine hK _ _ ?_
          clear hK K'
          refine wpAnyIn_done (by kernel_rfl) ?_ _
          exact ⟨Q4.out.from _, Q3.out, Q2.out⟩
        · go_simp
          refine hK _ _ ?_
          clear hK K'
          have d8 : (W2.alloc (.cells #[.slice (some ⟨g, 0, none⟩) (clip x).length c] 30)).cell? ⟨w.heap.size + 1, 0, none⟩ = some v := (World.cell?_alloc_past _ _ _ (Nat.lt_of_lt_of_le H1.out.lt hb2'.size)).trans d7
          refine wpAnyIn_ready (rs := [0]) (by kernel_rfl) (by simp) ?_
          refine AllReadyIn.cons rfl (fun K' hK => ?_) AllReadyIn.nil
          go_simp
          refine hK _ _ ?_
          clear hK K'
          refine wpAnyIn_ready (rs := [4]) (by kernel_rfl) (by simp) ?_
          refine AllReadyIn.cons rfl (fun K' hK => ?_) AllReadyIn.nil
          refine stepIn_append rfl _ _ _ rfl (w.heap.size + 2) 30 i0 _ 24 Tryd.underlying41 HI.out.1 HI.out.2.1 HI.out.2.2.1 HI.out.2.2.2 rfl v pre.length (rowVs pre gs cs) (by rfl) ((own_kept2 H2.out (fun g hg => hb2'.block g hg)).alloc _) ⟨W2.heap.size, 0, none⟩ 1 (.slice (some ⟨g, 0, none⟩) (clip x).length c) (by rfl) (by rw [World.cell?_alloc_at _ _ _ _ rfl]; rfl) rfl (by unfold maxLen; omega) (by omega) (by have := hb2'.size; simp; omega) ?_
          intro v' w4 hown' hgr
          obtain ⟨q1, q2, q3, q4⟩ := allI_snoc HB.out H1.out H2.out H3.out hb2' ho' hl2 hown' hgr
          obtain ⟨g', cap', rfl⟩ := ownsRow_succ hown'
          have r1 := q1.cell
          have r2 := q1.frozen
          have Q2 := hideP q2
          have Q3 := hideP q3
          have Q4 := hideP q4
          refine hK _ _ ?_
          clear hK K' hown' hgr q1 q2 q3 q4
          refine wpAnyIn_ready (rs := [5]) (by kernel_rfl) (by simp) ?_
          refine AllReadyIn.cons rfl (fun K' hK => ?_) AllReadyIn.nil
          go_simp
          refine hK _ _ ?_
          clear hK K'
          refine wpAnyIn_done (by kernel_rfl) ?_ _
          exact ⟨Q4.out.from _, Q3.out, Q2.out⟩
  case done =>
    rintro D xs W hD hxs ⟨⟨v, gs, cs, h1, h2, h3⟩, hB⟩ hK
    have hxs' : xs = waysB K ts a b := hxs
    rw [hxs'] at h2 h3
    have e7 := h1.cell
    have HB := hideP hB
    have H1 := hideP h1
    have H2 := hideP h2
    have H3 := hideP h3
    clear h1 h2 h3 hB hxs hxs'
    obtain ⟨N, hN⟩ : ∃ N, N = (waysB K ts a b).length := ⟨_, rfl⟩
    have HV : Hid ((waysB K ts a b = [] ∧ v = .slice none 0 0) ∨ ∃ G c, v = .slice (some ⟨G, 0, none⟩) (waysB K ts a b).length c ∧ w.heap.size + 2 ≤ G) := by
      rcases H2.out.2 with ⟨q1, q2⟩ | ⟨G, c, cur, q1, q2, _⟩
      · exact Or.inl ⟨List.length_eq_zero_iff.1 q2, q1⟩
      · exact Or.inr ⟨G, c, q1, q2⟩
    rcases HV.out with ⟨q1, q2⟩ | ⟨G, c, q1, q2⟩
    · rw [q2] at e7
      gi_wp2
      refine ⟨by simp, .inl ⟨_, _, rfl, run_takeDeferred hK, ?_⟩⟩
      refine ⟨.slice none 0 0, by simp [results, Tryd.f42, go_sem], none, 0, by rw [q1]; rfl, Or.inl ⟨q1, rfl⟩, HB.out.trans (belowK_b (w := w) (Nat.le_refl _) W D _ _ (by omega) hK rfl rfl)⟩
    · rw [q1] at e7
      have HO := hideP (q1 ▸ H2.out)
      gi_wp2
      refine ⟨by simp, .inl ⟨_, _, rfl, run_takeDeferred hK, ?_⟩⟩
      refine ⟨.slice (some ⟨G, 0, none⟩) (waysB K ts a b).length c, by simp [results, Tryd.f42, go_sem], some ⟨G, 0, none⟩, c, rfl, Or.inr ⟨G, gs, cs, rfl, by omega, ?_, ?_, ?_⟩, HB.out.trans (belowK_b (w := w) (Nat.le_refl _) W D _ _ (by omega) hK rfl rfl)⟩
      · have hp := ownsRow_putObj HO.out (.deferred none) hK rfl
        by_cases h0 : (waysB K ts a b).length = 0
        · obtain ⟨ce, fr, hb, _⟩ := row_type (g := G) (c := c) hp rfl
          exact ⟨fun j hj => absurd hj (by omega), fun j => hp.frozenAt j, (Array.getElem?_eq_some_iff.1 hb).1⟩
        · obtain ⟨g', cap', e, r1, r2⟩ := hp.form (by omega)
          simp only [Value.slice.injEq, Option.some.injEq, Addr.mk.injEq, and_true, true_and] at e
          obtain ⟨rfl, _⟩ := e
          refine ⟨fun j hj => ?_, fun j => hp.frozenAt j, r2⟩
          rw [hp.cellAt j (by omega)]
          simp [rowVs, hj]
      · refine own_rws_low (H3.out.kept (by simp) (fun k ce fr hk => World.putObj_heap_other (fun e => by subst e; rw [hK] at hk; cases hk))) (by omega)
      · intro i hi e
        obtain ⟨c1, f1, hb1, _⟩ := row_type (g := gs i) (c := cs i) (H3.out.row i hi) rfl
        obtain ⟨c2, f2, hb2, _⟩ := row_type (g := G) (c := c) HO.out rfl
        rw [e, hb2] at hb1
        simp at hb1
  case stop =>
    rintro D c pre W hD hpre hf hK
    exact hf.elim

end Go.Proofs.YtncjdbhicpgfkaaDoor
