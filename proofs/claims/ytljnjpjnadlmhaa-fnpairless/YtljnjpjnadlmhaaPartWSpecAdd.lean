/- Texts put together: WSpecAdd, WSpecAll. -/
import Derived.Test.YtljnjpjnadlmhaaPartWSpecOk
import Derived.Deep.RegionLaw
import Derived.Deep.AppendLies
import Derived.Test.YtljnjpjnadlmhaaPartWLeaf
/- Walks of spec.l1Knot and spec.NetAdd. -/
namespace Go.Proofs.Ytljnjpjnadlmhaa
open Go.RowKit
set_option linter.unusedVariables false

theorem less_b (v : Bool) (a b c d : Int) (w : World) (h : lessB a b c d = v) :
    Calls Try.prog 64 #[.agg #[.int .i64 a, .int .i64 b], .agg #[.int .i64 c, .int .i64 d]] w fun e w' => e = .returned (.bool v) ∧ Below w.heap.size w w' := by
  refine (less_is v a b c d w h).mono ?_
  rintro e w' ⟨rfl, rfl⟩
  exact ⟨rfl, below_two _ _ _⟩
set_option maxHeartbeats 400000 in
theorem l1Knot_any (r : Bool) (K : Int) (ao : Option Addr) (cap : Nat) (ts : List (Int × Int)) (k : Int) (w : World) (hn : ts.length ≤ 1099511627776) (ht : TiesIn w w.heap.size ao ts) (hr : (okB K ts && knotB k K) = r) :
    Calls Try.prog 32 #[.agg #[.int .i64 K, .slice ao ts.length cap], .int .i64 k] w fun e w' => e = .returned (.bool r) ∧ Below w.heap.size w w' := by
  have ht1 := fun o => (ht.below (below_one w o) (Nat.le_refl _)).wide (C := w.heap.size + 1) (by omega)
  go_enter Try.func32, Try.ntmps32
  go_wp2_with fail
  refine (specOk_any K ao cap ts _ hn (by simpa using ht1 _)).mono ?_
  rintro e w1 ⟨rfl, hb⟩
  have hb' : Below (w.heap.size + 1) (w.alloc (.cells #[.int .i64 K, .slice ao ts.length cap] 25)) w1 := by simpa using hb
  have c0 : w1.cell? ⟨w.heap.size, 0, none⟩ = some (.int .i64 K) := (hb'.cell (p := ⟨w.heap.size, 0, none⟩) (by simp)).trans (by simp)
  have hbb : Below w.heap.size w w1 := (below_one _ _).trans (hb'.mono (by omega))
  clear hb hb' ht ht1
  cases hok : okB K ts
  · rw [hok] at hr
    simp at hr
    subst hr
    clear hok
    go_wp2
    go_ret
    exact ⟨rfl, hbb⟩
  · have h8 := (okB_iff.1 hok).2.1
    have h0 := (okB_iff.1 hok).1
    rw [hok] at hr
    have hR : inB k 0 (K - 1) = r := by
      have e : (k ≤ K - 1) ↔ (k < K) := by omega
      rw [← hr, Bool.true_and]
      simp only [inB, knotB, e]
    have HR : Hid (inB k 0 (K - 1) = r) := hR
    clear hok hr hR
    go_wp2_with fail
    refine (in_is r k 0 (K - 1) _ HR.out).mono ?_
    rintro e w2 ⟨rfl, rfl⟩
    go_wp2
    go_ret
    exact ⟨rfl, hbb⟩
/-- the list that is made, behind L: its cell at place 1 of block O, its row among the blocks that came behind w0; but for O all that w0 had is as it was -/
structure Made (w0 wr : World) (K : Int) (O : Nat) (v : Value) (L : List (Int × Int)) : Prop where
  gr : w0.grownBy wr (some O)
  o0 : wr.cell? ⟨O, 0, none⟩ = some (.int .i64 K)
  o1 : wr.cell? ⟨O, 1, none⟩ = some v
  f1 : wr.frozen? ⟨O, 1, none⟩ = false
  own : wr.ownsRow w0.heap.size 37 2 v L.length (clist L L.length)
  hO : O < w0.heap.size
theorem Made.next {w0 wr w' : World} {K : Int} {O : Nat} {v : Value} {L : List (Int × Int)} (h : Made w0 wr K O v L) (hb : Below wr.heap.size wr w') : Made w0 w' K O v L := by
  have z := h.hO
  have y := h.gr.size
  refine ⟨⟨hb.os.trans h.gr.os, hb.tape.trans h.gr.tape, hb.output.trans h.gr.output, Nat.le_trans y hb.size, fun k hk hne => (hb.block k (by omega)).trans (h.gr.block k hk hne)⟩,
    (hb.cell (p := ⟨O, 0, none⟩) (by show O < _; omega)).trans h.o0, (hb.cell (p := ⟨O, 1, none⟩) (by show O < _; omega)).trans h.o1, (hb.frozen (p := ⟨O, 1, none⟩) (by show O < _; omega)).trans h.f1, ?_, z⟩
  refine ⟨h.own.1, ?_⟩
  rcases h.own.2 with e | ⟨g, cap, cur, e, hg, hh, rest⟩
  · exact Or.inl e
  · refine Or.inr ⟨g, cap, cur, e, hg, ?_, rest⟩
    rw [hb.block g (Array.getElem?_eq_some_iff.1 hh).1]; exact hh
theorem Made.old {w0 wr : World} {K : Int} {O : Nat} {v : Value} {L : List (Int × Int)} (h : Made w0 wr K O v L) {p : Addr} (hp : p.block < w0.heap.size) (hne : p.block ≠ O) : wr.cell? p = w0.cell? p :=
  h.gr.cell_far p hp (by simpa using hne)
theorem Made.oldF {w0 wr : World} {K : Int} {O : Nat} {v : Value} {L : List (Int × Int)} (h : Made w0 wr K O v L) {p : Addr} (hp : p.block < w0.heap.size) (hne : p.block ≠ O) : wr.frozen? p = w0.frozen? p :=
  h.gr.frozen_far p hp (by simpa using hne)
theorem Made.below {w w0 wr : World} {K : Int} {O : Nat} {v : Value} {L : List (Int × Int)} (h : Made w0 wr K O v L) (hb : Below w.heap.size w w0) (hO : w.heap.size ≤ O) : Below w.heap.size w wr :=
  hb.grown h.gr hb.size (fun k e => by cases e; exact hO)
theorem clist_snoc (L : List (Int × Int)) (x : Int × Int) : clist (L ++ [x]) (L ++ [x]).length = clist L L.length ++ [.int .i64 x.1, .int .i64 x.2] := by
  rw [List.length_append, List.length_singleton, clist_succ]
  have e0 : tA (L ++ [x]) L.length = x.1 := by simp [tA]
  have e1 : tB (L ++ [x]) L.length = x.2 := by simp [tB]
  rw [e0, e1]
  congr 1
  unfold clist
  apply List.map_congr_left
  intro j hj
  have hj' : j / 2 < L.length := by have := List.mem_range.1 hj; omega
  unfold tcell
  have g0 : tA (L ++ [x]) (j / 2) = tA L (j / 2) := by simp [tA, List.getElem?_append_left hj']
  have g1 : tB (L ++ [x]) (j / 2) = tB L (j / 2) := by simp [tB, List.getElem?_append_left hj']
  rw [g0, g1]
theorem Made.far {w0 wr wa w1 : World} {K : Int} {O : Nat} {v : Value} {L : List (Int × Int)} (h : Made w0 wr K O v L) (ha : Below wr.heap.size wr wa) (hg : wa.grownBy w1 v.ownBlock) : w1.cell? ⟨O, 1, none⟩ = some v ∧ w1.frozen? ⟨O, 1, none⟩ = false := by
  have h' := h.next ha
  have z := h'.hO
  have y := h'.gr.size
  have hge := own_ge h'.own
  have hne : some O ≠ v.ownBlock := fun e => by have := hge O e.symm; omega
  have hlt : O < wa.heap.size := by omega
  exact ⟨(hg.cell_far ⟨O, 1, none⟩ hlt hne).trans h'.o1, (hg.frozen_far ⟨O, 1, none⟩ hlt hne).trans h'.f1⟩
/-- what a round of the model's loops reads, as it lay when the loop began -/
structure St (w5 : World) (O B : Nat) (nv : Value) (Q : Nat) (t : Int × Int) (bb at_ : Nat) (x y : Int) : Prop where
  b1 : w5.cell? ⟨B, 1, none⟩ = some nv
  q0 : w5.cell? ⟨Q, 0, none⟩ = some (.int .i64 t.1)
  q1 : w5.cell? ⟨Q, 1, none⟩ = some (.int .i64 t.2)
  c0 : w5.cell? ⟨bb, at_, none⟩ = some (.int .i64 x)
  c1 : w5.cell? ⟨bb, at_ + 1, none⟩ = some (.int .i64 y)
  zB : B < w5.heap.size ∧ B ≠ O
  zQ : Q < w5.heap.size ∧ Q ≠ O
  zb : bb < w5.heap.size ∧ bb ≠ O
theorem St.at {w5 wr : World} {K : Int} {O : Nat} {v : Value} {L : List (Int × Int)} {B : Nat} {nv : Value} {Q : Nat} {t : Int × Int} {bb at_ : Nat} {x y : Int} (h : St w5 O B nv Q t bb at_ x y) (M : Made w5 wr K O v L) :
    wr.cell? ⟨B, 1, none⟩ = some nv ∧ wr.cell? ⟨Q, 0, none⟩ = some (.int .i64 t.1) ∧ wr.cell? ⟨Q, 1, none⟩ = some (.int .i64 t.2) ∧ wr.cell? ⟨bb, at_, none⟩ = some (.int .i64 x) ∧ wr.cell? ⟨bb, at_ + 1, none⟩ = some (.int .i64 y) ∧
      O < wr.heap.size ∧ B < wr.heap.size ∧ Q < wr.heap.size ∧ bb < wr.heap.size := by
  have z := M.gr.size
  have o := M.hO
  exact ⟨(M.old (p := ⟨B, 1, none⟩) h.zB.1 h.zB.2).trans h.b1, (M.old (p := ⟨Q, 0, none⟩) h.zQ.1 h.zQ.2).trans h.q0, (M.old (p := ⟨Q, 1, none⟩) h.zQ.1 h.zQ.2).trans h.q1, (M.old (p := ⟨bb, at_, none⟩) h.zb.1 h.zb.2).trans h.c0, (M.old (p := ⟨bb, at_ + 1, none⟩) h.zb.1 h.zb.2).trans h.c1,
    by omega, by have := h.zB.1; omega, by have := h.zQ.1; omega, by have := h.zb.1; omega⟩
/-- an append to the list, and its store -/
theorem Made.push {w0 wr wa w1 : World} {K : Int} {O : Nat} {v : Value} {L : List (Int × Int)} (h : Made w0 wr K O v L) (ha : Below wr.heap.size wr wa) {x : Int × Int} {g cap : Nat}
    (hown : w1.ownsRow w0.heap.size 37 2 (.slice (some ⟨g, 0, none⟩) (L.length + 1) cap) (L.length + 1) (clist L L.length ++ [.int .i64 x.1, .int .i64 x.2])) (hg : wa.grownBy w1 v.ownBlock) :
    Made w0 (w1.setCell ⟨O, 1, none⟩ (.slice (some ⟨g, 0, none⟩) (L.length + 1) cap)) K O (.slice (some ⟨g, 0, none⟩) (L.length + 1) cap) (L ++ [x]) := by
  have h' := h.next ha
  have z := h'.hO
  have y := h'.gr.size
  have hge := own_ge h'.own
  have hne : some O ≠ v.ownBlock := fun e => by have := hge O e.symm; omega
  have hlt : O < wa.heap.size := by omega
  have o0 : w1.cell? ⟨O, 0, none⟩ = some (.int .i64 K) := (hg.cell_far ⟨O, 0, none⟩ hlt hne).trans h'.o0
  have o1 : w1.cell? ⟨O, 1, none⟩ = some v := (hg.cell_far ⟨O, 1, none⟩ hlt hne).trans h'.o1
  have f1 : w1.frozen? ⟨O, 1, none⟩ = false := (hg.frozen_far ⟨O, 1, none⟩ hlt hne).trans h'.f1
  refine ⟨⟨hg.os.trans h'.gr.os, hg.tape.trans h'.gr.tape, hg.output.trans h'.gr.output, ?_, fun k hk hk' => ?_⟩, ?_, ?_, ?_, ?_, z⟩
  · have := hg.size; simp [World.setCell]; omega
  · rw [Below.heap_setCell w1 ⟨O, 1, none⟩ _ k (by simpa using hk'), hg.block k (by omega) (fun e => by have := hge k e.symm; omega)]
    exact h'.gr.block k hk hk'
  · rw [World.cell?_setCell_other _ _ _ _ (by simp)]; exact o0
  · exact World.cell?_setCell_same w1 ⟨O, 1, none⟩ _ o1
  · rw [World.frozen?_setCell]; exact f1
  · rw [clist_snoc, List.length_append, List.length_singleton]
    exact ownsRow_setCell_below hown (a := ⟨O, 1, none⟩) z _
theorem specHas_is (r : Bool) (K : Int) (ao : Option Addr) (cap : Nat) (ts : List (Int × Int)) (a b : Int) (w : World) (hn : ts.length ≤ 1099511627776) (ht : TiesIn w w.heap.size ao ts) (hr : hasB K ts a b = r) :
    Calls Try.prog 67 #[.agg #[.int .i64 K, .slice ao ts.length cap], .int .i64 a, .int .i64 b] w fun e w' => e = .returned (.bool r) ∧ Below w.heap.size w w' := by
  rw [← hr]; exact specHas_any K ao cap ts a b w hn ht
theorem l1Tie_b (a b : Int) (w : World) :
    Calls Try.prog 57 #[.int .i64 a, .int .i64 b] w fun e w' => e = .returned (.agg #[.int .i64 (tieOf a b).1, .int .i64 (tieOf a b).2]) ∧ Below w.heap.size w w' := by
  refine (l1Tie_any a b w).mono ?_
  rintro e w' ⟨rfl, rfl⟩
  exact ⟨rfl, below_one _ _⟩
set_option maxHeartbeats 800000 in
theorem specAdd_no (K : Int) (ao : Option Addr) (cap : Nat) (ts : List (Int × Int)) (a b : Int) (w : World) (hn : ts.length ≤ 1099511627776) (ht : TiesIn w w.heap.size ao ts) (hadd : addB K ts a b = false) :
    Calls Try.prog 68 #[.agg #[.int .i64 K, .slice ao ts.length cap], .int .i64 a, .int .i64 b] w fun e w' => e = .returned (.tuple #[.agg #[.int .i64 0, .slice none 0 0], .bool false]) ∧ Below w.heap.size w w' := by
  have ht1 := fun o p => (ht.below (below_two w o p) (Nat.le_refl _)).wide (C := w.heap.size + 1 + 1) (by omega)
  cases hka : (okB K ts && knotB a K)
  · clear hadd
    go_enter Try.func68, Try.ntmps68
    go_wp2_with fail
    refine (l1Knot_any false K ao cap ts a _ hn (by simpa using ht1 _ _) hka).mono ?_
    rintro e w1 ⟨rfl, hb⟩
    obtain ⟨c0, c1, r0, r1, f0, f1, hz, hbb⟩ := (Boxes.start hb)
    clear hb ht ht1 hka
    go_wp2
    refine bodyPost_ret (v := .tuple #[.agg #[.int .i64 0, .slice none 0 0], .bool false]) ?_ rfl ⟨rfl, ?_⟩
    · simp [results, Try.results68, go_sem, r0, r1]
    · exact (hbb.setCell (by simp) _).setCell (by simp) _
  · go_enter Try.func68, Try.ntmps68
    go_wp2_with fail
    refine (l1Knot_any true K ao cap ts a _ hn (by simpa using ht1 _ _) hka).mono ?_
    rintro e w1 ⟨rfl, hb⟩
    have B1 : Boxes w w1 K (.slice ao ts.length cap) := Boxes.start hb
    have B1' := B1
    obtain ⟨c0, c1, r0, r1, f0, f1, hz, hbb⟩ := B1'
    have t1 : TiesIn w1 w1.heap.size ao ts := (ht.below hbb (Nat.le_refl _)).wide hbb.size
    clear hb ht1
    cases hkb : (okB K ts && knotB b K)
    · clear hadd hka
      go_wp2_with fail
      refine (l1Knot_any false K ao cap ts b _ hn t1 hkb).mono ?_
      rintro e w2 ⟨rfl, hb2⟩
      clear c0 c1 r0 r1 f0 f1 hz hbb
      obtain ⟨c0, c1, r0, r1, f0, f1, hz, hbb⟩ := (B1.next hb2)
      clear hb2 B1 hkb
      go_wp2
      refine bodyPost_ret (v := .tuple #[.agg #[.int .i64 0, .slice none 0 0], .bool false]) ?_ rfl ⟨rfl, ?_⟩
      · simp [results, Try.results68, go_sem, r0, r1]
      · exact (hbb.setCell (by simp) _).setCell (by simp) _
    · go_wp2_with fail
      refine (l1Knot_any true K ao cap ts b _ hn t1 hkb).mono ?_
      rintro e w2 ⟨rfl, hb2⟩
      clear c0 c1 r0 r1 f0 f1 hz hbb
      have B2 := B1.next hb2
      have B2' := B2
      obtain ⟨c0, c1, r0, r1, f0, f1, hz, hbb⟩ := B2'
      have t2 : TiesIn w2 w2.heap.size ao ts := (ht.below hbb (Nat.le_refl _)).wide hbb.size
      clear hb2 B1 t1
      by_cases hab : a = b
      · have heq : (a == b) = true := by simp [hab]
        clear hadd hka hkb hab
        go_wp2
        refine bodyPost_ret (v := .tuple #[.agg #[.int .i64 0, .slice none 0 0], .bool false]) ?_ rfl ⟨rfl, ?_⟩
        · simp [results, Try.results68, go_sem, r0, r1]
        · exact (hbb.setCell (by simp) _).setCell (by simp) _
      · have heq : (a == b) = false := by simp [hab]
        have hhas : hasB K ts a b = true := by
          simp only [Bool.and_eq_true] at hka hkb
          simpa [addB, hka, hkb, hab] using hadd
        clear hadd hka hkb hab
        go_wp2_with fail
        refine (specHas_is true K ao cap ts a b _ hn t2 hhas).mono ?_
        rintro e w3 ⟨rfl, hb3⟩
        clear c0 c1 r0 r1 f0 f1 hz hbb
        obtain ⟨c0, c1, r0, r1, f0, f1, hz, hbb⟩ := (B2.next hb3)
        clear hb3 B2 hhas
        go_wp2
        refine bodyPost_ret (v := .tuple #[.agg #[.int .i64 0, .slice none 0 0], .bool false]) ?_ rfl ⟨rfl, ?_⟩
        · simp [results, Try.results68, go_sem, r0, r1]
        · exact (hbb.setCell (by simp) _).setCell (by simp) _
set_option maxHeartbeats 1600000 in
theorem specAdd_yes (K : Int) (ao : Option Addr) (cap : Nat) (ts : List (Int × Int)) (a b : Int) (w : World) (hn : ts.length ≤ 1099511627776) (ht : TiesIn w w.heap.size ao ts) (hadd : addB K ts a b = true) :
    Calls Try.prog 68 #[.agg #[.int .i64 K, .slice ao ts.length cap], .int .i64 a, .int .i64 b] w fun e w' => ∃ ao' cap', e = .returned (.tuple #[.agg #[.int .i64 K, .slice ao' (ins (tieOf a b) ts).length cap'], .bool true]) ∧
      w'.ownsRow w.heap.size 37 2 (.slice ao' (ins (tieOf a b) ts).length cap') (ins (tieOf a b) ts).length (clist (ins (tieOf a b) ts) (ins (tieOf a b) ts).length) ∧ Below w.heap.size w w' := by
  obtain ⟨hok, a0, a1, b0, b1, hab, hno⟩ := addB_yes hadd
  have hlen := ok_short (okB_iff.1 hok)
  have hka : (okB K ts && knotB a K) = true := by simp [hok, knotB, a0, a1]
  have hkb : (okB K ts && knotB b K) = true := by simp [hok, knotB, b0, b1]
  have heq : (a == b) = false := by simp [hab]
  obtain ⟨i0, hi, hz0, hz1, hz2⟩ := info_parts Try.infoTie
  have ht1 := fun o p => (ht.below (below_two w o p) (Nat.le_refl _)).wide (C := w.heap.size + 1 + 1) (by omega)
  have HI : Hid (Try.prog.info? 37 = some i0 ∧ i0.zero = some (.agg #[.int .i64 0, .int .i64 0]) ∧ i0.size = 2 ∧ i0.bytes = 16) := ⟨hi, hz0, hz1, hz2⟩
  clear hadd hok a0 a1 b0 b1 hab hi hz0 hz1 hz2
  go_enter Try.func68, Try.ntmps68
  go_wp2_with fail
  refine (l1Knot_any true K ao cap ts a _ hn (by simpa using ht1 _ _) hka).mono ?_
  rintro e w1 ⟨rfl, hb⟩
  have B1 : Boxes w w1 K (.slice ao ts.length cap) := Boxes.start hb
  have B1' := B1
  obtain ⟨c0, c1, r0, r1, f0, f1, hz, hbb⟩ := B1'
  have t1 : TiesIn w1 w1.heap.size ao ts := (ht.below hbb (Nat.le_refl _)).wide hbb.size
  clear hb ht1 hka
  go_wp2_with fail
  refine (l1Knot_any true K ao cap ts b _ hn t1 hkb).mono ?_
  rintro e w2 ⟨rfl, hb2⟩
  clear c0 c1 r0 r1 f0 f1 hz hbb
  have B2 := B1.next hb2
  have B2' := B2
  obtain ⟨c0, c1, r0, r1, f0, f1, hz, hbb⟩ := B2'
  have t2 : TiesIn w2 w2.heap.size ao ts := (ht.below hbb (Nat.le_refl _)).wide hbb.size
  clear hb2 B1 t1 hkb
  go_wp2_with fail
  refine (specHas_is false K ao cap ts a b _ hn t2 hno).mono ?_
  rintro e w3 ⟨rfl, hb3⟩
  clear c0 c1 r0 r1 f0 f1 hz hbb
  have B3 := B2.next hb3
  have B3' := B3
  obtain ⟨c0, c1, r0, r1, f0, f1, hz, hbb⟩ := B3'
  clear hb3 B2 t2 hno
  go_wp2_with fail
  refine (l1Tie_b a b _).mono ?_
  rintro e w4 ⟨rfl, hb4⟩
  obtain ⟨t, htie⟩ : ∃ t, t = tieOf a b := ⟨_, rfl⟩
  rw [← htie]
  have HTI : Hid (t = tieOf a b) := htie
  clear htie
  have hb4' : Below (w3.heap.size + 1) (w3.alloc (.cells #[.int .i64 K, .slice none 0 0] 25)) w4 := by simpa using hb4
  have hz4 : w3.heap.size < w4.heap.size := by have := hb4'.size; simp at this; omega
  have hB4 : Below w3.heap.size w3 w4 := (below_one _ _).trans (hb4'.mono (by omega))
  obtain ⟨w5, hw5⟩ : ∃ w5, w5 = w4.alloc (.cells #[.int .i64 t.1, .int .i64 t.2] 37) := ⟨_, rfl⟩
  have hB5 : Below w4.heap.size w4 w5 := by rw [hw5]; exact below_one _ _
  have hs5 : w5.heap.size = w4.heap.size + 1 := by rw [hw5]; simp
  have B5 : Boxes w w5 K (.slice ao ts.length cap) := (B3.next hB4).next hB5
  have u0 : w5.cell? ⟨w4.heap.size, 0, none⟩ = some (.int .i64 t.1) := by rw [hw5]; simp
  have u1 : w5.cell? ⟨w4.heap.size, 1, none⟩ = some (.int .i64 t.2) := by rw [hw5]; simp
  have M0 : Made w5 w5 K w3.heap.size (.slice none 0 0) [] := by
    refine ⟨⟨rfl, rfl, rfl, Nat.le_refl _, fun _ _ _ => rfl⟩, ?_, ?_, ?_, World.ownsRow_nil _ _ _ _, by omega⟩
    · exact (hB5.cell (p := ⟨w3.heap.size, 0, none⟩) hz4).trans ((hb4'.cell (p := ⟨w3.heap.size, 0, none⟩) (by simp)).trans (by simp))
    · exact (hB5.cell (p := ⟨w3.heap.size, 1, none⟩) hz4).trans ((hb4'.cell (p := ⟨w3.heap.size, 1, none⟩) (by simp)).trans (by simp))
    · exact (hB5.frozen (p := ⟨w3.heap.size, 1, none⟩) hz4).trans ((hb4'.frozen (p := ⟨w3.heap.size, 1, none⟩) (by simp)).trans (by simp))
  have t5 : TiesIn w5 w.heap.size ao ts := ht.below B5.bel (Nat.le_refl _)
  have hwO : w.heap.size + 1 < w3.heap.size := B3.hz
  have HW5 : Hid (w5 = w4.alloc (.cells #[.int .i64 t.1, .int .i64 t.2] 37)) := hw5
  have HS5 : Hid (w5.heap.size = w4.heap.size + 1) := hs5
  have hwB : w.heap.size < w5.heap.size := by have := B5.hz; omega
  clear hb4 hb4' hB4 hB5 c0 c1 r0 r1 f0 f1 hz hbb B3 ht hw5 hs5
  have hsz5 : w4.heap.size < w5.heap.size := by rw [HS5.out]; omega
  have hn64 : (ts.length : Int) ≤ 64 := by omega
  go_wp2
  go_loopw [10, 11] (fun d i wr => ∃ (k : Nat) (v : Value), k ≤ ts.length ∧ i = .int .i64 k ∧ d = .bool (insTo t ts k).2 ∧ Made w5 wr K w3.heap.size v (insTo t ts k).1) (fun _ i _ => ts.length - (intOf i).toNat)
  case atStart => exact ⟨0, .slice none 0 0, Nat.zero_le _, rfl, rfl, by rw [← HW5.out]; exact M0⟩
  case round =>
    obtain ⟨k, v, hk, rfl, rfl, M⟩ := hrel
    have hl64 := insTo_len t ts k hk
    by_cases hlt : k < ts.length
    · obtain ⟨bb, off, rfl, hbw, c0, c1⟩ := t5 k hlt
      have hstep := insTo_succ t ts k hlt
      obtain ⟨x, hx⟩ : ∃ x, x = tA ts k := ⟨_, rfl⟩
      obtain ⟨y, hy⟩ : ∃ y, y = tB ts k := ⟨_, rfl⟩
      have hxy : ts[k] = (x, y) := by rw [hx, hy, tA_get ts k hlt, tB_get ts k hlt]
      rw [hxy] at hstep
      rw [← hx] at c0; rw [← hy] at c1
      have S : St w5 w3.heap.size w.heap.size (.slice (some ⟨bb, off, none⟩) ts.length cap) w4.heap.size t bb (off + k * 2) x y :=
        ⟨B5.c1, u0, u1, c0, c1, ⟨hwB, by omega⟩, ⟨hsz5, by omega⟩, ⟨by omega, by omega⟩⟩
      have HST : Hid (insTo t ts (k + 1) = insStep t (insTo t ts k) (x, y)) := hstep
      have hk0 : (0 : Int) ≤ (k : Int) := by omega
      have hk1 : (k : Int) < (ts.length : Int) := by omega
      clear c0 c1 hx hy hxy hstep u0 u1 M0 t5
      obtain ⟨L, hL⟩ : ∃ L, L = (insTo t ts k).1 := ⟨_, rfl⟩
      obtain ⟨d, hd⟩ : ∃ d, d = (insTo t ts k).2 := ⟨_, rfl⟩
      have hD : insTo t ts k = (L, d) := by rw [hL, hd]
      have HD : Hid (insTo t ts k = (L, d)) := hD
      rw [← hL] at M hl64
      rw [← hd]
      clear hL hd hD
      obtain ⟨b1, q0, q1, c0, c1, zO, zB, zQ, zb⟩ := S.at M
      cases d
      · cases hles : lessB t.1 t.2 x y
        · have hN : insTo t ts (k + 1) = (L ++ [(x, y)], false) := by
            have := HST.out
            rw [HD.out] at this
            simpa [insStep, lessT, hles] using this
          have HNX : Hid (insTo t ts (k + 1) = (L ++ [(x, y)], false)) := hN
          clear hN
          go_wp2
          go_region_held3 (fun w' => w'.cell? ⟨w.heap.size, 1, none⟩ = some (.slice (some ⟨bb, off, none⟩) ts.length cap) ∧ w'.cell? ⟨w4.heap.size, 0, none⟩ = some (.int .i64 t.1) ∧ w'.cell? ⟨w4.heap.size, 1, none⟩ = some (.int .i64 t.2) ∧ w'.cell? ⟨bb, off + k * 2, none⟩ = some (.int .i64 x) ∧ w'.cell? ⟨bb, off + k * 2 + 1, none⟩ = some (.int .i64 y)) (first | exact ⟨b1, q0, q1, c0, c1⟩ | exact ⟨b1', q0', q1', c0', c1'⟩) (first | (go_at_call 64; refine (less_b false t.1 t.2 x y _ hles).mono ?_; rintro e w6 ⟨rfl, hb6⟩; have M6 := M.next ((Below.refl _ _).drew.trans hb6); obtain ⟨b1', q0', q1', c0', c1', zO', zB', zQ', zb'⟩ := S.at M6))
          clear b1 q0 q1 c0 c1 zO zB zQ zb hb6 M
          have o1 := M6.o1
          go_wp2
          go_region_law ((refine step_append_lies _ (by rfl) _ _ _ (by rfl) w5.heap.size 37 i0 _ 2 16 Try.underlying23 HI.out.1 HI.out.2.1 HI.out.2.2.1 HI.out.2.2.2 rfl (by omega) v L.length (clist L L.length) (by rfl) ((M6.own.alloc _).drew) ⟨w6.heap.size, 0, none⟩ 1 1 [.int .i64 x, .int .i64 y] (by rfl) (by rfl) (World.news_of_block (cs := #[.int .i64 x, .int .i64 y]) (t := 37) (fr := (0, 0)) (heap_alloc_new w6 _)) (by simp [Value.oneCell']) (by omega) (by unfold maxLen; omega) (by omega) (by have := M6.gr.size; simp; omega) (w6.heap.size + 1) (by simp) ?_; intro g cap' wb hown1 hgrow hat hltg; obtain ⟨oB, fB⟩ := M6.far ((below_one _ _).drew) hgrow))
          all_goals
            have MP := M6.push ((below_one _ _).drew) (x := (x, y)) hown1 hgrow
            clear hown1 hgrow hat hltg oB fB
            go_wp2
            go_roundw
            case rel => exact ⟨k + 1, _, by omega, by go_num, by rw [HNX.out], by rw [HNX.out]; exact MP⟩
            case measure => simp [intOf]; omega
        · have hN : insTo t ts (k + 1) = (L ++ [t] ++ [(x, y)], true) := by
            have := HST.out
            rw [HD.out] at this
            simpa [insStep, lessT, hles] using this
          have HNX : Hid (insTo t ts (k + 1) = (L ++ [t] ++ [(x, y)], true)) := hN
          clear hN
          go_wp2
          go_region_held3 (fun w' => w'.cell? ⟨w.heap.size, 1, none⟩ = some (.slice (some ⟨bb, off, none⟩) ts.length cap) ∧ w'.cell? ⟨w4.heap.size, 0, none⟩ = some (.int .i64 t.1) ∧ w'.cell? ⟨w4.heap.size, 1, none⟩ = some (.int .i64 t.2) ∧ w'.cell? ⟨bb, off + k * 2, none⟩ = some (.int .i64 x) ∧ w'.cell? ⟨bb, off + k * 2 + 1, none⟩ = some (.int .i64 y)) (first | exact ⟨b1, q0, q1, c0, c1⟩ | exact ⟨b1', q0', q1', c0', c1'⟩) (first | (go_at_call 64; refine (less_b true t.1 t.2 x y _ hles).mono ?_; rintro e w6 ⟨rfl, hb6⟩; have M6 := M.next ((Below.refl _ _).drew.trans hb6); obtain ⟨b1', q0', q1', c0', c1', zO', zB', zQ', zb'⟩ := S.at M6))
          clear b1 q0 q1 c0 c1 zO zB zQ zb hb6 M
          have o1 := M6.o1
          go_wp2_with (at_builtin; refine wpList_append_lies _ rfl _ _ _ rfl w5.heap.size 37 i0 _ 2 16 Try.underlying23 HI.out.1 HI.out.2.1 HI.out.2.2.1 HI.out.2.2.2 rfl (by omega) v L.length (clist L L.length) rfl (M6.own.alloc _) ⟨w6.heap.size, 0, none⟩ 1 1 [.int .i64 t.1, .int .i64 t.2] rfl rfl (World.news_of_block (cs := #[.int .i64 t.1, .int .i64 t.2]) (t := 37) (fr := (0, 0)) (heap_alloc_new w6 _)) (by simp [Value.oneCell']) (by omega) (by unfold maxLen; omega) (by omega) (by have := M6.gr.size; simp; omega) (w6.heap.size + 1) (by simp) ?_; intro g cap' wb hown1 hgrow hat hltg; obtain ⟨oB, fB⟩ := M6.far (below_one _ _) hgrow)
          have M7 := M6.push (below_one _ _) (x := t) hown1 hgrow
          clear hown1 hgrow hat hltg oB fB b1' q0' q1' c0' c1' zO' zB' zQ' zb' o1 M6
          generalize wb.setCell ⟨w3.heap.size, 1, none⟩ (.slice (some ⟨g, 0, none⟩) (L.length + 1) cap') = wc at *
          obtain ⟨b1, q0, q1, c0, c1, zO, zB, zQ, zb⟩ := S.at M7
          have o1 := M7.o1
          have hl7 : (L ++ [t]).length = L.length + 1 := by simp
          go_region_law ((refine step_append_lies _ (by rfl) _ _ _ (by rfl) w5.heap.size 37 i0 _ 2 16 Try.underlying23 HI.out.1 HI.out.2.1 HI.out.2.2.1 HI.out.2.2.2 rfl (by omega) (.slice (some ⟨g, 0, none⟩) (L.length + 1) cap') (L ++ [t]).length (clist (L ++ [t]) (L ++ [t]).length) (by rfl) ((M7.own.alloc _).drew) ⟨wc.heap.size, 0, none⟩ 1 1 [.int .i64 x, .int .i64 y] (by rfl) (by rfl) (World.news_of_block (cs := #[.int .i64 x, .int .i64 y]) (t := 37) (fr := (0, 0)) (heap_alloc_new wc _)) (by simp [Value.oneCell']) (by omega) (by unfold maxLen; omega) (by omega) (by have := M7.gr.size; simp; omega) (wc.heap.size + 1) (by simp) ?_; intro g2 cap2 wb2 hown1 hgrow hat hltg; obtain ⟨oB, fB⟩ := M7.far ((below_one _ _).drew) hgrow))
          all_goals
            have MP := M7.push ((below_one _ _).drew) (x := (x, y)) hown1 hgrow
            clear hown1 hgrow hat hltg oB fB
            go_wp2
            go_roundw
            case rel => exact ⟨k + 1, _, by omega, by go_num, by rw [HNX.out], by rw [HNX.out]; rw [hl7] at MP; exact MP⟩
            case measure => simp [intOf]; omega
      · have hN : insTo t ts (k + 1) = (L ++ [(x, y)], true) := by
          have := HST.out
          rw [HD.out] at this
          simpa [insStep] using this
        have HNX : Hid (insTo t ts (k + 1) = (L ++ [(x, y)], true)) := hN
        clear hN
        go_wp2
        go_quiet (fail)
        have M2 := M.next (below_drewN (Below.refl _ _) nq)
        clear b1 q0 q1 c0 c1 zO zB zQ zb M
        generalize wr.drewN nq = wq at *
        obtain ⟨b1, q0, q1, c0, c1, zO, zB, zQ, zb⟩ := S.at M2
        have o1 := M2.o1
        go_wp2
        go_region_law ((refine step_append_lies _ (by rfl) _ _ _ (by rfl) w5.heap.size 37 i0 _ 2 16 Try.underlying23 HI.out.1 HI.out.2.1 HI.out.2.2.1 HI.out.2.2.2 rfl (by omega) v L.length (clist L L.length) (by rfl) ((M2.own.alloc _).drew) ⟨wq.heap.size, 0, none⟩ 1 1 [.int .i64 x, .int .i64 y] (by rfl) (by rfl) (World.news_of_block (cs := #[.int .i64 x, .int .i64 y]) (t := 37) (fr := (0, 0)) (heap_alloc_new wq _)) (by simp [Value.oneCell']) (by omega) (by unfold maxLen; omega) (by omega) (by have := M2.gr.size; simp; omega) (wq.heap.size + 1) (by simp) ?_; intro g cap' wb hown1 hgrow hat hltg; obtain ⟨oB, fB⟩ := M2.far ((below_one _ _).drew) hgrow))
        all_goals
          have MP := M2.push ((below_one _ _).drew) (x := (x, y)) hown1 hgrow
          clear hown1 hgrow hat hltg oB fB
          go_wp2
          go_roundw
          case rel => exact ⟨k + 1, _, by omega, by go_num, by rw [HNX.out], by rw [HNX.out]; exact MP⟩
          case measure => simp [intOf]; omega
    · have hkn : k = ts.length := by omega
      subst hkn
      obtain ⟨L, hL⟩ : ∃ L, L = (insTo t ts ts.length).1 := ⟨_, rfl⟩
      obtain ⟨d, hd⟩ : ∃ d, d = (insTo t ts ts.length).2 := ⟨_, rfl⟩
      have hend : insEnd t (L, d) = ins (tieOf a b) ts := by rw [hL, hd, ← HTI.out]; exact insTo_end t ts
      rw [← hL] at M hl64
      rw [← hd]
      clear hL hd
      have hres : ∀ (wx : World) (v : Value) (L' : List (Int × Int)), Made w5 wx K w3.heap.size v L' → wx.cell? ⟨w.heap.size + 1, 0, none⟩ = some (.int .i64 0) ∧ wx.cell? ⟨w.heap.size + 1, 1, none⟩ = some (.slice none 0 0) ∧ wx.frozen? ⟨w.heap.size + 1, 0, none⟩ = false ∧ wx.frozen? ⟨w.heap.size + 1, 1, none⟩ = false ∧ wx.cell? ⟨w4.heap.size, 0, none⟩ = some (.int .i64 t.1) ∧ wx.cell? ⟨w4.heap.size, 1, none⟩ = some (.int .i64 t.2) := by
        intro wx v L' M
        have z : w.heap.size + 1 < w5.heap.size := B5.hz
        exact ⟨(M.old (p := ⟨w.heap.size + 1, 0, none⟩) z (by show w.heap.size + 1 ≠ _; omega)).trans B5.r0, (M.old (p := ⟨w.heap.size + 1, 1, none⟩) z (by show w.heap.size + 1 ≠ _; omega)).trans B5.r1, (M.oldF (p := ⟨w.heap.size + 1, 0, none⟩) z (by show w.heap.size + 1 ≠ _; omega)).trans B5.f0, (M.oldF (p := ⟨w.heap.size + 1, 1, none⟩) z (by show w.heap.size + 1 ≠ _; omega)).trans B5.f1, (M.old (p := ⟨w4.heap.size, 0, none⟩) hsz5 (by show w4.heap.size ≠ _; omega)).trans u0, (M.old (p := ⟨w4.heap.size, 1, none⟩) hsz5 (by show w4.heap.size ≠ _; omega)).trans u1⟩
      have HRES := hideP hres
      have b1 : wr.cell? ⟨w.heap.size, 1, none⟩ = some (.slice ao ts.length cap) := (M.old (p := ⟨w.heap.size, 1, none⟩) hwB (by show w.heap.size ≠ w3.heap.size; omega)).trans B5.c1
      have HBW : Hid (Below w.heap.size w w5) := B5.bel
      clear hres u0 u1 M0 t5 B5
      have last : ∀ (wx : World) (v : Value) (L' : List (Int × Int)), Made w5 wx K w3.heap.size v L' → L' = ins (tieOf a b) ts → ∃ ao' cap', v = .slice ao' (ins (tieOf a b) ts).length cap' ∧
          ((wx.setCell ⟨w.heap.size + 1, 0, none⟩ (.int .i64 K)).setCell ⟨w.heap.size + 1, 1, none⟩ (.slice ao' (ins (tieOf a b) ts).length cap')).ownsRow w.heap.size 37 2 (.slice ao' (ins (tieOf a b) ts).length cap') (ins (tieOf a b) ts).length (clist (ins (tieOf a b) ts) (ins (tieOf a b) ts).length) ∧
          Below w.heap.size w ((wx.setCell ⟨w.heap.size + 1, 0, none⟩ (.int .i64 K)).setCell ⟨w.heap.size + 1, 1, none⟩ (.slice ao' (ins (tieOf a b) ts).length cap')) := by
        intro wx v L' M e
        subst e
        obtain ⟨ao', cap', rfl⟩ := own_slice M.own
        have hb := M.below HBW.out (by omega)
        refine ⟨ao', cap', rfl, ?_, (hb.setCell (by show w.heap.size ≤ w.heap.size + 1; omega) _).setCell (by show w.heap.size ≤ w.heap.size + 1; omega) _⟩
        exact own_base (ownsRow_setCell_below (ownsRow_setCell_below M.own (a := ⟨w.heap.size + 1, 0, none⟩) (by show w.heap.size + 1 < _; omega) _) (a := ⟨w.heap.size + 1, 1, none⟩) (by show w.heap.size + 1 < _; omega) _) (by omega)
      have LAST := hideP last
      clear last
      cases d
      · have hE : L ++ [t] = ins (tieOf a b) ts := by simpa [insEnd] using hend
        have HE := hideP hE
        clear hE hend
        obtain ⟨r0, r1, f0, f1, q0, q1⟩ := HRES.out wr v L M
        have o1 := M.o1
        have hzO : w3.heap.size < wr.heap.size := Nat.lt_of_lt_of_le M.hO M.gr.size
        have hzQ : w4.heap.size < wr.heap.size := Nat.lt_of_lt_of_le hsz5 M.gr.size
        go_wp2_with (at_builtin; refine wpList_append_lies _ rfl _ _ _ rfl w5.heap.size 37 i0 _ 2 16 Try.underlying23 HI.out.1 HI.out.2.1 HI.out.2.2.1 HI.out.2.2.2 rfl (by omega) v L.length (clist L L.length) rfl (M.own.alloc _) ⟨wr.heap.size, 0, none⟩ 1 1 [.int .i64 t.1, .int .i64 t.2] rfl rfl (World.news_of_block (cs := #[.int .i64 t.1, .int .i64 t.2]) (t := 37) (fr := (0, 0)) (heap_alloc_new wr _)) (by simp [Value.oneCell']) (by omega) (by unfold maxLen; omega) (by omega) (by have := M.gr.size; simp; omega) (wr.heap.size + 1) (by simp) ?_; intro g cap' wb hown1 hgrow hat hltg; obtain ⟨oB, fB⟩ := M.far (below_one _ _) hgrow; have M7 := M.push (below_one _ _) (x := t) hown1 hgrow; obtain ⟨r07, r17, f07, f17, _, _⟩ := HRES.out _ _ _ M7; have o17 := M7.o1; have o07 := M7.o0)
        refine bodyPost_ret (v := .tuple #[.agg #[.int .i64 K, .slice (some ⟨g, 0, none⟩) (L.length + 1) cap'], .bool true]) ?_ rfl ?_
        · simp [results, Try.results68, go_sem, r07, r17]
        · obtain ⟨ao', cap'', he, h1, h2⟩ := LAST.out _ _ _ M7 HE.out
          rw [← he] at h1 h2
          exact ⟨ao', cap'', by rw [he], by rw [← he]; exact h1, h2⟩
      · have hE : L = ins (tieOf a b) ts := by simpa [insEnd] using hend
        obtain ⟨ao', cap', rfl, hownF, hbF⟩ := LAST.out wr v L M hE
        obtain ⟨r0, r1, f0, f1, q0, q1⟩ := HRES.out wr _ L M
        have o1 := M.o1
        have o0 := M.o0
        have HOF := hideP hownF
        have HBF := hideP hbF
        clear hE hend hownF hbF
        go_wp2
        refine bodyPost_ret (v := .tuple #[.agg #[.int .i64 K, .slice ao' (ins (tieOf a b) ts).length cap'], .bool true]) ?_ rfl ⟨ao', cap', rfl, HOF.out, HBF.out⟩
        simp [results, Try.results68, go_sem, r0, r1]

end Go.Proofs.Ytljnjpjnadlmhaa

/- The answer of spec.NetAdd in one form. -/
namespace Go.Proofs.Ytljnjpjnadlmhaa
open Go.RowKit
set_option linter.unusedVariables false

def addK (K : Int) (ts : List (Int × Int)) (a b : Int) : Int := if addB K ts a b = true then K else 0
def addTs (K : Int) (ts : List (Int × Int)) (a b : Int) : List (Int × Int) := if addB K ts a b = true then ins (tieOf a b) ts else []
theorem addTs_len (K : Int) (ts : List (Int × Int)) (a b : Int) : (addTs K ts a b).length ≤ 65 := by
  unfold addTs
  split
  · rename_i h
    obtain ⟨hok, _⟩ := addB_yes h
    have := ok_short (okB_iff.1 hok)
    rw [ins_length]; omega
  · simp
theorem specAdd_all (K : Int) (ao : Option Addr) (cap : Nat) (ts : List (Int × Int)) (a b : Int) (w : World) (hn : ts.length ≤ 1099511627776) (ht : TiesIn w w.heap.size ao ts) :
    Calls Try.prog 68 #[.agg #[.int .i64 K, .slice ao ts.length cap], .int .i64 a, .int .i64 b] w fun e w' => ∃ ao' cap', e = .returned (.tuple #[.agg #[.int .i64 (addK K ts a b), .slice ao' (addTs K ts a b).length cap'], .bool (addB K ts a b)]) ∧
      OwnN w' w.heap.size w'.heap.size ao' (addTs K ts a b).length (tcell (addTs K ts a b)) ∧ Below w.heap.size w w' := by
  cases h : addB K ts a b
  · refine (specAdd_no K ao cap ts a b w hn ht h).mono ?_
    rintro e w' ⟨rfl, hb⟩
    exact ⟨none, 0, by simp [addK, addTs, h], Or.inl ⟨by simp [addTs, h], rfl⟩, hb⟩
  · refine (specAdd_yes K ao cap ts a b w hn ht h).mono ?_
    rintro e w' ⟨ao', cap', rfl, ho, hb⟩
    refine ⟨ao', cap', by simp [addK, addTs, h], ?_, hb⟩
    have e : addTs K ts a b = ins (tieOf a b) ts := by simp [addTs, h]
    rw [e]; exact OwnN.of_row ho

end Go.Proofs.Ytljnjpjnadlmhaa
