/- Texts put together: WSpecAdd, WSpecAll. -/
import Derived.Test.YthchehmmggnmeaaWBase
import Derived.Deep.RegionLaw
import Derived.Deep.AppendLies
import Derived.Test.YthchehmmggnmeaaPartWLeaf
/- Walks of spec.l1Knot and spec.NetAdd. -/
namespace Go.Proofs.Ythchehmmggnmeaa
open Go.RowKit
set_option linter.unusedVariables false

theorem less_b (v : Bool) (a b c d : Int) (w : World) (h : lessB a b c d = v) :
    Calls Try.prog 50 #[.agg #[.int .i64 a, .int .i64 b], .agg #[.int .i64 c, .int .i64 d]] w fun e w' => e = .returned (.bool v) ∧ Below w.heap.size w w' := by
  refine (less_is v a b c d w h).mono ?_
  rintro e w' ⟨rfl, rfl⟩
  exact ⟨rfl, below_two _ _ _⟩
set_option maxHeartbeats 400000 in
theorem l1Knot_any (r : Bool) (K : Int) (ao : Option Addr) (cap : Nat) (ts : List (Int × Int)) (k : Int) (w : World) (hn : ts.length ≤ 1099511627776) (ht : TiesIn w w.heap.size ao ts) (hr : (okB K ts && knotB k K) = r) :
    Calls Try.prog 20 #[.agg #[.int .i64 K, .slice ao ts.length cap], .int .i64 k] w fun e w' => e = .returned (.bool r) ∧ Below w.heap.size w w' := by
  have ht1 := fun o => (ht.below (below_one w o) (Nat.le_refl _)).wide (C := w.heap.size + 1) (by omega)
  go_enter Try.func20, Try.ntmps20
  go_wp2_with fail
  refine (specOk_any K ao cap ts _ hn (by simpa using ht1 _)).mono ?_
  rintro e w1 ⟨rfl, hb⟩
  have hb' : Below (w.heap.size + 1) (w.alloc (.cells #[.int .i64 K, .slice ao ts.length cap] 31)) w1 := by simpa using hb
  have c0 : w1.cell? ⟨w.heap.size, 0, none⟩ = some (.int .i64 K) := (hb'.cell (p := ⟨w.heap.size, 0, none⟩) (by simp)).trans (by simp)
  have hbb : Below w.heap.size w w1 := (below_one _ _).trans (hb'.mono (by omega))
  clear hb hb' ht ht1
  cases hok : okB K ts
  · rw [hok] at hr
    simp at hr
    subst hr
    clear hok
    go_wp2
    go_ret
    exact ⟨rfl, hbb⟩
  · have h8 := (okB_iff.1 hok).2.1
    have h0 := (okB_iff.1 hok).1
    rw [hok] at hr
    have hR : inB k 0 (K - 1) = r := by
      have e : (k ≤ K - 1) ↔ (k < K) := by omega
      rw [← hr, Bool.true_and]
      simp only [inB, knotB, e]
    have HR : Hid (inB k 0 (K - 1) = r) := hR
    clear hok hr hR
    go_wp2_with fail
    refine (in_is r k 0 (K - 1) _ HR.out).mono ?_
    rintro e w2 ⟨rfl, rfl⟩
    go_wp2
    go_ret
    exact ⟨rfl, hbb⟩
/-- the list that is made, behind L: its cell at place 1 of block O, its row among the blocks that came behind w0; but for O all that w0 had is as it was -/
structure Made (w0 wr : World) (K : Int) (O : Nat) (v : Value) (L : List (Int × Int)) : Prop where
  gr : w0.grownBy wr (some O)
  o0 : wr.cell? ⟨O, 0, none⟩ = some (.int .i64 K)
  o1 : wr.cell? ⟨O, 1, none⟩ = some v
  f1 : wr.frozen? ⟨O, 1, none⟩ = false
  own : wr.ownsRow w0.heap.size 48 2 v L.length (clist L L.length)
  hO : O < w0.heap.size
theorem Made.next {w0 wr w' : World} {K : Int} {O : Nat} {v : Value} {L : List (Int × Int)} (h : Made w0 wr K O v L) (hb : Below wr.heap.size wr w') : Made w0 w' K O v L := by
  have z := h.hO
  have y := h.gr.size
  refine ⟨⟨hb.os.trans h.gr.os, hb.tape.trans h.gr.tape, hb.output.trans h.gr.output, Nat.le_trans y hb.size, fun k hk hne => (hb.block k (by omega)).trans (h.gr.block k hk hne)⟩,
    (hb.cell (p := ⟨O, 0, none⟩) (by show O < _; omega)).trans h.o0, (hb.cell (p := ⟨O, 1, none⟩) (by show O < _; omega)).trans h.o1, (hb.frozen (p := ⟨O, 1, none⟩) (by show O < _; omega)).trans h.f1, ?_, z⟩
  refine ⟨h.own.1, ?_⟩
  rcases h.own.2 with e | ⟨g, cap, cur, e, hg, hh, rest⟩
  · exact Or.inl e
  · refine Or.inr ⟨g, cap, cur, e, hg, ?_, rest⟩
    rw [hb.block g (Array.getElem?_eq_some_iff.1 hh).1]; exact hh
theorem Made.old {w0 wr : World} {K : Int} {O : Nat} {v : Value} {L : List (Int × Int)} (h : Made w0 wr K O v L) {p : Addr} (hp : p.block < w0.heap.size) (hne : p.block ≠ O) : wr.cell? p = w0.cell? p :=
  h.gr.cell_far p hp (by simpa using hne)
theorem Made.oldF {w0 wr : World} {K : Int} {O : Nat} {v : Value} {L : List (Int × Int)} (h : Made w0 wr K O v L) {p : Addr} (hp : p.block < w0.heap.size) (hne : p.block ≠ O) : wr.frozen? p = w0.frozen? p :=
  h.gr.frozen_far p hp (by simpa using hne)
theorem Made.below {w w0 wr : World} {K : Int} {O : Nat} {v : Value} {L : List (Int × Int)} (h : Made w0 wr K O v L) (hb : Below w.heap.size w w0) (hO : w.heap.size ≤ O) : Below w.heap.size w wr :=
  hb.grown h.gr hb.size (fun k e => by cases e; exact hO)
theorem clist_snoc (L : List (Int × Int)) (x : Int × Int) : clist (L ++ [x]) (L ++ [x]).length = clist L L.length ++ [.int .i64 x.1, .int .i64 x.2] := by
  rw [List.length_append, List.length_singleton, clist_succ]
  have e0 : tA (L ++ [x]) L.length = x.1 := by simp [tA]
  have e1 : tB (L ++ [x]) L.length = x.2 := by simp [tB]
  rw [e0, e1]
  congr 1
  unfold clist
  apply List.map_congr_left
  intro j hj
  have hj' : j / 2 < L.length := by have := List.mem_range.1 hj; omega
  unfold tcell
  have g0 : tA (L ++ [x]) (j / 2) = tA L (j / 2) := by simp [tA, List.getElem?_append_left hj']
  have g1 : tB (L ++ [x]) (j / 2) = tB L (j / 2) := by simp [tB, List.getElem?_append_left hj']
  rw [g0, g1]
theorem Made.far {w0 wr wa w1 : World} {K : Int} {O : Nat} {v : Value} {L : List (Int × Int)} (h : Made w0 wr K O v L) (ha : Below wr.heap.size wr wa) (hg : wa.grownBy w1 v.ownBlock) : w1.cell? ⟨O, 1, none⟩ = some v ∧ w1.frozen? ⟨O, 1, none⟩ = false := by
  have h' := h.next ha
  have z := h'.hO
  have y := h'.gr.size
  have hge := own_ge h'.own
  have hne : some O ≠ v.ownBlock := fun e => by have := hge O e.symm; omega
  have hlt : O < wa.heap.size := by omega
  exact ⟨(hg.cell_far ⟨O, 1, none⟩ hlt hne).trans h'.o1, (hg.frozen_far ⟨O, 1, none⟩ hlt hne).trans h'.f1⟩
/-- what a round of the model's loops reads, as it lay when the loop began -/
structure St (w5 : World) (O B : Nat) (nv : Value) (Q : Nat) (t : Int × Int) (bb at_ : Nat) (x y : Int) : Prop where
  b1 : w5.cell? ⟨B, 1, none⟩ = some nv
  q0 : w5.cell? ⟨Q, 0, none⟩ = some (.int .i64 t.1)
  q1 : w5.cell? ⟨Q, 1, none⟩ = some (.int .i64 t.2)
  c0 : w5.cell? ⟨bb, at_, none⟩ = some (.int .i64 x)
  c1 : w5.cell? ⟨bb, at_ + 1, none⟩ = some (.int .i64 y)
  zB : B < w5.heap.size ∧ B ≠ O
  zQ : Q < w5.heap.size ∧ Q ≠ O
  zb : bb < w5.heap.size ∧ bb ≠ O
theorem St.at {w5 wr : World} {K : Int} {O : Nat} {v : Value} {L : List (Int × Int)} {B : Nat} {nv : Value} {Q : Nat} {t : Int × Int} {bb at_ : Nat} {x y : Int} (h : St w5 O B nv Q t bb at_ x y) (M : Made w5 wr K O v L) :
    wr.cell? ⟨B, 1, none⟩ = some nv ∧ wr.cell? ⟨Q, 0, none⟩ = some (.int .i64 t.1) ∧ wr.cell? ⟨Q, 1, none⟩ = some (.int .i64 t.2) ∧ wr.cell? ⟨bb, at_, none⟩ = some (.int .i64 x) ∧ wr.cell? ⟨bb, at_ + 1, none⟩ = some (.int .i64 y) ∧
      O < wr.heap.size ∧ B < wr.heap.size ∧ Q < wr.heap.size ∧ bb < wr.heap.size := by
  have z := M.gr.size
  have o := M.hO
  exact ⟨(M.old (p := ⟨B, 1, none⟩) h.zB.1 h.zB.2).trans h.b1, (M.old (p := ⟨Q, 0, none⟩) h.zQ.1 h.zQ.2).trans h.q0, (M.old (p := ⟨Q, 1, none⟩) h.zQ.1 h.zQ.2).trans h.q1, (M.old (p := ⟨bb, at_, none⟩) h.zb.1 h.zb.2).trans h.c0, (M.old (p := ⟨bb, at_ + 1, none⟩) h.zb.1 h.zb.2).trans h.c1,
    by omega, by have := h.zB.1; omega, by have := h.zQ.1; omega, by have := h.zb.1; omega⟩
/-- an append to the list, and its store -/
theorem Made.push {w0 wr wa w1 : World} {K : Int} {O : Nat} {v : Value} {L : List (Int × Int)} (h : Made w0 wr K O v L) (ha : Below wr.heap.size wr wa) {x : Int × Int} {g cap : Nat}
    (hown : w1.ownsRow w0.heap.size 48 2 (.slice (some ⟨g, 0, none⟩) (L.length + 1) cap) (L.length + 1) (clist L L.length ++ [.int .i64 x.1, .int .i64 x.2])) (hg : wa.grownBy w1 v.ownBlock) :
    Made w0 (w1.setCell ⟨O, 1, none⟩ (.slice (some ⟨g, 0, none⟩) (L.length + 1) cap)) K O (.slice (some ⟨g, 0, none⟩) (L.length + 1) cap) (L ++ [x]) := by
  have h' := h.next ha
  have z := h'.hO
  have y := h'.gr.size
  have hge := own_ge h'.own
  have hne : some O ≠ v.ownBlock := fun e => by have := hge O e.symm; omega
  have hlt : O < wa.heap.size := by omega
  have o0 : w1.cell? ⟨O, 0, none⟩ = some (.int .i64 K) := (hg.cell_far ⟨O, 0, none⟩ hlt hne).trans h'.o0
  have o1 : w1.cell? ⟨O, 1, none⟩ = some v := (hg.cell_far ⟨O, 1, none⟩ hlt hne).trans h'.o1
  have f1 : w1.frozen? ⟨O, 1, none⟩ = false := (hg.frozen_far ⟨O, 1, none⟩ hlt hne).trans h'.f1
  refine ⟨⟨hg.os.trans h'.gr.os, hg.tape.trans h'.gr.tape, hg.output.trans h'.gr.output, ?_, fun k hk hk' => ?_⟩, ?_, ?_, ?_, ?_, z⟩
  · have := hg.size; simp [World.setCell]; omega
  · rw [Below.heap_setCell w1 ⟨O, 1, none⟩ _ k (by simpa using hk'), hg.block k (by omega) (fun e => by have := hge k e.symm; omega)]
    exact h'.gr.block k hk hk'
  · rw [World.cell?_setCell_other _ _ _ _ (by simp)]; exact o0
  · exact World.cell?_setCell_same w1 ⟨O, 1, none⟩ _ o1
  · rw [World.frozen?_setCell]; exact f1
  · rw [clist_snoc, List.length_append, List.length_singleton]
    exact ownsRow_setCell_below hown (a := ⟨O, 1, none⟩) z _
theorem specHas_is (r : Bool) (K : Int) (ao : Option Addr) (cap : Nat) (ts : List (Int × Int)) (a b : Int) (w : World) (hn : ts.length ≤ 1099511627776) (ht : TiesIn w w.heap.size ao ts) (hr : hasB K ts a b = r) :
    Calls Try.prog 54 #[.agg #[.int .i64 K, .slice ao ts.length cap], .int .i64 a, .int .i64 b] w fun e w' => e = .returned (.bool r) ∧ Below w.heap.size w w' := by
  rw [← hr]; exact specHas_any K ao cap ts a b w hn ht
theorem l1Tie_b (a b : Int) (w : World) :
    Calls Try.prog 37 #[.int .i64 a, .int .i64 b] w fun e w' => e = .returned (.agg #[.int .i64 (tieOf a b).1, .int .i64 (tieOf a b).2]) ∧ Below w.heap.size w w' := by
  refine (l1Tie_any a b w).mono ?_
  rintro e w' ⟨rfl, rfl⟩
  exact ⟨rfl, below_one _ _⟩
end Go.Proofs.Ythchehmmggnmeaa

/- The answer of spec.NetAdd in one form. -/
namespace Go.Proofs.Ythchehmmggnmeaa
open Go.RowKit
set_option linter.unusedVariables false

def addK (K : Int) (ts : List (Int × Int)) (a b : Int) : Int := if addB K ts a b = true then K else 0
def addTs (K : Int) (ts : List (Int × Int)) (a b : Int) : List (Int × Int) := if addB K ts a b = true then ins (tieOf a b) ts else []
theorem addTs_len (K : Int) (ts : List (Int × Int)) (a b : Int) : (addTs K ts a b).length ≤ 65 := by
  unfold addTs
  split
  · rename_i h
    obtain ⟨hok, _⟩ := addB_yes h
    have := ok_short (okB_iff.1 hok)
    rw [ins_length]; omega
  · simp
end Go.Proofs.Ythchehmmggnmeaa
