/- Walk of impl.FlowCut. -/
import Derived.Test.YtmkbeiiifikbgaaDoorWFirst
namespace Go.Proofs.YtmkbeiiifikbgaaDoor
open Go.RowKit
set_option linter.unusedVariables false

/-- a net in its box, and two knots, each in a box of its own -/
structure Kx (w wr : World) (K : Int) (nv : Value) (a b : Int) : Prop where
  X : Bx w wr K nv
  d0 : wr.cell? ⟨w.heap.size + 1, 0, none⟩ = some (.int .i64 a)
  d1 : wr.cell? ⟨w.heap.size + 1 + 1, 0, none⟩ = some (.int .i64 b)
  lt : w.heap.size + 1 + 1 < wr.heap.size
theorem Kx.next {w wr w' : World} {K : Int} {nv : Value} {a b : Int} (h : Kx w wr K nv a b) (hb : Below wr.heap.size wr w') : Kx w w' K nv a b :=
  ⟨h.X.next hb, (hb.cell (p := ⟨w.heap.size + 1, 0, none⟩) (show w.heap.size + 1 < wr.heap.size from by have := h.lt; omega)).trans h.d0, (hb.cell (p := ⟨w.heap.size + 1 + 1, 0, none⟩) h.lt).trans h.d1, Nat.lt_of_lt_of_le h.lt hb.size⟩
theorem Kx.start (w : World) (K : Int) (nv : Value) (a b : Int) (t u v : TypeId) : Kx w (((w.alloc (.cells #[.int .i64 K, nv] t)).alloc (.cells #[.int .i64 a] u)).alloc (.cells #[.int .i64 b] v)) K nv a b := by
  refine ⟨((Bx.start w K nv t).next (below_one _ _)).next (below_one _ _), ?_, ?_, by simp⟩
  · refine ((below_one ((w.alloc (.cells #[.int .i64 K, nv] t)).alloc (.cells #[.int .i64 a] u)) (.cells #[.int .i64 b] v)).cell (p := ⟨w.heap.size + 1, 0, none⟩) (by simp)).trans ?_
    rw [World.cell?_alloc_at _ _ _ _ (by simp)]; rfl
  · rw [World.cell?_alloc_at _ _ _ _ (by simp)]; rfl
/-- the first of the fewest ties that part two knots -/
noncomputable def cutI (K : Int) (ts : List (Int × Int)) (a b : Int) : List (Int × Int) := if twoB K ts a b = true then cutG a.toNat b.toNat ts ts else []
set_option maxHeartbeats 800000 in
theorem implFlowCut_any (K : Int) (ao : Option Addr) (cap : Nat) (ts : List (Int × Int)) (a b : Int) (w : World) (hn : ts.length ≤ 1099511627776) (ht : TiesIn w w.heap.size ao ts) (hT : Tab w) :
    Calls Tryd.prog 26 #[.agg #[.int .i64 K, .slice ao ts.length cap], .int .i64 a, .int .i64 b] w fun e w' => ∃ ao' cap', e = .returned (.tuple #[.slice ao' (cutI K ts a b).length cap', .bool (twoB K ts a b)]) ∧ OwnN w' w.heap.size w'.heap.size ao' (cutI K ts a b).length (tcell (cutI K ts a b)) ∧ Below w.heap.size w w' := by
  have X0 := fun (t u v : TypeId) => Kx.start w K (.slice ao ts.length cap) a b t u v
  have HX0 := hideP X0
  have HT := hideP ht
  have HTab := hideP hT
  clear ht hT X0
  obtain ⟨p, hp⟩ : ∃ p, p = twoB K ts a b := ⟨_, rfl⟩
  have HP := hideP hp
  rw [← hp]
  clear hp
  go_enter Tryd.func26, Tryd.ntmps26
  go_wp2_with fail
  refine (twoKnots_any K ao cap ts a b _ hn ((HT.out.below (HX0.out _ _ _).X.B (Nat.le_refl _)).wide (Nat.le_of_lt (HX0.out _ _ _).X.lt))).mono ?_
  rw [← HP.out]
  rintro e w2 ⟨rfl, hb1⟩
  have X2 := hideP ((HX0.out _ _ _).next hb1)
  have T2 := hideP (HTab.out.below X2.out.X.B HTab.out.2)
  clear hb1 HX0 HTab HT
  cases p
  · have HR : Hid (cutI K ts a b = []) := hideP (by unfold cutI; rw [← HP.out]; rfl)
    go_wp2
    refine bodyPost_ret (v := .tuple #[.slice none 0 0, .bool false]) (by simp [results, Tryd.results26, go_sem]) rfl ?_
    rw [HR.out]
    exact ⟨none, 0, rfl, Or.inl ⟨rfl, rfl⟩, X2.out.X.B⟩
  · obtain ⟨hok, x, y, rfl, rfl, hx, hy, hxk, hyk, hxy⟩ := knot_nat HP.out.symm
    have HR : Hid (cutI K ts (x : Int) (y : Int) = cutG x y ts ts) := hideP (by unfold cutI; rw [← HP.out, if_pos rfl]; rfl)
    have HOK := hideP hok
    have HC := hideP (fun W hT hA hB h0 h1 => firstCut_any K ts hok x y hx hy hxy (w.heap.size + 1) (w.heap.size + 1 + 1) W hT hA hB h0 h1)
    obtain ⟨us, hus⟩ : ∃ us, us = cutG x y ts ts := ⟨_, rfl⟩
    have HUok := hideP (show okB K us = true by rw [hus]; exact cutG_ok hok x y ts)
    rw [← hus] at HR HC
    clear hok hus
    go_wp2_with (first | (go_at_call 73; refine (HC.out _ T2.out (by have := X2.out.lt; omega) (by have := X2.out.lt; omega) X2.out.d0 X2.out.d1).mono ?_; rintro e w3 ⟨rfl, hb3⟩; have X3 := hideP (X2.out.next hb3); have T3 := hideP (T2.out.below hb3 T2.out.2); clear hb3) | (go_at_call 50; refine (ties_two' K us (setN K us) _ T3.out (okB_iff.1 HUok.out).2.1 (okB_iff.1 HUok.out).2.2 (ok_short (okB_iff.1 HUok.out)) (set_bits HUok.out) (setN_lt K us)).mono ?_; rintro e w4 ⟨ao', cap', rfl, ho, hb4⟩; have X4 := hideP (X3.out.next hb4); have O4 := hideP ho; clear ho hb4))
    refine bodyPost_ret (v := .tuple #[.slice ao' us.length cap', .bool true]) (by simp [results, Tryd.results26, go_sem]) rfl ?_
    rw [HR.out]
    refine ⟨ao', cap', rfl, ?_, X4.out.X.B⟩
    rcases O4.out with h | ⟨g, e, h1, h2, h3⟩
    · exact Or.inl h
    · exact Or.inr ⟨g, e, Nat.le_trans X3.out.X.B.size h1, h2, h3⟩

end Go.Proofs.YtmkbeiiifikbgaaDoor
