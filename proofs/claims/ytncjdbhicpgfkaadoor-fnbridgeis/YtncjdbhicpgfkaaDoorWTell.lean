/- Walk of impl.path.tell: it hands each way on to yield, in order. -/
import Derived.RangeFuncNested
import Derived.RangeFuncBound
import Derived.RangeFuncCalls
import Derived.RangeFuncLeaves
import Derived.Shelf.Abstract
import Derived.Shelf.RegionOpen
import Derived.WalkKit
import Derived.OwnWalkIn
import Derived.TacticsInMore
import Derived.LoopNIn
import Derived.LoopIn
import Derived.Test.YtncjdbhicpgfkaaDoorMathP
import Derived.Test.YtncjdbhicpgfkaaDoorWWayOk2
namespace Go.Proofs.YtncjdbhicpgfkaaDoor
open Go.RowKit Go.Shelf
set_option linter.unusedVariables false
attribute [local go_sem] Oper.semAt_some

def cI (p : List Nat) : List Int := p.map fun (x : Nat) => (x : Int)
theorem cI_len (p : List Nat) : (cI p).length = p.length := by simp [cI]
theorem cI_snoc (p : List Nat) (k : Nat) : cI (p ++ [k]) = cI p ++ [(k : Int)] := by simp [cI]
theorem cI_last {p : List Nat} (h : 0 < p.length) : lastI (cI p) = (lastN p : Int) := by
  obtain ⟨q, k, rfl⟩ : ∃ q k, p = q ++ [k] := ⟨p.dropLast, p.getLast (by intro e; simp [e] at h), (List.dropLast_concat_getLast _).symm⟩
  rw [lastN_snoc, cI_snoc]
  simp [lastI, xi]
theorem cI_in (p : List Nat) (k : Nat) : inI (cI p) (k : Int) = decide (k ∈ p) := by
  rw [Bool.eq_iff_iff, inI_iff, decide_eq_true_eq]
  constructor
  · rintro ⟨i, hi, e⟩
    rw [cI_len] at hi
    have : xi (cI p) i = ((p[i] : Nat) : Int) := by simp [xi, cI, hi]
    rw [this] at e
    have : p[i] = k := by omega
    rw [← this]; exact List.getElem_mem hi
  · intro h
    obtain ⟨i, hi, e⟩ := List.mem_iff_getElem.1 h
    exact ⟨i, by rw [cI_len]; exact hi, by simp [xi, cI, e, hi]⟩
/-- what a way is as a value: never empty, never of more than eight knots -/
def clip (p : List Nat) : List Nat := if 0 < p.length ∧ p.length ≤ 8 then p else [0]
theorem clip_is {p : List Nat} (h : 0 < p.length) (h8 : p.length ≤ 8) : clip p = p := if_pos ⟨h, h8⟩
theorem clip_pos (p : List Nat) : 0 < (clip p).length := by unfold clip; split <;> simp_all
theorem clip_le (p : List Nat) : (clip p).length ≤ 8 := by unfold clip; split <;> simp_all
def listT : TypeId := 41
/-- what a round that goes on keeps: all blocks but those of lists of lists -/
structure KpT (W W' : World) : Prop where
  size : W.heap.size ≤ W'.heap.size
  same : ∀ (k : Nat) (cs : Array Value) (t : TypeId) (fr : Nat × Nat), W.heap[k]? = some (Obj.cells cs t fr) → t ≠ 30 → t ≠ listT → W'.heap[k]? = W.heap[k]?
theorem KpT.refl (W : World) : KpT W W := ⟨Nat.le_refl _, fun _ _ _ _ _ _ _ => rfl⟩
theorem KpT.trans {A B C : World} (h : KpT A B) (k : KpT B C) : KpT A C :=
  ⟨Nat.le_trans h.size k.size, fun i cs t fr hi h1 h2 => by
    have e := h.same i cs t fr hi h1 h2
    exact (k.same i cs t fr (e.trans hi) h1 h2).trans e⟩
theorem KpT.below {W W' : World} (h : Below W.heap.size W W') : KpT W W' :=
  ⟨h.size, fun k cs t fr hk _ _ => h.block k (Array.getElem?_eq_some_iff.1 hk).1⟩
theorem KpT.putObj (W : World) (l : Nat) (o o' : Obj) (h : W.heap[l]? = some o) (hc : o.isCells = false) : KpT W (W.putObj l o') :=
  ⟨by simp, fun k cs t fr hk _ _ => World.putObj_heap_other (fun e => by subst e; rw [h] at hk; cases hk; cases hc)⟩
theorem grown_none {W W' : World} (h : Below W.heap.size W W') : W.grownBy W' none := ⟨h.os, h.tape, h.output, h.size, fun k hk _ => h.block k hk⟩
theorem room_of_none {F : Fence} (hd : F.depth = none) (k : Nat) : F.room k := fun d h => by rw [hd] at h; cases h
theorem RoundIn.anyDepth {F : Fence} (hd : F.depth = none) {m m' : Nat} {P : Program} {l : Nat} {f : FuncId} {tmps : Array Value} {assign body : Code} {w : World} {R : Ending → World → Prop}
    (h : RoundIn F m P l f tmps assign body w R) : RoundIn F m' P l f tmps assign body w R := ⟨h.1, fun c cs _ => h.2 c cs (room_of_none hd _)⟩
theorem YieldAt.anyDepth {F : Fence} (hd : F.depth = none) {m : Nat} (m' : Nat) {P : Program} {l : Nat} {args : Array Value} {W : World} {R : Ending → World → Prop} (h : YieldAt F m P l args W R) : YieldAt F m' P l args W R := by
  obtain ⟨fn, tmps, assign, body, hy, hR⟩ := h
  exact ⟨fn, tmps, assign, body, hy, RoundIn.anyDepth hd hR⟩
/-- what a loop body does with a way -/
def Yields (l N : Nat) (J Jx : List (List Nat) → World → Prop) : Prop :=
  ∀ (m : Nat) (pre : List (List Nat)) (x : List Nat) (W : World), J pre W → pre.length < N → YieldAt Fence.wide m Tryd.prog l #[pathV (cI (clip x))] W fun e W' =>
    (e = .returned (.bool true) ∧ J (pre ++ [x]) W' ∧ KpT W W') ∨ (e = .returned (.bool false) ∧ Jx (pre ++ [x]) W')
/-- what has come when ways are told -/
def Told (J Jx : List (List Nat) → World → Prop) (pre all : List (List Nat)) (W : World) (e : Ending) (W' : World) : Prop :=
  (e = .returned (.bool true) ∧ J (pre ++ all) W' ∧ KpT W W') ∨ (e = .returned (.bool false) ∧ ∃ q, q <+: all ∧ Jx (pre ++ q) W')
theorem end_path9 (l : List Int) (k : Int) (w : World) (h0 : 0 < l.length) (h : l.length ≤ 8) (hk : lastI l = k) : Calls Tryd.prog 97 #[.agg #[.int .i64 (xi l 0), .int .i64 (xi l 1), .int .i64 (xi l 2), .int .i64 (xi l 3), .int .i64 (xi l 4), .int .i64 (xi l 5), .int .i64 (xi l 6), .int .i64 (xi l 7), .int .i64 (l.length : Int)]] w fun x w' => x = .returned (.int .i64 k) ∧ Below w.heap.size w w' := by
  rw [← hk]; exact end_path l w h0 h

set_option maxRecDepth 100000 in
set_option maxHeartbeats 1000000 in
theorem tell_end (l N : Nat) (J Jx : List (List Nat) → World → Prop) (hJ : ∀ pre W W', J pre W → Below W.heap.size W W' → J pre W') (hY : Yields l N J Jx)
    (S b s n : Nat) (hs : s ≤ 8) (p : List Nat) (pre : List (List Nat)) (W : World) (hp : p.length = s) (h0 : 0 < p.length) (hj : J pre W) (hN : pre.length + 1 ≤ N) (hb : lastN p = b) :
      CallsIn Fence.wide n Tryd.prog 102 #[pathV (cI p), .int .u64 (S : Int), .int .i64 (b : Int), .int .i64 (s : Int), .func (.yield l) #[] #[]] W (Told J Jx pre [p] W) := by
      have HEND := hideP (fun w => end_path9 (cI p) (b : Int) w (by rw [cI_len]; exact h0) (by rw [cI_len]; omega) (by rw [cI_last h0, hb]))
      have HYY : Hid (∀ W', J pre W' → YieldAt Fence.wide (n - 1) Tryd.prog l #[pathV (cI p)] W' fun e W2 => (e = .returned (.bool true) ∧ J (pre ++ [p]) W2 ∧ KpT W' W2) ∨ (e = .returned (.bool false) ∧ Jx (pre ++ [p]) W2)) := fun W' h' => by
        have := hY (n - 1) pre p W' h' (by omega)
        rw [clip_is h0 (by omega)] at this
        exact this
      have HJ := hideP hJ
      have HJ0 := hideP hj
      have hlen : (cI p).length = s := by rw [cI_len]; omega
      unfold pathV at HYY ⊢
      clear hY hJ hj hN
      generalize xi (cI p) 0 = x0 at *
      generalize xi (cI p) 1 = x1 at *
      generalize xi (cI p) 2 = x2 at *
      generalize xi (cI p) 3 = x3 at *
      generalize xi (cI p) 4 = x4 at *
      generalize xi (cI p) 5 = x5 at *
      generalize xi (cI p) 6 = x6 at *
      generalize xi (cI p) 7 = x7 at *
      rw [hlen] at HEND HYY ⊢
      refine callsIn_of_wp Tryd.func102 rfl trivial ?_ rfl
      simp only [Tryd.ntmps102, List.size_toArray, List.length_cons, List.length_nil, Nat.reduceAdd, Nat.reduceSub, Array.replicate_succ, Array.replicate_zero, List.push_toArray, List.append_toArray, List.nil_append, List.cons_append]
      gi_wp2_with fail
      refine ⟨trivial, fun h => (by cases h), (callsIn_wide.2 (HEND.out _)).mono ?_⟩
      rintro e W1 ⟨rfl, hb1⟩
      have hz1 : W.heap.size < W1.heap.size := by have := hb1.size; simp at this; omega
      have f0 : ∀ j, j < 9 → W1.cell? ⟨W.heap.size, j, none⟩ = (#[Value.int .i64 x0, .int .i64 x1, .int .i64 x2, .int .i64 x3, .int .i64 x4, .int .i64 x5, .int .i64 x6, .int .i64 x7, .int .i64 (s : Int)] : Array Value)[j]? := fun j hj => (hb1.cell (p := ⟨W.heap.size, j, none⟩) (by simp)).trans (World.cell?_alloc_at _ _ _ _ rfl)
      have c0 := f0 0 (by omega)
      have c1 := f0 1 (by omega)
      have c2 := f0 2 (by omega)
      have c3 := f0 3 (by omega)
      have c4 := f0 4 (by omega)
      have c5 := f0 5 (by omega)
      have c6 := f0 6 (by omega)
      have c7 := f0 7 (by omega)
      have c8 := f0 8 (by omega)
      simp at c0 c1 c2 c3 c4 c5 c6 c7 c8
      have B1 : Hid (Below W.heap.size W W1) := (below_one _ _).trans (hb1.mono (by simp))
      obtain ⟨fn, tmps, assign, body, hy, hR⟩ := HYY.out W1 (HJ.out _ _ _ HJ0.out B1.out)
      clear f0 HEND hb1 HYY HJ HJ0
      have HJ2 : Hid (∀ W2, J (pre ++ [p]) W2 ∧ KpT W1 W2 → KpT W W2) := fun W2 h => (KpT.below B1.out).trans h.2
      gi_wp2
      refine ⟨fun h => (by cases h), hR.mono ?_⟩
      clear hR hy
      rintro e W2 (⟨rfl, hJ2, hb2⟩ | ⟨rfl, hx2⟩)
      · have hk := hideP (HJ2.out W2 ⟨hJ2, hb2⟩)
        clear HJ2 hb2
        gi_wp2
        go_ret
        exact Or.inl ⟨rfl, hJ2, hk.out⟩
      · gi_wp2
        go_ret
        exact Or.inr ⟨rfl, [p], List.prefix_refl _, hx2⟩
set_option maxRecDepth 100000 in
set_option maxHeartbeats 1000000 in
theorem tell_stop (l : Nat) (J Jx : List (List Nat) → World → Prop) (hJ : ∀ pre W W', J pre W → Below W.heap.size W W' → J pre W')
    (S b s n : Nat) (hs : s ≤ 8) (p : List Nat) (pre : List (List Nat)) (W : World) (hp : p.length = s) (h0 : 0 < p.length) (hj : J pre W) (hb : lastN p ≠ b) :
      CallsIn Fence.wide n Tryd.prog 102 #[pathV (cI p), .int .u64 (S : Int), .int .i64 (b : Int), .int .i64 (s : Int), .func (.yield l) #[] #[]] W (Told J Jx pre [] W) := by
      have HEND := hideP (fun w => end_path9 (cI p) (lastN p : Int) w (by rw [cI_len]; exact h0) (by rw [cI_len]; omega) (cI_last h0))
      have HJ := hideP hJ
      have HJ0 := hideP hj
      have hlen : (cI p).length = s := by rw [cI_len]; exact hp
      have hne : ((lastN p : Int) == (b : Int)) = false := by simp; omega
      obtain ⟨z, hz⟩ : ∃ z, z = lastN p := ⟨_, rfl⟩
      rw [← hz] at HEND hne
      unfold pathV
      clear hJ hj
      generalize xi (cI p) 0 = x0 at *
      generalize xi (cI p) 1 = x1 at *
      generalize xi (cI p) 2 = x2 at *
      generalize xi (cI p) 3 = x3 at *
      generalize xi (cI p) 4 = x4 at *
      generalize xi (cI p) 5 = x5 at *
      generalize xi (cI p) 6 = x6 at *
      generalize xi (cI p) 7 = x7 at *
      rw [hlen] at HEND ⊢
      refine callsIn_of_wp Tryd.func102 rfl trivial ?_ rfl
      simp only [Tryd.ntmps102, List.size_toArray, List.length_cons, List.length_nil, Nat.reduceAdd, Nat.reduceSub, Array.replicate_succ, Array.replicate_zero, List.push_toArray, List.append_toArray, List.nil_append, List.cons_append]
      gi_wp2_with fail
      refine ⟨trivial, fun h => (by cases h), (callsIn_wide.2 (HEND.out _)).mono ?_⟩
      rintro e W1 ⟨rfl, hb1⟩
      have hz1 : W.heap.size < W1.heap.size := by have := hb1.size; simp at this; omega
      have f0 : ∀ j, j < 9 → W1.cell? ⟨W.heap.size, j, none⟩ = (#[Value.int .i64 x0, .int .i64 x1, .int .i64 x2, .int .i64 x3, .int .i64 x4, .int .i64 x5, .int .i64 x6, .int .i64 x7, .int .i64 (s : Int)] : Array Value)[j]? := fun j hj => (hb1.cell (p := ⟨W.heap.size, j, none⟩) (by simp)).trans (World.cell?_alloc_at _ _ _ _ rfl)
      have c0 := f0 0 (by omega)
      have c1 := f0 1 (by omega)
      have c2 := f0 2 (by omega)
      have c3 := f0 3 (by omega)
      have c4 := f0 4 (by omega)
      have c5 := f0 5 (by omega)
      have c6 := f0 6 (by omega)
      have c7 := f0 7 (by omega)
      have c8 := f0 8 (by omega)
      simp at c0 c1 c2 c3 c4 c5 c6 c7 c8
      have B1 : Hid (Below W.heap.size W W1) := (below_one _ _).trans (hb1.mono (by simp))
      clear f0 HEND hb1
      gi_wp2
      go_ret
      exact Or.inl ⟨rfl, by rw [List.append_nil]; exact HJ.out _ _ _ HJ0.out B1.out, KpT.below B1.out⟩

end Go.Proofs.YtncjdbhicpgfkaaDoor
