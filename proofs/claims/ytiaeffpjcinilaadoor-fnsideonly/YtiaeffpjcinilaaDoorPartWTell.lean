/- Texts put together: WTell, WTell2, WWays, WList. -/
import Derived.RangeFuncNested
import Derived.RangeFuncBound
import Derived.RangeFuncCalls
import Derived.RangeFuncLeaves
import Derived.Shelf.Abstract
import Derived.Shelf.RegionOpen
import Derived.WalkKit
import Derived.OwnWalkIn
import Derived.TacticsInMore
import Derived.LoopNIn
import Derived.LoopIn
import Derived.Test.YtiaeffpjcinilaaDoorPartMathP
import Derived.Test.YtiaeffpjcinilaaDoorPartWWayOk2
import Derived.Test.YtiaeffpjcinilaaDoorPartWLeaf
import Derived.Test.YtiaeffpjcinilaaDoorPartWForest
import Derived.Lib.SliceRun
/- Walk of impl.path.tell: it hands each way on to yield, in order. -/
namespace Go.Proofs.YtiaeffpjcinilaaDoor
open Go.RowKit Go.Shelf
set_option linter.unusedVariables false
attribute [local go_sem] Oper.semAt_some

def cI (p : List Nat) : List Int := p.map fun (x : Nat) => (x : Int)
theorem cI_len (p : List Nat) : (cI p).length = p.length := by simp [cI]
theorem cI_snoc (p : List Nat) (k : Nat) : cI (p ++ [k]) = cI p ++ [(k : Int)] := by simp [cI]
theorem cI_last {p : List Nat} (h : 0 < p.length) : lastI (cI p) = (lastN p : Int) := by
  obtain ⟨q, k, rfl⟩ : ∃ q k, p = q ++ [k] := ⟨p.dropLast, p.getLast (by intro e; simp [e] at h), (List.dropLast_concat_getLast _).symm⟩
  rw [lastN_snoc, cI_snoc]
  simp [lastI, xi]
theorem cI_in (p : List Nat) (k : Nat) : inI (cI p) (k : Int) = decide (k ∈ p) := by
  rw [Bool.eq_iff_iff, inI_iff, decide_eq_true_eq]
  constructor
  · rintro ⟨i, hi, e⟩
    rw [cI_len] at hi
    have : xi (cI p) i = ((p[i] : Nat) : Int) := by simp [xi, cI, hi]
    rw [this] at e
    have : p[i] = k := by omega
    rw [← this]; exact List.getElem_mem hi
  · intro h
    obtain ⟨i, hi, e⟩ := List.mem_iff_getElem.1 h
    exact ⟨i, by rw [cI_len]; exact hi, by simp [xi, cI, e, hi]⟩
/-- what a way is as a value: never empty, never of more than eight knots -/
def clip (p : List Nat) : List Nat := if 0 < p.length ∧ p.length ≤ 8 then p else [0]
theorem clip_is {p : List Nat} (h : 0 < p.length) (h8 : p.length ≤ 8) : clip p = p := if_pos ⟨h, h8⟩
theorem clip_pos (p : List Nat) : 0 < (clip p).length := by unfold clip; split <;> simp_all
theorem clip_le (p : List Nat) : (clip p).length ≤ 8 := by unfold clip; split <;> simp_all
def listT : TypeId := 27
/-- what a round that goes on keeps: all blocks but those of lists of lists -/
structure KpT (W W' : World) : Prop where
  size : W.heap.size ≤ W'.heap.size
  same : ∀ (k : Nat) (cs : Array Value) (t : TypeId) (fr : Nat × Nat), W.heap[k]? = some (Obj.cells cs t fr) → t ≠ 27 → t ≠ listT → W'.heap[k]? = W.heap[k]?
theorem KpT.refl (W : World) : KpT W W := ⟨Nat.le_refl _, fun _ _ _ _ _ _ _ => rfl⟩
theorem KpT.trans {A B C : World} (h : KpT A B) (k : KpT B C) : KpT A C :=
  ⟨Nat.le_trans h.size k.size, fun i cs t fr hi h1 h2 => by
    have e := h.same i cs t fr hi h1 h2
    exact (k.same i cs t fr (e.trans hi) h1 h2).trans e⟩
theorem KpT.below {W W' : World} (h : Below W.heap.size W W') : KpT W W' :=
  ⟨h.size, fun k cs t fr hk _ _ => h.block k (Array.getElem?_eq_some_iff.1 hk).1⟩
theorem KpT.putObj (W : World) (l : Nat) (o o' : Obj) (h : W.heap[l]? = some o) (hc : o.isCells = false) : KpT W (W.putObj l o') :=
  ⟨by simp, fun k cs t fr hk _ _ => World.putObj_heap_other (fun e => by subst e; rw [h] at hk; cases hk; cases hc)⟩
theorem grown_none {W W' : World} (h : Below W.heap.size W W') : W.grownBy W' none := ⟨h.os, h.tape, h.output, h.size, fun k hk _ => h.block k hk⟩
theorem room_of_none {F : Fence} (hd : F.depth = none) (k : Nat) : F.room k := fun d h => by rw [hd] at h; cases h
theorem RoundIn.anyDepth {F : Fence} (hd : F.depth = none) {m m' : Nat} {P : Program} {l : Nat} {f : FuncId} {tmps : Array Value} {assign body : Code} {w : World} {R : Ending → World → Prop}
    (h : RoundIn F m P l f tmps assign body w R) : RoundIn F m' P l f tmps assign body w R := ⟨h.1, fun c cs _ => h.2 c cs (room_of_none hd _)⟩
theorem YieldAt.anyDepth {F : Fence} (hd : F.depth = none) {m : Nat} (m' : Nat) {P : Program} {l : Nat} {args : Array Value} {W : World} {R : Ending → World → Prop} (h : YieldAt F m P l args W R) : YieldAt F m' P l args W R := by
  obtain ⟨fn, tmps, assign, body, hy, hR⟩ := h
  exact ⟨fn, tmps, assign, body, hy, RoundIn.anyDepth hd hR⟩
/-- what a loop body does with a way -/
def Yields (l N : Nat) (J Jx : List (List Nat) → World → Prop) : Prop :=
  ∀ (m : Nat) (pre : List (List Nat)) (x : List Nat) (W : World), J pre W → pre.length < N → YieldAt Fence.wide m Tryd.prog l #[pathV (cI (clip x))] W fun e W' =>
    (e = .returned (.bool true) ∧ J (pre ++ [x]) W' ∧ KpT W W') ∨ (e = .returned (.bool false) ∧ Jx (pre ++ [x]) W')
/-- what has come when ways are told -/
def Told (J Jx : List (List Nat) → World → Prop) (pre all : List (List Nat)) (W : World) (e : Ending) (W' : World) : Prop :=
  (e = .returned (.bool true) ∧ J (pre ++ all) W' ∧ KpT W W') ∨ (e = .returned (.bool false) ∧ ∃ q, q <+: all ∧ Jx (pre ++ q) W')
theorem end_path9 (l : List Int) (k : Int) (w : World) (h0 : 0 < l.length) (h : l.length ≤ 8) (hk : lastI l = k) : Calls Tryd.prog 86 #[.agg #[.int .i64 (xi l 0), .int .i64 (xi l 1), .int .i64 (xi l 2), .int .i64 (xi l 3), .int .i64 (xi l 4), .int .i64 (xi l 5), .int .i64 (xi l 6), .int .i64 (xi l 7), .int .i64 (l.length : Int)]] w fun x w' => x = .returned (.int .i64 k) ∧ Below w.heap.size w w' := by
  rw [← hk]; exact end_path l w h0 h

set_option maxRecDepth 100000 in
set_option maxHeartbeats 1000000 in
theorem tell_end (l N : Nat) (J Jx : List (List Nat) → World → Prop) (hJ : ∀ pre W W', J pre W → Below W.heap.size W W' → J pre W') (hY : Yields l N J Jx)
    (S b s n : Nat) (hs : s ≤ 8) (p : List Nat) (pre : List (List Nat)) (W : World) (hp : p.length = s) (h0 : 0 < p.length) (hj : J pre W) (hN : pre.length + 1 ≤ N) (hb : lastN p = b) :
      CallsIn Fence.wide n Tryd.prog 95 #[pathV (cI p), .int .u64 (S : Int), .int .i64 (b : Int), .int .i64 (s : Int), .func (.yield l) #[] #[]] W (Told J Jx pre [p] W) := by
      have HEND := hideP (fun w => end_path9 (cI p) (b : Int) w (by rw [cI_len]; exact h0) (by rw [cI_len]; omega) (by rw [cI_last h0, hb]))
      have HYY : Hid (∀ W', J pre W' → YieldAt Fence.wide (n - 1) Tryd.prog l #[pathV (cI p)] W' fun e W2 => (e = .returned (.bool true) ∧ J (pre ++ [p]) W2 ∧ KpT W' W2) ∨ (e = .returned (.bool false) ∧ Jx (pre ++ [p]) W2)) := fun W' h' => by
        have := hY (n - 1) pre p W' h' (by omega)
        rw [clip_is h0 (by omega)] at this
        exact this
      have HJ := hideP hJ
      have HJ0 := hideP hj
      have hlen : (cI p).length = s := by rw [cI_len]; omega
      unfold pathV at HYY ⊢
      clear hY hJ hj hN
      generalize xi (cI p) 0 = x0 at *
      generalize xi (cI p) 1 = x1 at *
      generalize xi (cI p) 2 = x2 at *
      generalize xi (cI p) 3 = x3 at *
      generalize xi (cI p) 4 = x4 at *
      generalize xi (cI p) 5 = x5 at *
      generalize xi (cI p) 6 = x6 at *
      generalize xi (cI p) 7 = x7 at *
      rw [hlen] at HEND HYY ⊢
      refine callsIn_of_wp Tryd.func95 rfl trivial ?_ rfl
      simp only [Tryd.ntmps95, List.size_toArray, List.length_cons, List.length_nil, Nat.reduceAdd, Nat.reduceSub, Array.replicate_succ, Array.replicate_zero, List.push_toArray, List.append_toArray, List.nil_append, List.cons_append]
      gi_wp2_with fail
      refine ⟨trivial, fun h => (by cases h), (callsIn_wide.2 (HEND.out _)).mono ?_⟩
      rintro e W1 ⟨rfl, hb1⟩
      have hz1 : W.heap.size < W1.heap.size := by have := hb1.size; simp at this; omega
      have f0 : ∀ j, j < 9 → W1.cell? ⟨W.heap.size, j, none⟩ = (#[Value.int .i64 x0, .int .i64 x1, .int .i64 x2, .int .i64 x3, .int .i64 x4, .int .i64 x5, .int .i64 x6, .int .i64 x7, .int .i64 (s : Int)] : Array Value)[j]? := fun j hj => (hb1.cell (p := ⟨W.heap.size, j, none⟩) (by simp)).trans (World.cell?_alloc_at _ _ _ _ rfl)
      have c0 := f0 0 (by omega)
      have c1 := f0 1 (by omega)
      have c2 := f0 2 (by omega)
      have c3 := f0 3 (by omega)
      have c4 := f0 4 (by omega)
      have c5 := f0 5 (by omega)
      have c6 := f0 6 (by omega)
      have c7 := f0 7 (by omega)
      have c8 := f0 8 (by omega)
      simp at c0 c1 c2 c3 c4 c5 c6 c7 c8
      have B1 : Hid (Below W.heap.size W W1) := (below_one _ _).trans (hb1.mono (by simp))
      obtain ⟨fn, tmps, assign, body, hy, hR⟩ := HYY.out W1 (HJ.out _ _ _ HJ0.out B1.out)
      clear f0 HEND hb1 HYY HJ HJ0
      have HJ2 : Hid (∀ W2, J (pre ++ [p]) W2 ∧ KpT W1 W2 → KpT W W2) := fun W2 h => (KpT.below B1.out).trans h.2
      gi_wp2
      refine ⟨fun h => (by cases h), hR.mono ?_⟩
      clear hR hy
      rintro e W2 (⟨rfl, hJ2, hb2⟩ | ⟨rfl, hx2⟩)
      · have hk := hideP (HJ2.out W2 ⟨hJ2, hb2⟩)
        clear HJ2 hb2
        gi_wp2
        go_ret
        exact Or.inl ⟨rfl, hJ2, hk.out⟩
      · gi_wp2
        go_ret
        exact Or.inr ⟨rfl, [p], List.prefix_refl _, hx2⟩
set_option maxRecDepth 100000 in
set_option maxHeartbeats 1000000 in
theorem tell_stop (l : Nat) (J Jx : List (List Nat) → World → Prop) (hJ : ∀ pre W W', J pre W → Below W.heap.size W W' → J pre W')
    (S b s n : Nat) (hs : s ≤ 8) (p : List Nat) (pre : List (List Nat)) (W : World) (hp : p.length = s) (h0 : 0 < p.length) (hj : J pre W) (hb : lastN p ≠ b) :
      CallsIn Fence.wide n Tryd.prog 95 #[pathV (cI p), .int .u64 (S : Int), .int .i64 (b : Int), .int .i64 (s : Int), .func (.yield l) #[] #[]] W (Told J Jx pre [] W) := by
      have HEND := hideP (fun w => end_path9 (cI p) (lastN p : Int) w (by rw [cI_len]; exact h0) (by rw [cI_len]; omega) (cI_last h0))
      have HJ := hideP hJ
      have HJ0 := hideP hj
      have hlen : (cI p).length = s := by rw [cI_len]; exact hp
      have hne : ((lastN p : Int) == (b : Int)) = false := by simp; omega
      obtain ⟨z, hz⟩ : ∃ z, z = lastN p := ⟨_, rfl⟩
      rw [← hz] at HEND hne
      unfold pathV
      clear hJ hj
      generalize xi (cI p) 0 = x0 at *
      generalize xi (cI p) 1 = x1 at *
      generalize xi (cI p) 2 = x2 at *
      generalize xi (cI p) 3 = x3 at *
      generalize xi (cI p) 4 = x4 at *
      generalize xi (cI p) 5 = x5 at *
      generalize xi (cI p) 6 = x6 at *
      generalize xi (cI p) 7 = x7 at *
      rw [hlen] at HEND ⊢
      refine callsIn_of_wp Tryd.func95 rfl trivial ?_ rfl
      simp only [Tryd.ntmps95, List.size_toArray, List.length_cons, List.length_nil, Nat.reduceAdd, Nat.reduceSub, Array.replicate_succ, Array.replicate_zero, List.push_toArray, List.append_toArray, List.nil_append, List.cons_append]
      gi_wp2_with fail
      refine ⟨trivial, fun h => (by cases h), (callsIn_wide.2 (HEND.out _)).mono ?_⟩
      rintro e W1 ⟨rfl, hb1⟩
      have hz1 : W.heap.size < W1.heap.size := by have := hb1.size; simp at this; omega
      have f0 : ∀ j, j < 9 → W1.cell? ⟨W.heap.size, j, none⟩ = (#[Value.int .i64 x0, .int .i64 x1, .int .i64 x2, .int .i64 x3, .int .i64 x4, .int .i64 x5, .int .i64 x6, .int .i64 x7, .int .i64 (s : Int)] : Array Value)[j]? := fun j hj => (hb1.cell (p := ⟨W.heap.size, j, none⟩) (by simp)).trans (World.cell?_alloc_at _ _ _ _ rfl)
      have c0 := f0 0 (by omega)
      have c1 := f0 1 (by omega)
      have c2 := f0 2 (by omega)
      have c3 := f0 3 (by omega)
      have c4 := f0 4 (by omega)
      have c5 := f0 5 (by omega)
      have c6 := f0 6 (by omega)
      have c7 := f0 7 (by omega)
      have c8 := f0 8 (by omega)
      simp at c0 c1 c2 c3 c4 c5 c6 c7 c8
      have B1 : Hid (Below W.heap.size W W1) := (below_one _ _).trans (hb1.mono (by simp))
      clear f0 HEND hb1
      gi_wp2
      go_ret
      exact Or.inl ⟨rfl, by rw [List.append_nil]; exact HJ.out _ _ _ HJ0.out B1.out, KpT.below B1.out⟩

end Go.Proofs.YtiaeffpjcinilaaDoor

/- Walk of impl.path.tell: the rest. -/
namespace Go.Proofs.YtiaeffpjcinilaaDoor
open Go.RowKit Go.Shelf
set_option linter.unusedVariables false
attribute [local go_sem] Oper.semAt_some

set_option maxRecDepth 100000 in
set_option maxHeartbeats 400000 in
theorem tell_more (l : Nat) (J Jx : List (List Nat) → World → Prop) (hJ : ∀ pre W W', J pre W → Below W.heap.size W W' → J pre W')
    (S b s n : Nat) (hs : s ≤ 8) (p : List Nat) (pre : List (List Nat)) (W : World) (hp : p.length < s) (h0 : 0 < p.length) (hj : J pre W) (hb : lastN p = b) :
      CallsIn Fence.wide n Tryd.prog 95 #[pathV (cI p), .int .u64 (S : Int), .int .i64 (b : Int), .int .i64 (s : Int), .func (.yield l) #[] #[]] W (Told J Jx pre [] W) := by
      have HEND := hideP (fun w => end_path9 (cI p) (b : Int) w (by rw [cI_len]; exact h0) (by rw [cI_len]; omega) (by rw [cI_last h0, hb]))
      have HJ := hideP hJ
      have HJ0 := hideP hj
      have hlen : (cI p).length = p.length := cI_len p
      unfold pathV
      clear hJ hj
      generalize xi (cI p) 0 = x0 at *
      generalize xi (cI p) 1 = x1 at *
      generalize xi (cI p) 2 = x2 at *
      generalize xi (cI p) 3 = x3 at *
      generalize xi (cI p) 4 = x4 at *
      generalize xi (cI p) 5 = x5 at *
      generalize xi (cI p) 6 = x6 at *
      generalize xi (cI p) 7 = x7 at *
      rw [hlen] at HEND ⊢
      obtain ⟨m, hm⟩ : ∃ m, m = p.length := ⟨_, rfl⟩
      rw [← hm] at HEND hp ⊢
      have hp' : (m : Int) < (s : Int) := by omega
      clear hm hlen hb h0
      refine callsIn_of_wp Tryd.func95 rfl trivial ?_ rfl
      simp only [Tryd.ntmps95, List.size_toArray, List.length_cons, List.length_nil, Nat.reduceAdd, Nat.reduceSub, Array.replicate_succ, Array.replicate_zero, List.push_toArray, List.append_toArray, List.nil_append, List.cons_append]
      gi_wp2_with fail
      refine ⟨trivial, fun h => (by cases h), (callsIn_wide.2 (HEND.out _)).mono ?_⟩
      rintro e W1 ⟨rfl, hb1⟩
      have hz1 : W.heap.size < W1.heap.size := by have := hb1.size; simp at this; omega
      have f0 : ∀ j, j < 9 → W1.cell? ⟨W.heap.size, j, none⟩ = (#[Value.int .i64 x0, .int .i64 x1, .int .i64 x2, .int .i64 x3, .int .i64 x4, .int .i64 x5, .int .i64 x6, .int .i64 x7, .int .i64 (m : Int)] : Array Value)[j]? := fun j hj => (hb1.cell (p := ⟨W.heap.size, j, none⟩) (by simp)).trans (World.cell?_alloc_at _ _ _ _ rfl)
      have c0 := f0 0 (by omega)
      have c1 := f0 1 (by omega)
      have c2 := f0 2 (by omega)
      have c3 := f0 3 (by omega)
      have c4 := f0 4 (by omega)
      have c5 := f0 5 (by omega)
      have c6 := f0 6 (by omega)
      have c7 := f0 7 (by omega)
      have c8 := f0 8 (by omega)
      simp at c0 c1 c2 c3 c4 c5 c6 c7 c8
      have B1 : Hid (Below W.heap.size W W1) := (below_one _ _).trans (hb1.mono (by simp))
      clear f0 HEND hb1
      gi_wp2_with fail
      refine ⟨fun _ h => (by cases h), ?_⟩
      gi_wp2
      go_ret
      exact Or.inl ⟨rfl, by rw [List.append_nil]; exact HJ.out _ _ _ HJ0.out B1.out, KpT.below B1.out⟩
theorem onTo_pre {E : Nat → Nat → Bool} {b s f : Nat} {p : List Nat} : ∀ {k : Nat} (j : Nat), onTo E b s f p k <+: onTo E b s f p (k + j) := by
  intro k j
  induction j with
  | zero => exact List.prefix_refl _
  | succ j ih =>
    show _ <+: onTo E b s f p (k + j + 1)
    rw [onTo_succ]
    exact ih.trans (List.prefix_append _ _)
theorem onTo_le {E : Nat → Nat → Bool} {b s f : Nat} {p : List Nat} {k j : Nat} (h : k ≤ j) : onTo E b s f p k <+: onTo E b s f p j := by
  obtain ⟨i, rfl⟩ : ∃ i, j = k + i := ⟨j - k, by omega⟩
  exact onTo_pre i
theorem path_cells {wr : World} {B : Nat} {t : TypeId} {fr : Nat × Nat} {v0 v1 v2 v3 v4 v5 v6 v7 v8 : Value} (h : wr.heap[B]? = some (Obj.cells #[v0, v1, v2, v3, v4, v5, v6, v7, v8] t fr)) :
    wr.cell? ⟨B, 0, none⟩ = some v0 ∧ wr.cell? ⟨B, 1, none⟩ = some v1 ∧ wr.cell? ⟨B, 2, none⟩ = some v2 ∧ wr.cell? ⟨B, 3, none⟩ = some v3 ∧ wr.cell? ⟨B, 4, none⟩ = some v4 ∧ wr.cell? ⟨B, 5, none⟩ = some v5 ∧ wr.cell? ⟨B, 6, none⟩ = some v6 ∧ wr.cell? ⟨B, 7, none⟩ = some v7 ∧ wr.cell? ⟨B, 8, none⟩ = some v8 := by
  refine ⟨?_, ?_, ?_, ?_, ?_, ?_, ?_, ?_, ?_⟩ <;> simp [World.cell?, h]
set_option maxRecDepth 100000 in
set_option maxHeartbeats 1000000 in
theorem tell_go (l N : Nat) (J Jx : List (List Nat) → World → Prop) (hJ : ∀ pre W W', J pre W → Below W.heap.size W W' → J pre W')
    (E : Nat → Nat → Bool) (S b s : Nat) (hS : S < 2 ^ 64) (hE : ∀ x k : Nat, decide (S &&& pbit (x : Int) (k : Int) ≠ 0) = E x k) (hs : s ≤ 8) (f : Nat)
    (ih : ∀ (n : Nat) (p : List Nat) (pre : List (List Nat)) (W : World), p.length + f = s → 0 < p.length → J pre W → pre.length + (onW E b s f p).length ≤ N →
      CallsIn Fence.wide n Tryd.prog 95 #[pathV (cI p), .int .u64 (S : Int), .int .i64 (b : Int), .int .i64 (s : Int), .func (.yield l) #[] #[]] W (Told J Jx pre (onW E b s f p) W))
    (n : Nat) (p : List Nat) (pre : List (List Nat)) (W : World) (hp : p.length + (f + 1) = s) (h0 : 0 < p.length) (hj : J pre W) (hN : pre.length + (onTo E b s f p 8).length ≤ N) (hb : lastN p ≠ b) :
      CallsIn Fence.wide n Tryd.prog 95 #[pathV (cI p), .int .u64 (S : Int), .int .i64 (b : Int), .int .i64 (s : Int), .func (.yield l) #[] #[]] W (Told J Jx pre (onTo E b s f p 8) W) := by
      have HEND := hideP (fun w => end_path9 (cI p) (lastN p : Int) w (by rw [cI_len]; exact h0) (by rw [cI_len]; omega) (cI_last h0))
      have HCAN : Hid (∀ (v : Bool) (k : Nat) (w : World), (E (lastN p) k && !decide (k ∈ p)) = v → Calls Tryd.prog 64 #[pathV (cI p), .int .u64 (S : Int), .int .i64 (k : Int)] w fun x w' => x = .returned (.bool v) ∧ Below w.heap.size w w') := fun v k w hv => by
        refine canGo_is v (cI p) S (k : Int) w (by rw [cI_len]; exact h0) (by rw [cI_len]; omega) hS ?_
        unfold canB
        rw [cI_last h0, hE, cI_in]; exact hv
      have HTELL : Hid (∀ (k : Nat) (w : World), k ≤ 7 → J (pre ++ onTo E b s f p k) w → (E (lastN p) k && !decide (k ∈ p)) = true → CallsIn Fence.wide (n - 1) Tryd.prog 95 #[pathV (cI (p ++ [k])), .int .u64 (S : Int), .int .i64 (b : Int), .int .i64 (s : Int), .func (.yield l) #[] #[]] w (Told J Jx (pre ++ onTo E b s f p k) (onK E b s f p k) w)) := fun k w hk hj' hc => by
        rw [onK_yes hc]
        refine ih (n - 1) (p ++ [k]) _ w (by simp; omega) (by simp) hj' ?_
        have h1 := (onTo_le (E := E) (b := b) (s := s) (f := f) (p := p) (k := k + 1) (j := 8) (by omega)).length_le
        rw [onTo_succ, onK_yes hc] at h1
        simp at h1 ⊢
        omega
      have HW : Hid (∀ (k : Nat) (w : World), Calls Tryd.prog 63 #[pathV (cI p), .int .i64 (k : Int)] w fun x w' => x = .returned (pathV (cI (p ++ [k]))) ∧ Below w.heap.size w w') := fun k w => by
        rw [cI_snoc]; exact with_path (cI p) (k : Int) w (by rw [cI_len]; omega)
      have HJ := hideP hJ
      have HJ0 := hideP hj
      have hne : ((lastN p : Int) == (b : Int)) = false := by simp; omega
      obtain ⟨z, hz⟩ : ∃ z, z = lastN p := ⟨_, rfl⟩
      have HZ := hideP hz
      rw [← hz] at HEND HCAN HTELL hne
      obtain ⟨m, hm⟩ : ∃ m, m = p.length := ⟨_, rfl⟩
      have hlen : (cI p).length = m := by rw [cI_len, hm]
      have hms : m < s := by omega
      have hmne : ((m : Int) == (s : Int)) = false := by simp; omega
      unfold pathV at HCAN HW HTELL ⊢
      generalize xi (cI p) 0 = x0 at *
      generalize xi (cI p) 1 = x1 at *
      generalize xi (cI p) 2 = x2 at *
      generalize xi (cI p) 3 = x3 at *
      generalize xi (cI p) 4 = x4 at *
      generalize xi (cI p) 5 = x5 at *
      generalize xi (cI p) 6 = x6 at *
      generalize xi (cI p) 7 = x7 at *
      rw [hlen] at HEND HCAN HW ⊢
      clear hJ hj hN hE ih hb hz hm hlen h0 hp
      refine callsIn_of_wp Tryd.func95 rfl trivial ?_ rfl
      simp only [Tryd.ntmps95, List.size_toArray, List.length_cons, List.length_nil, Nat.reduceAdd, Nat.reduceSub, Array.replicate_succ, Array.replicate_zero, List.push_toArray, List.append_toArray, List.nil_append, List.cons_append]
      gi_wp2_with fail
      refine ⟨trivial, fun h => (by cases h), (callsIn_wide.2 (HEND.out _)).mono ?_⟩
      rintro e W1 ⟨rfl, hb1⟩
      have HBX : Hid (W1.heap[W.heap.size]? = some (Obj.cells #[Value.int .i64 x0, .int .i64 x1, .int .i64 x2, .int .i64 x3, .int .i64 x4, .int .i64 x5, .int .i64 x6, .int .i64 x7, .int .i64 (m : Int)] 77 (0, 0))) := (hb1.block _ (by simp)).trans (World.alloc_heap_new W _)
      have B1 : Hid (Below W.heap.size W W1) := (below_one _ _).trans (hb1.mono (by simp))
      have J1 := hideP (HJ.out _ _ _ HJ0.out B1.out)
      have K1 := hideP (KpT.below B1.out)
      obtain ⟨c0, c1, c2, c3, c4, c5, c6, c7, c8⟩ := path_cells HBX.out
      clear hb1 HEND HJ0 B1
      gi_wp2
      gi_loopw [29] (fun i wr => ∃ k : Nat, k ≤ 8 ∧ i = .int .i64 k ∧ J (pre ++ onTo E b s f p k) wr ∧ wr.heap[W.heap.size]? = some (Obj.cells #[Value.int .i64 x0, .int .i64 x1, .int .i64 x2, .int .i64 x3, .int .i64 x4, .int .i64 x5, .int .i64 x6, .int .i64 x7, .int .i64 (m : Int)] 77 (0, 0)) ∧ KpT W wr)
        (fun i _ => 8 - (intOf i).toNat)
      case atStart => exact ⟨0, by omega, rfl, by rw [onTo_zero, List.append_nil]; exact J1.out, HBX.out, K1.out⟩
      case round =>
        clear J1 K1 c0 c1 c2 c3 c4 c5 c6 c7 c8 HBX
        obtain ⟨k, hk, rfl, hJr, hbx, hKr⟩ := hrel
        obtain ⟨c0, c1, c2, c3, c4, c5, c6, c7, c8⟩ := path_cells hbx
        have HJr := hideP hJr
        have HBX := hideP hbx
        have HKr := hideP hKr
        clear hJr hbx hKr
        by_cases hlt : k < 8
        · have hk8 : (k : Int) < 8 := by omega
          cases hc : (E z k && !decide (k ∈ p))
          · have HO : Hid (onTo E b s f p (k + 1) = onTo E b s f p k) := by rw [onTo_succ, onK_no (by rw [← HZ.out]; exact hc), List.append_nil]; rfl
            have HC := hideP hc
            clear hc
            gi_wp2_with fail
            refine ⟨trivial, fun h => (by cases h), (callsIn_wide.2 (HCAN.out false k _ HC.out)).mono ?_⟩
            rintro e w1 ⟨rfl, hb1⟩
            have J1 := hideP (HJ.out _ _ _ HJr.out hb1)
            have X1 := hideP ((hb1.block _ (Array.getElem?_eq_some_iff.1 HBX.out).1).trans HBX.out)
            have K1 := hideP (HKr.out.trans (KpT.below hb1))
            clear hb1 HJr HBX HKr c0 c1 c2 c3 c4 c5 c6 c7 c8
            gi_wp2_with fail
            repeat (refine ⟨trivial, ?_⟩; gi_wp2_with fail)
            exact ⟨⟨k + 1, by omega, by go_num, by rw [HO.out]; exact J1.out, X1.out, K1.out⟩, by simp [intOf]; omega⟩
          · have HO : Hid (onTo E b s f p (k + 1) = onTo E b s f p k ++ onK E b s f p k) := onTo_succ E b s f p k
            have HC := hideP hc
            clear hc
            have hk7 : k ≤ 7 := by omega
            gi_wp2_with fail
            refine ⟨trivial, fun h => (by cases h), (callsIn_wide.2 (HCAN.out true k _ HC.out)).mono ?_⟩
            rintro e w1 ⟨rfl, hb1⟩
            have J1 := hideP (HJ.out _ _ _ HJr.out hb1)
            have X1 := hideP ((hb1.block _ (Array.getElem?_eq_some_iff.1 HBX.out).1).trans HBX.out)
            have K1 := hideP (HKr.out.trans (KpT.below hb1))
            clear hb1 HJr HBX HKr c0 c1 c2 c3 c4 c5 c6 c7 c8
            obtain ⟨c0, c1, c2, c3, c4, c5, c6, c7, c8⟩ := path_cells X1.out
            gi_wp2_with fail
            refine ⟨trivial, fun h => (by cases h), (callsIn_wide.2 (HW.out k _)).mono ?_⟩
            rintro e w2 ⟨rfl, hb2⟩
            have J2 := hideP (HJ.out _ _ _ J1.out hb2)
            have X2 := hideP ((hb2.block _ (Array.getElem?_eq_some_iff.1 X1.out).1).trans X1.out)
            have K2 := hideP (K1.out.trans (KpT.below hb2))
            clear hb2 J1 X1 K1 c0 c1 c2 c3 c4 c5 c6 c7 c8
            have T3 := hideP (HTELL.out k w2 hk7 J2.out HC.out)
            clear HTELL
            generalize xi (cI (p ++ [k])) 0 = y0 at *
            generalize xi (cI (p ++ [k])) 1 = y1 at *
            generalize xi (cI (p ++ [k])) 2 = y2 at *
            generalize xi (cI (p ++ [k])) 3 = y3 at *
            generalize xi (cI (p ++ [k])) 4 = y4 at *
            generalize xi (cI (p ++ [k])) 5 = y5 at *
            generalize xi (cI (p ++ [k])) 6 = y6 at *
            generalize xi (cI (p ++ [k])) 7 = y7 at *
            generalize ((cI (p ++ [k])).length : Int) = y8 at *
            gi_wp2_with fail
            refine ⟨trivial, fun h => (by cases h), T3.out.mono ?_⟩
            rintro e w3 (⟨rfl, hJ3, hk3⟩ | ⟨rfl, q, hq, hx3⟩)
            · have J3 : Hid (J (pre ++ onTo E b s f p (k + 1)) w3) := by rw [HO.out, ← List.append_assoc]; exact hJ3
              have X3 : Hid (w3.heap[W.heap.size]? = some (Obj.cells #[Value.int .i64 x0, .int .i64 x1, .int .i64 x2, .int .i64 x3, .int .i64 x4, .int .i64 x5, .int .i64 x6, .int .i64 x7, .int .i64 (m : Int)] 77 (0, 0))) := (hk3.same _ _ _ _ X2.out (by decide) (by decide)).trans X2.out
              have K3 := hideP (K2.out.trans hk3)
              clear hJ3 hk3 T3 J2 X2 K2
              gi_wp2
              exact ⟨⟨k + 1, by omega, by go_num, J3.out, X3.out, K3.out⟩, by simp [intOf]; omega⟩
            · have Q3 : Hid (∃ q, q <+: onTo E b s f p 8 ∧ Jx (pre ++ q) w3) := by
                refine ⟨onTo E b s f p k ++ q, ?_, by rw [← List.append_assoc]; exact hx3⟩
                refine List.IsPrefix.trans ?_ (onTo_le (k := k + 1) (j := 8) (by omega))
                rw [HO.out]
                exact (List.prefix_append_right_inj _).2 hq
              clear hq hx3 T3 J2 X2 K2
              gi_wp2
              go_ret
              exact Or.inr ⟨rfl, Q3.out⟩
        · obtain rfl : k = 8 := by omega
          gi_wp2
          go_ret
          exact Or.inl ⟨rfl, HJr.out, HKr.out⟩

theorem tell_in (l N : Nat) (J Jx : List (List Nat) → World → Prop) (hJ : ∀ pre W W', J pre W → Below W.heap.size W W' → J pre W') (hY : Yields l N J Jx)
    (E : Nat → Nat → Bool) (S b s : Nat) (hS : S < 2 ^ 64) (hE : ∀ x k : Nat, decide (S &&& pbit (x : Int) (k : Int) ≠ 0) = E x k) (hs : s ≤ 8) :
    ∀ (f n : Nat) (p : List Nat) (pre : List (List Nat)) (W : World), p.length + f = s → 0 < p.length → J pre W → pre.length + (onW E b s f p).length ≤ N →
      CallsIn Fence.wide n Tryd.prog 95 #[pathV (cI p), .int .u64 (S : Int), .int .i64 (b : Int), .int .i64 (s : Int), .func (.yield l) #[] #[]] W (Told J Jx pre (onW E b s f p) W) := by
  intro f
  induction f with
  | zero =>
    intro n p pre W hp h0 hj hN
    by_cases hb : lastN p = b
    · have hon : onW E b s 0 p = [p] := by rw [onW_end hb, if_pos (by omega)]
      rw [hon] at hN ⊢
      exact tell_end l N J Jx hJ hY S b s n hs p pre W (by omega) h0 hj (by simpa using hN) hb
    · rw [onW_stop hb]
      exact tell_stop l J Jx hJ S b s n hs p pre W (by omega) h0 hj hb
  | succ f ih =>
    intro n p pre W hp h0 hj hN
    by_cases hb : lastN p = b
    · rw [onW_end hb, if_neg (by omega)]
      exact tell_more l J Jx hJ S b s n hs p pre W (by omega) h0 hj hb
    · rw [onW_go hb] at hN ⊢
      exact tell_go l N J Jx hJ E S b s hS hE hs f ih n p pre W hp h0 hj hN hb

end Go.Proofs.YtiaeffpjcinilaaDoor

/- Walk of impl.waysOf: it tells all ways between two knots, in order. -/
namespace Go.Proofs.YtiaeffpjcinilaaDoor
open Go.RowKit Go.Shelf
set_option linter.unusedVariables false
attribute [local go_sem] Oper.semAt_some

/-- what waysOf has kept -/
structure Kept (wr : World) (Bn : Nat) (K : Int) (v : Value) (a b : Int) : Prop where
  n : wr.heap[Bn]? = some (Obj.cells #[.int .i64 K, v] 25 (0, 0))
  a : wr.heap[Bn + 1]? = some (Obj.cells #[.int .i64 a] 3 (0, 0))
  b : wr.heap[Bn + 2]? = some (Obj.cells #[.int .i64 b] 3 (0, 0))
theorem Kept.kp {wr wr' : World} {Bn : Nat} {K : Int} {v : Value} {a b : Int} (h : Kept wr Bn K v a b) (hk : KpT wr wr') : Kept wr' Bn K v a b :=
  ⟨(hk.same _ _ _ _ h.n (by decide) (by decide)).trans h.n, (hk.same _ _ _ _ h.a (by decide) (by decide)).trans h.a, (hk.same _ _ _ _ h.b (by decide) (by decide)).trans h.b⟩
theorem Kept.below {wr wr' : World} {Bn : Nat} {K : Int} {v : Value} {a b : Int} (h : Kept wr Bn K v a b) (hk : Below wr.heap.size wr wr') : Kept wr' Bn K v a b := h.kp (KpT.below hk)
theorem box_cell {wr : World} {B : Nat} {t : TypeId} {fr : Nat × Nat} {v0 : Value} (h : wr.heap[B]? = some (Obj.cells #[v0] t fr)) : wr.cell? ⟨B, 0, none⟩ = some v0 := by simp [World.cell?, h]
theorem net_cells {wr : World} {B : Nat} {t : TypeId} {fr : Nat × Nat} {v0 v1 : Value} (h : wr.heap[B]? = some (Obj.cells #[v0, v1] t fr)) : wr.cell? ⟨B, 0, none⟩ = some v0 ∧ wr.cell? ⟨B, 1, none⟩ = some v1 := by constructor <;> simp [World.cell?, h]

/-- what has come in the end -/
def AllTold (J Jx : List (List Nat) → World → Prop) (all : List (List Nat)) (e : Ending) (W' : World) : Prop := (∃ v, e = .returned v) ∧ ((∃ xs, xs = all ∧ J xs W') ∨ (∃ pre, pre <+: all ∧ Jx pre W'))
set_option maxRecDepth 100000 in
set_option maxHeartbeats 1000000 in
theorem ways1_no (l n Bn : Nat) (J Jx : List (List Nat) → World → Prop) (hJ : ∀ pre W W', J pre W → Below W.heap.size W W' → J pre W')
    (K : Int) (ao : Option Addr) (cap : Nat) (ts : List (Int × Int)) (a b : Int) (W : World) (hn : ts.length ≤ 1099511627776) (ht : TiesIn W W.heap.size ao ts) (hk : Kept W Bn K (.slice ao ts.length cap) a b) (h0 : J [] W) (hno : (okB K ts && knotB a K && knotB b K) = false) :
    CallsIn Fence.wide n Tryd.prog 94 #[.func (.yield l) #[] #[], .pointer (some ⟨Bn, 0, none⟩), .pointer (some ⟨Bn + 1, 0, none⟩), .pointer (some ⟨Bn + 2, 0, none⟩)] W (AllTold J Jx []) := by
  obtain ⟨n0, n1⟩ := net_cells hk.n
  have HP := hideP (fun w h => pairsOf_any K ao cap ts w hn h)
  have HT := hideP ht
  have HJ := hideP hJ
  have HK := hideP hk
  have HJ0 := hideP h0
  clear ht hJ hk h0
  refine callsIn_of_wp Tryd.func94 rfl trivial ?_ rfl
  simp only [Tryd.ntmps94, List.size_toArray, List.length_cons, List.length_nil, Nat.reduceAdd, Nat.reduceSub, Array.replicate_succ, Array.replicate_zero, List.push_toArray, List.append_toArray, List.nil_append, List.cons_append]
  gi_wp2_with fail
  refine ⟨trivial, fun h => (by cases h), (callsIn_wide.2 (HP.out _ HT.out)).mono ?_⟩
  rintro e W1 ⟨rfl, hb1⟩
  have J1 := hideP (HJ.out _ _ _ HJ0.out hb1)
  have K1 := hideP (HK.out.below hb1)
  clear hb1 HJ0 HK HP HT n0 n1
  obtain ⟨n0, n1⟩ := net_cells K1.out.n
  have ca := box_cell K1.out.a
  have cb := box_cell K1.out.b
  have HA := hideP (fun v w h => hasKnot_is v K (.slice ao ts.length cap) a w h)
  have HB := hideP (fun v w h => hasKnot_is v K (.slice ao ts.length cap) b w h)
  generalize (setN K ts : Int) = S
  cases ho : okB K ts
  · clear hno ho
    gi_wp2_with fail
    repeat (refine ⟨trivial, ?_⟩; gi_wp2_with fail)
    refine bodyPost_ret (results_none rfl _ _ _) rfl ⟨⟨_, rfl⟩, Or.inl ⟨[], rfl, J1.out⟩⟩
  · rw [ho] at hno
    cases hA : knotB a K
    · have HV := hideP hA
      clear hno ho hA
      gi_wp2_with fail
      refine ⟨trivial, fun h => (by cases h), (callsIn_wide.2 (HA.out false _ HV.out)).mono ?_⟩
      rintro e W2 ⟨rfl, hb2⟩
      have J2 := hideP (HJ.out _ _ _ J1.out hb2)
      clear hb2 J1 K1 n0 n1 ca cb HA HB
      gi_wp2_with fail
      repeat (refine ⟨trivial, ?_⟩; gi_wp2_with fail)
      refine bodyPost_ret (results_none rfl _ _ _) rfl ⟨⟨_, rfl⟩, Or.inl ⟨[], rfl, J2.out⟩⟩
    · rw [hA] at hno
      have HV := hideP hA
      have hno' : knotB b K = false := by simpa using hno
      have HV2 := hideP hno'
      clear hno ho hA hno'
      gi_wp2_with fail
      refine ⟨trivial, fun h => (by cases h), (callsIn_wide.2 (HA.out true _ HV.out)).mono ?_⟩
      rintro e W2 ⟨rfl, hb2⟩
      have J2 := hideP (HJ.out _ _ _ J1.out hb2)
      have K2 := hideP (K1.out.below hb2)
      clear hb2 J1 K1 n0 n1 ca cb HA
      obtain ⟨n0, n1⟩ := net_cells K2.out.n
      have ca := box_cell K2.out.a
      have cb := box_cell K2.out.b
      gi_wp2_with fail
      refine ⟨trivial, fun h => (by cases h), (callsIn_wide.2 (HB.out false _ HV2.out)).mono ?_⟩
      rintro e W3 ⟨rfl, hb3⟩
      have J3 := hideP (HJ.out _ _ _ J2.out hb3)
      clear hb3 J2 K2 n0 n1 ca cb HB
      gi_wp2_with fail
      refine bodyPost_ret (results_none rfl _ _ _) rfl ⟨⟨_, rfl⟩, Or.inl ⟨[], rfl, J3.out⟩⟩

/-- what has come when ways are told, with the answer as a letter -/
def ToldB (J Jx : List (List Nat) → World → Prop) (pre all : List (List Nat)) (W W' : World) (v : Bool) : Prop :=
  (v = true ∧ J (pre ++ all) W' ∧ KpT W W') ∨ (v = false ∧ ∃ q, q <+: all ∧ Jx (pre ++ q) W')
theorem Told.told {J Jx : List (List Nat) → World → Prop} {pre all : List (List Nat)} {W W' : World} {e : Ending} (h : Told J Jx pre all W e W') : ∃ v : Bool, e = .returned (.bool v) ∧ ToldB J Jx pre all W W' v := by
  rcases h with ⟨h1, h2⟩ | ⟨h1, h2⟩
  · exact ⟨true, h1, Or.inl ⟨rfl, h2⟩⟩
  · exact ⟨false, h1, Or.inr ⟨rfl, h2⟩⟩
theorem allTo_pre {E : Nat → Nat → Bool} {a b : Nat} : ∀ {k : Nat} (j : Nat), allTo E a b k <+: allTo E a b (k + j) := by
  intro k j
  induction j with
  | zero => exact List.prefix_refl _
  | succ j ih =>
    show _ <+: allTo E a b (k + j + 1)
    rw [allTo_succ]
    exact ih.trans (List.prefix_append _ _)
theorem allTo_le {E : Nat → Nat → Bool} {a b k j : Nat} (h : k ≤ j) : allTo E a b k <+: allTo E a b j := by
  obtain ⟨i, rfl⟩ : ∃ i, j = k + i := ⟨j - k, by omega⟩
  exact allTo_pre i
set_option maxRecDepth 100000 in
set_option maxHeartbeats 1000000 in
theorem ways1_yes (l n Bn : Nat) (J Jx : List (List Nat) → World → Prop) (hJ : ∀ pre W W', J pre W → Below W.heap.size W W' → J pre W') 
    (Kn : Nat) (ao : Option Addr) (cap : Nat) (ts : List (Int × Int)) (a b : Nat) (hY : Yields l (allTo (tieNB ts) a b Kn).length J Jx) (W : World) (hn : ts.length ≤ 1099511627776) (ht : TiesIn W W.heap.size ao ts) (hk : Kept W Bn (Kn : Int) (.slice ao ts.length cap) (a : Int) (b : Int)) (h0 : J [] W) (hok : okB (Kn : Int) ts = true) (ha : knotB (a : Int) (Kn : Int) = true) (hb : knotB (b : Int) (Kn : Int) = true) :
    CallsIn Fence.wide n Tryd.prog 94 #[.func (.yield l) #[] #[], .pointer (some ⟨Bn, 0, none⟩), .pointer (some ⟨Bn + 1, 0, none⟩), .pointer (some ⟨Bn + 2, 0, none⟩)] W (AllTold J Jx (allTo (tieNB ts) a b Kn)) := by
  have hK8 : Kn ≤ 8 := by have := (okB_iff.1 hok).2.1; omega
  obtain ⟨n0, n1⟩ := net_cells hk.n
  have HP : Hid (∀ w, TiesIn w w.heap.size ao ts → Calls Tryd.prog 45 #[.agg #[.int .i64 (Kn : Int), .slice ao ts.length cap]] w fun e w' => e = .returned (.tuple #[.int .u64 ((setN (Kn : Int) ts : Nat) : Int), .bool true]) ∧ Below w.heap.size w w') := fun w h => by
    have := pairsOf_any (Kn : Int) ao cap ts w hn h
    rw [hok] at this; exact this
  have HTELL : Hid (∀ (s m : Nat) (w : World), s < Kn → J (allTo (tieNB ts) a b s) w → CallsIn Fence.wide m Tryd.prog 95 #[pathV (cI [a]), .int .u64 ((setN (Kn : Int) ts : Nat) : Int), .int .i64 (b : Int), .int .i64 ((s : Int) + 1), .func (.yield l) #[] #[]] w (Told J Jx (allTo (tieNB ts) a b s) (onW (tieNB ts) b (s + 1) s [a]) w)) := fun s m w hs hj => by
    have := tell_in l _ J Jx hJ hY (tieNB ts) (setN (Kn : Int) ts) b (s + 1) (setN_lt _ _) (fun x k => by rw [has_set _ _ _ _ hok, hasB_ok hok]; rfl) (by omega) s m [a] (allTo (tieNB ts) a b s) w (by simp; omega) (by simp) hj (by
      have h1 := (allTo_le (E := tieNB ts) (a := a) (b := b) (k := s + 1) (j := Kn) (by omega)).length_le
      rw [allTo_succ] at h1
      simpa using h1)
    exact this
  have HW : Hid (∀ (w : World), Calls Tryd.prog 63 #[.agg #[.int .i64 0, .int .i64 0, .int .i64 0, .int .i64 0, .int .i64 0, .int .i64 0, .int .i64 0, .int .i64 0, .int .i64 0], .int .i64 (a : Int)] w fun x w' => x = .returned (pathV (cI [a])) ∧ Below w.heap.size w w') := fun w => with_path [] (a : Int) w (by simp)
  have HPV : Hid (pathV (cI [a]) = .agg #[.int .i64 (a : Int), .int .i64 0, .int .i64 0, .int .i64 0, .int .i64 0, .int .i64 0, .int .i64 0, .int .i64 0, .int .i64 1]) := rfl
  rw [HPV.out] at HTELL HW
  have HA := hideP (fun w => hasKnot_is true (Kn : Int) (.slice ao ts.length cap) (a : Int) w ha)
  have HB := hideP (fun w => hasKnot_is true (Kn : Int) (.slice ao ts.length cap) (b : Int) w hb)
  have HT := hideP ht
  have HJ := hideP hJ
  have HK := hideP hk
  have HJ0 := hideP h0
  generalize ((setN (Kn : Int) ts : Nat) : Int) = S at *
  clear ht hJ hk h0 hY hok ha hb
  refine callsIn_of_wp Tryd.func94 rfl trivial ?_ rfl
  simp only [Tryd.ntmps94, List.size_toArray, List.length_cons, List.length_nil, Nat.reduceAdd, Nat.reduceSub, Array.replicate_succ, Array.replicate_zero, List.push_toArray, List.append_toArray, List.nil_append, List.cons_append]
  gi_wp2_with fail
  refine ⟨trivial, fun h => (by cases h), (callsIn_wide.2 (HP.out _ HT.out)).mono ?_⟩
  rintro e W1 ⟨rfl, hb1⟩
  have J1 := hideP (HJ.out _ _ _ HJ0.out hb1)
  have K1 := hideP (HK.out.below hb1)
  clear hb1 HJ0 HK HP HT n0 n1
  obtain ⟨n0, n1⟩ := net_cells K1.out.n
  have ca := box_cell K1.out.a
  have cb := box_cell K1.out.b
  gi_wp2_with fail
  refine ⟨trivial, fun h => (by cases h), (callsIn_wide.2 (HA.out _)).mono ?_⟩
  rintro e W2 ⟨rfl, hb2⟩
  have J2 := hideP (HJ.out _ _ _ J1.out hb2)
  have K2 := hideP (K1.out.below hb2)
  clear hb2 J1 K1 n0 n1 ca cb HA
  obtain ⟨n0, n1⟩ := net_cells K2.out.n
  have ca := box_cell K2.out.a
  have cb := box_cell K2.out.b
  gi_wp2_with fail
  refine ⟨trivial, fun h => (by cases h), (callsIn_wide.2 (HB.out _)).mono ?_⟩
  rintro e W3 ⟨rfl, hb3⟩
  have J3 := hideP (HJ.out _ _ _ J2.out hb3)
  have K3 := hideP (K2.out.below hb3)
  clear hb3 J2 K2 n0 n1 ca cb HB
  gi_wp2
  gi_loopw [7] (fun i wr => ∃ s : Nat, s ≤ Kn ∧ i = .int .i64 ((s : Int) + 1) ∧ J (allTo (tieNB ts) a b s) wr ∧ Kept wr Bn (Kn : Int) (.slice ao ts.length cap) (a : Int) (b : Int))
    (fun i _ => 9 - (intOf i).toNat)
  case atStart => exact ⟨0, by omega, rfl, J3.out, K3.out⟩
  case round =>
    clear J3 K3
    obtain ⟨s, hs, rfl, hJr, hKr⟩ := hrel
    have HJr := hideP hJr
    have HKr := hideP hKr
    obtain ⟨n0, n1⟩ := net_cells hKr.n
    have ca := box_cell hKr.a
    have cb := box_cell hKr.b
    clear hJr hKr
    by_cases hlt : s < Kn
    · have hlt' : (s : Int) + 1 ≤ (Kn : Int) := by omega
      have hmix : Tryd.prog.follows .mixedOrders = true := by kernel_rfl
      have HBB : Hid (Bn + 2 < wr.heap.size) := (Array.getElem?_eq_some_iff.1 HKr.out.b).1
      have HT2 : Hid (∀ w, J (allTo (tieNB ts) a b s) w → CallsIn Fence.wide (n - 1) Tryd.prog 95 #[.agg #[.int .i64 (a : Int), .int .i64 0, .int .i64 0, .int .i64 0, .int .i64 0, .int .i64 0, .int .i64 0, .int .i64 0, .int .i64 1], .int .u64 S, .int .i64 (b : Int), .int .i64 ((s : Int) + 1), .func (.yield l) #[] #[]] w fun e w' => ∃ v : Bool, e = .returned (.bool v) ∧ ToldB J Jx (allTo (tieNB ts) a b s) (onW (tieNB ts) b (s + 1) s [a]) w w' v) := fun w hj =>
        (HTELL.out s (n - 1) w hlt hj).mono fun e w' h => h.told
      clear HTELL
      gi_wp2_with fail
      gi_region_with_o (first | (refine ⟨trivial, fun h => (by cases h), ?_⟩; gi_at_call 63; refine (callsIn_wide.2 (HW.out _)).mono ?_; rintro e wq ⟨rfl, hbq⟩; have JQ := hideP (HJ.out _ _ _ HJr.out ((Below.refl _ _).drew.trans hbq)); have KQ := hideP (HKr.out.below ((Below.refl _ _).drew.trans hbq)); have cbq := box_cell KQ.out.b; clear hbq) | (refine ⟨trivial, fun h => (by cases h), ?_⟩; gi_at_call 95; refine (HT2.out _ JQ.out).mono ?_; rintro e wz ⟨v, rfl, hv⟩))
      all_goals
        rcases hv with ⟨rfl, hJz, hkz⟩ | ⟨rfl, q, hq, hx⟩
        · have JZ : Hid (J (allTo (tieNB ts) a b (s + 1)) wz) := by rw [allTo_succ]; exact hJz
          have KZ := hideP (KQ.out.kp hkz)
          clear hJz hkz KQ JQ HKr HJr HT2 cbq ca cb n0 n1
          gi_wp2
          exact ⟨⟨s + 1, by omega, by go_num, JZ.out, KZ.out⟩, by simp [intOf]; omega⟩
        · have QZ : Hid (∃ pre, pre <+: allTo (tieNB ts) a b Kn ∧ Jx pre wz) := by
            refine ⟨_, ?_, hx⟩
            refine List.IsPrefix.trans ?_ (allTo_le (k := s + 1) (j := Kn) (by omega))
            rw [allTo_succ]
            exact (List.prefix_append_right_inj _).2 hq
          clear hq hx KQ JQ HKr HJr HT2 cbq ca cb n0 n1
          gi_wp2
          refine bodyPost_ret (results_none rfl _ _ _) rfl ⟨⟨_, rfl⟩, Or.inr QZ.out⟩
    · obtain rfl : s = Kn := by omega
      gi_wp2
      refine bodyPost_end (results_none rfl _ _ _) rfl ⟨⟨_, rfl⟩, Or.inl ⟨_, rfl, HJr.out⟩⟩

/-- what waysOf hands back tells all ways between two knots -/
theorem ways_stops (n Bn : Nat) (K : Int) (ao : Option Addr) (cap : Nat) (ts : List (Int × Int)) (a b : Int) (w : World) (hn : ts.length ≤ 1099511627776) (ht : TiesIn w w.heap.size ao ts) (hk : Kept w Bn K (.slice ao ts.length cap) a b) :
    SeqStopsK Fence.wide n Tryd.prog 94 #[.pointer (some ⟨Bn, 0, none⟩), .pointer (some ⟨Bn + 1, 0, none⟩), .pointer (some ⟨Bn + 2, 0, none⟩)] (fun x : List Nat => #[pathV (cI (clip x))]) KpT (fun ys => ys = waysB K ts a b) (fun pre => pre <+: waysB K ts a b) (waysB K ts a b).length w := by
  intro l J Jx W hW hJ _ hY h0
  have hJ' : ∀ pre W W', J pre W → Below W.heap.size W W' → J pre W' := fun pre W W' h hb => hJ pre W W' none h (grown_none hb) (fun r e => by cases e)
  have hY' : Yields l (waysB K ts a b).length J Jx := fun m pre x W1 hj hl => YieldAt.anyDepth rfl m (hY pre x W1 hj hl)
  have ht' : TiesIn W W.heap.size ao ts := (ht.below hW (Nat.le_refl _)).wide hW.size
  have hk' := hk.below hW
  cases hc : (okB K ts && knotB a K && knotB b K)
  · rw [waysB_no hc]
    exact ways1_no l n Bn J Jx hJ' K ao cap ts a b W hn ht' hk' h0 hc
  · have hc' := hc
    simp only [Bool.and_eq_true] at hc'
    obtain ⟨⟨h1, h2⟩, h3⟩ := hc'
    have hK := (okB_iff.1 h1)
    have ha : 0 ≤ a ∧ a < K := by simpa [knotB] using h2
    have hb : 0 ≤ b ∧ b < K := by simpa [knotB] using h3
    obtain ⟨Kn, rfl⟩ : ∃ n : Nat, K = (n : Int) := ⟨K.toNat, by omega⟩
    obtain ⟨x, rfl⟩ : ∃ n : Nat, a = (n : Int) := ⟨a.toNat, by omega⟩
    obtain ⟨y, rfl⟩ : ∃ n : Nat, b = (n : Int) := ⟨b.toNat, by omega⟩
    have e := waysB_yes hc
    simp only [Int.toNat_natCast] at e
    rw [e] at hY' ⊢
    exact ways1_yes l n Bn J Jx hJ' Kn ao cap ts x y hY' W hn ht' hk' h0 h1 h2 h3
set_option maxRecDepth 100000 in
set_option maxHeartbeats 400000 in
theorem waysOf_in (n : Nat) (K : Int) (u : Value) (a b : Int) (w : World) :
    Calls Tryd.prog 69 #[.agg #[.int .i64 K, u], .int .i64 a, .int .i64 b] w fun e w' => e = .returned (.func (.func 94) #[] #[.pointer (some ⟨w.heap.size, 0, none⟩), .pointer (some ⟨w.heap.size + 1, 0, none⟩), .pointer (some ⟨w.heap.size + 2, 0, none⟩)]) ∧ Kept w' w.heap.size K u a b ∧ Below w.heap.size w w' := by
  go_enter Tryd.func69, Tryd.ntmps69
  go_wp2
  go_ret
  refine ⟨rfl, ⟨?_, ?_, ?_⟩, (((Below.refl _ w).alloc (Nat.le_refl _) _).alloc (by simp) _).alloc (by simp; omega) _⟩
  · exact (Below.heap_alloc _ _ _ (by simp; omega)).trans ((Below.heap_alloc _ _ _ (by simp)).trans (World.alloc_heap_new w _))
  · refine (Below.heap_alloc _ _ _ (by simp)).trans ?_
    have := World.alloc_heap_new (w.alloc (.cells #[.int .i64 K, u] 25)) (.cells #[.int .i64 a] 3)
    rwa [World.size_alloc] at this
  · have := World.alloc_heap_new ((w.alloc (.cells #[.int .i64 K, u] 25)).alloc (.cells #[.int .i64 a] 3)) (.cells #[.int .i64 b] 3)
    rwa [World.size_alloc, World.size_alloc] at this

end Go.Proofs.YtiaeffpjcinilaaDoor

/- Walks of slices.Clone and impl.path.list: the way's knots in memory of their own. -/
namespace Go.Proofs.YtiaeffpjcinilaaDoor
open Go.RowKit
set_option linter.unusedVariables false

/-- the j-th knot of a way -/
def pn (p : List Nat) (j : Nat) : Nat := p.getD j 0
theorem xi_cI (p : List Nat) (j : Nat) : xi (cI p) j = (pn p j : Int) := by
  unfold xi cI pn
  rw [List.getD_eq_getElem?_getD, List.getD_eq_getElem?_getD, List.getElem?_map]
  cases p[j]? <;> rfl
def plist (p : List Nat) : List Value := p.map fun (x : Nat) => Value.int .i64 (x : Int)
theorem plist_len (p : List Nat) : (plist p).length = p.length := by simp [plist]
theorem plist_at (p : List Nat) (j : Nat) (h : j < p.length) : (plist p)[j]? = some (pcellN (pn p) j) := by
  simp [plist, pcellN, pn, h]
set_option maxHeartbeats 400000 in
theorem clone_any (g cap : Nat) (p : List Nat) (w : World) (h0 : 0 < p.length) (h8 : p.length ≤ 8) (hc : ∀ j, j < p.length → w.cell? ⟨g, j, none⟩ = some (pcellN (pn p) j)) (hg : g < w.heap.size) :
    Calls Tryd.prog 49 #[.slice (some ⟨g, 0, none⟩) p.length cap] w fun e w' => ∃ g' cap', e = .returned (.slice (some ⟨g', 0, none⟩) p.length cap') ∧ w'.ownsRow w.heap.size 3 1 (.slice (some ⟨g', 0, none⟩) p.length cap') p.length (plist p) ∧ Below w.heap.size w w' := by
  obtain ⟨i0, hi0, hz0, hz1, hz2⟩ := info_parts Tryd.infoInt
  have HI : Hid (Tryd.prog.info? 3 = some i0 ∧ i0.zero = some (.int .i64 0) ∧ i0.size = 1 ∧ i0.bytes = 8) := ⟨hi0, hz0, hz1, hz2⟩
  clear hi0 hz0 hz1 hz2
  have HN : Hid (∀ j u, (plist p)[j]? = some u → (w.alloc (.cells #[] 3)).cell? ((⟨g, 0, none⟩ : Addr).add j) = some u) := by
    intro j u hu
    have hj : j < p.length := by have := (List.getElem?_eq_some_iff.1 hu).1; rwa [plist_len] at this
    rw [plist_at p j hj] at hu
    have hadd : (⟨g, 0, none⟩ : Addr).add j = ⟨g, j, none⟩ := by unfold Addr.add; split <;> simp_all
    rw [hadd, (below_one w _).cell (p := ⟨g, j, none⟩) hg, hc j hj]; exact hu
  have H1 : Hid (∀ u ∈ plist p, u.oneCell' = true) := by
    intro u hu
    obtain ⟨x, _, rfl⟩ := List.mem_map.1 hu
    rfl
  have HL := hideP (plist_len p)
  obtain ⟨m, hm⟩ : ∃ m, m = p.length := ⟨_, rfl⟩
  rw [← hm] at h0 h8 HL ⊢
  obtain ⟨k, rfl⟩ : ∃ k, m = k + 1 := ⟨m - 1, by omega⟩
  clear hc hm
  have hnil : ∀ w : World, (binOp .eql 27 (.slice (some ⟨g, 0, none⟩) (k + 1) cap) (.slice none 0 0)).run Tryd.prog w = .ok (.bool false) w := fun w => Lib.run_eql_slice_nil w _ _ (some ⟨g, 0, none⟩) (k + 1) cap 0 0 Tryd.underlying27
  go_enter Tryd.func49, Tryd.ntmps49
  go_wp2_with (at_builtin; refine wpList_append_own _ rfl _ _ 27 rfl w.heap.size 3 i0 _ 1 8 Tryd.underlying27 HI.out.1 HI.out.2.1 HI.out.2.2.1 HI.out.2.2.2 rfl (by omega) (.slice (some ⟨w.heap.size, 0, none⟩) 0 0) 0 [] rfl ?_ ⟨g, 0, none⟩ (k + 1) cap (plist p) rfl ?_ HN.out H1.out ?_ ?_ ?_ ?_)
  · simpa using World.ownsRow_lit w #[] 0 (base := w.heap.size) (e := 3) (size := 1) (Nat.le_refl _) (by simp) rfl
  · rw [HL.out]; omega
  · unfold maxLen; omega
  · omega
  · simp
  intro v' w' hown hgrow _
  obtain ⟨g', cap', rfl⟩ := ownsRow_succ hown
  have HB : Hid (Below w.heap.size w w') := (below_one w _).grown hgrow (by simp) (fun j e => by simp [Value.ownBlock] at e; omega)
  have HO := hideP hown
  clear hown hgrow
  go_wp2
  go_ret
  exact ⟨g', cap', rfl, HO.out, HB.out⟩

set_option maxHeartbeats 400000 in
theorem list_any (p : List Nat) (w : World) (h0 : 0 < p.length) (h8 : p.length ≤ 8) :
    Calls Tryd.prog 56 #[pathV (cI p)] w fun e w' => ∃ g cap, e = .returned (.slice (some ⟨g, 0, none⟩) p.length cap) ∧ w'.ownsRow (w.heap.size + 1) 3 1 (.slice (some ⟨g, 0, none⟩) p.length cap) p.length (plist p) ∧ Below w.heap.size w w' := by
  have hi := fun t => own_path w (cI p) t
  have HC : Hid (∀ (w' : World), OwnI w' w.heap.size 9 (pcell (cI p)) → Calls Tryd.prog 49 #[.slice (some ⟨w.heap.size, 0, none⟩) p.length 8] w' fun e w'' => ∃ g' cap', e = .returned (.slice (some ⟨g', 0, none⟩) p.length cap') ∧ w''.ownsRow w'.heap.size 3 1 (.slice (some ⟨g', 0, none⟩) p.length cap') p.length (plist p) ∧ Below w'.heap.size w' w'') := fun w' h =>
    clone_any w.heap.size 8 p w' h0 h8 (fun j hj => by rw [h.1 j (by omega), pcell_lt (by omega), xi_cI]; rfl) h.2.2
  unfold pathV
  rw [cI_len] at hi ⊢
  obtain ⟨m, hm⟩ : ∃ m, m = p.length := ⟨_, rfl⟩
  rw [← hm] at HC hi h0 h8 ⊢
  have hm8 : (m : Int) ≤ 8 := by omega
  have HI := hideP hi
  clear hi hm
  generalize xi (cI p) 0 = x0 at *
  generalize xi (cI p) 1 = x1 at *
  generalize xi (cI p) 2 = x2 at *
  generalize xi (cI p) 3 = x3 at *
  generalize xi (cI p) 4 = x4 at *
  generalize xi (cI p) 5 = x5 at *
  generalize xi (cI p) 6 = x6 at *
  generalize xi (cI p) 7 = x7 at *
  go_enter Tryd.func56, Tryd.ntmps56
  go_wp2_with fail
  refine (HC.out _ (HI.out _)).mono ?_
  rintro e w2 ⟨g', cap', rfl, ho, hb⟩
  have HO : Hid (w2.ownsRow (w.heap.size + 1) 3 1 (.slice (some ⟨g', 0, none⟩) m cap') m (plist p)) := hideP (by simpa using ho)
  have HB : Hid (Below w.heap.size w w2) := (below_one _ _).trans (hb.mono (by simp))
  clear ho hb HC HI
  go_wp2
  go_ret
  exact ⟨g', cap', rfl, HO.out, HB.out⟩
/-- the row of a way -/
theorem row_own {w : World} {lo g m cap : Nat} {p : List Nat} (h : w.ownsRow lo 3 1 (.slice (some ⟨g, 0, none⟩) m cap) m (plist p)) (hm : m = p.length) (h0 : 0 < m) : OwnI w g m (pcellN (pn p)) ∧ lo ≤ g ∧ g < w.heap.size := by
  obtain ⟨g', cap', e, h1, h2⟩ := h.form h0
  simp only [Value.slice.injEq, Option.some.injEq, Addr.mk.injEq, and_true, true_and] at e
  obtain ⟨rfl, _⟩ := e
  exact ⟨⟨fun j hj => by rw [h.cellAt j (by omega), plist_at p j (by omega)], fun j => h.frozenAt j, h2⟩, h1, h2⟩

end Go.Proofs.YtiaeffpjcinilaaDoor
