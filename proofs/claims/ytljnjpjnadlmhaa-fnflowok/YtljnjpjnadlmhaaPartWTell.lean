/- Texts put together: WTell, WTell2, WWays, WList. -/
import Derived.RangeFuncNested
import Derived.RangeFuncBound
import Derived.RangeFuncCalls
import Derived.RangeFuncLeaves
import Derived.Shelf.Abstract
import Derived.Shelf.RegionOpen
import Derived.WalkKit
import Derived.OwnWalkIn
import Derived.TacticsInMore
import Derived.LoopNIn
import Derived.LoopIn
import Derived.Test.YtljnjpjnadlmhaaPartMathP
import Derived.Test.YtljnjpjnadlmhaaPartWWayOk2
import Derived.Test.YtljnjpjnadlmhaaPartWLeaf
import Derived.Test.YtljnjpjnadlmhaaPartWForest
import Derived.Lib.SliceRun
/- Walk of impl.path.tell: it hands each way on to yield, in order. -/
namespace Go.Proofs.Ytljnjpjnadlmhaa
open Go.RowKit Go.Shelf
set_option linter.unusedVariables false
attribute [local go_sem] Oper.semAt_some

def cI (p : List Nat) : List Int := p.map fun (x : Nat) => (x : Int)
theorem cI_len (p : List Nat) : (cI p).length = p.length := by simp [cI]
theorem cI_snoc (p : List Nat) (k : Nat) : cI (p ++ [k]) = cI p ++ [(k : Int)] := by simp [cI]
theorem cI_last {p : List Nat} (h : 0 < p.length) : lastI (cI p) = (lastN p : Int) := by
  obtain ⟨q, k, rfl⟩ : ∃ q k, p = q ++ [k] := ⟨p.dropLast, p.getLast (by intro e; simp [e] at h), (List.dropLast_concat_getLast _).symm⟩
  rw [lastN_snoc, cI_snoc]
  simp [lastI, xi]
theorem cI_in (p : List Nat) (k : Nat) : inI (cI p) (k : Int) = decide (k ∈ p) := by
  rw [Bool.eq_iff_iff, inI_iff, decide_eq_true_eq]
  constructor
  · rintro ⟨i, hi, e⟩
    rw [cI_len] at hi
    have : xi (cI p) i = ((p[i] : Nat) : Int) := by simp [xi, cI, hi]
    rw [this] at e
    have : p[i] = k := by omega
    rw [← this]; exact List.getElem_mem hi
  · intro h
    obtain ⟨i, hi, e⟩ := List.mem_iff_getElem.1 h
    exact ⟨i, by rw [cI_len]; exact hi, by simp [xi, cI, e, hi]⟩
/-- what a way is as a value: never empty, never of more than eight knots -/
def clip (p : List Nat) : List Nat := if 0 < p.length ∧ p.length ≤ 8 then p else [0]
theorem clip_is {p : List Nat} (h : 0 < p.length) (h8 : p.length ≤ 8) : clip p = p := if_pos ⟨h, h8⟩
theorem clip_pos (p : List Nat) : 0 < (clip p).length := by unfold clip; split <;> simp_all
theorem clip_le (p : List Nat) : (clip p).length ≤ 8 := by unfold clip; split <;> simp_all
def listT : TypeId := 30
/-- what a round that goes on keeps: all blocks but those of lists of lists -/
structure KpT (W W' : World) : Prop where
  size : W.heap.size ≤ W'.heap.size
  same : ∀ (k : Nat) (cs : Array Value) (t : TypeId) (fr : Nat × Nat), W.heap[k]? = some (Obj.cells cs t fr) → t ≠ 30 → t ≠ listT → W'.heap[k]? = W.heap[k]?
theorem KpT.refl (W : World) : KpT W W := ⟨Nat.le_refl _, fun _ _ _ _ _ _ _ => rfl⟩
theorem KpT.trans {A B C : World} (h : KpT A B) (k : KpT B C) : KpT A C :=
  ⟨Nat.le_trans h.size k.size, fun i cs t fr hi h1 h2 => by
    have e := h.same i cs t fr hi h1 h2
    exact (k.same i cs t fr (e.trans hi) h1 h2).trans e⟩
theorem KpT.below {W W' : World} (h : Below W.heap.size W W') : KpT W W' :=
  ⟨h.size, fun k cs t fr hk _ _ => h.block k (Array.getElem?_eq_some_iff.1 hk).1⟩
theorem KpT.putObj (W : World) (l : Nat) (o o' : Obj) (h : W.heap[l]? = some o) (hc : o.isCells = false) : KpT W (W.putObj l o') :=
  ⟨by simp, fun k cs t fr hk _ _ => World.putObj_heap_other (fun e => by subst e; rw [h] at hk; cases hk; cases hc)⟩
theorem grown_none {W W' : World} (h : Below W.heap.size W W') : W.grownBy W' none := ⟨h.os, h.tape, h.output, h.size, fun k hk _ => h.block k hk⟩
theorem room_of_none {F : Fence} (hd : F.depth = none) (k : Nat) : F.room k := fun d h => by rw [hd] at h; cases h
theorem RoundIn.anyDepth {F : Fence} (hd : F.depth = none) {m m' : Nat} {P : Program} {l : Nat} {f : FuncId} {tmps : Array Value} {assign body : Code} {w : World} {R : Ending → World → Prop}
    (h : RoundIn F m P l f tmps assign body w R) : RoundIn F m' P l f tmps assign body w R := ⟨h.1, fun c cs _ => h.2 c cs (room_of_none hd _)⟩
theorem YieldAt.anyDepth {F : Fence} (hd : F.depth = none) {m : Nat} (m' : Nat) {P : Program} {l : Nat} {args : Array Value} {W : World} {R : Ending → World → Prop} (h : YieldAt F m P l args W R) : YieldAt F m' P l args W R := by
  obtain ⟨fn, tmps, assign, body, hy, hR⟩ := h
  exact ⟨fn, tmps, assign, body, hy, RoundIn.anyDepth hd hR⟩
/-- what a loop body does with a way -/
def Yields (l N : Nat) (J Jx : List (List Nat) → World → Prop) : Prop :=
  ∀ (m : Nat) (pre : List (List Nat)) (x : List Nat) (W : World), J pre W → pre.length < N → YieldAt Fence.wide m Try.prog l #[pathV (cI (clip x))] W fun e W' =>
    (e = .returned (.bool true) ∧ J (pre ++ [x]) W' ∧ KpT W W') ∨ (e = .returned (.bool false) ∧ Jx (pre ++ [x]) W')
/-- what has come when ways are told -/
def Told (J Jx : List (List Nat) → World → Prop) (pre all : List (List Nat)) (W : World) (e : Ending) (W' : World) : Prop :=
  (e = .returned (.bool true) ∧ J (pre ++ all) W' ∧ KpT W W') ∨ (e = .returned (.bool false) ∧ ∃ q, q <+: all ∧ Jx (pre ++ q) W')
theorem end_path9 (l : List Int) (k : Int) (w : World) (h0 : 0 < l.length) (h : l.length ≤ 8) (hk : lastI l = k) : Calls Try.prog 72 #[.agg #[.int .i64 (xi l 0), .int .i64 (xi l 1), .int .i64 (xi l 2), .int .i64 (xi l 3), .int .i64 (xi l 4), .int .i64 (xi l 5), .int .i64 (xi l 6), .int .i64 (xi l 7), .int .i64 (l.length : Int)]] w fun x w' => x = .returned (.int .i64 k) ∧ Below w.heap.size w w' := by
  rw [← hk]; exact end_path l w h0 h

end Go.Proofs.Ytljnjpjnadlmhaa

/- Walk of impl.path.tell: the rest. -/
namespace Go.Proofs.Ytljnjpjnadlmhaa
open Go.RowKit Go.Shelf
set_option linter.unusedVariables false
attribute [local go_sem] Oper.semAt_some

theorem onTo_pre {E : Nat → Nat → Bool} {b s f : Nat} {p : List Nat} : ∀ {k : Nat} (j : Nat), onTo E b s f p k <+: onTo E b s f p (k + j) := by
  intro k j
  induction j with
  | zero => exact List.prefix_refl _
  | succ j ih =>
    show _ <+: onTo E b s f p (k + j + 1)
    rw [onTo_succ]
    exact ih.trans (List.prefix_append _ _)
theorem onTo_le {E : Nat → Nat → Bool} {b s f : Nat} {p : List Nat} {k j : Nat} (h : k ≤ j) : onTo E b s f p k <+: onTo E b s f p j := by
  obtain ⟨i, rfl⟩ : ∃ i, j = k + i := ⟨j - k, by omega⟩
  exact onTo_pre i
theorem path_cells {wr : World} {B : Nat} {t : TypeId} {fr : Nat × Nat} {v0 v1 v2 v3 v4 v5 v6 v7 v8 : Value} (h : wr.heap[B]? = some (Obj.cells #[v0, v1, v2, v3, v4, v5, v6, v7, v8] t fr)) :
    wr.cell? ⟨B, 0, none⟩ = some v0 ∧ wr.cell? ⟨B, 1, none⟩ = some v1 ∧ wr.cell? ⟨B, 2, none⟩ = some v2 ∧ wr.cell? ⟨B, 3, none⟩ = some v3 ∧ wr.cell? ⟨B, 4, none⟩ = some v4 ∧ wr.cell? ⟨B, 5, none⟩ = some v5 ∧ wr.cell? ⟨B, 6, none⟩ = some v6 ∧ wr.cell? ⟨B, 7, none⟩ = some v7 ∧ wr.cell? ⟨B, 8, none⟩ = some v8 := by
  refine ⟨?_, ?_, ?_, ?_, ?_, ?_, ?_, ?_, ?_⟩ <;> simp [World.cell?, h]
end Go.Proofs.Ytljnjpjnadlmhaa

/- Walk of impl.waysOf: it tells all ways between two knots, in order. -/
namespace Go.Proofs.Ytljnjpjnadlmhaa
open Go.RowKit Go.Shelf
set_option linter.unusedVariables false
attribute [local go_sem] Oper.semAt_some

/-- what waysOf has kept -/
structure Kept (wr : World) (Bn : Nat) (K : Int) (v : Value) (a b : Int) : Prop where
  n : wr.heap[Bn]? = some (Obj.cells #[.int .i64 K, v] 25 (0, 0))
  a : wr.heap[Bn + 1]? = some (Obj.cells #[.int .i64 a] 3 (0, 0))
  b : wr.heap[Bn + 2]? = some (Obj.cells #[.int .i64 b] 3 (0, 0))
theorem Kept.kp {wr wr' : World} {Bn : Nat} {K : Int} {v : Value} {a b : Int} (h : Kept wr Bn K v a b) (hk : KpT wr wr') : Kept wr' Bn K v a b :=
  ⟨(hk.same _ _ _ _ h.n (by decide) (by decide)).trans h.n, (hk.same _ _ _ _ h.a (by decide) (by decide)).trans h.a, (hk.same _ _ _ _ h.b (by decide) (by decide)).trans h.b⟩
theorem Kept.below {wr wr' : World} {Bn : Nat} {K : Int} {v : Value} {a b : Int} (h : Kept wr Bn K v a b) (hk : Below wr.heap.size wr wr') : Kept wr' Bn K v a b := h.kp (KpT.below hk)
theorem box_cell {wr : World} {B : Nat} {t : TypeId} {fr : Nat × Nat} {v0 : Value} (h : wr.heap[B]? = some (Obj.cells #[v0] t fr)) : wr.cell? ⟨B, 0, none⟩ = some v0 := by simp [World.cell?, h]
theorem net_cells {wr : World} {B : Nat} {t : TypeId} {fr : Nat × Nat} {v0 v1 : Value} (h : wr.heap[B]? = some (Obj.cells #[v0, v1] t fr)) : wr.cell? ⟨B, 0, none⟩ = some v0 ∧ wr.cell? ⟨B, 1, none⟩ = some v1 := by constructor <;> simp [World.cell?, h]

/-- what has come in the end -/
def AllTold (J Jx : List (List Nat) → World → Prop) (all : List (List Nat)) (e : Ending) (W' : World) : Prop := (∃ v, e = .returned v) ∧ ((∃ xs, xs = all ∧ J xs W') ∨ (∃ pre, pre <+: all ∧ Jx pre W'))
/-- what has come when ways are told, with the answer as a letter -/
def ToldB (J Jx : List (List Nat) → World → Prop) (pre all : List (List Nat)) (W W' : World) (v : Bool) : Prop :=
  (v = true ∧ J (pre ++ all) W' ∧ KpT W W') ∨ (v = false ∧ ∃ q, q <+: all ∧ Jx (pre ++ q) W')
theorem Told.told {J Jx : List (List Nat) → World → Prop} {pre all : List (List Nat)} {W W' : World} {e : Ending} (h : Told J Jx pre all W e W') : ∃ v : Bool, e = .returned (.bool v) ∧ ToldB J Jx pre all W W' v := by
  rcases h with ⟨h1, h2⟩ | ⟨h1, h2⟩
  · exact ⟨true, h1, Or.inl ⟨rfl, h2⟩⟩
  · exact ⟨false, h1, Or.inr ⟨rfl, h2⟩⟩
theorem allTo_pre {E : Nat → Nat → Bool} {a b : Nat} : ∀ {k : Nat} (j : Nat), allTo E a b k <+: allTo E a b (k + j) := by
  intro k j
  induction j with
  | zero => exact List.prefix_refl _
  | succ j ih =>
    show _ <+: allTo E a b (k + j + 1)
    rw [allTo_succ]
    exact ih.trans (List.prefix_append _ _)
theorem allTo_le {E : Nat → Nat → Bool} {a b k j : Nat} (h : k ≤ j) : allTo E a b k <+: allTo E a b j := by
  obtain ⟨i, rfl⟩ : ∃ i, j = k + i := ⟨j - k, by omega⟩
  exact allTo_pre i
end Go.Proofs.Ytljnjpjnadlmhaa

/- Walks of slices.Clone and impl.path.list: the way's knots in memory of their own. -/
namespace Go.Proofs.Ytljnjpjnadlmhaa
open Go.RowKit
set_option linter.unusedVariables false

/-- the j-th knot of a way -/
def pn (p : List Nat) (j : Nat) : Nat := p.getD j 0
theorem xi_cI (p : List Nat) (j : Nat) : xi (cI p) j = (pn p j : Int) := by
  unfold xi cI pn
  rw [List.getD_eq_getElem?_getD, List.getD_eq_getElem?_getD, List.getElem?_map]
  cases p[j]? <;> rfl
def plist (p : List Nat) : List Value := p.map fun (x : Nat) => Value.int .i64 (x : Int)
theorem plist_len (p : List Nat) : (plist p).length = p.length := by simp [plist]
theorem plist_at (p : List Nat) (j : Nat) (h : j < p.length) : (plist p)[j]? = some (pcellN (pn p) j) := by
  simp [plist, pcellN, pn, h]
/-- the row of a way -/
theorem row_own {w : World} {lo g m cap : Nat} {p : List Nat} (h : w.ownsRow lo 3 1 (.slice (some ⟨g, 0, none⟩) m cap) m (plist p)) (hm : m = p.length) (h0 : 0 < m) : OwnI w g m (pcellN (pn p)) ∧ lo ≤ g ∧ g < w.heap.size := by
  obtain ⟨g', cap', e, h1, h2⟩ := h.form h0
  simp only [Value.slice.injEq, Option.some.injEq, Addr.mk.injEq, and_true, true_and] at e
  obtain ⟨rfl, _⟩ := e
  exact ⟨⟨fun j hj => by rw [h.cellAt j (by omega), plist_at p j (by omega)], fun j => h.frozenAt j, h2⟩, h1, h2⟩

end Go.Proofs.Ytljnjpjnadlmhaa
