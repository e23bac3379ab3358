/- Walk of spec.FlowCount. -/
import Derived.Test.YthchehmmggnmeaaWMore
import Derived.Test.YthchehmmggnmeaaWFlowC
import Derived.Laws.OwnMore
namespace Go.Proofs.Ythchehmmggnmeaa
open Go.RowKit
set_option linter.unusedVariables false
set_option linter.unusedSimpArgs false

theorem step_make {P : Program} {w : World} {ops : Array Oper} {o : Oper} {a : Act} {K : Act → World → Prop} {Q : Exit → Act → World → Prop} {E : Prop} (hw : Region.wanted o (yielded ops a.tmps) = true) (l c : Operand) (t : TypeId) (hop : o.op = Op.makeSlice t l c)
    (base : Nat) (e : TypeId) (i : TypeInfo) (z : Value) (size : Nat) (h1 : P.underlying t = some (.slice e)) (h2 : P.info? e = some i) (h3 : i.zero = some z) (h4 : i.size = size)
    (kl kc : IntKind) (n : Nat) (hl : a.eval l = .int kl (n : Int)) (hc : a.eval c = .int kc (n : Int)) (b2 : i.bytes * n ≤ 281474976710656) (b3 : n ≤ maxLen) (b4 : base ≤ w.heap.size)
    (hK : ∀ w', w'.ownsRow base e size (.slice (some ⟨w.heap.size, 0, none⟩) n n) n (madeCells z.cells (n * size)).toList → w.grownBy w' none → K (a.put o.dst (.slice (some ⟨w.heap.size, 0, none⟩) n n)) w') :
    if Region.wanted o (yielded ops a.tmps) = true then Oper.wp P o a w K Q else E := by
  rw [if_pos hw]
  obtain ⟨w', hrun, r1, r2⟩ := run_make_full (P := P) w base t e i z size h1 h2 h3 h4 kl kc n b2 b3 b4
  unfold Oper.wp
  simp [execOp, hop, hl, hc, hrun, Result.andThen]
  exact hK w' r1 r2
theorem step_appG {P : Program} {w : World} {ops : Array Oper} {o : Oper} {a : Act} {K : Act → World → Prop} {Q : Exit → Act → World → Prop} {E : Prop} (hw : Region.wanted o (yielded ops a.tmps) = true) (s x : Operand) (t : TypeId)
    (ho : o.op = .call { callee := .builtin .append, args := #[s, x], argTypes := #[t, t] })
    (base : Nat) (e : TypeId) (i : TypeInfo) (z : Value) (ht : P.underlying t = some (.slice e)) (hi : P.info? e = some i) (hz : i.zero = some z)
    (hsize : i.size = 1) (hby : i.bytes = 24) (hzs : z.cells.size = 1)
    (v : Value) (n : Nat) (xs : List Value) (hs : a.eval s = v) (hown : w.ownsRow base e 1 v n xs)
    (q : Nat) (u : Value) (hx : a.eval x = .slice (some ⟨q, 0, none⟩) 1 1) (hq : w.cell? ⟨q, 0, none⟩ = some u) (h1 : u.oneCell' = true)
    (h63 : n ≤ 1000) (hbase : base ≤ w.heap.size)
    (h : ∀ g cap w', w'.ownsRow base e 1 (.slice (some ⟨g, 0, none⟩) (n + 1) cap) (n + 1) (xs ++ [u]) → w.grownBy w' v.ownBlock → (some g = v.ownBlock ∨ g = w.heap.size) → K (a.put o.dst (.slice (some ⟨g, 0, none⟩) (n + 1) cap)) w') :
    if Region.wanted o (yielded ops a.tmps) = true then Oper.wp P o a w K Q else E := by
  rw [if_pos hw]
  have hnews : ∀ j v', [u][j]? = some v' → w.cell? ((⟨q, 0, none⟩ : Addr).add j) = some v' := by
    intro j v' hj
    cases j with
    | zero => simp at hj; subst hj; exact hq
    | succ j => simp at hj
  obtain ⟨v', w', hr, h2, h3, h4, h5⟩ := run_append_own_at (P := P) w base t o.type e i z 1 24 ht hi hz hsize hby hzs (by omega) v n xs hown ⟨q, 0, none⟩ 1 1 [u] rfl hnews (by simpa using h1) (by unfold maxLen; omega) (by omega) hbase
  have hv' : ∃ g cap, v' = .slice (some ⟨g, 0, none⟩) (n + 1) cap := by
    rcases h2.2 with ⟨_, q0⟩ | ⟨g, cap, cur, q, _⟩
    · omega
    · exact ⟨g, cap, q⟩
  obtain ⟨g, cap, rfl⟩ := hv'
  unfold Oper.wp execOp
  simp only [ho, resolve, invoke, builtin, Sem.run_bind, Sem.run_pure, Result.andThen_ok, List.map_toArray, List.map_cons, List.map_nil, hs, hx, hr]
  refine h g cap w' h2 h3 ?_
  rcases h5 with q | q
  · exact Or.inl q
  · exact Or.inr (by simpa [Value.ownBlock] using q)
theorem Try.infoRows : (Try.prog.info? 43).map (fun i => (i.zero, i.size, i.bytes)) = some (some (.slice none 0 0), 1, 24) := by kernel_rfl

def rowsG (Kn : Nat) (gs : Nat → Nat) (k : Nat) : List Value := (List.range k).map (fun i => Value.slice (some ⟨gs i, 0, none⟩) Kn Kn)
/-- the flow's rows as they come, all nothing -/
structure Goe (w : World) (lo : Nat) (v : Value) (k Kn : Nat) (gs : Nat → Nat) : Prop where
  own : w.ownsRow lo 43 1 v k (rowsG Kn gs k)
  row : ∀ i, i < k → OwnI w (gs i) Kn (zcellF (fun _ => 0))
  ne : ∀ i j, i < k → j < k → i ≠ j → gs i ≠ gs j
  nv : ∀ i, i < k → v.ownBlock ≠ some (gs i)
  los : ∀ i, i < k → lo ≤ gs i
  lt : ∀ b, v.ownBlock = some b → b < w.heap.size ∧ lo ≤ b
theorem Goe.next {w w' : World} {lo : Nat} {v : Value} {k Kn : Nat} {gs : Nat → Nat} (h : Goe w lo v k Kn gs) (hb : Below w.heap.size w w') : Goe w' lo v k Kn gs := by
  refine ⟨⟨h.own.1, ?_⟩, fun i hi => (h.row i hi).below hb (h.row i hi).2.2, h.ne, h.nv, h.los, fun b e => ⟨Nat.lt_of_lt_of_le (h.lt b e).1 hb.size, (h.lt b e).2⟩⟩
  rcases h.own.2 with h1 | ⟨g, cap, cur, h1, h2, h3, h4⟩
  · exact Or.inl h1
  · exact Or.inr ⟨g, cap, cur, h1, h2, (hb.block g (Array.getElem?_eq_some_iff.1 h3).1).trans h3, h4⟩
theorem Goe.first (w : World) (lo Kn : Nat) : Goe w lo (.slice none 0 0) 0 Kn (fun _ => 0) :=
  ⟨World.ownsRow_nil w lo _ _, fun i hi => by omega, fun i j hi => by omega, fun i hi => by omega, fun i hi => by omega, fun b e => by simp [Value.ownBlock] at e⟩
theorem OwnI.madeZ {w : World} {g n cap : Nat} {base : Nat} {t : TypeId} (h : w.ownsRow base t 1 (.slice (some ⟨g, 0, none⟩) n cap) n (madeCells #[.int .i64 0] n).toList) : OwnI w g n (zcellF fun _ => 0) := by
  refine ⟨fun j hj => ?_, fun j => h.frozenAt j, ?_⟩
  · rw [h.cellAt j (by omega)]
    have hm : j % 1 = 0 := by omega
    simp [madeCells, hj, zcellF, hm]
  · rcases h.2 with ⟨h', _⟩ | ⟨g', cap', cur, h', _, hg, _⟩
    · simp at h'
    · simp only [Value.slice.injEq, Option.some.injEq, Addr.mk.injEq, and_true, true_and] at h'
      obtain ⟨rfl, _⟩ := h'
      exact (Array.getElem?_eq_some_iff.1 hg).1
/-- one row more -/
theorem Goe.snoc {w w1 w3 : World} {lo : Nat} {v : Value} {k Kn : Nat} {gs : Nat → Nat} {g cap : Nat} {u : TypeId} (h : Goe w lo v k Kn gs) (hlo : lo ≤ w.heap.size) (hb1 : Below w.heap.size w w1) (hr1 : OwnI w1 w.heap.size Kn (zcellF fun _ => 0))
    (h3 : w3.ownsRow lo 43 1 (.slice (some ⟨g, 0, none⟩) (k + 1) cap) (k + 1) (rowsG Kn gs k ++ [.slice (some ⟨w.heap.size, 0, none⟩) Kn Kn]))
    (hgr : (w1.alloc (.cells #[.slice (some ⟨w.heap.size, 0, none⟩) Kn Kn] u)).grownBy w3 v.ownBlock) (hg : some g = v.ownBlock ∨ g = w1.heap.size + 1) :
    Goe w3 lo (.slice (some ⟨g, 0, none⟩) (k + 1) cap) (k + 1) Kn (fun i => if i = k then w.heap.size else gs i) ∧ Kp (fun b => v.ownBlock = some b) w w3 := by
  have hw1 : w.heap.size < w1.heap.size := hr1.2.2
  have hs3 : w1.heap.size + 1 ≤ w3.heap.size := by have := hgr.size; simpa using this
  have blk : ∀ b, b < w1.heap.size → v.ownBlock ≠ some b → w3.heap[b]? = w1.heap[b]? := fun b hb hn => (hgr.block b (by simp; omega) (fun e => hn e.symm)).trans (Below.heap_alloc _ _ _ hb)
  have hvn : v.ownBlock ≠ some w.heap.size := fun e => by have := (h.lt _ e).1; omega
  have row' : ∀ i, i < k + 1 → OwnI w3 (if i = k then w.heap.size else gs i) Kn (zcellF fun _ => 0) := by
    intro i hi
    have keep : ∀ b, OwnI w1 b Kn (zcellF fun _ => 0) → v.ownBlock ≠ some b → OwnI w3 b Kn (zcellF fun _ => 0) := fun b ho hn =>
      ⟨fun j hj => (World.cell?_of_block (a := ⟨b, j, none⟩) (blk b ho.2.2 hn)).trans (ho.1 j hj), fun j => (World.frozen?_of_block (a := ⟨b, j, none⟩) (blk b ho.2.2 hn)).trans (ho.2.1 j), by have := ho.2.2; omega⟩
    by_cases e : i = k
    · rw [if_pos e]; exact keep _ hr1 hvn
    · rw [if_neg e]; exact keep _ ((h.row i (by omega)).below hb1 (h.row i (by omega)).2.2) (h.nv i (by omega))
  refine ⟨⟨?_, row', fun i j hi hj hij => ?_, fun i hi e => ?_, fun i hi => ?_, fun b e => ?_⟩, ⟨hgr.os.trans hb1.os, hgr.tape.trans hb1.tape, hgr.output.trans hb1.output, by omega, fun b hb hn => (blk b (by omega) hn).trans (hb1.block b hb)⟩⟩
  · have e : rowsG Kn (fun i => if i = k then w.heap.size else gs i) (k + 1) = rowsG Kn gs k ++ [.slice (some ⟨w.heap.size, 0, none⟩) Kn Kn] := by
      unfold rowsG
      rw [List.range_succ, List.map_append]
      congr 1
      · refine List.map_congr_left (fun i hi => ?_)
        have := List.mem_range.1 hi
        show Value.slice (some ⟨if i = k then w.heap.size else gs i, 0, none⟩) Kn Kn = _
        rw [if_neg (by omega)]
      · simp
    rw [e]; exact h3
  · show (if i = k then w.heap.size else gs i) ≠ (if j = k then w.heap.size else gs j)
    have l1 : ∀ i, i < k → gs i < w.heap.size := fun i hi => (h.row i hi).2.2
    by_cases e1 : i = k
    · rw [if_pos e1, if_neg (by omega)]
      have := l1 j (by omega); omega
    · rw [if_neg e1]
      by_cases e2 : j = k
      · rw [if_pos e2]; have := l1 i (by omega); omega
      · rw [if_neg e2]; exact h.ne i j (by omega) (by omega) hij
  · have e' : g = (if i = k then w.heap.size else gs i) := by simpa [Value.ownBlock] using e
    have l3 := (row' i hi).2.2
    rcases hg with q | q
    · rw [e'] at q
      by_cases e1 : i = k
      · rw [if_pos e1] at q; exact hvn q.symm
      · rw [if_neg e1] at q; exact h.nv i (by omega) q.symm
    · by_cases e1 : i = k
      · rw [if_pos e1] at e'; omega
      · rw [if_neg e1] at e'; have := (h.row i (by omega)).2.2; omega
  · show lo ≤ (if i = k then w.heap.size else gs i)
    by_cases e1 : i = k
    · rw [if_pos e1]; exact hlo
    · rw [if_neg e1]; exact h.los i (by omega)
  · have e' : g = b := by simpa [Value.ownBlock] using e
    subst e'
    rcases h3.2 with ⟨q, _⟩ | ⟨g2, c2, cur, q, h4, h5, _⟩
    · cases q
    · injection q with q _ _
      injection q with q
      injection q with q _ _
      rw [q]
      exact ⟨(Array.getElem?_eq_some_iff.1 h5).1, h4⟩

end Go.Proofs.Ythchehmmggnmeaa
