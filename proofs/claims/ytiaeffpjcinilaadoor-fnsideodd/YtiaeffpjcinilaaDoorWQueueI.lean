/- A queue of knots: impl.queue[int].put and .take; what waits is a row of knots, nil at first. -/
import Derived.Test.YtiaeffpjcinilaaDoorPartWRows
import Derived.Laws.IdiomCopy
import Derived.Maps.AppendAt
import Derived.Deep.RegionHeld3
import Derived.Deep.RegionLaw
namespace Go.Proofs.YtiaeffpjcinilaaDoor
open Go.RowKit
set_option linter.unusedVariables false

/-- what waits in a queue: nothing was put in yet, or a row -/
def QI (w : World) (lo : Nat) (v : Value) (xs : List Nat) : Prop :=
  (v = .slice none 0 0 ∧ xs = []) ∨ ∃ g off cap, v = .slice (some ⟨g, off, none⟩) xs.length cap ∧ RowS w lo g off cap xs
theorem QI.next {w w' : World} {lo : Nat} {v : Value} {ps : List Nat} (h : QI w lo v ps) (hb : Below w.heap.size w w') : QI w' lo v ps := by
  rcases h with h | ⟨g, off, cap, e, h⟩
  · exact Or.inl h
  · exact Or.inr ⟨g, off, cap, e, h.next hb⟩
theorem QI.same {w w' : World} {lo : Nat} {v : Value} {ps : List Nat} (h : QI w lo v ps) (hb : ∀ k, v.ownBlock = some k → w'.heap[k]? = w.heap[k]?) (hs : w.heap.size ≤ w'.heap.size) : QI w' lo v ps := by
  rcases h with h | ⟨g, off, cap, rfl, h⟩
  · exact Or.inl h
  · exact Or.inr ⟨g, off, cap, rfl, h.same (hb g rfl) hs⟩
theorem QI.len {w : World} {lo : Nat} {v : Value} {ps : List Nat} (h : QI w lo v ps) : ∃ ao cap, v = .slice ao ps.length cap := by
  rcases h with ⟨rfl, rfl⟩ | ⟨g, off, cap, rfl, _⟩
  · exact ⟨none, 0, rfl⟩
  · exact ⟨_, cap, rfl⟩
theorem QI.ge {w : World} {lo : Nat} {v : Value} {ps : List Nat} (h : QI w lo v ps) {k : Nat} (hk : v.ownBlock = some k) : lo ≤ k ∧ k < w.heap.size := by
  rcases h with ⟨rfl, _⟩ | ⟨g, off, cap, rfl, h⟩
  · cases hk
  · have e2 : g = k := by simpa [Value.ownBlock] using hk
    subst e2; exact ⟨h.lo, h.lt⟩
set_option maxHeartbeats 800000 in
theorem run_append_rowI {P : Program} (w : World) (t ty : TypeId) (lo : Nat) (e : TypeId) (i : TypeInfo) (ht : P.underlying t = some (.slice e)) (hi : P.info? e = some i) (hz : i.zero = some (.int .i64 0)) (hsize : i.size = 1) (hby : i.bytes = 8)
    (v : Value) (xs : List Nat) (hr : QI w lo v xs) (q y : Nat) (hq : w.cell? ⟨q, 0, none⟩ = some (ncell y)) (hshort : xs.length ≤ 1000) (hlo : lo ≤ w.heap.size) :
    ∃ g' off' cap' w', (Builtin.append_ #[t, t] ty #[v, .slice (some ⟨q, 0, none⟩) 1 1]).run P w = .ok (.slice (some ⟨g', off', none⟩) (xs.length + 1) cap') w' ∧ RowS w' lo g' off' cap' (xs ++ [y]) ∧ (∀ k, k < w.heap.size → v.ownBlock ≠ some k → w'.heap[k]? = w.heap[k]?) ∧ w.heap.size ≤ w'.heap.size ∧ w'.os = w.os ∧ w'.tape = w.tape ∧ w'.output = w.output ∧ (v.ownBlock = some g' ∨ w.heap.size ≤ g') := by
  have ha : ∀ (g off j : Nat), (⟨g, off, none⟩ : Addr).add j = ⟨g, off + j, none⟩ := fun g off j => by unfold Addr.add; split <;> simp_all
  have hnews : ∀ j u, [ncell y][j]? = some u → w.cell? ((⟨q, 0, none⟩ : Addr).add j) = some u := by
    intro j u hj
    cases j with
    | zero => simp at hj; subst hj; simpa [Addr.add] using hq
    | succ j => simp at hj
  have h1 : ∀ u ∈ [ncell y], u.oneCell' = true := by intro u hu; simp at hu; subst hu; rfl
  have hm1 : xs.length + 1 ≤ maxLen := by unfold maxLen; omega
  rcases hr with ⟨rfl, rfl⟩ | ⟨g, off, cap, rfl, hr⟩
  · obtain ⟨v', w', hrun, hown, hgr, h4, h5⟩ := run_append_own_at (P := P) w w.heap.size t ty e i (.int .i64 0) 1 8 ht hi hz hsize hby rfl (by omega) (.slice none 0 0) 0 [] (World.ownsRow_nil _ _ _ _) ⟨q, 0, none⟩ 1 1 [ncell y] rfl hnews h1 (by simpa using hm1) (by omega) (Nat.le_refl _)
    have hown' : w'.ownsRow w.heap.size e 1 v' 1 (([] ++ [y]).map ncell) := by simpa using hown
    obtain ⟨g', cap', rfl, hrow⟩ := RowS.ofOwn (cap := 0) hown' (by omega)
    exact ⟨g', 0, cap', w', hrun, hrow.down hlo, fun k hk _ => hgr.block k hk (by simp [Value.ownBlock]), hgr.size, hgr.os, hgr.tape, hgr.output, Or.inr hrow.lo⟩
  · by_cases hroom : xs.length < cap
    · have hrun := run_append_room_cells (P := P) w t ty e i ht hi g off xs.length cap ⟨q, 0, none⟩ 1 1 [ncell y] (by simp [hsize]) hnews h1 (by omega)
        (by intro j hj; simp at hj; subst hj; rw [hsize]; simpa using hr.room xs.length hroom) (by intro j hj; exact hr.fr _)
      have hset : w.setCells g (off + xs.length * i.size) [ncell y] = w.setCell ⟨g, off + xs.length, none⟩ (ncell y) := by
        rw [hsize]; simp [World.setCells]
      rw [hset] at hrun
      refine ⟨g, off, cap, _, hrun, hr.push y hroom, fun k _ hn => Below.heap_setCell _ _ _ _ (by show k ≠ g; intro e; exact hn (by rw [e]; rfl)), by simp [World.setCell], rfl, rfl, rfl, Or.inl rfl⟩
    · have holds : ∀ j u, (xs.map ncell)[j]? = some u → w.cell? ((⟨g, off, none⟩ : Addr).add j) = some u := by
        intro j u hj
        have hj' : j < xs.length := by have := (List.getElem?_eq_some_iff.1 hj).1; simpa using this
        have hc := hr.cells j hj'
        rw [ha, hc]
        simp [hj'] at hj ⊢
        exact hj
      obtain ⟨v', w', hrun, hown, hgr⟩ := run_append_arg_grows (P := P) w t ty e i (.int .i64 0) 1 8 ht hi hz hsize hby rfl (by omega) ⟨g, off, none⟩ xs.length cap (xs.map ncell) (by simp) holds ⟨q, 0, none⟩ 1 1 [ncell y] (by simp) hnews (by omega) hm1 (by omega)
      have hown' : w'.ownsRow w.heap.size e 1 v' (xs.length + 1) ((xs ++ [y]).map ncell) := by simpa using hown
      obtain ⟨g', cap', rfl, hrow⟩ := RowS.ofOwn (cap := 0) hown' (by omega)
      exact ⟨g', 0, cap', w', hrun, hrow.down hlo, fun k hk _ => hgr.block k hk (by simp), hgr.size, hgr.os, hgr.tape, hgr.output, Or.inr hrow.lo⟩
/-- a knot was put behind the row -/
structure ApI (w w' : World) (v : Value) (lo g off cap : Nat) (ys : List Nat) : Prop where
  row : RowS w' lo g off cap ys
  block : ∀ k, k < w.heap.size → v.ownBlock ≠ some k → w'.heap[k]? = w.heap[k]?
  size : w.heap.size ≤ w'.heap.size
  os : w'.os = w.os
  tape : w'.tape = w.tape
  output : w'.output = w.output
  own : v.ownBlock = some g ∨ w.heap.size ≤ g
theorem wpList_append_rowI {P : Program} (w : World) {ops : Array Oper} {rest : List Oper} {o : Oper} {a : Act} {Q : Exit → Act → World → Prop} (hgd : o.guard = none) (s x : Operand) (t : TypeId)
    (ho : o.op = .call { callee := .builtin .append, args := #[s, x], argTypes := #[t, t] })
    (lo : Nat) (e : TypeId) (i : TypeInfo) (ht : P.underlying t = some (.slice e)) (hi : P.info? e = some i) (hz : i.zero = some (.int .i64 0)) (hsize : i.size = 1) (hby : i.bytes = 8)
    (v : Value) (xs : List Nat) (hs : a.eval s = v) (hr : QI w lo v xs) (q y : Nat) (hx : a.eval x = .slice (some ⟨q, 0, none⟩) 1 1) (hq : w.cell? ⟨q, 0, none⟩ = some (ncell y)) (hshort : xs.length ≤ 1000) (hlo : lo ≤ w.heap.size)
    (h : ∀ g' off' cap' w', ApI w w' v lo g' off' cap' (xs ++ [y]) → wpList P ops Q rest (a.put o.dst (.slice (some ⟨g', off', none⟩) (xs.length + 1) cap')) w') : wpList P ops Q (o :: rest) a w := by
  refine wpList_plain hgd fun K hK => ?_
  obtain ⟨g', off', cap', w', hrun, h1, h2, h3, h4, h5, h6, h7⟩ := run_append_rowI (P := P) w t o.type lo e i ht hi hz hsize hby v xs hr q y hq hshort hlo
  unfold Oper.wp execOp
  simp only [ho, resolve, invoke, builtin, Sem.run_bind, Sem.run_pure, Result.andThen_ok, List.map_toArray, List.map_cons, List.map_nil, hs, hx, hrun]
  exact hK _ _ (h g' off' cap' w' ⟨h1, h2, h3, h4, h5, h6, h7⟩)
/-- what a call turns: the queue's cell, the row that waits -/
structure Kq (Q : Nat) (v : Value) (w w' : World) : Prop where
  os : w'.os = w.os
  tape : w'.tape = w.tape
  output : w'.output = w.output
  size : w.heap.size ≤ w'.heap.size
  block : ∀ k, k < w.heap.size → k ≠ Q → v.ownBlock ≠ some k → w'.heap[k]? = w.heap[k]?
theorem takeI_none (Q : Nat) (ao : Option Addr) (cap : Nat) (w : World) (h : w.cell? ⟨Q, 0, none⟩ = some (.slice ao 0 cap)) :
    Calls Tryd.prog 79 #[.pointer (some ⟨Q, 0, none⟩)] w fun e w' => e = .returned (.tuple #[.int .i64 0, .bool false]) ∧ w' = w := by
  go_enter Tryd.func79, Tryd.ntmps79
  go_wp2
  exact bodyPost_ret (v := .tuple #[.int .i64 0, .bool false]) (by simp [results, Tryd.results79, go_sem]) rfl ⟨rfl, rfl⟩
theorem takeI_some (Q g off n c : Nat) (x : Nat) (w : World) (hnc : n ≤ c) (h : w.cell? ⟨Q, 0, none⟩ = some (.slice (some ⟨g, off, none⟩) (n + 1) (c + 1))) (hf : w.frozen? ⟨Q, 0, none⟩ = false)
    (hc : w.cell? ⟨g, off, none⟩ = some (ncell x)) :
    Calls Tryd.prog 79 #[.pointer (some ⟨Q, 0, none⟩)] w fun e w' => e = .returned (.tuple #[.int .i64 (x : Int), .bool true]) ∧ ∃ off', (c ≠ 0 → off' = off + 1) ∧ w' = w.setCell ⟨Q, 0, none⟩ (.slice (some ⟨g, off', none⟩) n c) := by
  have n0 : ¬ ((n : Int) + 1 = 0) := by omega
  have n1 : (0 : Int) < (n : Int) + 1 := by omega
  have n2 : (1 : Int) ≤ (n : Int) + 1 := by omega
  have n3 : (n : Int) + 1 ≤ (c : Int) + 1 := by omega
  have hc' : w.cell? ⟨g, off, none⟩ = some (.int .i64 (x : Int)) := hc
  clear hc
  by_cases h0 : c = 0
  · subst h0
    obtain rfl : n = 0 := by omega
    refine Calls.mono (R := fun e w' => e = .returned (.tuple #[.int .i64 (x : Int), .bool true]) ∧ w' = w.setCell ⟨Q, 0, none⟩ (.slice (some ⟨g, off, none⟩) 0 0)) ?_ (fun e w' ⟨h1, h2⟩ => ⟨h1, off, fun q => absurd rfl q, h2⟩)
    go_enter Tryd.func79, Tryd.ntmps79
    go_wp2
    exact bodyPost_ret (v := .tuple #[.int .i64 (x : Int), .bool true]) (by simp [results, Tryd.results79, go_sem]) rfl ⟨rfl, rfl⟩
  · refine Calls.mono (R := fun e w' => e = .returned (.tuple #[.int .i64 (x : Int), .bool true]) ∧ w' = w.setCell ⟨Q, 0, none⟩ (.slice (some ⟨g, off + 1, none⟩) n c)) ?_ (fun e w' ⟨h1, h2⟩ => ⟨h1, off + 1, fun _ => rfl, h2⟩)
    go_enter Tryd.func79, Tryd.ntmps79
    go_wp2
    exact bodyPost_ret (v := .tuple #[.int .i64 (x : Int), .bool true]) (by simp [results, Tryd.results79, go_sem]) rfl ⟨rfl, rfl⟩
theorem Kq.of {Q : Nat} {v : Value} {w w1 w2 : World} (hb : Below w.heap.size w w1) (hk : ∀ k, k < w1.heap.size → v.ownBlock ≠ some k → w2.heap[k]? = w1.heap[k]?) (hs : w1.heap.size ≤ w2.heap.size) (ho : w2.os = w1.os ∧ w2.tape = w1.tape ∧ w2.output = w1.output) : Kq Q v w w2 :=
  ⟨ho.1.trans hb.os, ho.2.1.trans hb.tape, ho.2.2.trans hb.output, Nat.le_trans hb.size hs, fun k hk1 _ hn => (hk k (Nat.lt_of_lt_of_le hk1 hb.size) hn).trans (hb.block k hk1)⟩
theorem Kq.set {Q : Nat} {v : Value} {w w1 : World} (h : Kq Q v w w1) (u : Value) : Kq Q v w (w1.setCell ⟨Q, 0, none⟩ u) :=
  ⟨h.os, h.tape, h.output, by simpa [World.setCell] using h.size, fun k h1 h2 h3 => (Below.heap_setCell _ _ _ _ (by show k ≠ Q; exact h2)).trans (h.block k h1 h2 h3)⟩
set_option maxHeartbeats 1600000 in
set_option maxRecDepth 100000 in
theorem putI_any (Q lo : Nat) (v : Value) (xs : List Nat) (y : Nat) (w : World) (hQ : Q < w.heap.size) (h : w.cell? ⟨Q, 0, none⟩ = some v) (hf : w.frozen? ⟨Q, 0, none⟩ = false) (hr : QI w lo v xs) (hvQ : v.ownBlock ≠ some Q) (hshort : xs.length ≤ 1000) (hlo : lo ≤ w.heap.size) :
    Calls Tryd.prog 78 #[.pointer (some ⟨Q, 0, none⟩), .int .i64 (y : Int)] w fun e w' => e = .returned (.tuple #[]) ∧ ∃ g off cap, w'.cell? ⟨Q, 0, none⟩ = some (.slice (some ⟨g, off, none⟩) (xs.length + 1) cap) ∧ w'.frozen? ⟨Q, 0, none⟩ = false ∧ RowS w' lo g off cap (xs ++ [y]) ∧ g ≠ Q ∧ (v.ownBlock = some g ∨ w.heap.size ≤ g) ∧ Kq Q v w w' := by
  obtain ⟨i0, hi, hz0, hz1, hz2⟩ := info_parts Tryd.infoInt
  have HI : Hid (Tryd.prog.info? 3 = some i0 ∧ i0.zero = some (.int .i64 0) ∧ i0.size = 1 ∧ i0.bytes = 8) := ⟨hi, hz0, hz1, hz2⟩
  have d1 : Hid (Below w.heap.size w (w.alloc (.cells #[.int .i64 (y : Int)] 3))) := hideP (below_one _ _)
  have RD : Hid (QI (w.alloc (.cells #[.int .i64 (y : Int)] 3)) lo v xs) := hideP (hr.next d1.out)
  have hsD : Hid ((w.alloc (.cells #[.int .i64 (y : Int)] 3)).heap.size = w.heap.size + 1) := hideP (by simp)
  have HX : Hid (∀ w', Below w.heap.size w w' → w'.cell? ⟨Q, 0, none⟩ = some v ∧ w'.frozen? ⟨Q, 0, none⟩ = false) := hideP (fun w' hb => ⟨(hb.cell (p := ⟨Q, 0, none⟩) hQ).trans h, (hb.frozen (p := ⟨Q, 0, none⟩) hQ).trans hf⟩)
  clear hi hz0 hz1 hz2 hr
  go_enter Tryd.func78, Tryd.ntmps78
  go_wp2_with (at_builtin; refine wpList_append_rowI _ rfl _ _ 27 rfl lo 3 i0 Tryd.underlying27 HI.out.1 HI.out.2.1 HI.out.2.2.1 HI.out.2.2.2 v xs rfl RD.out w.heap.size y rfl ?c1 hshort ?c2 ?_)
  case c1 => exact (World.cell?_alloc_at (w := w) _ _ w.heap.size 0 rfl).trans rfl
  case c2 => simp; omega
  intro g off cap w3 hA
  have HA := hideP hA
  clear hA
  have eQ := HA.out.block Q (by rw [hsD.out]; omega) hvQ
  have hq3 : w3.cell? ⟨Q, 0, none⟩ = some v := (World.cell?_of_block (a := ⟨Q, 0, none⟩) eQ).trans (HX.out _ d1.out).1
  have hf3 : w3.frozen? ⟨Q, 0, none⟩ = false := (World.frozen?_of_block (a := ⟨Q, 0, none⟩) eQ).trans (HX.out _ d1.out).2
  have hgQ : g ≠ Q := by
    rcases HA.out.own with e | e
    · intro e2; rw [e2] at e; exact hvQ e
    · rw [hsD.out] at e; omega
  have k3 := hideP (Kq.of (Q := Q) (v := v) d1.out HA.out.block HA.out.size ⟨HA.out.os, HA.out.tape, HA.out.output⟩)
  have eg : (w3.setCell ⟨Q, 0, none⟩ (.slice (some ⟨g, off, none⟩) (xs.length + 1) cap)).heap[g]? = w3.heap[g]? := Below.heap_setCell _ _ _ _ hgQ
  have hfin : (w3.setCell ⟨Q, 0, none⟩ (.slice (some ⟨g, off, none⟩) (xs.length + 1) cap)).frozen? ⟨Q, 0, none⟩ = false := by rw [World.frozen?_setCell]; exact hf3
  have HR := hideP (HA.out.row.same eg (by simp [World.setCell]))
  clear eQ eg HX
  go_wp2
  go_end0
  refine ⟨rfl, g, off, cap, World.cell?_setCell_same' w3 ⟨Q, 0, none⟩ _ (by rw [hq3]; rfl), hfin, HR.out, hgQ, ?_, k3.out.set _⟩
  rcases HA.out.own with e | e
  · exact Or.inl e
  · exact Or.inr (by rw [hsD.out] at e; omega)

end Go.Proofs.YtiaeffpjcinilaaDoor
