/- Texts put together: WQueueI, WSides. -/
import Derived.Test.YtiaeffpjcinilaaDoorPartWRows
import Derived.Laws.IdiomCopy
import Derived.Maps.AppendAt
import Derived.Deep.RegionHeld3
import Derived.Deep.RegionLaw
import Derived.Test.YtiaeffpjcinilaaDoorPartMathSD
import Derived.Test.YtiaeffpjcinilaaDoorPartWReach2
import Derived.Test.YtiaeffpjcinilaaDoorWOne
/- A queue of knots: impl.queue[int].put and .take; what waits is a row of knots, nil at first. -/
namespace Go.Proofs.YtiaeffpjcinilaaDoor
open Go.RowKit
set_option linter.unusedVariables false

/-- what waits in a queue: nothing was put in yet, or a row -/
def QI (w : World) (lo : Nat) (v : Value) (xs : List Nat) : Prop :=
  (v = .slice none 0 0 ∧ xs = []) ∨ ∃ g off cap, v = .slice (some ⟨g, off, none⟩) xs.length cap ∧ RowS w lo g off cap xs
theorem QI.next {w w' : World} {lo : Nat} {v : Value} {ps : List Nat} (h : QI w lo v ps) (hb : Below w.heap.size w w') : QI w' lo v ps := by
  rcases h with h | ⟨g, off, cap, e, h⟩
  · exact Or.inl h
  · exact Or.inr ⟨g, off, cap, e, h.next hb⟩
theorem QI.same {w w' : World} {lo : Nat} {v : Value} {ps : List Nat} (h : QI w lo v ps) (hb : ∀ k, v.ownBlock = some k → w'.heap[k]? = w.heap[k]?) (hs : w.heap.size ≤ w'.heap.size) : QI w' lo v ps := by
  rcases h with h | ⟨g, off, cap, rfl, h⟩
  · exact Or.inl h
  · exact Or.inr ⟨g, off, cap, rfl, h.same (hb g rfl) hs⟩
theorem QI.len {w : World} {lo : Nat} {v : Value} {ps : List Nat} (h : QI w lo v ps) : ∃ ao cap, v = .slice ao ps.length cap := by
  rcases h with ⟨rfl, rfl⟩ | ⟨g, off, cap, rfl, _⟩
  · exact ⟨none, 0, rfl⟩
  · exact ⟨_, cap, rfl⟩
theorem QI.ge {w : World} {lo : Nat} {v : Value} {ps : List Nat} (h : QI w lo v ps) {k : Nat} (hk : v.ownBlock = some k) : lo ≤ k ∧ k < w.heap.size := by
  rcases h with ⟨rfl, _⟩ | ⟨g, off, cap, rfl, h⟩
  · cases hk
  · have e2 : g = k := by simpa [Value.ownBlock] using hk
    subst e2; exact ⟨h.lo, h.lt⟩
set_option maxHeartbeats 800000 in
theorem run_append_rowI {P : Program} (w : World) (t ty : TypeId) (lo : Nat) (e : TypeId) (i : TypeInfo) (ht : P.underlying t = some (.slice e)) (hi : P.info? e = some i) (hz : i.zero = some (.int .i64 0)) (hsize : i.size = 1) (hby : i.bytes = 8)
    (v : Value) (xs : List Nat) (hr : QI w lo v xs) (q y : Nat) (hq : w.cell? ⟨q, 0, none⟩ = some (ncell y)) (hshort : xs.length ≤ 1000) (hlo : lo ≤ w.heap.size) :
    ∃ g' off' cap' w', (Builtin.append_ #[t, t] ty #[v, .slice (some ⟨q, 0, none⟩) 1 1]).run P w = .ok (.slice (some ⟨g', off', none⟩) (xs.length + 1) cap') w' ∧ RowS w' lo g' off' cap' (xs ++ [y]) ∧ (∀ k, k < w.heap.size → v.ownBlock ≠ some k → w'.heap[k]? = w.heap[k]?) ∧ w.heap.size ≤ w'.heap.size ∧ w'.os = w.os ∧ w'.tape = w.tape ∧ w'.output = w.output ∧ (v.ownBlock = some g' ∨ w.heap.size ≤ g') := by
  have ha : ∀ (g off j : Nat), (⟨g, off, none⟩ : Addr).add j = ⟨g, off + j, none⟩ := fun g off j => by unfold Addr.add; split <;> simp_all
  have hnews : ∀ j u, [ncell y][j]? = some u → w.cell? ((⟨q, 0, none⟩ : Addr).add j) = some u := by
    intro j u hj
    cases j with
    | zero => simp at hj; subst hj; simpa [Addr.add] using hq
    | succ j => simp at hj
  have h1 : ∀ u ∈ [ncell y], u.oneCell' = true := by intro u hu; simp at hu; subst hu; rfl
  have hm1 : xs.length + 1 ≤ maxLen := by unfold maxLen; omega
  rcases hr with ⟨rfl, rfl⟩ | ⟨g, off, cap, rfl, hr⟩
  · obtain ⟨v', w', hrun, hown, hgr, h4, h5⟩ := run_append_own_at (P := P) w w.heap.size t ty e i (.int .i64 0) 1 8 ht hi hz hsize hby rfl (by omega) (.slice none 0 0) 0 [] (World.ownsRow_nil _ _ _ _) ⟨q, 0, none⟩ 1 1 [ncell y] rfl hnews h1 (by simpa using hm1) (by omega) (Nat.le_refl _)
    have hown' : w'.ownsRow w.heap.size e 1 v' 1 (([] ++ [y]).map ncell) := by simpa using hown
    obtain ⟨g', cap', rfl, hrow⟩ := RowS.ofOwn (cap := 0) hown' (by omega)
    exact ⟨g', 0, cap', w', hrun, hrow.down hlo, fun k hk _ => hgr.block k hk (by simp [Value.ownBlock]), hgr.size, hgr.os, hgr.tape, hgr.output, Or.inr hrow.lo⟩
  · by_cases hroom : xs.length < cap
    · have hrun := run_append_room_cells (P := P) w t ty e i ht hi g off xs.length cap ⟨q, 0, none⟩ 1 1 [ncell y] (by simp [hsize]) hnews h1 (by omega)
        (by intro j hj; simp at hj; subst hj; rw [hsize]; simpa using hr.room xs.length hroom) (by intro j hj; exact hr.fr _)
      have hset : w.setCells g (off + xs.length * i.size) [ncell y] = w.setCell ⟨g, off + xs.length, none⟩ (ncell y) := by
        rw [hsize]; simp [World.setCells]
      rw [hset] at hrun
      refine ⟨g, off, cap, _, hrun, hr.push y hroom, fun k _ hn => Below.heap_setCell _ _ _ _ (by show k ≠ g; intro e; exact hn (by rw [e]; rfl)), by simp [World.setCell], rfl, rfl, rfl, Or.inl rfl⟩
    · have holds : ∀ j u, (xs.map ncell)[j]? = some u → w.cell? ((⟨g, off, none⟩ : Addr).add j) = some u := by
        intro j u hj
        have hj' : j < xs.length := by have := (List.getElem?_eq_some_iff.1 hj).1; simpa using this
        have hc := hr.cells j hj'
        rw [ha, hc]
        simp [hj'] at hj ⊢
        exact hj
      obtain ⟨v', w', hrun, hown, hgr⟩ := run_append_arg_grows (P := P) w t ty e i (.int .i64 0) 1 8 ht hi hz hsize hby rfl (by omega) ⟨g, off, none⟩ xs.length cap (xs.map ncell) (by simp) holds ⟨q, 0, none⟩ 1 1 [ncell y] (by simp) hnews (by omega) hm1 (by omega)
      have hown' : w'.ownsRow w.heap.size e 1 v' (xs.length + 1) ((xs ++ [y]).map ncell) := by simpa using hown
      obtain ⟨g', cap', rfl, hrow⟩ := RowS.ofOwn (cap := 0) hown' (by omega)
      exact ⟨g', 0, cap', w', hrun, hrow.down hlo, fun k hk _ => hgr.block k hk (by simp), hgr.size, hgr.os, hgr.tape, hgr.output, Or.inr hrow.lo⟩
/-- a knot was put behind the row -/
structure ApI (w w' : World) (v : Value) (lo g off cap : Nat) (ys : List Nat) : Prop where
  row : RowS w' lo g off cap ys
  block : ∀ k, k < w.heap.size → v.ownBlock ≠ some k → w'.heap[k]? = w.heap[k]?
  size : w.heap.size ≤ w'.heap.size
  os : w'.os = w.os
  tape : w'.tape = w.tape
  output : w'.output = w.output
  own : v.ownBlock = some g ∨ w.heap.size ≤ g
theorem wpList_append_rowI {P : Program} (w : World) {ops : Array Oper} {rest : List Oper} {o : Oper} {a : Act} {Q : Exit → Act → World → Prop} (hgd : o.guard = none) (s x : Operand) (t : TypeId)
    (ho : o.op = .call { callee := .builtin .append, args := #[s, x], argTypes := #[t, t] })
    (lo : Nat) (e : TypeId) (i : TypeInfo) (ht : P.underlying t = some (.slice e)) (hi : P.info? e = some i) (hz : i.zero = some (.int .i64 0)) (hsize : i.size = 1) (hby : i.bytes = 8)
    (v : Value) (xs : List Nat) (hs : a.eval s = v) (hr : QI w lo v xs) (q y : Nat) (hx : a.eval x = .slice (some ⟨q, 0, none⟩) 1 1) (hq : w.cell? ⟨q, 0, none⟩ = some (ncell y)) (hshort : xs.length ≤ 1000) (hlo : lo ≤ w.heap.size)
    (h : ∀ g' off' cap' w', ApI w w' v lo g' off' cap' (xs ++ [y]) → wpList P ops Q rest (a.put o.dst (.slice (some ⟨g', off', none⟩) (xs.length + 1) cap')) w') : wpList P ops Q (o :: rest) a w := by
  refine wpList_plain hgd fun K hK => ?_
  obtain ⟨g', off', cap', w', hrun, h1, h2, h3, h4, h5, h6, h7⟩ := run_append_rowI (P := P) w t o.type lo e i ht hi hz hsize hby v xs hr q y hq hshort hlo
  unfold Oper.wp execOp
  simp only [ho, resolve, invoke, builtin, Sem.run_bind, Sem.run_pure, Result.andThen_ok, List.map_toArray, List.map_cons, List.map_nil, hs, hx, hrun]
  exact hK _ _ (h g' off' cap' w' ⟨h1, h2, h3, h4, h5, h6, h7⟩)
/-- what a call turns: the queue's cell, the row that waits -/
structure Kq (Q : Nat) (v : Value) (w w' : World) : Prop where
  os : w'.os = w.os
  tape : w'.tape = w.tape
  output : w'.output = w.output
  size : w.heap.size ≤ w'.heap.size
  block : ∀ k, k < w.heap.size → k ≠ Q → v.ownBlock ≠ some k → w'.heap[k]? = w.heap[k]?
theorem takeI_none (Q : Nat) (ao : Option Addr) (cap : Nat) (w : World) (h : w.cell? ⟨Q, 0, none⟩ = some (.slice ao 0 cap)) :
    Calls Tryd.prog 79 #[.pointer (some ⟨Q, 0, none⟩)] w fun e w' => e = .returned (.tuple #[.int .i64 0, .bool false]) ∧ w' = w := by
  go_enter Tryd.func79, Tryd.ntmps79
  go_wp2
  exact bodyPost_ret (v := .tuple #[.int .i64 0, .bool false]) (by simp [results, Tryd.results79, go_sem]) rfl ⟨rfl, rfl⟩
theorem takeI_some (Q g off n c : Nat) (x : Nat) (w : World) (hnc : n ≤ c) (h : w.cell? ⟨Q, 0, none⟩ = some (.slice (some ⟨g, off, none⟩) (n + 1) (c + 1))) (hf : w.frozen? ⟨Q, 0, none⟩ = false)
    (hc : w.cell? ⟨g, off, none⟩ = some (ncell x)) :
    Calls Tryd.prog 79 #[.pointer (some ⟨Q, 0, none⟩)] w fun e w' => e = .returned (.tuple #[.int .i64 (x : Int), .bool true]) ∧ ∃ off', (c ≠ 0 → off' = off + 1) ∧ w' = w.setCell ⟨Q, 0, none⟩ (.slice (some ⟨g, off', none⟩) n c) := by
  have n0 : ¬ ((n : Int) + 1 = 0) := by omega
  have n1 : (0 : Int) < (n : Int) + 1 := by omega
  have n2 : (1 : Int) ≤ (n : Int) + 1 := by omega
  have n3 : (n : Int) + 1 ≤ (c : Int) + 1 := by omega
  have hc' : w.cell? ⟨g, off, none⟩ = some (.int .i64 (x : Int)) := hc
  clear hc
  by_cases h0 : c = 0
  · subst h0
    obtain rfl : n = 0 := by omega
    refine Calls.mono (R := fun e w' => e = .returned (.tuple #[.int .i64 (x : Int), .bool true]) ∧ w' = w.setCell ⟨Q, 0, none⟩ (.slice (some ⟨g, off, none⟩) 0 0)) ?_ (fun e w' ⟨h1, h2⟩ => ⟨h1, off, fun q => absurd rfl q, h2⟩)
    go_enter Tryd.func79, Tryd.ntmps79
    go_wp2
    exact bodyPost_ret (v := .tuple #[.int .i64 (x : Int), .bool true]) (by simp [results, Tryd.results79, go_sem]) rfl ⟨rfl, rfl⟩
  · refine Calls.mono (R := fun e w' => e = .returned (.tuple #[.int .i64 (x : Int), .bool true]) ∧ w' = w.setCell ⟨Q, 0, none⟩ (.slice (some ⟨g, off + 1, none⟩) n c)) ?_ (fun e w' ⟨h1, h2⟩ => ⟨h1, off + 1, fun _ => rfl, h2⟩)
    go_enter Tryd.func79, Tryd.ntmps79
    go_wp2
    exact bodyPost_ret (v := .tuple #[.int .i64 (x : Int), .bool true]) (by simp [results, Tryd.results79, go_sem]) rfl ⟨rfl, rfl⟩
theorem Kq.of {Q : Nat} {v : Value} {w w1 w2 : World} (hb : Below w.heap.size w w1) (hk : ∀ k, k < w1.heap.size → v.ownBlock ≠ some k → w2.heap[k]? = w1.heap[k]?) (hs : w1.heap.size ≤ w2.heap.size) (ho : w2.os = w1.os ∧ w2.tape = w1.tape ∧ w2.output = w1.output) : Kq Q v w w2 :=
  ⟨ho.1.trans hb.os, ho.2.1.trans hb.tape, ho.2.2.trans hb.output, Nat.le_trans hb.size hs, fun k hk1 _ hn => (hk k (Nat.lt_of_lt_of_le hk1 hb.size) hn).trans (hb.block k hk1)⟩
theorem Kq.set {Q : Nat} {v : Value} {w w1 : World} (h : Kq Q v w w1) (u : Value) : Kq Q v w (w1.setCell ⟨Q, 0, none⟩ u) :=
  ⟨h.os, h.tape, h.output, by simpa [World.setCell] using h.size, fun k h1 h2 h3 => (Below.heap_setCell _ _ _ _ (by show k ≠ Q; exact h2)).trans (h.block k h1 h2 h3)⟩
set_option maxHeartbeats 1600000 in
set_option maxRecDepth 100000 in
theorem putI_any (Q lo : Nat) (v : Value) (xs : List Nat) (y : Nat) (w : World) (hQ : Q < w.heap.size) (h : w.cell? ⟨Q, 0, none⟩ = some v) (hf : w.frozen? ⟨Q, 0, none⟩ = false) (hr : QI w lo v xs) (hvQ : v.ownBlock ≠ some Q) (hshort : xs.length ≤ 1000) (hlo : lo ≤ w.heap.size) :
    Calls Tryd.prog 78 #[.pointer (some ⟨Q, 0, none⟩), .int .i64 (y : Int)] w fun e w' => e = .returned (.tuple #[]) ∧ ∃ g off cap, w'.cell? ⟨Q, 0, none⟩ = some (.slice (some ⟨g, off, none⟩) (xs.length + 1) cap) ∧ w'.frozen? ⟨Q, 0, none⟩ = false ∧ RowS w' lo g off cap (xs ++ [y]) ∧ g ≠ Q ∧ (v.ownBlock = some g ∨ w.heap.size ≤ g) ∧ Kq Q v w w' := by
  obtain ⟨i0, hi, hz0, hz1, hz2⟩ := info_parts Tryd.infoInt
  have HI : Hid (Tryd.prog.info? 3 = some i0 ∧ i0.zero = some (.int .i64 0) ∧ i0.size = 1 ∧ i0.bytes = 8) := ⟨hi, hz0, hz1, hz2⟩
  have d1 : Hid (Below w.heap.size w (w.alloc (.cells #[.int .i64 (y : Int)] 3))) := hideP (below_one _ _)
  have RD : Hid (QI (w.alloc (.cells #[.int .i64 (y : Int)] 3)) lo v xs) := hideP (hr.next d1.out)
  have hsD : Hid ((w.alloc (.cells #[.int .i64 (y : Int)] 3)).heap.size = w.heap.size + 1) := hideP (by simp)
  have HX : Hid (∀ w', Below w.heap.size w w' → w'.cell? ⟨Q, 0, none⟩ = some v ∧ w'.frozen? ⟨Q, 0, none⟩ = false) := hideP (fun w' hb => ⟨(hb.cell (p := ⟨Q, 0, none⟩) hQ).trans h, (hb.frozen (p := ⟨Q, 0, none⟩) hQ).trans hf⟩)
  clear hi hz0 hz1 hz2 hr
  go_enter Tryd.func78, Tryd.ntmps78
  go_wp2_with (at_builtin; refine wpList_append_rowI _ rfl _ _ 27 rfl lo 3 i0 Tryd.underlying27 HI.out.1 HI.out.2.1 HI.out.2.2.1 HI.out.2.2.2 v xs rfl RD.out w.heap.size y rfl ?c1 hshort ?c2 ?_)
  case c1 => exact (World.cell?_alloc_at (w := w) _ _ w.heap.size 0 rfl).trans rfl
  case c2 => simp; omega
  intro g off cap w3 hA
  have HA := hideP hA
  clear hA
  have eQ := HA.out.block Q (by rw [hsD.out]; omega) hvQ
  have hq3 : w3.cell? ⟨Q, 0, none⟩ = some v := (World.cell?_of_block (a := ⟨Q, 0, none⟩) eQ).trans (HX.out _ d1.out).1
  have hf3 : w3.frozen? ⟨Q, 0, none⟩ = false := (World.frozen?_of_block (a := ⟨Q, 0, none⟩) eQ).trans (HX.out _ d1.out).2
  have hgQ : g ≠ Q := by
    rcases HA.out.own with e | e
    · intro e2; rw [e2] at e; exact hvQ e
    · rw [hsD.out] at e; omega
  have k3 := hideP (Kq.of (Q := Q) (v := v) d1.out HA.out.block HA.out.size ⟨HA.out.os, HA.out.tape, HA.out.output⟩)
  have eg : (w3.setCell ⟨Q, 0, none⟩ (.slice (some ⟨g, off, none⟩) (xs.length + 1) cap)).heap[g]? = w3.heap[g]? := Below.heap_setCell _ _ _ _ hgQ
  have hfin : (w3.setCell ⟨Q, 0, none⟩ (.slice (some ⟨g, off, none⟩) (xs.length + 1) cap)).frozen? ⟨Q, 0, none⟩ = false := by rw [World.frozen?_setCell]; exact hf3
  have HR := hideP (HA.out.row.same eg (by simp [World.setCell]))
  clear eQ eg HX
  go_wp2
  go_end0
  refine ⟨rfl, g, off, cap, World.cell?_setCell_same' w3 ⟨Q, 0, none⟩ _ (by rw [hq3]; rfl), hfin, HR.out, hgQ, ?_, k3.out.set _⟩
  rcases HA.out.own with e | e
  · exact Or.inl e
  · exact Or.inr (by rw [hsD.out] at e; omega)

end Go.Proofs.YtiaeffpjcinilaaDoor

/- Walk of impl.sidesBy. -/
namespace Go.Proofs.YtiaeffpjcinilaaDoor
open Go.RowKit
set_option linter.unusedVariables false

theorem setN_eight {K : Int} {us : List (Int × Int)} (h : okB K us = true) : setN 8 us = setN K us := by rw [setN_yes h, setN_yes (ok_8 h)]
/-- memory while sides go along: the answer, the sides, the queue, the forest at F -/
structure Sdm (us : List (Int × Int)) (w wr : World) (O Q F : Nat) (f : Nat → Nat) (v : Value) (q : List Nat) : Prop where
  R : OwnI wr w.heap.size 8 zcell
  o : OwnI wr O 8 (pcellN f)
  qc : wr.cell? ⟨Q, 0, none⟩ = some v
  qf : wr.frozen? ⟨Q, 0, none⟩ = false
  qr : QI wr (Q + 1) v q
  fo : OwnI wr F 8 (pcellN (forest us us.length))
  hO : w.heap.size < O
  hQ : O < Q
  hF : Q < F
  vF : v.ownBlock ≠ some F
  bel : Below w.heap.size w wr
theorem Sdm.next {us : List (Int × Int)} {w wr w' : World} {O Q F : Nat} {f : Nat → Nat} {v : Value} {q : List Nat} (h : Sdm us w wr O Q F f v q) (hb : Below wr.heap.size wr w') : Sdm us w w' O Q F f v q := by
  have hl := Nat.lt_trans h.hF h.fo.2.2
  exact ⟨h.R.below hb h.R.2.2, h.o.below hb h.o.2.2, (hb.cell (p := ⟨Q, 0, none⟩) hl).trans h.qc, (hb.frozen (p := ⟨Q, 0, none⟩) hl).trans h.qf, h.qr.next hb, h.fo.below hb h.fo.2.2, h.hO, h.hQ, h.hF, h.vF, h.bel.trans (hb.mono h.bel.size)⟩
/-- a knot was put into the queue -/
theorem Sdm.put {us : List (Int × Int)} {w wr w' : World} {O Q F : Nat} {f : Nat → Nat} {v : Value} {q : List Nat} {y g off cap : Nat} (h : Sdm us w wr O Q F f v q) (hc : w'.cell? ⟨Q, 0, none⟩ = some (.slice (some ⟨g, off, none⟩) (q.length + 1) cap)) (hf : w'.frozen? ⟨Q, 0, none⟩ = false) (hr : RowS w' (Q + 1) g off cap (q ++ [y])) (hg : v.ownBlock = some g ∨ wr.heap.size ≤ g) (k : Kq Q v wr w') :
    Sdm us w w' O Q F f (.slice (some ⟨g, off, none⟩) (q.length + 1) cap) (q ++ [y]) := by
  have hlF := h.fo.2.2
  have hO := h.hO
  have hQ := h.hQ
  have hFg := h.hF
  have hO1 := h.hO
  have hQ1 := h.hQ
  have hlo : ∀ j, j < Q + 1 → v.ownBlock ≠ some j := fun j hj e => by have := (h.qr.ge e).1; omega
  have eb : ∀ j, j < Q → w'.heap[j]? = wr.heap[j]? := fun j hj => k.block j (by omega) (by omega) (hlo j (by omega))
  have eF : w'.heap[F]? = wr.heap[F]? := k.block F hlF (by omega) h.vF
  refine ⟨h.R.same (eb _ (by omega)) k.size, h.o.same (eb _ (by omega)) k.size, hc, hf, Or.inr ⟨g, off, cap, by simp, hr⟩, h.fo.same eF k.size, h.hO, h.hQ, h.hF, ?_, h.bel.trans ⟨k.os, k.tape, k.output, k.size, fun j hj => eb j (by omega)⟩⟩
  intro e
  have e2 : g = F := by simpa [Value.ownBlock] using e
  rcases hg with q1 | q1
  · rw [e2] at q1; exact h.vF q1
  · omega
/-- a knot was taken from the queue -/
theorem Sdm.taken {us : List (Int × Int)} {w wr : World} {O Q F : Nat} {f : Nat → Nat} {g off off' c x : Nat} {q : List Nat} (h : Sdm us w wr O Q F f (.slice (some ⟨g, off, none⟩) (q.length + 1) (c + 1)) (x :: q)) (hr : RowS wr (Q + 1) g off (c + 1) (x :: q)) (hoff : c ≠ 0 → off' = off + 1) :
    Sdm us w (wr.setCell ⟨Q, 0, none⟩ (.slice (some ⟨g, off', none⟩) q.length c)) O Q F f (.slice (some ⟨g, off', none⟩) q.length c) q := by
  have hs : (wr.setCell ⟨Q, 0, none⟩ (.slice (some ⟨g, off', none⟩) q.length c)).heap.size = wr.heap.size := by simp [World.setCell]
  have hFg := h.hF
  have hO1 := h.hO
  have hQ1 := h.hQ
  have eb : ∀ j, j ≠ Q → (wr.setCell ⟨Q, 0, none⟩ (.slice (some ⟨g, off', none⟩) q.length c)).heap[j]? = wr.heap[j]? := fun j hj => Below.heap_setCell _ _ _ _ (by show j ≠ Q; exact hj)
  have hgl := hr.lo
  have hg : g ≠ F := fun e => h.vF (by rw [← e]; rfl)
  have hrow : RowS wr (Q + 1) g off' c q := by
    by_cases hc : c = 0
    · subst hc
      have := hr.len
      have hq : q = [] := List.length_eq_zero_iff.1 (by simpa using this)
      subst hq
      exact hr.void off'
    · rw [hoff hc]; exact hr.tail
  refine ⟨h.R.same (eb _ (by omega)) (by rw [hs]; exact Nat.le_refl _), h.o.same (eb _ (by omega)) (by rw [hs]; exact Nat.le_refl _), World.cell?_setCell_same' wr ⟨Q, 0, none⟩ _ (by rw [h.qc]; rfl), by rw [World.frozen?_setCell]; exact h.qf, Or.inr ⟨g, off', c, rfl, hrow.same (eb g (by omega)) (by rw [hs]; exact Nat.le_refl _)⟩, h.fo.same (eb F (by omega)) (by rw [hs]; exact Nat.le_refl _), h.hO, h.hQ, h.hF, ?_, h.bel.setCell (by show w.heap.size ≤ Q; omega) _⟩
  intro e
  exact hg (by simpa [Value.ownBlock] using e)
/-- a knot's side is set -/
theorem Sdm.set {us : List (Int × Int)} {w wr : World} {O Q F : Nat} {f : Nat → Nat} {v : Value} {q : List Nat} (h : Sdm us w wr O Q F f v q) {k : Nat} (hk : k < 8) (x : Nat) :
    Sdm us w (wr.setCell ⟨O, k, none⟩ (.int .i64 (x : Int))) O Q F (fun j => if j = k then x else f j) v q := by
  have hs : (wr.setCell ⟨O, k, none⟩ (.int .i64 (x : Int))).heap.size = wr.heap.size := by simp [World.setCell]
  have hFg := h.hF
  have hO1 := h.hO
  have hQ1 := h.hQ
  have eb : ∀ j, j ≠ O → (wr.setCell ⟨O, k, none⟩ (.int .i64 (x : Int))).heap[j]? = wr.heap[j]? := fun j hj => Below.heap_setCell _ _ _ _ (by show j ≠ O; exact hj)
  have hl : ∀ {j}, v.ownBlock = some j → j ≠ O := fun e => by have := (h.qr.ge e).1; omega
  refine ⟨h.R.same (eb _ (by omega)) (by rw [hs]; exact Nat.le_refl _), (h.o.set hk _).congr (fun j _ => by by_cases e : j = k <;> simp [e, pcellN]), (World.cell?_of_block (a := ⟨Q, 0, none⟩) (eb Q (by omega))).trans h.qc, (World.frozen?_of_block (a := ⟨Q, 0, none⟩) (eb Q (by omega))).trans h.qf, h.qr.same (fun j e => eb j (hl e)) (by rw [hs]; exact Nat.le_refl _), h.fo.same (eb F (by omega)) (by rw [hs]; exact Nat.le_refl _), h.hO, h.hQ, h.hF, h.vF, h.bel.setCell (by show w.heap.size ≤ O; omega) _⟩
/-- what was taken -/
def Tk (us : List (Int × Int)) (w wr : World) (O Q F : Nat) (f : Nat → Nat) (q : List Nat) (x : Nat) (ok : Bool) : Prop :=
  (ok = false ∧ q = [] ∧ ∃ v, Sdm us w wr O Q F f v []) ∨ (ok = true ∧ ∃ q' v, q = x :: q' ∧ Sdm us w wr O Q F f v q')
/-- the next knot is taken, if one waits -/
theorem takeS {us : List (Int × Int)} {w wr : World} {O Q F : Nat} {f : Nat → Nat} {v : Value} {q : List Nat} (h : Sdm us w wr O Q F f v q) :
    Calls Tryd.prog 79 #[.pointer (some ⟨Q, 0, none⟩)] wr fun e w' => ∃ (x : Nat) (ok : Bool), e = .returned (.tuple #[.int .i64 (x : Int), .bool ok]) ∧ Tk us w w' O Q F f q x ok := by
  cases q with
  | nil =>
    obtain ⟨ao, cap, rfl⟩ := h.qr.len
    exact (takeI_none Q ao cap wr h.qc).mono fun e w' ⟨h1, h2⟩ => ⟨0, false, h1, Or.inl ⟨rfl, rfl, .slice ao 0 cap, by rw [h2]; exact h⟩⟩
  | cons x q =>
    rcases h.qr with ⟨_, e⟩ | ⟨g, off, cap, rfl, hr⟩
    · cases e
    · have hl := hr.len
      obtain ⟨c, rfl⟩ : ∃ c, cap = c + 1 := ⟨cap - 1, by simp at hl; omega⟩
      have hc := hr.cells 0 (by simp)
      refine (takeI_some Q g off q.length c x wr (by simpa using hl) h.qc h.qf (by simpa using hc)).mono fun e w' ⟨h1, off', h2, h3⟩ => ?_
      have hS := h.taken hr h2
      rw [← h3] at hS
      exact ⟨x, true, h1, Or.inr ⟨rfl, q, _, rfl, hS⟩⟩
/-- the sides of those to which one came -/
def sF (us : List (Int × Int)) (C : Nat → Bool) : Nat → Nat := fun k => if C k = true then sdN us k else 0
/-- what stands ahead of a round: a knot was taken, or none waits -/
def Rl (us : List (Int × Int)) (w : World) (O Q F gk : Nat) (lv : Value) (x : Nat) (ok : Bool) (wr : World) : Prop :=
  gk ≤ 9 ∧ ∃ (C : Nat → Bool) (v : Value), lv = .int .u64 ((setN 8 (leftC us C) : Nat) : Int) ∧ ((ok = true ∧ ∃ q, Sdm us w wr O Q F (sF us C) v q ∧ Sdi us C q x 0 ∧ 8 - cntC C + q.length + 1 ≤ gk) ∨ (ok = false ∧ Sdm us w wr O Q F (sF us C) v [] ∧ Sdv us C []))
theorem Rl.of {us : List (Int × Int)} {w wr : World} {O Q F gk : Nat} {C : Nat → Bool} {q : List Nat} {x : Nat} {ok : Bool} (hT : Tk us w wr O Q F (sF us C) q x ok) (hD : Sdv us C q) (hg : gk ≤ 9) (hm : 8 - cntC C + q.length ≤ gk) : Rl us w O Q F gk (.int .u64 ((setN 8 (leftC us C) : Nat) : Int)) x ok wr := by
  rcases hT with ⟨rfl, rfl, v, h⟩ | ⟨rfl, q', v, rfl, h⟩
  · exact ⟨hg, C, v, rfl, Or.inr ⟨rfl, h, hD⟩⟩
  · exact ⟨hg, C, v, rfl, Or.inl ⟨rfl, q', h, hD.take, by simpa [Nat.add_assoc] using hm⟩⟩
theorem Sdm.start (us : List (Int × Int)) {w w1 : World} (t1 t2 t3 t' : TypeId) (hb : Below (((w.alloc (.cells #[.int .i64 0, .int .i64 0, .int .i64 0, .int .i64 0, .int .i64 0, .int .i64 0, .int .i64 0, .int .i64 0] t1)).alloc (.cells #[.int .i64 0, .int .i64 0, .int .i64 0, .int .i64 0, .int .i64 0, .int .i64 0, .int .i64 0, .int .i64 0] t2)).alloc (.cells #[.slice none 0 0] t3)).heap.size (((w.alloc (.cells #[.int .i64 0, .int .i64 0, .int .i64 0, .int .i64 0, .int .i64 0, .int .i64 0, .int .i64 0, .int .i64 0] t1)).alloc (.cells #[.int .i64 0, .int .i64 0, .int .i64 0, .int .i64 0, .int .i64 0, .int .i64 0, .int .i64 0, .int .i64 0] t2)).alloc (.cells #[.slice none 0 0] t3)) w1) :
    Sdm us w (w1.alloc (.cells #[.int .i64 ((forest us us.length 0 : Nat) : Int), .int .i64 ((forest us us.length 1 : Nat) : Int), .int .i64 ((forest us us.length 2 : Nat) : Int), .int .i64 ((forest us us.length 3 : Nat) : Int), .int .i64 ((forest us us.length 4 : Nat) : Int), .int .i64 ((forest us us.length 5 : Nat) : Int), .int .i64 ((forest us us.length 6 : Nat) : Int), .int .i64 ((forest us us.length 7 : Nat) : Int)] t')) (w.heap.size + 1) (w.heap.size + 1 + 1) w1.heap.size (fun _ => 0) (.slice none 0 0) [] := by
  have R0 : OwnI (w.alloc (.cells #[.int .i64 0, .int .i64 0, .int .i64 0, .int .i64 0, .int .i64 0, .int .i64 0, .int .i64 0, .int .i64 0] t1)) w.heap.size 8 (pcellN (fun _ => 0)) := forest_own w (fun _ => 0) t1
  have R1 : OwnI ((w.alloc (.cells #[.int .i64 0, .int .i64 0, .int .i64 0, .int .i64 0, .int .i64 0, .int .i64 0, .int .i64 0, .int .i64 0] t1)).alloc (.cells #[.int .i64 0, .int .i64 0, .int .i64 0, .int .i64 0, .int .i64 0, .int .i64 0, .int .i64 0, .int .i64 0] t2)) (w.alloc (.cells #[.int .i64 0, .int .i64 0, .int .i64 0, .int .i64 0, .int .i64 0, .int .i64 0, .int .i64 0, .int .i64 0] t1)).heap.size 8 (pcellN (fun _ => 0)) := forest_own _ (fun _ => 0) t2
  have z0 := below_one w (.cells #[.int .i64 0, .int .i64 0, .int .i64 0, .int .i64 0, .int .i64 0, .int .i64 0, .int .i64 0, .int .i64 0] t1)
  obtain ⟨A1, hA1⟩ : ∃ A, A = w.alloc (.cells #[.int .i64 0, .int .i64 0, .int .i64 0, .int .i64 0, .int .i64 0, .int .i64 0, .int .i64 0, .int .i64 0] t1) := ⟨_, rfl⟩
  have e1 : A1.heap.size = w.heap.size + 1 := by rw [hA1]; simp
  rw [← hA1] at R0 R1 hb z0
  have z1 := below_one A1 (.cells #[.int .i64 0, .int .i64 0, .int .i64 0, .int .i64 0, .int .i64 0, .int .i64 0, .int .i64 0, .int .i64 0] t2)
  obtain ⟨A2, hA2⟩ : ∃ A, A = A1.alloc (.cells #[.int .i64 0, .int .i64 0, .int .i64 0, .int .i64 0, .int .i64 0, .int .i64 0, .int .i64 0, .int .i64 0] t2) := ⟨_, rfl⟩
  have e2 : A2.heap.size = w.heap.size + 1 + 1 := by rw [hA2]; simp [e1]
  rw [← hA2] at R1 hb z1
  have z2 := below_one A2 (.cells #[.slice none 0 0] t3)
  have q0 : (A2.alloc (.cells #[.slice none 0 0] t3)).cell? ⟨A2.heap.size, 0, none⟩ = some (.slice none 0 0) := World.cell?_alloc_at _ _ _ _ rfl
  have q1 : (A2.alloc (.cells #[.slice none 0 0] t3)).frozen? ⟨A2.heap.size, 0, none⟩ = false := World.frozen?_alloc_at _ _ _ _ rfl
  obtain ⟨A3, hA3⟩ : ∃ A, A = A2.alloc (.cells #[.slice none 0 0] t3) := ⟨_, rfl⟩
  have e3 : A3.heap.size = w.heap.size + 1 + 1 + 1 := by rw [hA3]; simp [e2]
  rw [← hA3] at hb z2 q0 q1
  have bx := below_one w1 (.cells #[.int .i64 ((forest us us.length 0 : Nat) : Int), .int .i64 ((forest us us.length 1 : Nat) : Int), .int .i64 ((forest us us.length 2 : Nat) : Int), .int .i64 ((forest us us.length 3 : Nat) : Int), .int .i64 ((forest us us.length 4 : Nat) : Int), .int .i64 ((forest us us.length 5 : Nat) : Int), .int .i64 ((forest us us.length 6 : Nat) : Int), .int .i64 ((forest us us.length 7 : Nat) : Int)] t')
  have fo := forest_own w1 (forest us us.length) t'
  obtain ⟨A5, hA5⟩ : ∃ A, A = w1.alloc (.cells #[.int .i64 ((forest us us.length 0 : Nat) : Int), .int .i64 ((forest us us.length 1 : Nat) : Int), .int .i64 ((forest us us.length 2 : Nat) : Int), .int .i64 ((forest us us.length 3 : Nat) : Int), .int .i64 ((forest us us.length 4 : Nat) : Int), .int .i64 ((forest us us.length 5 : Nat) : Int), .int .i64 ((forest us us.length 6 : Nat) : Int), .int .i64 ((forest us us.length 7 : Nat) : Int)] t') := ⟨_, rfl⟩
  rw [← hA5] at bx fo
  rw [← hA5]
  have s1 := hb.size
  have y3 : Below A3.heap.size A3 A5 := hb.trans (bx.mono s1)
  have y2 : Below A2.heap.size A2 A5 := z2.trans (y3.mono z2.size)
  have y1 : Below A1.heap.size A1 A5 := z1.trans (y2.mono z1.size)
  have y0 : Below w.heap.size w A5 := z0.trans (y1.mono z0.size)
  have hq : (⟨A2.heap.size, 0, none⟩ : Addr).block < A3.heap.size := by show A2.heap.size < _; omega
  rw [e2] at q0 q1 hq
  rw [e1] at R1
  exact ⟨(R0.below y1 (by omega)).congr (fun j _ => rfl), R1.below y2 (by omega), (y3.cell (p := ⟨w.heap.size + 1 + 1, 0, none⟩) hq).trans q0, (y3.frozen (p := ⟨w.heap.size + 1 + 1, 0, none⟩) hq).trans q1, Or.inl ⟨rfl, rfl⟩, fo, by omega, by omega, by omega, (by intro e; cases e), y0⟩
set_option maxHeartbeats 3200000 in
theorem sidesBy_any (us : List (Int × Int)) (hok : okB 8 us = true) (t : Trn 8 us 8) (w : World) (hT : Tab w) :
    Calls Tryd.prog 46 #[.int .u64 ((setN 8 us : Nat) : Int)] w fun e w' => e = .returned (forestV (sdN us)) ∧ Below w.heap.size w w' := by
  have HTr := hideP t
  have HOK := hideP hok
  have HT3 := hideP (fun o p q => hT.below ((below_two w o p).trans ((below_one _ q).mono (below_two w o p).size)) hT.2)
  have HSL := hideP (fun C => setN_lt 8 (leftC us C))
  obtain ⟨T0, hT0⟩ : ∃ T, T = setN 8 us := ⟨_, rfl⟩
  have HT0 := hideP hT0
  clear t hok
  go_enter Tryd.func46, Tryd.ntmps46
  go_wp2_with fail
  refine (forestOf_ok 8 us _ (HT3.out _ _ _) HOK.out).mono ?_
  rintro e w1 ⟨rfl, hb1⟩
  have S1 : Hid (∀ t', Sdm us w (w1.alloc (.cells #[.int .i64 ((forest us us.length 0 : Nat) : Int), .int .i64 ((forest us us.length 1 : Nat) : Int), .int .i64 ((forest us us.length 2 : Nat) : Int), .int .i64 ((forest us us.length 3 : Nat) : Int), .int .i64 ((forest us us.length 4 : Nat) : Int), .int .i64 ((forest us us.length 5 : Nat) : Int), .int .i64 ((forest us us.length 6 : Nat) : Int), .int .i64 ((forest us us.length 7 : Nat) : Int)] t')) (w.heap.size + 1) (w.heap.size + 1 + 1) w1.heap.size (fun _ => 0) (.slice none 0 0) []) := hideP (fun t' => Sdm.start us _ _ _ t' hb1)
  unfold forestV
  obtain ⟨F, hF⟩ : ∃ F, F = w1.heap.size := ⟨_, rfl⟩
  obtain ⟨O, hO⟩ : ∃ O, O = w.heap.size + 1 := ⟨_, rfl⟩
  obtain ⟨Q, hQ⟩ : ∃ Q, Q = O + 1 := ⟨_, rfl⟩
  rw [← hF, ← hO, ← hQ] at S1
  clear hb1 HT3
  go_wp2
  rw [← hF, ← hO, ← hQ]
  clear hF hO hQ
  go_loopw [13] (fun iv wr => ∃ (k : Nat) (v : Value), k ≤ 8 ∧ iv = .int .i64 (k : Int) ∧ Sdm us w wr O Q F (fun _ => 0) v (rootQ us k))
    (fun iv _ => 8 - (intOf iv).toNat)
  case atStart => exact ⟨0, .slice none 0 0, Nat.zero_le _, rfl, S1.out _⟩
  case round =>
    clear S1
    obtain ⟨k, v, hk, rfl, hS⟩ := hrel
    have HS := hideP hS
    clear hS
    by_cases hlt : k < 8
    · have hk8 : (k : Int) < 8 := by omega
      by_cases hr : topN us k = k
      · have hr' : top (forest us us.length) k = k := hr
        have HQ := hideP (rootQ_yes hr)
        have hql := rootQ_len us k
        have hQl : Q < wr.heap.size := Nat.lt_trans HS.out.hF HS.out.fo.2.2
        go_wp2_with fail
        refine (least_any F (forest us us.length) k _ HS.out.fo (forest_low us _) hlt).mono ?_
        rintro e w3 ⟨rfl, rfl⟩
        rw [hr']
        go_wp2_with fail
        refine (putI_any Q (Q + 1) v (rootQ us k) k _ hQl HS.out.qc HS.out.qf HS.out.qr (fun e => by have := (HS.out.qr.ge e).1; omega) (by omega) hQl).mono ?_
        rintro e w4 ⟨rfl, g, off, cap, h1, h2, h3, h4, h5, h6⟩
        have S4 := hideP (HS.out.put h1 h2 h3 h5 h6)
        rw [← HQ.out] at S4
        clear h1 h2 h3 h4 h5 h6 HS hr hr'
        go_wp2
        exact ⟨⟨k + 1, _, by omega, by go_num, S4.out⟩, by simp [intOf]; omega⟩
      · have hne : (((top (forest us us.length) k : Nat) : Int) == (k : Int)) = false := by
          rw [beq_eq_false_iff_ne]
          have : top (forest us us.length) k ≠ k := hr
          omega
        have HQ := hideP (rootQ_no hr)
        go_wp2_with fail
        refine (least_any F (forest us us.length) k _ HS.out.fo (forest_low us _) hlt).mono ?_
        rintro e w3 ⟨rfl, rfl⟩
        go_wp2
        exact ⟨⟨k + 1, v, by omega, by go_num, by rw [HQ.out]; exact HS.out⟩, by simp [intOf]; omega⟩
    · obtain rfl : k = 8 := by omega
      obtain ⟨hD, hL⟩ := Sdv.start HTr.out
      have HD := hideP hD
      have HL := hideP hL
      have HZ : Hid (Sdm us w wr O Q F (sF us (rootC us 8)) v (rootQ us 8)) := hideP (by
        have e : sF us (rootC us 8) = fun _ => 0 := by
          funext j
          unfold sF
          split
          · rename_i h
            simp [rootC] at h
            unfold sdN
            rw [(HTr.out.root h.1 h.2).2]
          · rfl
        rw [e]; exact HS.out)
      clear HS hD
      go_wp2_with fail
      refine (takeS HZ.out).mono ?_
      rintro e wr' ⟨x0, ok0, rfl, hTk⟩
      have hf := HD.out.few
      have hc8 := cntC_le (rootC us 8)
      have hR := Rl.of (gk := 9) hTk HD.out (Nat.le_refl _) (by omega)
      rw [HL.out] at hR
      have HR := hideP hR
      clear HD HL HZ hR hTk hf hc8 hL
      go_wp2
      go_loopg [7, 8, 9] 9 (fun gk lv av okv wr => ∃ (x : Nat) (ok : Bool), av = .int .i64 (x : Int) ∧ okv = .bool ok ∧ Rl us w O Q F gk lv x ok wr)
      case atStart => exact ⟨x0, ok0, rfl, rfl, HR.out⟩
      case round =>
        clear HR
        obtain ⟨x, ok, rfl, rfl, hg9, C, v, rfl, hC⟩ := hrel
        rcases hC with ⟨rfl, q, hS, hD, hm⟩ | ⟨rfl, hS, hD⟩
        · have HS := hideP hS
          have HD := hideP hD
          have HM := hideP hm
          have hx8 := hD.lt x hD.here
          clear hS hD hm
          go_wp2
          go_loopw [7, 33] (fun lv iv wr => ∃ (k0 : Nat) (C : Nat → Bool) (v : Value) (q : List Nat), k0 ≤ 8 ∧ iv = .int .i64 (k0 : Int) ∧ lv = .int .u64 ((setN 8 (leftC us C) : Nat) : Int) ∧ Sdm us w wr O Q F (sF us C) v q ∧ Sdi us C q x k0 ∧ 8 - cntC C + q.length + 1 ≤ gk)
            (fun _ iv _ => 8 - (intOf iv).toNat)
          case atStart => exact ⟨0, C, v, q, Nat.zero_le _, rfl, rfl, HS.out, HD.out, HM.out⟩
          case round =>
            clear HS HD HM
            obtain ⟨k, C, v, q, hk, rfl, rfl, hS, hD, hm⟩ := hrel
            have HS := hideP hS
            have HD := hideP hD
            have HM := hideP hm
            clear hS hD hm
            by_cases hlt : k < 8
            · have hk8 : (k : Int) < 8 := by omega
              have k0 : (0 : Int) ≤ (k : Int) := by omega
              have hx8' : (x : Int) < 8 := by omega
              have x0' : (0 : Int) ≤ (x : Int) := by omega
              have hokL := leftC_ok HOK.out C
              have hhas : decide (setN 8 (leftC us C) &&& pbit (x : Int) (k : Int) ≠ 0) = tieNB (leftC us C) x k := by rw [has_set 8 _ _ _ hokL, hasB_ok hokL]; rfl
              have HH := hideP hhas
              cases hn : tieNB (leftC us C) x k with
              | false =>
                have HE := hideP (HH.out.trans hn)
                have HST := hideP (HD.out.stay HTr.out hn)
                clear hhas hn HH hokL
                go_wp2_with fail
                refine (has_any (setN 8 (leftC us C)) x k _ (HSL.out C)).mono ?_
                rw [HE.out]
                rintro e w5 ⟨rfl, rfl⟩
                go_wp2
                go_roundw
                case rel => exact ⟨k + 1, C, v, q, by omega, by go_num, rfl, HS.out, HST.out, HM.out⟩
                case measure => simp [intOf]; omega
              | true =>
                have HE := hideP (HH.out.trans hn)
                obtain ⟨_, hck, _, _, hdep⟩ := HD.out.kid HTr.out hn
                have HGO := hideP (HD.out.go HTr.out hn)
                obtain ⟨hlg, hlh⟩ := left_go HTr.out HOK.out HD.out hn
                have HLS : Hid (strike (setN 8 (leftC us C)) (pbit (x : Int) (k : Int)) = setN 8 (leftC us (more1 C k))) := hideP (by rw [set_cut hlh, hlg])
                have hsx : sF us C x = sdN us x := by unfold sF; rw [if_pos HD.out.here]
                have hsk : (1 : Int) - (sdN us x : Int) = (sdN us k : Int) := by
                  unfold sdN; rw [hdep]; omega
                have hs2 : sdN us x < 2 := Nat.mod_lt _ (by omega)
                have HF2 : Hid ((fun j => if j = k then sdN us k else sF us C j) = sF us (more1 C k)) := hideP (by
                  funext j
                  unfold sF
                  by_cases e : j = k
                  · subst e; simp [more1]
                  · have : more1 C k j = C j := by simp [more1, e]
                    rw [if_neg e, this])
                have HM2 : Hid (8 - cntC (more1 C k) + (q ++ [k]).length + 1 ≤ gk) := hideP (by
                  have := HM.out
                  have h8 := cntC_le (more1 C k)
                  have hc := cntC_more hlt hck
                  rw [hc] at h8 ⊢
                  rw [List.length_append]
                  simp; omega)
                have hql : q.length ≤ 8 := by have := HD.out.few; have := cntC_le C; omega
                have ox : wr.cell? ⟨O, x, none⟩ = some (.int .i64 (sdN us x : Int)) := by
                  have := HS.out.o.1 x hx8
                  rw [this]; unfold pcellN; rw [hsx]
                have ok1 : (wr.cell? ⟨O, k, none⟩) = some (.int .i64 (sF us C k : Int)) := HS.out.o.1 k hlt
                have of1 := HS.out.o.2.1 k
                obtain ⟨d, hd⟩ : ∃ d, d = sdN us x := ⟨_, rfl⟩
                rw [← hd] at ox hsk hs2
                have hd1 : IntKind.i64.wrap (1 - (d : Int)) = 1 - (d : Int) := by rw [IntKind.wrap_i64]; omega
                obtain ⟨d2, hd2⟩ : ∃ d2, d2 = sdN us k := ⟨_, rfl⟩
                rw [← hd2] at hsk HF2
                have hSS := HS.out.set hlt d2
                rw [HF2.out] at hSS
                have HSS := hideP hSS
                have HK := hideP hsk
                clear hhas hn HH hokL hlg hlh hsx hd hd2 hSS hdep hck hsk
                go_wp2_with fail
                refine (has_any (setN 8 (leftC us C)) x k _ (HSL.out C)).mono ?_
                rw [HE.out]
                rintro e w5 ⟨rfl, rfl⟩
                go_wp2_with fail
                refine (without_any (setN 8 (leftC us C)) x k _ (HSL.out C)).mono ?_
                rw [HLS.out]
                rintro e w6 ⟨rfl, rfl⟩
                go_wp2_with fail
                rw [HK.out]
                have hQl : Q < (w6.setCell ⟨O, k, none⟩ (.int .i64 (d2 : Int))).heap.size := Nat.lt_trans HSS.out.hF HSS.out.fo.2.2
                refine (putI_any Q (Q + 1) v q k _ hQl HSS.out.qc HSS.out.qf HSS.out.qr (fun e => by have := (HSS.out.qr.ge e).1; omega) (by omega) hQl).mono ?_
                rintro e w7 ⟨rfl, g, off, cap, h1, h2, h3, h4, h5, h6⟩
                have S7 := hideP (HSS.out.put h1 h2 h3 h5 h6)
                clear h1 h2 h3 h4 h5 h6 HS HSS ox ok1 of1
                go_wp2
                go_roundw
                case rel => exact ⟨k + 1, more1 C k, _, q ++ [k], by omega, by go_num, rfl, S7.out, HGO.out, HM2.out⟩
                case measure => simp [intOf]; omega
            · obtain rfl : k = 8 := by omega
              have HV := hideP HD.out.fin
              go_wp2_with fail
              refine (takeS HS.out).mono ?_
              rintro e w7 ⟨x2, ok2, rfl, hTk⟩
              have hm := HM.out
              have hR := Rl.of (gk := 8 - cntC C + q.length) hTk HV.out (by omega) (Nat.le_refl _)
              have HR := hideP hR
              clear hR hTk HV HS HD
              go_wp2
              go_roundg (8 - cntC C + q.length)
              case measure => omega
              case rel => exact ⟨x2, ok2, rfl, rfl, HR.out⟩
        · have hall := hD.all HTr.out
          have hsf : ∀ j, j < 8 → sF us C j = sdN us j := fun j hj => by
            unfold sF; rw [if_pos (hall _ j hj (Nat.le_refl _))]
          have HB9 := hideP hS.bel
          have d0 : wr.cell? ⟨O, 0, none⟩ = some (.int .i64 ((sdN us 0 : Nat) : Int)) := by have := hS.o.1 0 (by omega); rw [this]; unfold pcellN; rw [hsf 0 (by omega)]
          have r0 : wr.cell? ⟨w.heap.size, 0, none⟩ = some (.int .i64 0) := hS.R.1 0 (by omega)
          have g0' := hS.R.2.1 0
          have d1 : wr.cell? ⟨O, 1, none⟩ = some (.int .i64 ((sdN us 1 : Nat) : Int)) := by have := hS.o.1 1 (by omega); rw [this]; unfold pcellN; rw [hsf 1 (by omega)]
          have r1 : wr.cell? ⟨w.heap.size, 1, none⟩ = some (.int .i64 0) := hS.R.1 1 (by omega)
          have g1' := hS.R.2.1 1
          have d2 : wr.cell? ⟨O, 2, none⟩ = some (.int .i64 ((sdN us 2 : Nat) : Int)) := by have := hS.o.1 2 (by omega); rw [this]; unfold pcellN; rw [hsf 2 (by omega)]
          have r2 : wr.cell? ⟨w.heap.size, 2, none⟩ = some (.int .i64 0) := hS.R.1 2 (by omega)
          have g2' := hS.R.2.1 2
          have d3 : wr.cell? ⟨O, 3, none⟩ = some (.int .i64 ((sdN us 3 : Nat) : Int)) := by have := hS.o.1 3 (by omega); rw [this]; unfold pcellN; rw [hsf 3 (by omega)]
          have r3 : wr.cell? ⟨w.heap.size, 3, none⟩ = some (.int .i64 0) := hS.R.1 3 (by omega)
          have g3' := hS.R.2.1 3
          have d4 : wr.cell? ⟨O, 4, none⟩ = some (.int .i64 ((sdN us 4 : Nat) : Int)) := by have := hS.o.1 4 (by omega); rw [this]; unfold pcellN; rw [hsf 4 (by omega)]
          have r4 : wr.cell? ⟨w.heap.size, 4, none⟩ = some (.int .i64 0) := hS.R.1 4 (by omega)
          have g4' := hS.R.2.1 4
          have d5 : wr.cell? ⟨O, 5, none⟩ = some (.int .i64 ((sdN us 5 : Nat) : Int)) := by have := hS.o.1 5 (by omega); rw [this]; unfold pcellN; rw [hsf 5 (by omega)]
          have r5 : wr.cell? ⟨w.heap.size, 5, none⟩ = some (.int .i64 0) := hS.R.1 5 (by omega)
          have g5' := hS.R.2.1 5
          have d6 : wr.cell? ⟨O, 6, none⟩ = some (.int .i64 ((sdN us 6 : Nat) : Int)) := by have := hS.o.1 6 (by omega); rw [this]; unfold pcellN; rw [hsf 6 (by omega)]
          have r6 : wr.cell? ⟨w.heap.size, 6, none⟩ = some (.int .i64 0) := hS.R.1 6 (by omega)
          have g6' := hS.R.2.1 6
          have d7 : wr.cell? ⟨O, 7, none⟩ = some (.int .i64 ((sdN us 7 : Nat) : Int)) := by have := hS.o.1 7 (by omega); rw [this]; unfold pcellN; rw [hsf 7 (by omega)]
          have r7 : wr.cell? ⟨w.heap.size, 7, none⟩ = some (.int .i64 0) := hS.R.1 7 (by omega)
          have g7' := hS.R.2.1 7
          obtain ⟨f, hf⟩ : ∃ f, f = sdN us := ⟨_, rfl⟩
          have HV : Hid (forestV (sdN us) = .agg #[.int .i64 ((f 0 : Nat) : Int), .int .i64 ((f 1 : Nat) : Int), .int .i64 ((f 2 : Nat) : Int), .int .i64 ((f 3 : Nat) : Int), .int .i64 ((f 4 : Nat) : Int), .int .i64 ((f 5 : Nat) : Int), .int .i64 ((f 6 : Nat) : Int), .int .i64 ((f 7 : Nat) : Int)]) := hideP (by rw [hf]; rfl)
          rw [← hf] at d0 d1 d2 d3 d4 d5 d6 d7
          clear hf hS hD hall hsf
          go_wp2
          refine bodyPost_ret (v := .agg #[.int .i64 ((f 0 : Nat) : Int), .int .i64 ((f 1 : Nat) : Int), .int .i64 ((f 2 : Nat) : Int), .int .i64 ((f 3 : Nat) : Int), .int .i64 ((f 4 : Nat) : Int), .int .i64 ((f 5 : Nat) : Int), .int .i64 ((f 6 : Nat) : Int), .int .i64 ((f 7 : Nat) : Int)]) ?_ rfl ⟨by rw [HV.out], ?_⟩
          · simp [results, Tryd.results46, go_sem, r0, r1, r2, r3, r4, r5, r6, r7]
          · exact (((((((HB9.out.setCell (p := ⟨w.heap.size, 0, none⟩) (Nat.le_refl _) _).setCell (p := ⟨w.heap.size, 1, none⟩) (Nat.le_refl _) _).setCell (p := ⟨w.heap.size, 2, none⟩) (Nat.le_refl _) _).setCell (p := ⟨w.heap.size, 3, none⟩) (Nat.le_refl _) _).setCell (p := ⟨w.heap.size, 4, none⟩) (Nat.le_refl _) _).setCell (p := ⟨w.heap.size, 5, none⟩) (Nat.le_refl _) _).setCell (p := ⟨w.heap.size, 6, none⟩) (Nat.le_refl _) _).setCell (p := ⟨w.heap.size, 7, none⟩) (Nat.le_refl _) _

end Go.Proofs.YtiaeffpjcinilaaDoor
