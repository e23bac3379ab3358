/- Walk of spec.l1Copy. -/
import Derived.Test.YtmkbeiiifikbgaaDoorWNetT
import Derived.Test.YtmkbeiiifikbgaaDoorPartWPick
import Derived.Deep.AppendLies
import Derived.Laws.OwnMore
namespace Go.Proofs.YtmkbeiiifikbgaaDoor
open Go.RowKit
set_option linter.unusedVariables false

theorem step_append_own {P : Program} {w : World} {ops : Array Oper} {o : Oper} {a : Act} {K : Act → World → Prop} {Q : Exit → Act → World → Prop} {E : Prop} (hgd : o.guard = none) (s x : Operand) (t : TypeId)
    (ho : o.op = .call { callee := .builtin .append, args := #[s, x], argTypes := #[t, t] })
    (base : Nat) (e : TypeId) (i : TypeInfo) (z : Value) (size bytes : Nat) (ht : P.underlying t = some (.slice e)) (hi : P.info? e = some i) (hz : i.zero = some z)
    (hsize : i.size = size) (hby : i.bytes = bytes) (hzs : z.cells.size = size) (hsz : 0 < size)
    (v : Value) (n : Nat) (xs : List Value) (hs : a.eval s = v) (hown : w.ownsRow base e size v n xs)
    (ad : Addr) (m c : Nat) (news : List Value) (hx : a.eval x = .slice (some ad) m c) (hl : news.length = m * size) (hnews : ∀ j u, news[j]? = some u → w.cell? (ad.add j) = some u) (h1 : ∀ u ∈ news, u.oneCell' = true)
    (h63 : n + m ≤ maxLen) (hbytes : (n + m) * bytes ≤ 140737488355328) (hbase : base ≤ w.heap.size)
    (h : ∀ v' w', w'.ownsRow base e size v' (n + m) (xs ++ news) → w.grownBy w' v.ownBlock → (v' = .slice none 0 0 ↔ v = .slice none 0 0 ∧ m = 0) → K (a.put o.dst v') w') :
    if Region.wanted o (yielded ops a.tmps) = true then Oper.wp P o a w K Q else E := by
  have hw : Region.wanted o (yielded ops a.tmps) = true := by simp [Region.wanted, hgd]
  rw [if_pos hw]
  exact wp_append_own w s x t ho base e i z size bytes ht hi hz hsize hby hzs hsz v n xs hs hown ad m c news hx hl hnews h1 h63 hbytes hbase h
theorem run_append_empty {P : Program} {w : World} (base : Nat) (t ty e : TypeId) (i : TypeInfo) (size c : Nat) (ht : P.underlying t = some (.slice e)) (hi : P.info? e = some i)
    (v : Value) (n : Nat) (xs : List Value) (hown : w.ownsRow base e size v n xs) : (Builtin.append_ #[t, t] ty #[v, .slice none 0 c]).run P w = .ok v w := by
  rcases hown.2 with ⟨rfl, rfl⟩ | ⟨g, cap, cur, rfl, _, _, hnc, _⟩
  · simp [Builtin.append_, run_underlying ht, sizeOf, typeInfo, hi, Builtin.lenOf, Builtin.firstCells]
  · simp [Builtin.append_, run_underlying ht, sizeOf, typeInfo, hi, Builtin.lenOf, Builtin.firstCells, hnc, storeCells]
theorem step_append_none {P : Program} {w : World} {ops : Array Oper} {o : Oper} {a : Act} {K : Act → World → Prop} {Q : Exit → Act → World → Prop} {E : Prop} (hgd : o.guard = none) (s x : Operand) (t : TypeId)
    (ho : o.op = .call { callee := .builtin .append, args := #[s, x], argTypes := #[t, t] })
    (base : Nat) (e : TypeId) (i : TypeInfo) (size : Nat) (ht : P.underlying t = some (.slice e)) (hi : P.info? e = some i)
    (v : Value) (n : Nat) (xs : List Value) (hs : a.eval s = v) (hown : w.ownsRow base e size v n xs) (c : Nat) (hx : a.eval x = .slice none 0 c)
    (h : K (a.put o.dst v) w) :
    if Region.wanted o (yielded ops a.tmps) = true then Oper.wp P o a w K Q else E := by
  have hw : Region.wanted o (yielded ops a.tmps) = true := by simp [Region.wanted, hgd]
  rw [if_pos hw]
  have hrun := run_append_empty (P := P) (w := w) base t o.type e i size c ht hi v n xs hown
  unfold Oper.wp
  simp [execOp, ho, resolve, invoke, builtin, hs, hx, hrun, Result.andThen]
  exact h

theorem clist_one (us : List (Int × Int)) (n : Nat) : ∀ u ∈ clist us n, u.oneCell' = true := by
  intro u hu
  unfold clist at hu
  obtain ⟨j, _, rfl⟩ := List.mem_map.1 hu
  rfl
theorem clist_at {w : World} {g : Nat} {us : List (Int × Int)} (h : OwnT w g us.length (tcell us)) : ∀ j u, (clist us us.length)[j]? = some u → w.cell? ((⟨g, 0, none⟩ : Addr).add j) = some u := by
  intro j u hu
  have hj : j < us.length * 2 := by
    have := (List.getElem?_eq_some_iff.1 hu).1
    rwa [clist_length] at this
  rw [clist_get us us.length j hj] at hu
  have hadd : (⟨g, 0, none⟩ : Addr).add j = ⟨g, j, none⟩ := by unfold Addr.add; split <;> simp_all
  rw [hadd, h.1 j hj]; exact hu

theorem below_of_grown {W wb : World} {o : Obj} {r : Nat} (hg : ((W.alloc o).drew).grownBy wb (some r)) (hr : W.heap.size ≤ r) : Below W.heap.size W wb :=
  ⟨hg.os, hg.tape, hg.output, by have := hg.size; have e : ((W.alloc o).drew).heap.size = W.heap.size + 1 := by show (W.alloc o).heap.size = _; simp
                                 omega, fun k hk => (hg.block k (by show k < (W.alloc o).heap.size; simp; omega) (by simp; omega)).trans (Below.heap_alloc _ _ _ hk)⟩

set_option maxHeartbeats 800000 in
theorem l1Copy_any (lo hi : Nat) (K : Int) (ao : Option Addr) (cap : Nat) (us : List (Int × Int)) (w : World) (hl : us.length ≤ 66) (ho : OwnN w lo hi ao us.length (tcell us)) :
    Calls Tryd.prog 52 #[.agg #[.int .i64 K, .slice ao us.length cap]] w fun e w' => ∃ ao' cap', e = .returned (.agg #[.int .i64 K, .slice ao' us.length cap']) ∧ w'.ownsRow (w.heap.size + 1 + 1) 35 2 (.slice ao' us.length cap') us.length (clist us us.length) ∧ Below w.heap.size w w' := by
  obtain ⟨i0, hi0, hz0, hz1, hz2⟩ := info_parts Tryd.infoTie
  have HI : Hid (Tryd.prog.info? 35 = some i0 ∧ i0.zero = some (.agg #[.int .i64 0, .int .i64 0]) ∧ i0.size = 2 ∧ i0.bytes = 16) := ⟨hi0, hz0, hz1, hz2⟩
  clear hi0 hz0 hz1 hz2
  rcases ho with ⟨h0, rfl⟩ | ⟨g, rfl, hg1, hg2, hoT⟩
  · have hus : us = [] := List.length_eq_zero_iff.1 h0
    subst hus
    clear h0 hl
    go_enter Tryd.func52, Tryd.ntmps52
    go_wp2
    go_region_held3 (fun w' => w'.cell? ⟨w.heap.size, 0, none⟩ = some (.int .i64 K) ∧ w'.cell? ⟨w.heap.size, 1, none⟩ = some (.slice none 0 cap)) (first | (go_keep; done) | (simp; done)) ((refine step_append_none (by rfl) _ _ _ (by rfl) (w.heap.size) 35 i0 2 Tryd.underlying23 HI.out.1 (.slice (some ⟨w.heap.size + 1 + 1, 0, none⟩) 0 0) 0 [] (by rfl) (by simpa using (World.ownsRow_lit ((w.alloc (.cells #[.int .i64 K, .slice none 0 cap] 25)).alloc (.cells #[.int .i64 0, .slice none 0 0] 25)) #[] 0 (base := w.heap.size) (e := 35) (size := 2) (by simp; omega) (by simp) rfl).drew) cap (by rfl) ?_))
    go_wp2
    refine bodyPost_ret (v := .agg #[.int .i64 K, .slice (some ⟨w.heap.size + 1 + 1, 0, none⟩) 0 0]) ?_ rfl ⟨_, _, rfl, ?_, ?_⟩
    · simp [results, Tryd.results52, go_sem]
    · have e0 : clist ([] : List (Int × Int)) 0 = [] := rfl
      rw [e0]
      simpa using (World.ownsRow_lit ((w.alloc (.cells #[.int .i64 K, .slice none 0 cap] 25)).alloc (.cells #[.int .i64 K, .slice (some ⟨w.heap.size + 1 + 1, 0, none⟩) 0 0] 25)) #[] 0 (base := w.heap.size + 1 + 1) (e := 35) (size := 2) (by simp) (by simp) rfl).drew
    · exact (below_three _ _ _ _).drew
  · have hn := hideP (clist_length us us.length)
    have hnw : g < w.heap.size := hoT.2.2
    have hoN := fun o p q => (hoT.below (below_three w o p q) hnw).below (B := w.heap.size) (Below.refl _ _).drew hnw
    go_enter Tryd.func52, Tryd.ntmps52
    go_wp2
    go_region_held3 (fun w' => w'.cell? ⟨w.heap.size, 0, none⟩ = some (.int .i64 K) ∧ w'.cell? ⟨w.heap.size, 1, none⟩ = some (.slice (some ⟨g, 0, none⟩) us.length cap)) (first | exact ⟨c0b, c1b⟩ | (go_keep; done)) ((refine step_append_own (by rfl) _ _ _ (by rfl) (w.heap.size + 1 + 1) 35 i0 _ 2 16 Tryd.underlying23 HI.out.1 HI.out.2.1 HI.out.2.2.1 HI.out.2.2.2 rfl (by omega) (.slice (some ⟨w.heap.size + 1 + 1, 0, none⟩) 0 0) 0 [] (by rfl) (by simpa using (World.ownsRow_lit ((w.alloc (.cells #[.int .i64 K, .slice (some ⟨g, 0, none⟩) us.length cap] 25)).alloc (.cells #[.int .i64 0, .slice none 0 0] 25)) #[] 0 (base := w.heap.size + 1 + 1) (e := 35) (size := 2) (by simp) (by simp) rfl).drew) ⟨g, 0, none⟩ us.length cap (clist us us.length) (by rfl) (by rw [hn.out]) (clist_at (hoN _ _ _)) (clist_one us us.length) (by unfold maxLen; omega) (by omega) (by simp) ?_; intro v' wb hown1 hgrow hnil; simp only [Nat.zero_add, List.nil_append] at hown1; obtain ⟨ao', cap', rfl⟩ := own_slice hown1; obtain ⟨c0b, c1b, r0b, r1b, f0b, f1b, hzb, hbb⟩ := (Boxes.start (below_of_grown hgrow (by simp)) : Boxes w wb K (.slice (some ⟨g, 0, none⟩) us.length cap))))
    have HO := hideP (ownsRow_setCell_below (ownsRow_setCell_below hown1 (a := ⟨w.heap.size + 1, 0, none⟩) (by show w.heap.size + 1 < _; omega) (.int .i64 K)) (a := ⟨w.heap.size + 1, 1, none⟩) (by show w.heap.size + 1 < _; omega) (.slice ao' us.length cap'))
    clear hown1 hgrow hnil hoN hoT
    go_wp2
    refine bodyPost_ret (v := .agg #[.int .i64 K, .slice ao' us.length cap']) ?_ rfl ⟨ao', cap', rfl, ?_, ?_⟩
    · simp [results, Tryd.results52, go_sem, r0b, r1b]
    · exact HO.out
    · exact (hbb.setCell (by simp) _).setCell (by simp) _

end Go.Proofs.YtmkbeiiifikbgaaDoor
