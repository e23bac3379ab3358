/- Texts put together: WCopy, WSpoil, WSpoil2, WAny. -/
import Derived.Test.YtljnjpjnadlmhaaWNetT
import Derived.Test.YtljnjpjnadlmhaaPartWPick
import Derived.Deep.AppendLies
import Derived.Laws.OwnMore
import Derived.Deep.RegionLaw
import Derived.Deep.RegionWith
import Derived.Deep.RegionHeld3
import Derived.BigRegion
/- Walk of spec.l1Copy. -/
namespace Go.Proofs.Ytljnjpjnadlmhaa
open Go.RowKit
set_option linter.unusedVariables false

theorem step_append_own {P : Program} {w : World} {ops : Array Oper} {o : Oper} {a : Act} {K : Act → World → Prop} {Q : Exit → Act → World → Prop} {E : Prop} (hgd : o.guard = none) (s x : Operand) (t : TypeId)
    (ho : o.op = .call { callee := .builtin .append, args := #[s, x], argTypes := #[t, t] })
    (base : Nat) (e : TypeId) (i : TypeInfo) (z : Value) (size bytes : Nat) (ht : P.underlying t = some (.slice e)) (hi : P.info? e = some i) (hz : i.zero = some z)
    (hsize : i.size = size) (hby : i.bytes = bytes) (hzs : z.cells.size = size) (hsz : 0 < size)
    (v : Value) (n : Nat) (xs : List Value) (hs : a.eval s = v) (hown : w.ownsRow base e size v n xs)
    (ad : Addr) (m c : Nat) (news : List Value) (hx : a.eval x = .slice (some ad) m c) (hl : news.length = m * size) (hnews : ∀ j u, news[j]? = some u → w.cell? (ad.add j) = some u) (h1 : ∀ u ∈ news, u.oneCell' = true)
    (h63 : n + m ≤ maxLen) (hbytes : (n + m) * bytes ≤ 140737488355328) (hbase : base ≤ w.heap.size)
    (h : ∀ v' w', w'.ownsRow base e size v' (n + m) (xs ++ news) → w.grownBy w' v.ownBlock → (v' = .slice none 0 0 ↔ v = .slice none 0 0 ∧ m = 0) → K (a.put o.dst v') w') :
    if Region.wanted o (yielded ops a.tmps) = true then Oper.wp P o a w K Q else E := by
  have hw : Region.wanted o (yielded ops a.tmps) = true := by simp [Region.wanted, hgd]
  rw [if_pos hw]
  exact wp_append_own w s x t ho base e i z size bytes ht hi hz hsize hby hzs hsz v n xs hs hown ad m c news hx hl hnews h1 h63 hbytes hbase h
theorem run_append_empty {P : Program} {w : World} (base : Nat) (t ty e : TypeId) (i : TypeInfo) (size c : Nat) (ht : P.underlying t = some (.slice e)) (hi : P.info? e = some i)
    (v : Value) (n : Nat) (xs : List Value) (hown : w.ownsRow base e size v n xs) : (Builtin.append_ #[t, t] ty #[v, .slice none 0 c]).run P w = .ok v w := by
  rcases hown.2 with ⟨rfl, rfl⟩ | ⟨g, cap, cur, rfl, _, _, hnc, _⟩
  · simp [Builtin.append_, run_underlying ht, sizeOf, typeInfo, hi, Builtin.lenOf, Builtin.firstCells]
  · simp [Builtin.append_, run_underlying ht, sizeOf, typeInfo, hi, Builtin.lenOf, Builtin.firstCells, hnc, storeCells]
theorem step_append_none {P : Program} {w : World} {ops : Array Oper} {o : Oper} {a : Act} {K : Act → World → Prop} {Q : Exit → Act → World → Prop} {E : Prop} (hgd : o.guard = none) (s x : Operand) (t : TypeId)
    (ho : o.op = .call { callee := .builtin .append, args := #[s, x], argTypes := #[t, t] })
    (base : Nat) (e : TypeId) (i : TypeInfo) (size : Nat) (ht : P.underlying t = some (.slice e)) (hi : P.info? e = some i)
    (v : Value) (n : Nat) (xs : List Value) (hs : a.eval s = v) (hown : w.ownsRow base e size v n xs) (c : Nat) (hx : a.eval x = .slice none 0 c)
    (h : K (a.put o.dst v) w) :
    if Region.wanted o (yielded ops a.tmps) = true then Oper.wp P o a w K Q else E := by
  have hw : Region.wanted o (yielded ops a.tmps) = true := by simp [Region.wanted, hgd]
  rw [if_pos hw]
  have hrun := run_append_empty (P := P) (w := w) base t o.type e i size c ht hi v n xs hown
  unfold Oper.wp
  simp [execOp, ho, resolve, invoke, builtin, hs, hx, hrun, Result.andThen]
  exact h

theorem clist_one (us : List (Int × Int)) (n : Nat) : ∀ u ∈ clist us n, u.oneCell' = true := by
  intro u hu
  unfold clist at hu
  obtain ⟨j, _, rfl⟩ := List.mem_map.1 hu
  rfl
theorem clist_at {w : World} {g : Nat} {us : List (Int × Int)} (h : OwnT w g us.length (tcell us)) : ∀ j u, (clist us us.length)[j]? = some u → w.cell? ((⟨g, 0, none⟩ : Addr).add j) = some u := by
  intro j u hu
  have hj : j < us.length * 2 := by
    have := (List.getElem?_eq_some_iff.1 hu).1
    rwa [clist_length] at this
  rw [clist_get us us.length j hj] at hu
  have hadd : (⟨g, 0, none⟩ : Addr).add j = ⟨g, j, none⟩ := by unfold Addr.add; split <;> simp_all
  rw [hadd, h.1 j hj]; exact hu

theorem below_of_grown {W wb : World} {o : Obj} {r : Nat} (hg : ((W.alloc o).drew).grownBy wb (some r)) (hr : W.heap.size ≤ r) : Below W.heap.size W wb :=
  ⟨hg.os, hg.tape, hg.output, by have := hg.size; have e : ((W.alloc o).drew).heap.size = W.heap.size + 1 := by show (W.alloc o).heap.size = _; simp
                                 omega, fun k hk => (hg.block k (by show k < (W.alloc o).heap.size; simp; omega) (by simp; omega)).trans (Below.heap_alloc _ _ _ hk)⟩

theorem clist_in {w : World} {B b off : Nat} {us : List (Int × Int)} (h : TiesIn w B (some ⟨b, off, none⟩) us) : ∀ j u, (clist us us.length)[j]? = some u → w.cell? ((⟨b, off, none⟩ : Addr).add j) = some u := by
  intro j u hu
  have hj : j < us.length * 2 := by
    have := (List.getElem?_eq_some_iff.1 hu).1
    rwa [clist_length] at this
  rw [clist_get us us.length j hj] at hu
  obtain ⟨b', off', e, _, h0, h1⟩ := h (j / 2) (by omega)
  cases e
  have hadd : (⟨b, off, none⟩ : Addr).add j = ⟨b, off + j, none⟩ := by unfold Addr.add; split <;> simp_all
  rw [hadd]
  by_cases e : j % 2 = 0
  · have e2 : j = j / 2 * 2 := by omega
    rw [e2, tcell0] at hu
    rw [← hu, ← h0, ← e2]
  · have e2 : j = j / 2 * 2 + 1 := by omega
    rw [e2, tcell1] at hu
    rw [← hu, ← h1]
    congr 2; omega
theorem clist_opt {w : World} {B : Nat} {ad : Addr} {us : List (Int × Int)} (h : TiesIn w B (some ad) us) : ∀ j u, (clist us us.length)[j]? = some u → w.cell? (ad.add j) = some u := by
  intro j u hu
  have hj : 0 < us.length := by
    have := (List.getElem?_eq_some_iff.1 hu).1
    rw [clist_length] at this; omega
  obtain ⟨b, off, e, _⟩ := h 0 hj
  cases e
  exact clist_in h j u hu
set_option maxHeartbeats 800000 in
theorem l1Copy_in (K : Int) (ao : Option Addr) (cap : Nat) (us : List (Int × Int)) (w : World) (hl : us.length ≤ 66) (ht : TiesIn w w.heap.size ao us) :
    Calls Try.prog 69 #[.agg #[.int .i64 K, .slice ao us.length cap]] w fun e w' => ∃ ao' cap', e = .returned (.agg #[.int .i64 K, .slice ao' us.length cap']) ∧ w'.ownsRow (w.heap.size + 1 + 1) 37 2 (.slice ao' us.length cap') us.length (clist us us.length) ∧ Below w.heap.size w w' := by
  obtain ⟨i0, hi0, hz0, hz1, hz2⟩ := info_parts Try.infoTie
  have HI : Hid (Try.prog.info? 37 = some i0 ∧ i0.zero = some (.agg #[.int .i64 0, .int .i64 0]) ∧ i0.size = 2 ∧ i0.bytes = 16) := ⟨hi0, hz0, hz1, hz2⟩
  clear hi0 hz0 hz1 hz2
  have hao : (ao = none ∧ us.length = 0) ∨ ∃ ad, ao = some ad := by
    cases ao with
    | none =>
      refine Or.inl ⟨rfl, ?_⟩
      apply Decidable.byContradiction
      intro h0
      obtain ⟨b, off, e, _⟩ := ht 0 (by omega)
      cases e
    | some ad => exact Or.inr ⟨ad, rfl⟩
  rcases hao with ⟨rfl, h0⟩ | ⟨ad, rfl⟩
  · have hus : us = [] := List.length_eq_zero_iff.1 h0
    subst hus
    clear h0 hl
    go_enter Try.func69, Try.ntmps69
    go_wp2
    go_region_held3 (fun w' => w'.cell? ⟨w.heap.size, 0, none⟩ = some (.int .i64 K) ∧ w'.cell? ⟨w.heap.size, 1, none⟩ = some (.slice none 0 cap)) (first | (go_keep; done) | (simp; done)) ((refine step_append_none (by rfl) _ _ _ (by rfl) (w.heap.size) 37 i0 2 Try.underlying23 HI.out.1 (.slice (some ⟨w.heap.size + 1 + 1, 0, none⟩) 0 0) 0 [] (by rfl) (by simpa using (World.ownsRow_lit ((w.alloc (.cells #[.int .i64 K, .slice none 0 cap] 25)).alloc (.cells #[.int .i64 0, .slice none 0 0] 25)) #[] 0 (base := w.heap.size) (e := 37) (size := 2) (by simp; omega) (by simp) rfl).drew) cap (by rfl) ?_))
    go_wp2
    refine bodyPost_ret (v := .agg #[.int .i64 K, .slice (some ⟨w.heap.size + 1 + 1, 0, none⟩) 0 0]) ?_ rfl ⟨_, _, rfl, ?_, ?_⟩
    · simp [results, Try.results69, go_sem]
    · have e0 : clist ([] : List (Int × Int)) 0 = [] := rfl
      rw [e0]
      simpa using (World.ownsRow_lit ((w.alloc (.cells #[.int .i64 K, .slice none 0 cap] 25)).alloc (.cells #[.int .i64 K, .slice (some ⟨w.heap.size + 1 + 1, 0, none⟩) 0 0] 25)) #[] 0 (base := w.heap.size + 1 + 1) (e := 37) (size := 2) (by simp) (by simp) rfl).drew
    · exact (below_three _ _ _ _).drew
  · have hn := hideP (clist_length us us.length)
    have hoN := fun o p q => (ht.below (below_three w o p q) (Nat.le_refl _)).below (C := w.heap.size) (Below.refl _ _).drew (Nat.le_refl _)
    go_enter Try.func69, Try.ntmps69
    go_wp2
    go_region_held3 (fun w' => w'.cell? ⟨w.heap.size, 0, none⟩ = some (.int .i64 K) ∧ w'.cell? ⟨w.heap.size, 1, none⟩ = some (.slice (some ad) us.length cap)) (first | exact ⟨c0b, c1b⟩ | (go_keep; done)) ((refine step_append_own (by rfl) _ _ _ (by rfl) (w.heap.size + 1 + 1) 37 i0 _ 2 16 Try.underlying23 HI.out.1 HI.out.2.1 HI.out.2.2.1 HI.out.2.2.2 rfl (by omega) (.slice (some ⟨w.heap.size + 1 + 1, 0, none⟩) 0 0) 0 [] (by rfl) (by simpa using (World.ownsRow_lit ((w.alloc (.cells #[.int .i64 K, .slice (some ad) us.length cap] 25)).alloc (.cells #[.int .i64 0, .slice none 0 0] 25)) #[] 0 (base := w.heap.size + 1 + 1) (e := 37) (size := 2) (by simp) (by simp) rfl).drew) ad us.length cap (clist us us.length) (by rfl) (by rw [hn.out]) (clist_opt (hoN _ _ _)) (clist_one us us.length) (by unfold maxLen; omega) (by omega) (by simp) ?_; intro v' wb hown1 hgrow hnil; simp only [Nat.zero_add, List.nil_append] at hown1; obtain ⟨ao', cap', rfl⟩ := own_slice hown1; obtain ⟨c0b, c1b, r0b, r1b, f0b, f1b, hzb, hbb⟩ := (Boxes.start (below_of_grown hgrow (by simp)) : Boxes w wb K (.slice (some ad) us.length cap))))
    have HO := hideP (ownsRow_setCell_below (ownsRow_setCell_below hown1 (a := ⟨w.heap.size + 1, 0, none⟩) (by show w.heap.size + 1 < _; omega) (.int .i64 K)) (a := ⟨w.heap.size + 1, 1, none⟩) (by show w.heap.size + 1 < _; omega) (.slice ao' us.length cap'))
    clear hown1 hgrow hnil hoN
    go_wp2
    refine bodyPost_ret (v := .agg #[.int .i64 K, .slice ao' us.length cap']) ?_ rfl ⟨ao', cap', rfl, ?_, ?_⟩
    · simp [results, Try.results69, go_sem, r0b, r1b]
    · exact HO.out
    · exact (hbb.setCell (by simp) _).setCell (by simp) _
theorem l1Copy_any (lo hi : Nat) (K : Int) (ao : Option Addr) (cap : Nat) (us : List (Int × Int)) (w : World) (hl : us.length ≤ 66) (ho : OwnN w lo hi ao us.length (tcell us)) :
    Calls Try.prog 69 #[.agg #[.int .i64 K, .slice ao us.length cap]] w fun e w' => ∃ ao' cap', e = .returned (.agg #[.int .i64 K, .slice ao' us.length cap']) ∧ w'.ownsRow (w.heap.size + 1 + 1) 37 2 (.slice ao' us.length cap') us.length (clist us us.length) ∧ Below w.heap.size w w' := by
  refine l1Copy_in K ao cap us w hl ?_
  intro i hi
  rcases ho with ⟨h0, _⟩ | ⟨g, rfl, _, _, h3⟩
  · omega
  · refine ⟨g, 0, rfl, h3.2.2, ?_, ?_⟩
    · rw [Nat.zero_add, h3.1 (i * 2) (by omega), tcell0]
    · rw [Nat.zero_add, h3.1 (i * 2 + 1) (by omega), tcell1]

end Go.Proofs.Ytljnjpjnadlmhaa

/- Walk of spec.l71Spoil. -/
namespace Go.Proofs.Ytljnjpjnadlmhaa
open Go.RowKit
set_option linter.unusedVariables false

theorem own_same {w w' : World} {base : Nat} {e : TypeId} {size : Nat} {v : Value} {n : Nat} {xs : List Value} (h : w.ownsRow base e size v n xs) (hb : ∀ g, base ≤ g → g < w.heap.size → w'.heap[g]? = w.heap[g]?) : w'.ownsRow base e size v n xs := by
  refine ⟨h.1, ?_⟩
  rcases h.2 with h1 | ⟨g, cap, cur, h1, h2, h3, h4⟩
  · exact Or.inl h1
  · exact Or.inr ⟨g, cap, cur, h1, h2, (hb g h2 (Array.getElem?_eq_some_iff.1 h3).1).trans h3, h4⟩

/-- a net in the box of a function that began in w, being spoilt; its answer's cell behind it -/
structure SI (w wr : World) (R : Nat) (bo : Option Addr) (bn bcap p : Nat) (K : Int) (ao : Option Addr) (cap : Nat) (us : List (Int × Int)) : Prop where
  a0 : wr.cell? ⟨w.heap.size, 0, none⟩ = some (.int .i64 K)
  a1 : wr.cell? ⟨w.heap.size, 1, none⟩ = some (.slice ao us.length cap)
  f0 : wr.frozen? ⟨w.heap.size, 0, none⟩ = false
  f1 : wr.frozen? ⟨w.heap.size, 1, none⟩ = false
  r0 : wr.cell? ⟨w.heap.size + 1, 0, none⟩ = some (.int .i64 0)
  r1 : wr.cell? ⟨w.heap.size + 1, 1, none⟩ = some (.slice none 0 0)
  g0 : wr.frozen? ⟨w.heap.size + 1, 0, none⟩ = false
  g1 : wr.frozen? ⟨w.heap.size + 1, 1, none⟩ = false
  own : wr.ownsRow (w.heap.size + 1 + 1) 37 2 (.slice ao us.length cap) us.length (clist us us.length)
  rd : Rdr wr R bo bn bcap p
  tr : Turned R (R + 1) w wr
  ra : R < w.heap.size
  lt : w.heap.size + 1 < wr.heap.size
theorem SI.turn {w wr w' : World} {R : Nat} {bo : Option Addr} {bn bcap p p' : Nat} {K : Int} {ao : Option Addr} {cap : Nat} {us : List (Int × Int)} (h : SI w wr R bo bn bcap p K ao cap us) (ht : Turned R (R + 1) wr w') (hr : Rdr w' R bo bn bcap p') : SI w w' R bo bn bcap p' K ao cap us := by
  have h1 := h.ra
  have h3 := h.lt
  have c := fun (b o : Nat) (hb : b < wr.heap.size) (hb2 : R + 1 ≤ b) => ht.cell (p := ⟨b, o, none⟩) hb (Or.inr hb2)
  have f := fun (b o : Nat) (hb : b < wr.heap.size) (hb2 : R + 1 ≤ b) => ht.frozen (p := ⟨b, o, none⟩) hb (Or.inr hb2)
  exact ⟨(c _ _ (by omega) (by omega)).trans h.a0, (c _ _ (by omega) (by omega)).trans h.a1, (f _ _ (by omega) (by omega)).trans h.f0, (f _ _ (by omega) (by omega)).trans h.f1,
    (c _ _ (by omega) (by omega)).trans h.r0, (c _ _ (by omega) (by omega)).trans h.r1, (f _ _ (by omega) (by omega)).trans h.g0, (f _ _ (by omega) (by omega)).trans h.g1,
    own_same h.own (fun g hg hl => ht.block g hl (Or.inr (by omega))), hr, h.tr.trans ht, h1, Nat.lt_of_lt_of_le h3 ht.size⟩
theorem SI.next {w wr w' : World} {R : Nat} {bo : Option Addr} {bn bcap p : Nat} {K : Int} {ao : Option Addr} {cap : Nat} {us : List (Int × Int)} (h : SI w wr R bo bn bcap p K ao cap us) (hb : Below wr.heap.size wr w') : SI w w' R bo bn bcap p K ao cap us :=
  h.turn (Turned.of_below hb) (h.rd.next hb)
/-- cells of the box are stored -/
theorem SI.knots {w wr : World} {R : Nat} {bo : Option Addr} {bn bcap p : Nat} {K : Int} {ao : Option Addr} {cap : Nat} {us : List (Int × Int)} (h : SI w wr R bo bn bcap p K ao cap us) (K' : Int) : SI w (wr.setCell ⟨w.heap.size, 0, none⟩ (.int .i64 K')) R bo bn bcap p K' ao cap us := by
  have h1 := h.ra
  have h3 := h.lt
  have ea : ∀ k, k ≠ w.heap.size → (wr.setCell ⟨w.heap.size, 0, none⟩ (.int .i64 K')).heap[k]? = wr.heap[k]? := fun k hk => Below.heap_setCell _ _ _ _ hk
  have hsz : (wr.setCell ⟨w.heap.size, 0, none⟩ (.int .i64 K')).heap.size = wr.heap.size := by simp [World.setCell]
  refine ⟨World.cell?_setCell_same _ _ _ h.a0, (World.cell?_setCell_other _ _ _ _ (by simp)).trans h.a1, by rw [World.frozen?_setCell]; exact h.f0, by rw [World.frozen?_setCell]; exact h.f1,
    (World.cell?_of_block (a := ⟨w.heap.size + 1, 0, none⟩) (ea _ (by show w.heap.size + 1 ≠ _; omega))).trans h.r0, (World.cell?_of_block (a := ⟨w.heap.size + 1, 1, none⟩) (ea _ (by show w.heap.size + 1 ≠ _; omega))).trans h.r1, (World.frozen?_of_block (a := ⟨w.heap.size + 1, 0, none⟩) (ea _ (by show w.heap.size + 1 ≠ _; omega))).trans h.g0, (World.frozen?_of_block (a := ⟨w.heap.size + 1, 1, none⟩) (ea _ (by show w.heap.size + 1 ≠ _; omega))).trans h.g1,
    own_same h.own (fun g hg _ => ea g (by omega)), ?_, h.tr.set (Nat.le_refl _) _, h1, by rw [hsz]; exact h3⟩
  refine ⟨(World.cell?_of_block (a := ⟨R, 0, none⟩) (ea _ (by show R ≠ _; omega))).trans h.rd.c0, (World.cell?_of_block (a := ⟨R, 1, none⟩) (ea _ (by show R ≠ _; omega))).trans h.rd.c1, (World.frozen?_of_block (a := ⟨R, 1, none⟩) (ea _ (by show R ≠ _; omega))).trans h.rd.f1, by rw [hsz]; exact h.rd.lt, h.rd.short, fun i hi => ?_⟩
  obtain ⟨b, off, v, e, q1, q3, q4⟩ := h.rd.bytes i hi
  exact ⟨b, off, v, e, q1, (World.cell?_of_block (a := ⟨b, off + i, none⟩) (ea _ (by show b ≠ _; omega))).trans q3, q4⟩
/-- the box's list is stored anew: a row of the call's own, of a world that has grown by an append -/
theorem SI.list {w wr wb : World} {R : Nat} {bo : Option Addr} {bn bcap p : Nat} {K : Int} {ao : Option Addr} {cap : Nat} {us : List (Int × Int)} (h : SI w wr R bo bn bcap p K ao cap us) {r : Option Nat} (hg : wr.grownBy wb r) (hr : ∀ k, r = some k → w.heap.size + 1 + 1 ≤ k) {ao' : Option Addr} {cap' : Nat} {us' : List (Int × Int)}
    (ho : wb.ownsRow (w.heap.size + 1 + 1) 37 2 (.slice ao' us'.length cap') us'.length (clist us' us'.length)) : SI w (wb.setCell ⟨w.heap.size, 1, none⟩ (.slice ao' us'.length cap')) R bo bn bcap p K ao' cap' us' := by
  have h1 := h.ra
  have h3 := h.lt
  have eb : ∀ k, k < w.heap.size + 1 + 1 → wb.heap[k]? = wr.heap[k]? := fun k hk => hg.block k (by omega) (fun e => by have := hr k e.symm; omega)
  have ea : ∀ k, k ≠ w.heap.size → (wb.setCell ⟨w.heap.size, 1, none⟩ (.slice ao' us'.length cap')).heap[k]? = wb.heap[k]? := fun k hk => Below.heap_setCell _ _ _ _ hk
  have hsz : (wb.setCell ⟨w.heap.size, 1, none⟩ (.slice ao' us'.length cap')).heap.size = wb.heap.size := by simp [World.setCell]
  have cb := fun (b o : Nat) (hb : b < w.heap.size + 1 + 1) => World.cell?_of_block (a := ⟨b, o, none⟩) (eb b hb)
  have fb := fun (b o : Nat) (hb : b < w.heap.size + 1 + 1) => World.frozen?_of_block (a := ⟨b, o, none⟩) (eb b hb)
  have ce := fun (b o : Nat) (hb : b < w.heap.size + 1 + 1) (hn : b ≠ w.heap.size) => World.cell?_of_block (a := ⟨b, o, none⟩) ((ea b hn).trans (eb b hb))
  have fe := fun (b o : Nat) (hb : b < w.heap.size + 1 + 1) (hn : b ≠ w.heap.size) => World.frozen?_of_block (a := ⟨b, o, none⟩) ((ea b hn).trans (eb b hb))
  refine ⟨(World.cell?_setCell_other _ _ _ _ (by simp)).trans ((cb _ _ (by omega)).trans h.a0), World.cell?_setCell_same _ _ _ ((cb _ _ (by omega)).trans h.a1), by rw [World.frozen?_setCell]; exact (fb _ _ (by omega)).trans h.f0, by rw [World.frozen?_setCell]; exact (fb _ _ (by omega)).trans h.f1,
    (ce _ _ (by omega) (by omega)).trans h.r0, (ce _ _ (by omega) (by omega)).trans h.r1, (fe _ _ (by omega) (by omega)).trans h.g0, (fe _ _ (by omega) (by omega)).trans h.g1,
    own_same ho (fun g hg _ => ea g (by omega)), ?_, ?_, h1, by rw [hsz]; have := hg.size; omega⟩
  · refine ⟨(ce R 0 (by omega) (by omega)).trans h.rd.c0, (ce R 1 (by omega) (by omega)).trans h.rd.c1, (fe R 1 (by omega) (by omega)).trans h.rd.f1, by rw [hsz]; have := hg.size; have := h.rd.lt; omega, h.rd.short, fun i hi => ?_⟩
    obtain ⟨b, off, v, e, q1, q3, q4⟩ := h.rd.bytes i hi
    exact ⟨b, off, v, e, q1, (ce b (off + i) (by omega) (by omega)).trans q3, q4⟩
  · exact Turned.set ⟨hg.os.trans h.tr.os, hg.tape.trans h.tr.tape, hg.output.trans h.tr.output, Nat.le_trans h.tr.size hg.size, fun k hk ho => (eb k (by omega)).trans (h.tr.block k hk ho)⟩ (Nat.le_refl _) _

end Go.Proofs.Ytljnjpjnadlmhaa

/- Walk of spec.l71Spoil. -/
namespace Go.Proofs.Ytljnjpjnadlmhaa
open Go.RowKit
set_option linter.unusedVariables false

theorem own_low {w : World} {base base' : Nat} {e : TypeId} {size : Nat} {v : Value} {n : Nat} {xs : List Value} (h : w.ownsRow base e size v n xs) (hb : base' ≤ base) : w.ownsRow base' e size v n xs := by
  refine ⟨h.1, ?_⟩
  rcases h.2 with h1 | ⟨g, cap, cur, h1, h2, h3, h4⟩
  · exact Or.inl h1
  · exact Or.inr ⟨g, cap, cur, h1, Nat.le_trans hb h2, h3, h4⟩

/-- the copy is stored in the box -/
theorem SI.first {w w2 : World} {R : Nat} {bo : Option Addr} {bn bcap p : Nat} {K : Int} {v : Value} {t t' : TypeId} {ao : Option Addr} {cap : Nat} {us : List (Int × Int)} (hr : Rdr w R bo bn bcap p)
    (hb : Below ((w.alloc (.cells #[.int .i64 K, v] t)).alloc (.cells #[.int .i64 0, .slice none 0 0] t')).heap.size ((w.alloc (.cells #[.int .i64 K, v] t)).alloc (.cells #[.int .i64 0, .slice none 0 0] t')) w2)
    (ho : w2.ownsRow (((w.alloc (.cells #[.int .i64 K, v] t)).alloc (.cells #[.int .i64 0, .slice none 0 0] t')).heap.size + 1 + 1) 37 2 (.slice ao us.length cap) us.length (clist us us.length)) :
    SI w ((w2.setCell ⟨w.heap.size, 0, none⟩ (.int .i64 K)).setCell ⟨w.heap.size, 1, none⟩ (.slice ao us.length cap)) R bo bn bcap p K ao cap us := by
  have hR := hr.lt
  obtain ⟨c0, c1, r0, r1, f0, f1, hz, bel⟩ := Boxes.start hb
  have ea : ∀ k, k ≠ w.heap.size → ((w2.setCell ⟨w.heap.size, 0, none⟩ (.int .i64 K)).setCell ⟨w.heap.size, 1, none⟩ (.slice ao us.length cap)).heap[k]? = w2.heap[k]? := fun k hk => (Below.heap_setCell _ _ _ _ hk).trans (Below.heap_setCell _ _ _ _ hk)
  have hsz : ((w2.setCell ⟨w.heap.size, 0, none⟩ (.int .i64 K)).setCell ⟨w.heap.size, 1, none⟩ (.slice ao us.length cap)).heap.size = w2.heap.size := by simp [World.setCell]
  have fz : ∀ o, w2.frozen? ⟨w.heap.size, o, none⟩ = ((w.alloc (.cells #[.int .i64 K, v] t)).alloc (.cells #[.int .i64 0, .slice none 0 0] t')).frozen? ⟨w.heap.size, o, none⟩ := fun o => World.frozen?_of_block (hb.block _ (by simp; omega))
  have fz0 := (fz 0).trans (by simp : _ = false)
  have fz1 := (fz 1).trans (by simp : _ = false)
  have hrd : Rdr w2 R bo bn bcap p := hr.next bel
  have ce := fun (b o : Nat) (hn : b ≠ w.heap.size) => World.cell?_of_block (a := ⟨b, o, none⟩) (ea b hn)
  have fe := fun (b o : Nat) (hn : b ≠ w.heap.size) => World.frozen?_of_block (a := ⟨b, o, none⟩) (ea b hn)
  refine ⟨(World.cell?_setCell_other _ _ _ _ (by simp)).trans (World.cell?_setCell_same _ _ _ c0), World.cell?_setCell_same _ _ _ ((World.cell?_setCell_other _ _ _ _ (by simp)).trans c1), by rw [World.frozen?_setCell, World.frozen?_setCell]; exact fz0, by rw [World.frozen?_setCell, World.frozen?_setCell]; exact fz1,
    (ce _ _ (by omega)).trans r0, (ce _ _ (by omega)).trans r1, (fe _ _ (by omega)).trans f0, (fe _ _ (by omega)).trans f1,
    own_same (own_low ho (by simp)) (fun g hg _ => ea g (by omega)), ?_, ((Turned.of_below bel).set (Nat.le_refl _) _).set (Nat.le_refl _) _, hR, by rw [hsz]; exact hz⟩
  refine ⟨(ce R 0 (by omega)).trans hrd.c0, (ce R 1 (by omega)).trans hrd.c1, (fe R 1 (by omega)).trans hrd.f1, by rw [hsz]; exact hrd.lt, hrd.short, fun i hi => ?_⟩
  obtain ⟨b, off, v, e, q1, q3, q4⟩ := hr.bytes i hi
  exact ⟨b, off, v, e, q1, (ce b (off + i) (by omega)).trans ((World.cell?_of_block (a := ⟨b, off + i, none⟩) (bel.block b (by omega))).trans q3), q4⟩
/-- what is spoilt: some net, of memory of its own -/
def Spoilt (w : World) (R : Nat) (bo : Option Addr) (bn bcap p : Nat) (e : Ending) (w' : World) : Prop :=
  ∃ (K' : Int) (ao' : Option Addr) (cap' : Nat) (us' : List (Int × Int)), e = .returned (.agg #[.int .i64 K', .slice ao' us'.length cap']) ∧ -1 ≤ K' ∧ K' ≤ 9 ∧ us'.length ≤ 66 ∧ w'.ownsRow (w.heap.size + 1 + 1) 37 2 (.slice ao' us'.length cap') us'.length (clist us' us'.length) ∧ Stepped w' R bo bn bcap p 4 ∧ Turned R (R + 1) w w'
/-- the box goes into the answer's cell -/
theorem SI.done {w wr : World} {R : Nat} {bo : Option Addr} {bn bcap p p' : Nat} {K : Int} {ao : Option Addr} {cap : Nat} {us : List (Int × Int)} (h : SI w wr R bo bn bcap p' K ao cap us) {n : Nat} (hn : us.length = n) (hp : p' ≤ p + 4) (hK : -1 ≤ K ∧ K ≤ 9) (hl : n ≤ 66) :
    Spoilt w R bo bn bcap p (.returned (.agg #[.int .i64 K, .slice ao n cap])) ((wr.setCell ⟨w.heap.size + 1, 0, none⟩ (.int .i64 K)).setCell ⟨w.heap.size + 1, 1, none⟩ (.slice ao n cap)) := by
  subst hn
  obtain ⟨w', hw'⟩ : ∃ w', w' = (wr.setCell ⟨w.heap.size + 1, 0, none⟩ (.int .i64 K)).setCell ⟨w.heap.size + 1, 1, none⟩ (.slice ao us.length cap) := ⟨_, rfl⟩
  have h1 := h.ra
  have ea : ∀ k, k ≠ w.heap.size + 1 → w'.heap[k]? = wr.heap[k]? := fun k hk => by rw [hw']; exact (Below.heap_setCell _ _ _ _ hk).trans (Below.heap_setCell _ _ _ _ hk)
  have hsz : w'.heap.size = wr.heap.size := by simp [hw', World.setCell]
  have ht : Turned R (R + 1) w w' := by rw [hw']; exact (h.tr.set (p := ⟨w.heap.size + 1, 0, none⟩) (by simp) _).set (p := ⟨w.heap.size + 1, 1, none⟩) (by simp) _
  rw [← hw']
  refine ⟨K, ao, cap, us, rfl, hK.1, hK.2, hl, own_same h.own (fun g hg _ => ea g (by omega)), ⟨p', hp, ?_⟩, ht⟩
  refine ⟨(World.cell?_of_block (a := ⟨R, 0, none⟩) (ea _ (by show R ≠ _; omega))).trans h.rd.c0, (World.cell?_of_block (a := ⟨R, 1, none⟩) (ea _ (by show R ≠ _; omega))).trans h.rd.c1, (World.frozen?_of_block (a := ⟨R, 1, none⟩) (ea _ (by show R ≠ _; omega))).trans h.rd.f1, by rw [hsz]; exact h.rd.lt, h.rd.short, fun i hi => ?_⟩
  obtain ⟨b, off, v, e, q1, q3, q4⟩ := h.rd.bytes i hi
  exact ⟨b, off, v, e, q1, (World.cell?_of_block (a := ⟨b, off + i, none⟩) (ea b (by omega))).trans q3, q4⟩
/-- a tie is appended to the box's list -/
theorem SI.push {w wr wa wb : World} {R : Nat} {bo : Option Addr} {bn bcap p : Nat} {K : Int} {ao : Option Addr} {cap : Nat} {us : List (Int × Int)} (h : SI w wr R bo bn bcap p K ao cap us) (ha : Below wr.heap.size wr wa) {x : Int × Int} {g cap' : Nat}
    (ho : wb.ownsRow (w.heap.size + 1 + 1) 37 2 (.slice (some ⟨g, 0, none⟩) (us.length + 1) cap') (us.length + 1) (clist us us.length ++ [.int .i64 x.1, .int .i64 x.2])) (hg : wa.grownBy wb (Value.slice ao us.length cap).ownBlock) :
    SI w (wb.setCell ⟨w.heap.size, 1, none⟩ (.slice (some ⟨g, 0, none⟩) (us.length + 1) cap')) R bo bn bcap p K (some ⟨g, 0, none⟩) cap' (us ++ [x]) := by
  have e : (us ++ [x]).length = us.length + 1 := by simp
  have := (h.next ha).list hg (own_ge h.own) (ao' := some ⟨g, 0, none⟩) (cap' := cap') (us' := us ++ [x]) (by rw [clist_snoc, e]; exact ho)
  rw [e] at this
  exact this

theorem SI.far {w wr wa wb : World} {R : Nat} {bo : Option Addr} {bn bcap p : Nat} {K : Int} {ao : Option Addr} {cap : Nat} {us : List (Int × Int)} (h : SI w wr R bo bn bcap p K ao cap us) (ha : Below wr.heap.size wr wa) (hg : wa.grownBy wb (Value.slice ao us.length cap).ownBlock) :
    wb.cell? ⟨w.heap.size, 1, none⟩ = some (.slice ao us.length cap) ∧ wb.frozen? ⟨w.heap.size, 1, none⟩ = false ∧ wb.cell? ⟨w.heap.size, 0, none⟩ = some (.int .i64 K) ∧ wb.cell? ⟨w.heap.size + 1, 0, none⟩ = some (.int .i64 0) ∧ wb.cell? ⟨w.heap.size + 1, 1, none⟩ = some (.slice none 0 0) ∧ wb.frozen? ⟨w.heap.size + 1, 0, none⟩ = false ∧ wb.frozen? ⟨w.heap.size + 1, 1, none⟩ = false := by
  have h3 := h.lt
  have hs := ha.size
  have eb : ∀ k, k < w.heap.size + 1 + 1 → wb.heap[k]? = wr.heap[k]? := fun k hk => (hg.block _ (by omega) (fun e => by have := own_ge h.own _ e.symm; omega)).trans (ha.block _ (by omega))
  have ce := fun (b o : Nat) (hb : b < w.heap.size + 1 + 1) => World.cell?_of_block (a := ⟨b, o, none⟩) (eb b hb)
  have fe := fun (b o : Nat) (hb : b < w.heap.size + 1 + 1) => World.frozen?_of_block (a := ⟨b, o, none⟩) (eb b hb)
  exact ⟨(ce _ _ (by omega)).trans h.a1, (fe _ _ (by omega)).trans h.f1, (ce _ _ (by omega)).trans h.a0, (ce _ _ (by omega)).trans h.r0, (ce _ _ (by omega)).trans h.r1, (fe _ _ (by omega)).trans h.g0, (fe _ _ (by omega)).trans h.g1⟩

theorem clist_cons (us : List (Int × Int)) (x : Int × Int) (n : Nat) : clist (x :: us) (1 + n) = [.int .i64 x.1, .int .i64 x.2] ++ clist us n := by
  apply List.ext_getElem?
  intro j
  by_cases hj : j < (1 + n) * 2
  · rw [clist_get _ _ _ hj]
    by_cases h2 : j < 2
    · have : j = 0 ∨ j = 1 := by omega
      rcases this with rfl | rfl <;> simp [tcell, tA, tB]
    · rw [List.getElem?_append_right (by simp; omega), clist_get _ _ _ (by simp; omega)]
      obtain ⟨i, rfl⟩ : ∃ i, j = i + 2 := ⟨j - 2, by omega⟩
      have e1 : (i + 2) % 2 = i % 2 := by omega
      have e2 : (i + 2) / 2 = i / 2 + 1 := by omega
      simp [tcell, tA, tB, e1, e2]
  · rw [List.getElem?_eq_none (by rw [clist_length]; omega), List.getElem?_eq_none (by simp [clist_length]; omega)]
theorem clist_swap (us : List (Int × Int)) (n k : Nat) (x y : Int) (hk : k < us.length) : ((clist us n).set (k * 2) (.int .i64 x)).set (k * 2 + 1) (.int .i64 y) = clist (us.set k (x, y)) n := by
  apply List.ext_getElem?
  intro j
  by_cases hj : j < n * 2
  · rw [clist_get _ _ _ hj, List.getElem?_set, List.getElem?_set, List.length_set, clist_length]
    by_cases h1 : k * 2 + 1 = j
    · have e1 : j % 2 = 1 := by omega
      have e2 : j / 2 = k := by omega
      simp [h1, hj, tcell, tB, e1, e2, hk]
    · by_cases h0 : k * 2 = j
      · have e1 : j % 2 = 0 := by omega
        have e2 : j / 2 = k := by omega
        simp [h0, hj, tcell, tA, e1, e2, hk]
      · have e2 : k ≠ j / 2 := by omega
        rw [if_neg h1, if_neg h0, clist_get _ _ _ hj]
        simp [tcell, tA, tB, List.getElem?_set_ne e2]
  · rw [List.getElem?_eq_none (by simp [clist_length]; omega), List.getElem?_eq_none (by rw [clist_length]; omega)]
/-- a tie of the box's list is turned round -/
theorem SI.swap {w wr : World} {R : Nat} {bo : Option Addr} {bn bcap p : Nat} {K : Int} {g : Nat} {cap : Nat} {us : List (Int × Int)} (h : SI w wr R bo bn bcap p K (some ⟨g, 0, none⟩) cap us) {k : Nat} (hk : k < us.length) (x y : Int) :
    SI w ((wr.setCell ⟨g, k * 2, none⟩ (.int .i64 x)).setCell ⟨g, k * 2 + 1, none⟩ (.int .i64 y)) R bo bn bcap p K (some ⟨g, 0, none⟩) cap (us.set k (x, y)) := by
  have h1 := h.ra
  have hge := own_ge h.own g rfl
  obtain ⟨o1, g1⟩ := h.own.stored (k * 2) (.int .i64 x)
  obtain ⟨o2, g2⟩ := o1.stored (k * 2 + 1) (.int .i64 y)
  rw [clist_swap us us.length k x y hk] at o2
  have ea : ∀ b, b ≠ g → ((wr.setCell ⟨g, k * 2, none⟩ (.int .i64 x)).setCell ⟨g, k * 2 + 1, none⟩ (.int .i64 y)).heap[b]? = wr.heap[b]? := fun b hb => (Below.heap_setCell _ _ _ _ hb).trans (Below.heap_setCell _ _ _ _ hb)
  have hsz : ((wr.setCell ⟨g, k * 2, none⟩ (.int .i64 x)).setCell ⟨g, k * 2 + 1, none⟩ (.int .i64 y)).heap.size = wr.heap.size := by simp [World.setCell]
  have ce := fun (b o : Nat) (hn : b ≠ g) => World.cell?_of_block (a := ⟨b, o, none⟩) (ea b hn)
  have fe := fun (b o : Nat) (hn : b ≠ g) => World.frozen?_of_block (a := ⟨b, o, none⟩) (ea b hn)
  have el : (us.set k (x, y)).length = us.length := by simp
  refine ⟨(ce _ _ (by omega)).trans h.a0, by rw [el]; exact (ce _ _ (by omega)).trans h.a1, (fe _ _ (by omega)).trans h.f0, (fe _ _ (by omega)).trans h.f1, (ce _ _ (by omega)).trans h.r0, (ce _ _ (by omega)).trans h.r1, (fe _ _ (by omega)).trans h.g0, (fe _ _ (by omega)).trans h.g1,
    by rw [el]; exact o2, ?_, (h.tr.set (p := ⟨g, k * 2, none⟩) (by show w.heap.size ≤ g; omega) _).set (p := ⟨g, k * 2 + 1, none⟩) (by show w.heap.size ≤ g; omega) _, h1, by rw [hsz]; exact h.lt⟩
  refine ⟨(ce R 0 (by omega)).trans h.rd.c0, (ce R 1 (by omega)).trans h.rd.c1, (fe R 1 (by omega)).trans h.rd.f1, by rw [hsz]; exact h.rd.lt, h.rd.short, fun i hi => ?_⟩
  obtain ⟨b, off, v, e, q1, q3, q4⟩ := h.rd.bytes i hi
  exact ⟨b, off, v, e, q1, (ce b (off + i) (by omega)).trans q3, q4⟩
theorem SI.row {w wr : World} {R : Nat} {bo : Option Addr} {bn bcap p : Nat} {K : Int} {g cap : Nat} {us : List (Int × Int)} (h : SI w wr R bo bn bcap p K (some ⟨g, 0, none⟩) cap us) {k : Nat} (hk : k < us.length) :
    wr.cell? ⟨g, k * 2, none⟩ = some (.int .i64 (tA us k)) ∧ wr.cell? ⟨g, k * 2 + 1, none⟩ = some (.int .i64 (tB us k)) ∧ wr.frozen? ⟨g, k * 2, none⟩ = false ∧ wr.frozen? ⟨g, k * 2 + 1, none⟩ = false := by
  refine ⟨?_, ?_, h.own.frozenAt _, h.own.frozenAt _⟩
  · rw [h.own.cellAt _ (by omega), clist_get _ _ _ (by omega), tcell0]
  · rw [h.own.cellAt _ (by omega), clist_get _ _ _ (by omega), tcell1]

/-- the world has grown by an append to a row of this call -/
theorem SI.apart {w wr wa wb : World} {R : Nat} {bo : Option Addr} {bn bcap p : Nat} {K : Int} {ao : Option Addr} {cap : Nat} {us : List (Int × Int)} (h : SI w wr R bo bn bcap p K ao cap us) (ha : Below wr.heap.size wr wa) {r : Nat} (hg : wa.grownBy wb (some r)) (hr : w.heap.size + 1 + 1 ≤ r) :
    wb.cell? ⟨w.heap.size, 1, none⟩ = some (.slice ao us.length cap) ∧ wb.frozen? ⟨w.heap.size, 1, none⟩ = false ∧ wb.cell? ⟨w.heap.size, 0, none⟩ = some (.int .i64 K) ∧ wb.cell? ⟨w.heap.size + 1, 0, none⟩ = some (.int .i64 0) ∧ wb.cell? ⟨w.heap.size + 1, 1, none⟩ = some (.slice none 0 0) ∧ wb.frozen? ⟨w.heap.size + 1, 0, none⟩ = false ∧ wb.frozen? ⟨w.heap.size + 1, 1, none⟩ = false := by
  have h3 := h.lt
  have hs := ha.size
  have eb : ∀ k, k < w.heap.size + 1 + 1 → wb.heap[k]? = wr.heap[k]? := fun k hk => (hg.block _ (by omega) (by simp; omega)).trans (ha.block _ (by omega))
  have ce := fun (b o : Nat) (hb : b < w.heap.size + 1 + 1) => World.cell?_of_block (a := ⟨b, o, none⟩) (eb b hb)
  have fe := fun (b o : Nat) (hb : b < w.heap.size + 1 + 1) => World.frozen?_of_block (a := ⟨b, o, none⟩) (eb b hb)
  exact ⟨(ce _ _ (by omega)).trans h.a1, (fe _ _ (by omega)).trans h.f1, (ce _ _ (by omega)).trans h.a0, (ce _ _ (by omega)).trans h.r0, (ce _ _ (by omega)).trans h.r1, (fe _ _ (by omega)).trans h.g0, (fe _ _ (by omega)).trans h.g1⟩
/-- the box's list behind a tie, in a new row -/
theorem SI.front {w wr wa wb : World} {R : Nat} {bo : Option Addr} {bn bcap p : Nat} {K : Int} {ao : Option Addr} {cap : Nat} {us : List (Int × Int)} (h : SI w wr R bo bn bcap p K ao cap us) (ha : Below wr.heap.size wr wa) {x : Int × Int} {ao' : Option Addr} {cap' r : Nat}
    (ho : wb.ownsRow (w.heap.size + 1 + 1) 37 2 (.slice ao' (1 + us.length) cap') (1 + us.length) ([.int .i64 x.1, .int .i64 x.2] ++ clist us us.length)) (hg : wa.grownBy wb (some r)) (hr : r = wr.heap.size) :
    SI w (wb.setCell ⟨w.heap.size, 1, none⟩ (.slice ao' (1 + us.length) cap')) R bo bn bcap p K ao' cap' (x :: us) := by
  have e : (x :: us).length = 1 + us.length := by simp; omega
  have h3 := h.lt
  have := (h.next ha).list hg (fun k hk => by cases hk; omega) (ao' := ao') (cap' := cap') (us' := x :: us) (by rw [e, clist_cons]; exact ho)
  rw [e] at this
  exact this

theorem wpList_append_none {P : Program} {w : World} {ops : Array Oper} {rest : List Oper} {o : Oper} {a : Act} {Q : Exit → Act → World → Prop} (s x : Operand) (t : TypeId)
    (ho : o.guard = none ∧ o.op = .call { callee := .builtin .append, args := #[s, x], argTypes := #[t, t] })
    (base : Nat) (e : TypeId) (i : TypeInfo) (size : Nat) (ht : P.underlying t = some (.slice e)) (hi : P.info? e = some i)
    (v : Value) (n : Nat) (xs : List Value) (hs : a.eval s = v) (hown : w.ownsRow base e size v n xs) (hx : a.eval x = .slice none 0 0)
    (h : wpList P ops Q rest (a.put o.dst v) w) : wpList P ops Q (o :: rest) a w :=
  wpList_plain ho.1 fun K hK => by
    have hrun := run_append_owned_none (P := P) (w := w) base t o.type e i size ht hi v n xs hown
    unfold Oper.wp
    simp [execOp, ho.2, resolve, invoke, builtin, hs, hx, hrun, Result.andThen]
    exact hK _ _ h

def sel5 (y : Int) : Int := if y = 0 then -1 else if y = 1 then 0 else if y = 2 then 1 else if y = 3 then 8 else 9
theorem sel5_in (y : Int) : -1 ≤ sel5 y ∧ sel5 y ≤ 9 := by unfold sel5; repeat' split
                                                           all_goals omega
theorem sel5_cell (w : World) (y : Int) (t : TypeId) (h0 : 0 ≤ y) (h3 : y < 5) : (w.alloc (.cells #[.int .i64 (-1), .int .i64 0, .int .i64 1, .int .i64 8, .int .i64 9] t)).cell? ⟨w.heap.size, y.toNat, none⟩ = some (.int .i64 (sel5 y)) := by
  rw [World.cell?_alloc_at _ _ _ _ rfl]
  have : y = 0 ∨ y = 1 ∨ y = 2 ∨ y = 3 ∨ y = 4 := by omega
  rcases this with rfl | rfl | rfl | rfl | rfl <;> rfl

set_option maxRecDepth 100000 in
set_option maxHeartbeats 3200000 in
theorem l71Spoil_any (lo hi R : Nat) (bo : Option Addr) (bn bcap p : Nat) (K : Int) (ao : Option Addr) (cap : Nat) (us : List (Int × Int)) (w : World) (hl : us.length ≤ 65) (ho : OwnN w lo hi ao us.length (tcell us)) (hr : Rdr w R bo bn bcap p) (hp : p ≤ 999900) (hK : 0 ≤ K ∧ K ≤ 8) :
    Calls Try.prog 59 #[.pointer (some ⟨R, 0, none⟩), .agg #[.int .i64 K, .slice ao us.length cap]] w (Spoilt w R bo bn bcap p) := by
  obtain ⟨i0, hi0, hz0, hz1, hz2⟩ := info_parts Try.infoTie
  have HI : Hid (Try.prog.info? 37 = some i0 ∧ i0.zero = some (.agg #[.int .i64 0, .int .i64 0]) ∧ i0.size = 2 ∧ i0.bytes = 16) := ⟨hi0, hz0, hz1, hz2⟩
  clear hi0 hz0 hz1 hz2
  have hR := hr.lt
  have hoN := fun (o q : Obj) => hideP ((ho.next (below_one w o)).next (below_one _ q))
  go_enter Try.func59, Try.ntmps59
  go_wp2_with fail
  refine (l1Copy_any lo hi K ao cap us _ (by omega) (hoN _ _).out).mono ?_
  rintro e w2 ⟨ao2, cap2, rfl, ho2, hb2⟩
  have S := SI.first hr hb2 ho2
  have B2 := Boxes.start hb2
  clear hb2 ho2 hoN hr ho
  have c0 := B2.c0
  have c1 := B2.c1
  have z0 : w2.frozen? ⟨w.heap.size, 0, none⟩ = false := by have := S.f0; rwa [World.frozen?_setCell, World.frozen?_setCell] at this
  have z1 : w2.frozen? ⟨w.heap.size, 1, none⟩ = false := by have := S.f1; rwa [World.frozen?_setCell, World.frozen?_setCell] at this
  have HS := hideP S
  clear S B2
  go_wp2_with fail
  refine (pick_any R bo bn bcap p 6 _ HS.out.rd (by omega)).mono ?_
  rintro e w3 ⟨y, rfl, y0, y1, rd3, tr3⟩
  have y1' := y1 (by omega)
  have S3 := hideP (HS.out.turn tr3 rd3)
  have a0 := S3.out.a0
  have a1 := S3.out.a1
  have f0 := S3.out.f0
  have f1 := S3.out.f1
  have r0 := S3.out.r0
  have r1 := S3.out.r1
  have g0 := S3.out.g0
  have g1 := S3.out.g1
  clear HS tr3 rd3 y1 c0 c1 z0 z1
  have hy : y = 0 ∨ y = 1 ∨ y = 2 ∨ y = 3 ∨ y = 4 ∨ y = 5 := by omega
  rcases hy with rfl | rfl | rfl | rfl | rfl | rfl <;> clear y0 y1'
  · go_wp2_with fail
    refine (pick_any R bo bn bcap (p + 1) 5 _ (S3.out.rd.next (below_one _ _)) (by omega)).mono ?_
    rintro e w4 ⟨z, rfl, z0, z1, rd4, tr4⟩
    have z1' := z1 (by omega)
    have S4 := hideP ((S3.out.next (below_one _ _)).turn tr4 rd4)
    have hsel : w4.cell? ⟨w3.heap.size, z.toNat, none⟩ = some (.int .i64 (sel5 z)) := (tr4.cell (p := ⟨w3.heap.size, z.toNat, none⟩) (by simp) (Or.inr (by show R + 1 ≤ w3.heap.size; have := S3.out.lt; omega))).trans (sel5_cell w3 z _ z0 z1')
    have b0 := S4.out.a0
    have b1 := S4.out.a1
    have e0 := S4.out.f0
    have S6 := hideP (S4.out.knots (sel5 z))
    have hs := sel5_in z
    clear S4 S3 tr4 rd4 a0 a1 f0 f1 r0 r1 g0 g1 z1
    have q0 := S6.out.a0
    have q1 := S6.out.a1
    have q2 := S6.out.g0
    have q3 := S6.out.g1
    have q4 := S6.out.r0
    have q5 := S6.out.r1
    go_wp2
    refine bodyPost_ret (v := .agg #[.int .i64 (sel5 z), .slice ao2 us.length cap2]) ?_ rfl ?_
    · simp [results, Try.results59, go_sem, q4, q5]
    · exact S6.out.done rfl (by omega) hs (by omega)
  · have S3d := hideP (S3.out.next (Below.refl _ _).drew)
    go_wp2
    go_region_law (first | (refine step_append_lies _ (by rfl) _ _ _ (by rfl) (w.heap.size + 1 + 1) 37 i0 _ 2 16 Try.underlying23 HI.out.1 HI.out.2.1 HI.out.2.2.1 HI.out.2.2.2 rfl (by omega) (.slice ao2 us.length cap2) us.length (clist us us.length) (by rfl) (S5.out.own.alloc _) ⟨w5.heap.size, 0, none⟩ 1 1 [.int .i64 za, .int .i64 zb] (by rfl) (by rfl) (World.news_of_block (cs := #[.int .i64 za, .int .i64 zb]) (t := 37) (fr := (0, 0)) (heap_alloc_new w5 _)) (by simp [Value.oneCell']) (by omega) (by unfold maxLen; omega) (by omega) (by have := S5.out.lt; simp; omega) (w5.heap.size + 1) (by simp) ?_; intro g cap' wb hown1 hgrow hat hltg; obtain ⟨e1, e2, e3, e4, e5, e6, e7⟩ := S5.out.far (below_one _ _) hgrow; have S6 := hideP (S5.out.push (below_one _ _) (x := (za, zb)) hown1 hgrow); clear hown1 hgrow hat hltg) | (go_simp; go_at_call 26; refine (pick_any R bo bn bcap (p + 1 + 1) 3 _ S4.out.rd (by omega)).mono ?_; rintro e w5 ⟨zb, rfl, u0, u1, rd5, tr5⟩; have S5 := hideP (S4.out.turn tr5 rd5); have b1' := S5.out.a1; have b1'' := (S5.out.next (below_one w5 (.cells #[.int .i64 za, .int .i64 zb] 37))).a1; clear u0 u1 rd5 tr5) | (go_simp; go_at_call 26; refine (pick_any R bo bn bcap (p + 1) 3 _ S3d.out.rd (by omega)).mono ?_; rintro e w4 ⟨za, rfl, v0, v1, rd4, tr4⟩; have S4 := hideP (S3d.out.turn tr4 rd4); have b1 := S4.out.a1; clear v0 v1 rd4 tr4))
    all_goals
      go_wp2
      refine bodyPost_ret (v := .agg #[.int .i64 K, .slice (some ⟨g, 0, none⟩) (us.length + 1) cap']) ?_ rfl ?_
      · simp [results, Try.results59, go_sem, e4, e5]
      · exact S6.out.done (by simp) (by omega) (by omega) (by omega)
  · go_wp2_with (at_builtin; refine wpList_append_lies _ rfl _ _ _ rfl (w.heap.size + 1 + 1) 37 i0 _ 2 16 Try.underlying23 HI.out.1 HI.out.2.1 HI.out.2.2.1 HI.out.2.2.2 rfl (by omega) (.slice ao2 us.length cap2) us.length (clist us us.length) rfl (S3.out.own.alloc _) ⟨w3.heap.size, 0, none⟩ 1 1 [.int .i64 (K - 1), .int .i64 K] rfl rfl (World.news_of_block (cs := #[.int .i64 (K - 1), .int .i64 K]) (t := 37) (fr := (0, 0)) (heap_alloc_new w3 _)) (by simp [Value.oneCell']) (by omega) (by unfold maxLen; omega) (by omega) (by have := S3.out.lt; simp; omega) (w3.heap.size + 1) (by simp) ?_; intro g cap' wb hown1 hgrow hat hltg; obtain ⟨e1, e2, e3, e4, e5, e6, e7⟩ := S3.out.far (below_one _ _) hgrow; have S6 := hideP (S3.out.push (below_one _ _) (x := (K - 1, K)) hown1 hgrow); clear hown1 hgrow hat hltg)
    refine bodyPost_ret (v := .agg #[.int .i64 K, .slice (some ⟨g, 0, none⟩) (us.length + 1) cap']) ?_ rfl ?_
    · simp [results, Try.results59, go_sem, e4, e5]
    · exact S6.out.done (by simp) (by omega) (by omega) (by omega)
  · by_cases hu : 0 < us.length
    · have hu' : (0 : Int) < (us.length : Int) := by omega
      obtain ⟨g, cap9, e9, hg9, _⟩ := S3.out.own.form hu
      simp only [Value.slice.injEq, true_and] at e9
      obtain ⟨rfl, rfl⟩ := e9
      go_wp2_with fail
      refine (pick_any R bo bn bcap (p + 1) (us.length : Int) _ S3.out.rd (by omega)).mono ?_
      rintro e w4 ⟨z, rfl, z0, z1, rd4, tr4⟩
      obtain ⟨k, rfl⟩ : ∃ k : Nat, z = (k : Int) := ⟨z.toNat, by omega⟩
      have hk : k < us.length := by have := z1 (by omega); omega
      have S4 := hideP (S3.out.turn tr4 rd4)
      clear a0 a1 f0 f1 r0 r1 g0 g1
      obtain ⟨c0, c1, d0, d1⟩ := S4.out.row hk
      have a0 := S4.out.a0
      have a1 := S4.out.a1
      have r0 := S4.out.r0
      have r1 := S4.out.r1
      have g0 := S4.out.g0
      have g1 := S4.out.g1
      clear rd4 tr4 z1 S3 z0
      go_wp2
      go_region
      all_goals
        have S5 := hideP (S4.out.swap hk (tB us k) (tA us k))
        have S6 := hideP (S5.out.next (Below.refl _ _).drew)
        have q0 := S5.out.a0
        have q1 := S5.out.a1
        have q2 := S5.out.g0
        have q3 := S5.out.g1
        have q4 := S5.out.r0
        have q5 := S5.out.r1
        rw [List.length_set] at q1
        obtain ⟨ww, hww⟩ : ∃ ww, ww = (w4.setCell ⟨g, k * 2, none⟩ (.int .i64 (tB us k))).setCell ⟨g, k * 2 + 1, none⟩ (.int .i64 (tA us k)) := ⟨_, rfl⟩
        rw [← hww] at q0 q1 q2 q3 q4 q5 S6 ⊢
        clear a0 a1 r0 r1 g0 g1 c0 c1 d0 d1 S4 S5 hww
        go_wp2
        refine bodyPost_ret (v := .agg #[.int .i64 K, .slice (some ⟨g, 0, none⟩) us.length cap2]) ?_ rfl ?_
        · simp [results, Try.results59, go_sem, q4, q5]
        · exact S6.out.done (by simp) (by omega) (by omega) (by omega)
    · have hu' : ¬ (0 : Int) < (us.length : Int) := by omega
      go_wp2
      refine bodyPost_ret (v := .agg #[.int .i64 K, .slice ao2 us.length cap2]) ?_ rfl ?_
      · simp [results, Try.results59, go_sem, r0, r1]
      · exact S3.out.done rfl (by omega) (by omega) (by omega)
  · by_cases hu : 1 < us.length
    · have hu' : (1 : Int) < (us.length : Int) := by omega
      obtain ⟨g, cap9, e9, hg9, _⟩ := S3.out.own.form (by omega)
      simp only [Value.slice.injEq, true_and] at e9
      obtain ⟨rfl, rfl⟩ := e9
      obtain ⟨c0, c1, _, _⟩ := S3.out.row (k := 0) (by omega)
      simp only [Nat.zero_mul, Nat.zero_add] at c0 c1
      have hu0 : 0 < us.length := by omega
      have a1' := (S3.out.next (below_one w3 (.cells #[.int .i64 (tA us 0), .int .i64 (tB us 0)] 37)).drew).a1
      go_wp2
      go_region_law ((refine step_append_lies _ (by rfl) _ _ _ (by rfl) (w.heap.size + 1 + 1) 37 i0 _ 2 16 Try.underlying23 HI.out.1 HI.out.2.1 HI.out.2.2.1 HI.out.2.2.2 rfl (by omega) (.slice (some ⟨g, 0, none⟩) us.length cap2) us.length (clist us us.length) (by rfl) ((S3.out.own.alloc _).drew) ⟨w3.heap.size, 0, none⟩ 1 1 [.int .i64 (tA us 0), .int .i64 (tB us 0)] (by rfl) (by rfl) (World.news_of_block (cs := #[.int .i64 (tA us 0), .int .i64 (tB us 0)]) (t := 37) (fr := (0, 0)) (heap_alloc_new w3 _)) (by simp [Value.oneCell']) (by omega) (by unfold maxLen; omega) (by omega) (by have := S3.out.lt; simp; omega) (w3.heap.size + 1) (by simp) ?_; intro g' cap' wb hown1 hgrow hat hltg; obtain ⟨e1, e2, e3, e4, e5, e6, e7⟩ := S3.out.far (below_one _ _).drew hgrow; have S6 := hideP (S3.out.push (below_one _ _).drew (x := (tA us 0, tB us 0)) hown1 hgrow); clear hown1 hgrow hat hltg))
      all_goals
        go_wp2
        refine bodyPost_ret (v := .agg #[.int .i64 K, .slice (some ⟨g', 0, none⟩) (us.length + 1) cap']) ?_ rfl ?_
        · simp [results, Try.results59, go_sem, e4, e5]
        · exact S6.out.done (by simp) (by omega) (by omega) (by omega)
    · have hu' : ¬ (1 : Int) < (us.length : Int) := by omega
      go_wp2
      refine bodyPost_ret (v := .agg #[.int .i64 K, .slice ao2 us.length cap2]) ?_ rfl ?_
      · simp [results, Try.results59, go_sem, r0, r1]
      · exact S3.out.done rfl (by omega) (by omega) (by omega)
  · have a0' := (S3.out.next (below_one w3 (.cells #[.int .i64 (-1), .int .i64 0] 37))).a0
    have a1' := (S3.out.next (below_one w3 (.cells #[.int .i64 (-1), .int .i64 0] 37))).a1
    have hlt := S3.out.lt
    rcases hown3 : S3.out.own.2 with ⟨e9, h9⟩ | ⟨g, cap9, cur, e9, hg9, h9, h8⟩
    · clear hown3
      have hus : us = [] := List.length_eq_zero_iff.1 h9
      subst hus
      simp only [List.length_nil, Value.slice.injEq, true_and] at e9
      obtain ⟨rfl, rfl⟩ := e9
      have HL := hideP (World.ownsRow_lit w3 #[.int .i64 (-1), .int .i64 0] 1 (base := w.heap.size + 1 + 1) (e := 37) (size := 2) (by omega) (by unfold maxLen; omega) rfl)
      have S6 := hideP (S3.out.front (wb := w3.alloc (.cells #[.int .i64 (-1), .int .i64 0] 37)) (below_one w3 (.cells #[.int .i64 (-1), .int .i64 0] 37)) (x := (-1, 0)) HL.out ⟨rfl, rfl, rfl, Nat.le_refl _, fun _ _ _ => rfl⟩ rfl)
      obtain ⟨e1, e2, e3, e4, e5, e6, e7⟩ := S3.out.apart (wb := w3.alloc (.cells #[.int .i64 (-1), .int .i64 0] 37)) (below_one w3 (.cells #[.int .i64 (-1), .int .i64 0] 37)) (r := w3.heap.size) ⟨rfl, rfl, rfl, Nat.le_refl _, fun _ _ _ => rfl⟩ (by omega)
      go_wp2_with (at_builtin; refine wpList_append_none _ _ _ ⟨rfl, rfl⟩ (w.heap.size + 1 + 1) 37 i0 2 Try.underlying23 HI.out.1 (.slice (some ⟨w3.heap.size, 0, none⟩) 1 1) 1 [.int .i64 (-1), .int .i64 0] rfl HL.out rfl ?_)
      refine bodyPost_ret (v := .agg #[.int .i64 K, .slice (some ⟨w3.heap.size, 0, none⟩) 1 1]) ?_ rfl ?_
      · simp [results, Try.results59, go_sem, e4, e5]
      · exact S6.out.done (by simp) (by omega) (by omega) (by omega)
    · clear hown3
      simp only [Value.slice.injEq, true_and] at e9
      obtain ⟨rfl, rfl⟩ := e9
      have hT := hideP (S3.out.own.alloc (.cells #[.int .i64 (-1), .int .i64 0] 37))
      have hn := hideP (clist_length us us.length)
      go_wp2_with (at_builtin; refine wpList_append_own _ rfl _ _ _ rfl (w.heap.size + 1 + 1) 37 i0 _ 2 16 Try.underlying23 HI.out.1 HI.out.2.1 HI.out.2.2.1 HI.out.2.2.2 rfl (by omega) (.slice (some ⟨w3.heap.size, 0, none⟩) 1 1) 1 [.int .i64 (-1), .int .i64 0] rfl (by simpa using World.ownsRow_lit w3 #[.int .i64 (-1), .int .i64 0] 1 (base := w.heap.size + 1 + 1) (e := 37) (size := 2) (by have := S3.out.lt; omega) (by unfold maxLen; omega) rfl) ⟨g, 0, none⟩ us.length cap2 (clist us us.length) rfl (by rw [hn.out]) (hT.out.cells rfl) (clist_one us us.length) (by unfold maxLen; omega) (by omega) (by simp; omega) ?_; intro v' wb hown1 hgrow hnil; obtain ⟨ao', cap', rfl⟩ := own_slice hown1; have S6 := hideP (S3.out.front (below_one _ _) (x := (-1, 0)) hown1 hgrow rfl); obtain ⟨e1, e2, e3, e4, e5, e6, e7⟩ := S3.out.apart (below_one _ _) hgrow (by show w.heap.size + 1 + 1 ≤ w3.heap.size; omega); clear hown1 hgrow hnil)
      refine bodyPost_ret (v := .agg #[.int .i64 K, .slice ao' (1 + us.length) cap']) ?_ rfl ?_
      · simp [results, Try.results59, go_sem, e4, e5]
      · exact S6.out.done (by simp; omega) (by omega) (by omega) (by omega)

end Go.Proofs.Ytljnjpjnadlmhaa

/- Walks of spec.l71Any, spec.l71Pair, spec.l71Tied, spec.DrawNetHas. -/
namespace Go.Proofs.Ytljnjpjnadlmhaa
open Go.RowKit
set_option linter.unusedVariables false

/-- some net, of memory made since w, and its reader some bytes further -/
def AnyNet (w w' : World) (R : Nat) (bo : Option Addr) (bn bcap p q : Nat) (K : Int) (ao : Option Addr) (us : List (Int × Int)) : Prop :=
  Stepped w' R bo bn bcap p q ∧ Turned R (R + 1) w w' ∧ OwnN w' w.heap.size w'.heap.size ao us.length (tcell us) ∧ -1 ≤ K ∧ K ≤ 9 ∧ us.length ≤ 66
theorem AnyNet.turn {w w1 w2 : World} {R : Nat} {bo : Option Addr} {bn bcap p q q' : Nat} {K : Int} {ao : Option Addr} {us : List (Int × Int)} (h : AnyNet w w1 R bo bn bcap p q K ao us) (hR : R < w.heap.size) (hs : Stepped w2 R bo bn bcap p q') (ht : Turned R (R + 1) w1 w2) : AnyNet w w2 R bo bn bcap p q' K ao us :=
  ⟨hs, h.2.1.trans ht, (h.2.2.1.aside ht (Or.inr (by omega))).up ht.size, h.2.2.2⟩
theorem AnyNet.next {w w1 w2 : World} {R : Nat} {bo : Option Addr} {bn bcap p q : Nat} {K : Int} {ao : Option Addr} {us : List (Int × Int)} (h : AnyNet w w1 R bo bn bcap p q K ao us) (hR : R < w.heap.size) (hb : Below w1.heap.size w1 w2) : AnyNet w w2 R bo bn bcap p q K ao us := by
  obtain ⟨p', hp', hr⟩ := h.1
  exact h.turn hR ⟨p', hp', hr.next hb⟩ (Turned.of_below hb)

theorem Rdr.far {w : World} {R : Nat} {bo : Option Addr} {bn bcap p : Nat} (h : Rdr w R bo bn bcap p) {q : Addr} (hq : R < q.block) (u : Value) : Rdr (w.setCell q u) R bo bn bcap p := by
  have ea : ∀ k, k ≠ q.block → (w.setCell q u).heap[k]? = w.heap[k]? := fun k hk => Below.heap_setCell _ _ _ _ hk
  refine ⟨(World.cell?_of_block (a := ⟨R, 0, none⟩) (ea _ (by show R ≠ _; omega))).trans h.c0, (World.cell?_of_block (a := ⟨R, 1, none⟩) (ea _ (by show R ≠ _; omega))).trans h.c1, (World.frozen?_of_block (a := ⟨R, 1, none⟩) (ea _ (by show R ≠ _; omega))).trans h.f1, by simpa [World.setCell] using h.lt, h.short, fun i hi => ?_⟩
  obtain ⟨b, off, v, e, q1, q3, q4⟩ := h.bytes i hi
  exact ⟨b, off, v, e, q1, (World.cell?_of_block (a := ⟨b, off + i, none⟩) (ea b (by omega))).trans q3, q4⟩
theorem AnyNet.fin {w wr : World} {R : Nat} {bo : Option Addr} {bn bcap p q : Nat} {K : Int} {ao : Option Addr} {us : List (Int × Int)} (hR : R < w.heap.size) (hs : Stepped wr R bo bn bcap p q) (ht : Turned R (R + 1) w wr) (ho : OwnN wr (w.heap.size + 1) wr.heap.size ao us.length (tcell us)) (hK : -1 ≤ K ∧ K ≤ 9) (hl : us.length ≤ 66) (u0 u1 : Value) :
    AnyNet w ((wr.setCell ⟨w.heap.size, 0, none⟩ u0).setCell ⟨w.heap.size, 1, none⟩ u1) R bo bn bcap p q K ao us := by
  obtain ⟨p', hp', hr⟩ := hs
  have hsz : ((wr.setCell ⟨w.heap.size, 0, none⟩ u0).setCell ⟨w.heap.size, 1, none⟩ u1).heap.size = wr.heap.size := by simp [World.setCell]
  refine ⟨⟨p', hp', (hr.far (by exact hR) _).far (by exact hR) _⟩, (ht.set (Nat.le_refl _) _).set (Nat.le_refl _) _, ?_, hK.1, hK.2, hl⟩
  rw [hsz]
  exact ((ho.far (Or.inl (Nat.lt_succ_self _)) _).far (Or.inl (Nat.lt_succ_self _)) _).down (Nat.le_succ _)
/-- a pair of cells -/
structure Cel (w : World) (A : Nat) (K : Int) (v : Value) : Prop where
  c0 : w.cell? ⟨A, 0, none⟩ = some (.int .i64 K)
  c1 : w.cell? ⟨A, 1, none⟩ = some v
  f0 : w.frozen? ⟨A, 0, none⟩ = false
  f1 : w.frozen? ⟨A, 1, none⟩ = false
  lt : A < w.heap.size
theorem Cel.new (w : World) (K : Int) (v : Value) (t : TypeId) : Cel (w.alloc (.cells #[.int .i64 K, v] t)) w.heap.size K v := ⟨by simp, by simp, by simp, by simp, by simp⟩
theorem Cel.turn {w w' : World} {A R : Nat} {K : Int} {v : Value} (h : Cel w A K v) (ht : Turned R (R + 1) w w') (hA : R < A) : Cel w' A K v :=
  ⟨(ht.cell (p := ⟨A, 0, none⟩) h.lt (Or.inr hA)).trans h.c0, (ht.cell (p := ⟨A, 1, none⟩) h.lt (Or.inr hA)).trans h.c1, (ht.frozen (p := ⟨A, 0, none⟩) h.lt (Or.inr hA)).trans h.f0, (ht.frozen (p := ⟨A, 1, none⟩) h.lt (Or.inr hA)).trans h.f1, Nat.lt_of_lt_of_le h.lt ht.size⟩

set_option maxHeartbeats 1600000 in
theorem l71Any_any (R : Nat) (bo : Option Addr) (bn bcap p : Nat) (w : World) (h : Rdr w R bo bn bcap p) (hp : p ≤ 999000) :
    Calls Try.prog 35 #[.pointer (some ⟨R, 0, none⟩)] w fun e w' => ∃ K ao cap us, e = .returned (.agg #[.int .i64 K, .slice ao us.length cap]) ∧ AnyNet w w' R bo bn bcap p 60 K ao us := by
  have hR := h.lt
  go_enter Try.func35, Try.ntmps35
  go_wp2_with fail
  refine (l71Net_any R bo bn bcap p _ (h.next (below_one w _)) hp).mono ?_
  rintro e w1 ⟨K, ao, cap, us, rfl, ⟨p1, hp1, rd1⟩, tr1, ho1, hK0, hK8, hl⟩
  have C1 := hideP ((Cel.new w 0 (.slice none 0 0) 25).turn tr1 hR)
  have T1 := hideP ((turned_one (R := R) w _).trans tr1)
  have HO1 := hideP ho1
  have HR1 := hideP (rd1.next (below_one w1 (.cells #[.int .i64 K, .slice ao us.length cap] 25)))
  have N1 := hideP (Cel.new w1 K (.slice ao us.length cap) 25)
  have hw1 := tr1.size
  simp at hw1
  clear ho1 tr1 rd1
  go_wp2_with fail
  refine (pick_any R bo bn bcap p1 12 _ HR1.out (by omega)).mono ?_
  rintro e w2 ⟨z, rfl, z0, z1, rd2, tr2⟩
  have C2 := hideP ((C1.out.turn (turned_one w1 _) hR).turn tr2 hR)
  have T2 := hideP ((T1.out.trans (turned_one w1 _)).trans tr2)
  have N2 := hideP (N1.out.turn tr2 (by omega))
  have hw2 := tr2.size
  simp at hw2
  have HO2 := hideP (((HO1.out.next (below_one w1 _)).aside tr2 (Or.inr (by simp; omega))).up (hi' := w2.heap.size) (by omega))
  clear tr2 HO1 N1 T1 C1 HR1 z1
  have n0 := N2.out.c0
  have n1 := N2.out.c1
  have r0 := C2.out.c0
  have r1 := C2.out.c1
  have g0 := C2.out.f0
  have g1 := C2.out.f1
  by_cases hz : z = 0
  · have hzb : (z == 0) = true := by simp [hz]
    clear hz
    go_wp2_with fail
    refine (l71Spoil_any _ _ R bo bn bcap (p1 + 1) K ao cap us _ hl HO2.out rd2 (by omega) ⟨hK0, hK8⟩).mono ?_
    rintro e w3 ⟨K', ao', cap', us', rfl, k0, k9, l66, own3, ⟨p3, hp3, rd3⟩, tr3⟩
    have C3 := hideP (C2.out.turn tr3 hR)
    have q0 := C3.out.c0
    have q1 := C3.out.c1
    have q2 := C3.out.f0
    have q3 := C3.out.f1
    have F := fun u0 u1 => AnyNet.fin (p := p) (q := 60) hR ⟨p3, by omega, rd3⟩ (T2.out.trans tr3) ((OwnN.of_row own3).down (by omega)) ⟨k0, k9⟩ l66 u0 u1
    have HF := hideP F
    clear F own3 rd3 tr3 r0 r1 g0 g1 n0 n1 rd2
    go_wp2
    refine bodyPost_ret (v := .agg #[.int .i64 K', .slice ao' us'.length cap']) ?_ rfl ⟨K', ao', cap', us', rfl, HF.out _ _⟩
    simp [results, Try.results35, go_sem, q0, q1]
  · have hzb : (z == 0) = false := by simp [hz]
    clear hz
    have F := fun u0 u1 => AnyNet.fin (K := K) (p := p) (q := 60) hR ⟨p1 + 1, by omega, rd2⟩ T2.out (HO2.out.down (by simp)) ⟨by omega, by omega⟩ (by omega) u0 u1
    have HF := hideP F
    clear F rd2
    go_wp2
    refine bodyPost_ret (v := .agg #[.int .i64 K, .slice ao us.length cap]) ?_ rfl ⟨K, ao, cap, us, rfl, HF.out _ _⟩
    simp [results, Try.results35, go_sem, r0, r1]
theorem Turned.toBelow {lo hi B : Nat} {w w' : World} (h : Turned lo hi w w') (hB : B ≤ lo) (hl : lo ≤ w.heap.size) : Below B w w' :=
  ⟨h.os, h.tape, h.output, h.size, fun k hk => h.block k (by omega) (Or.inl (by omega))⟩
/-- a net was drawn since w, and nothing that was there has turned -/
structure Dealt (w w' : World) (K : Int) (ao : Option Addr) (us : List (Int × Int)) : Prop where
  own : OwnN w' w.heap.size w'.heap.size ao us.length (tcell us)
  lo : -1 ≤ K
  hi : K ≤ 9
  short : us.length ≤ 66
  bel : Below w.heap.size w w'
theorem Dealt.end {w w1 w2 : World} {R : Nat} {bo : Option Addr} {bn bcap p q : Nat} {K : Int} {ao : Option Addr} {us : List (Int × Int)} (h : AnyNet w1 w2 R bo bn bcap p q K ao us) (hb : Below w.heap.size w w1) (hR : w.heap.size ≤ R) (hl : R < w1.heap.size) (h0 : w.heap.size < w1.heap.size) (u0 u1 : Value) :
    Dealt w ((w2.setCell ⟨w.heap.size, 0, none⟩ u0).setCell ⟨w.heap.size, 1, none⟩ u1) K ao us := by
  obtain ⟨_, ht, ho, k0, k9, l66⟩ := h
  have hsz : ((w2.setCell ⟨w.heap.size, 0, none⟩ u0).setCell ⟨w.heap.size, 1, none⟩ u1).heap.size = w2.heap.size := by simp [World.setCell]
  refine ⟨?_, k0, k9, l66, ((hb.trans (ht.toBelow hR (Nat.le_of_lt hl))).setCell (Nat.le_refl _) _).setCell (Nat.le_refl _) _⟩
  rw [hsz]
  exact ((ho.far (Or.inl h0) _).far (Or.inl h0) _).down (Nat.le_of_lt h0)
theorem Cel.below {w w' : World} {A B : Nat} {K : Int} {v : Value} (h : Cel w A K v) (hb : Below B w w') (hA : A < B) : Cel w' A K v :=
  ⟨(hb.cell (p := ⟨A, 0, none⟩) hA).trans h.c0, (hb.cell (p := ⟨A, 1, none⟩) hA).trans h.c1, (hb.frozen (p := ⟨A, 0, none⟩) hA).trans h.f0, (hb.frozen (p := ⟨A, 1, none⟩) hA).trans h.f1, Nat.lt_of_lt_of_le h.lt hb.size⟩
theorem Cel.turn' {w w' : World} {A R : Nat} {K : Int} {v : Value} (h : Cel w A K v) (ht : Turned R (R + 1) w w') (hA : A < R) : Cel w' A K v :=
  ⟨(ht.cell (p := ⟨A, 0, none⟩) h.lt (Or.inl hA)).trans h.c0, (ht.cell (p := ⟨A, 1, none⟩) h.lt (Or.inl hA)).trans h.c1, (ht.frozen (p := ⟨A, 0, none⟩) h.lt (Or.inl hA)).trans h.f0, (ht.frozen (p := ⟨A, 1, none⟩) h.lt (Or.inl hA)).trans h.f1, Nat.lt_of_lt_of_le h.lt ht.size⟩


end Go.Proofs.Ytljnjpjnadlmhaa
