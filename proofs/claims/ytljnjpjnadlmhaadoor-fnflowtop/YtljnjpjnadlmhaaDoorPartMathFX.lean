/- Texts put together: MathFX, WCutIS. -/
import Derived.Test.YtljnjpjnadlmhaaDoorPartMathFP
import Derived.Test.YtljnjpjnadlmhaaDoorPartWFirst
import Derived.Test.YtljnjpjnadlmhaaDoorPartWFlowW
import Derived.Test.YtljnjpjnadlmhaaDoorPartWCutV
import Derived.Test.YtljnjpjnadlmhaaDoorPartWFlowCS
import Derived.Test.YtljnjpjnadlmhaaDoorPartWRange
import Derived.Test.YtljnjpjnadlmhaaDoorPartMathT
import Derived.Test.YtljnjpjnadlmhaaDoorPartMathFU
import Derived.RangeFuncRecord
/- Plain mathematics of flows: the bridge that parts two knots, where just one way leads from one to the other. No program stands here. -/
namespace Go.Proofs.YtljnjpjnadlmhaaDoor
set_option linter.unusedVariables false

/-- a tie that parts two knots -/
theorem ap_minus {K : Int} {ts : List (Int × Int)} (hok : okB K ts = true) {t : Int × Int} (ht : t ∈ ts) (a b : Int) : apB K ts a b t = !reachB (minusT ts t) a.toNat b.toNat := by
  obtain ⟨x, y, e, _, _, eo, hh⟩ := tie_knots hok ht
  unfold apB
  have h2 : cutTs K ts t.1 t.2 = minusT ts t := by
    rw [e]
    show cutTs K ts (x : Int) (y : Int) = _
    rw [cut_minus hh, eo, e]
  rw [h2]
/-- a tie that parts two knots, to one of which one comes from the other, is a bridge -/
theorem part_bridge {K : Int} {ts : List (Int × Int)} (hok : okB K ts = true) {t : Int × Int} (ht : t ∈ ts) {a b : Nat} (hr : reachB ts a b = true) (h : reachB (minusT ts t) a b = false) : t ∈ brTs K ts := by
  obtain ⟨x, y, e, _, _, eo, hh⟩ := tie_knots hok ht
  refine (mem_brTs hok t).2 ⟨ht, ?_⟩
  rw [e]
  show bridgeB K ts (x : Int) (y : Int) = true
  rw [bridge_minus hh, eo]
  cases q : reachB (minusT ts t) x y with
  | false => rfl
  | true =>
    have := cut_same hok (t := t) (x := x) (y := y) eo q hr
    rw [h] at this; cases this
theorem two_knots {K : Int} {ts : List (Int × Int)} {a b : Int} (h : twoB K ts a b = true) : knotB a K = true ∧ knotB b K = true := by
  unfold twoB at h
  simp only [Bool.and_eq_true, decide_eq_true_eq] at h
  exact ⟨h.1.1.2, h.1.2⟩
/-- the two knots, as numbers -/
theorem two_flow {K : Int} {ts : List (Int × Int)} {a b : Nat} (h : twoB K ts (a : Int) (b : Int) = true) : countI K ts (a : Int) (b : Int) = flowV ts a b := by
  unfold countI
  rw [if_pos h]; rfl
theorem apT_is {K : Int} {ts : List (Int × Int)} (hok : okB K ts = true) {a b : Nat} (ha : knotB (a : Int) K = true) (hb : knotB (b : Int) K = true) (hr : reachB ts a b = true) : apT K ts (a : Int) (b : Int) = ts.find? (fun t => !reachB (minusT ts t) a b) := by
  have hg : apGo K ts (a : Int) (b : Int) = true := by
    unfold apGo
    rw [hok, ha, hb]
    show (true && true && true && reachB ts a b) = true
    rw [hr]; rfl
  unfold apT
  rw [if_pos hg]
  have hbr : brTs K ts = ts.filter (fun t => bridgeB K ts t.1 t.2) := by unfold brTs; rw [if_pos hok]
  rw [hbr, List.find?_filter]
  have key : ∀ t, t ∈ ts → ((bridgeB K ts t.1 t.2 && apB K ts (a : Int) (b : Int) t) = !reachB (minusT ts t) a b) := by
    intro t ht
    rw [ap_minus hok ht]
    show (bridgeB K ts t.1 t.2 && !reachB (minusT ts t) a b) = _
    cases q : reachB (minusT ts t) a b with
    | true => simp
    | false =>
      have := (mem_brTs hok t).1 (part_bridge hok ht hr q)
      rw [this.2]; rfl
  clear hg hbr
  have aux : ∀ l : List (Int × Int), (∀ t, t ∈ l → t ∈ ts) → l.find? (fun t => decide (bridgeB K ts t.1 t.2 = true ∧ apB K ts (a : Int) (b : Int) t = true)) = l.find? (fun t => !reachB (minusT ts t) a b) := by
    intro l
    induction l with
    | nil => intro _; rfl
    | cons s l ih =>
      intro hl
      have hs := key s (hl s (by simp))
      rw [List.find?_cons, List.find?_cons, ih (fun t ht => hl t (List.mem_cons_of_mem _ ht))]
      have : decide (bridgeB K ts s.1 s.2 = true ∧ apB K ts (a : Int) (b : Int) s = true) = !reachB (minusT ts s) a b := by
        rw [← hs]; simp
      rw [this]
  have := aux ts (fun t h => h)
  simpa using this
/-- just one way leads there just if a bridge parts both -/
theorem one_apart {K : Int} {ts : List (Int × Int)} {a b : Nat} (h : twoB K ts (a : Int) (b : Int) = true) : flowV ts a b = 1 ↔ (apT K ts (a : Int) (b : Int)).isSome = true := by
  obtain ⟨hok, x, y, e1, e2, hx, hy, hxk, hyk, hxy⟩ := knot_nat h
  obtain rfl : a = x := by omega
  obtain rfl : b = y := by omega
  rw [flow_one hok hx hy hxy]
  cases hr : reachB ts a b with
  | false =>
    have hno : apT K ts (a : Int) (b : Int) = none := apT_no (by
      unfold apGo
      show (okB K ts && knotB (a : Int) K && knotB (b : Int) K && reachB ts a b) = false
      rw [hr]; simp)
    rw [hno]
    constructor
    · rintro ⟨h, _⟩; cases h
    · intro h; cases h
  | true =>
    rw [apT_is hok (two_knots h).1 (two_knots h).2 hr, List.find?_isSome]
    constructor
    · rintro ⟨_, t, ht, hq⟩; exact ⟨t, ht, by rw [hq]; rfl⟩
    · rintro ⟨t, ht, hq⟩; exact ⟨rfl, t, ht, by simpa using hq⟩
/-- where two knots are not two knots of it that are not the same no bridge parts them -/
theorem apart_none {K : Int} {ts : List (Int × Int)} {a b : Int} (h : twoB K ts a b = false) : apT K ts a b = none := by
  by_cases hg : apGo K ts a b = true
  · unfold apGo at hg
    simp only [Bool.and_eq_true] at hg
    obtain ⟨⟨⟨h1, h2⟩, h3⟩, h4⟩ := hg
    have hab : a = b := by
      refine Decidable.byContradiction (fun q => ?_)
      unfold twoB at h
      rw [h1, h2, h3, decide_eq_true q] at h
      cases h
    subst hab
    refine apT_end (fun j hj => ?_)
    unfold apB
    rw [Bool.not_eq_false']
    unfold reachB
    simp
  · exact apT_no (by simpa using hg)
/-- the number of ways is one just if a bridge parts both -/
theorem count_apart (K : Int) (ts : List (Int × Int)) (a b : Int) : countI K ts a b = 1 ↔ (apT K ts a b).isSome = true := by
  cases h : twoB K ts a b with
  | false =>
    rw [apart_none h]
    have hc : countI K ts a b = -1 := by unfold countI; rw [h]; rfl
    rw [hc]
    constructor
    · intro e; exact absurd e (by decide)
    · intro e; cases e
  | true =>
    obtain ⟨_, x, y, rfl, rfl, _⟩ := knot_nat h
    rw [two_flow h]; exact one_apart h
/-- what parts both is a tie, a bridge, and without it one doesn't come there -/
theorem apT_parts {K : Int} {ts : List (Int × Int)} {a b : Int} {t : Int × Int} (h : apT K ts a b = some t) : t ∈ ts ∧ hasB K ts t.1 t.2 = true ∧ bridgeB K ts t.1 t.2 = true ∧ reachB (cutTs K ts t.1 t.2) a.toNat b.toNat = false ∧ okB K ts = true ∧ knotB a K = true ∧ knotB b K = true := by
  unfold apT at h
  split at h
  · rename_i hg
    have hm := List.mem_of_find?_eq_some h
    have hq := List.find?_some h
    unfold apGo at hg
    simp only [Bool.and_eq_true] at hg
    obtain ⟨⟨⟨h1, h2⟩, h3⟩, _⟩ := hg
    obtain ⟨m1, m2⟩ := (mem_brTs h1 t).1 hm
    obtain ⟨x, y, e, _, _, _, hh⟩ := tie_knots h1 m1
    refine ⟨m1, by rw [e]; exact hh, m2, ?_, h1, h2, h3⟩
    unfold apB at hq
    simpa using hq
  · cases h
/-- where none can go nothing is taken -/
theorem cutG_stop {a b : Nat} (ha : a < 8) (hab : a ≠ b) : ∀ (r left : List (Int × Int)), flowV left a b ≤ 0 → cutG a b r left = [] := by
  intro r
  induction r with
  | nil => intro left _; rfl
  | cons s r ih =>
    intro left h
    have h0 := flowV_nonneg (minusT left s) (a := a) (b := b) ha hab
    unfold cutG
    rw [if_neg (by omega)]
    exact ih left h
/-- where just one way goes the first tie that parts both is taken, and nothing else -/
theorem cutG_one {K : Int} {ts : List (Int × Int)} (hok : okB K ts = true) {a b : Nat} (ha : a < 8) (hb : b < 8) (hab : a ≠ b) (h : flowV ts a b = 1) : ∀ r : List (Int × Int), cutG a b r ts = (r.find? (fun t => !reachB (minusT ts t) a b)).toList := by
  intro r
  induction r with
  | nil => rfl
  | cons s r ih =>
    have hz := flowV_zero (minus_ok hok s) ha hb hab
    have h0 := flowV_nonneg (minusT ts s) (a := a) (b := b) ha hab
    unfold cutG
    rw [List.find?_cons]
    cases q : reachB (minusT ts s) a b with
    | false =>
      have := hz.2 q
      rw [if_pos (by omega), cutG_stop ha hab r _ (by omega)]; rfl
    | true =>
      have : ¬ flowV (minusT ts s) a b < flowV ts a b := fun e => by
        have := hz.1 (by omega)
        rw [q] at this; cases this
      rw [if_neg this, ih]; rfl
/-- the fewest ties are that bridge alone -/
theorem cut_apart {K : Int} {ts : List (Int × Int)} {a b : Int} {t : Int × Int} (h : twoB K ts a b = true) (ht : apT K ts a b = some t) : cutI K ts a b = [t] := by
  obtain ⟨hok, x, y, rfl, rfl, hx, hy, hxk, hyk, hxy⟩ := knot_nat h
  have h1 : flowV ts x y = 1 := (one_apart h).2 (by rw [ht]; rfl)
  have hr := ((flow_one hok hx hy hxy).1 h1).1
  rw [apT_is hok (two_knots h).1 (two_knots h).2 hr] at ht
  unfold cutI
  rw [if_pos h]
  show cutG x y ts ts = [t]
  rw [cutG_one hok hx hy hxy h1, ht]; rfl
/-- none goes just if one doesn't come there -/
theorem count_zero {K : Int} {ts : List (Int × Int)} {a b : Nat} (h : twoB K ts (a : Int) (b : Int) = true) : (countI K ts (a : Int) (b : Int) = 0 ↔ reachB ts a b = false) := by
  obtain ⟨hok, x, y, e1, e2, hx, hy, hxk, hyk, hxy⟩ := knot_nat h
  obtain rfl : a = x := by omega
  obtain rfl : b = y := by omega
  rw [two_flow h]; exact flowV_zero hok hx hy hxy

end Go.Proofs.YtljnjpjnadlmhaaDoor

/- Walk of spec.FlowCut. -/
namespace Go.Proofs.YtljnjpjnadlmhaaDoor
open Go.RowKit
set_option linter.unusedVariables false

theorem wpList_append_at {P : Program} {w : World} {ops : Array Oper} {rest : List Oper} {o : Oper} {a : Act} {Q : Exit → Act → World → Prop} (hgd : o.guard = none) (s x : Operand) (t : TypeId)
    (ho : o.op = .call { callee := .builtin .append, args := #[s, x], argTypes := #[t, t] })
    (base : Nat) (e : TypeId) (i : TypeInfo) (z : Value) (size bytes : Nat) (ht : P.underlying t = some (.slice e)) (hi : P.info? e = some i) (hz : i.zero = some z)
    (hsize : i.size = size) (hby : i.bytes = bytes) (hzs : z.cells.size = size) (hsz : 0 < size)
    (v : Value) (n : Nat) (xs : List Value) (hs : a.eval s = v) (hv : v ≠ .slice none 0 0) (hown : w.ownsRow base e size v n xs)
    (r : Nat) (ad : Addr) (m c : Nat) (hnm : n + m = r) (news : List Value) (hx : a.eval x = .slice (some ad) m c) (hl : news.length = m * size) (hnews : ∀ j u, news[j]? = some u → w.cell? (ad.add j) = some u) (h1 : ∀ u ∈ news, u.oneCell' = true)
    (h63 : n + m ≤ maxLen) (hbytes : (n + m) * bytes ≤ 140737488355328) (hbase : base ≤ w.heap.size)
    (h : ∀ g cap w', w'.ownsRow base e size (.slice (some ⟨g, 0, none⟩) r cap) r (xs ++ news) → w.grownBy w' v.ownBlock → (some g = v.ownBlock ∨ g = w.heap.size) → wpList P ops Q rest (a.put o.dst (.slice (some ⟨g, 0, none⟩) r cap)) w') : wpList P ops Q (o :: rest) a w := by
  subst hnm
  refine wpList_plain hgd fun _ hK => ?_
  obtain ⟨v', w', hr, h2, h3, h4, h5⟩ := run_append_own_at (P := P) w base t o.type e i z size bytes ht hi hz hsize hby hzs hsz v n xs hown ad m c news hl hnews h1 h63 hbytes hbase
  have hv' : ∃ g cap, v' = .slice (some ⟨g, 0, none⟩) (n + m) cap := by
    rcases h2.2 with ⟨q, _⟩ | ⟨g, cap, cur, q, _⟩
    · exact absurd (h4.1 q).1 hv
    · exact ⟨g, cap, q⟩
  obtain ⟨g, cap, rfl⟩ := hv'
  unfold Oper.wp execOp
  simp only [ho, resolve, invoke, builtin, Sem.run_bind, Sem.run_pure, Result.andThen_ok, List.map_toArray, List.map_cons, List.map_nil, hs, hx, hr]
  refine hK _ _ (h g cap w' h2 h3 ?_)
  rcases h5 with q | q
  · exact Or.inl q
  · exact Or.inr (by simpa [Value.ownBlock] using q)

/-- going through a row that is two rows -/
theorem cutG_app (a b : Nat) : ∀ (r q left : List (Int × Int)), cutG a b (r ++ q) left = cutG a b r left ++ cutG a b q (leftG a b r left) := by
  intro r
  induction r with
  | nil => intro q left; rfl
  | cons s r ih =>
    intro q left
    show cutG a b (s :: (r ++ q)) left = _
    have e : ∀ q, cutG a b (s :: q) left = if flowV (minusT left s) a b < flowV left a b then s :: cutG a b q (minusT left s) else cutG a b q left := fun q => rfl
    have e2 : ∀ q, leftG a b (s :: q) left = if flowV (minusT left s) a b < flowV left a b then leftG a b q (minusT left s) else leftG a b q left := fun q => rfl
    rw [e, e r, e2 r]
    by_cases h : flowV (minusT left s) a b < flowV left a b
    · rw [if_pos h, if_pos h, if_pos h, ih]; rfl
    · rw [if_neg h, if_neg h, if_neg h]; exact ih _ _
theorem two_other {K : Int} {ts us : List (Int × Int)} {a b : Int} (h : twoB K ts a b = true) (hu : okB K us = true) : twoB K us a b = true := by
  unfold twoB at h ⊢
  simp only [Bool.and_eq_true, decide_eq_true_eq] at h ⊢
  exact ⟨⟨⟨hu, h.1.1.2⟩, h.1.2⟩, h.2⟩
/-- what was taken of the first ties -/
noncomputable def cutJ (ts : List (Int × Int)) (a b i : Nat) : List (Int × Int) := cutG a b (ts.take i) ts
theorem cutJ_succ {ts : List (Int × Int)} {a b i : Nat} (hi : i < ts.length) : cutJ ts a b (i + 1) = if flowV (minusT (leftI ts a b i) ts[i]) a b < flowV (leftI ts a b i) a b then cutJ ts a b i ++ [ts[i]] else cutJ ts a b i := by
  unfold cutJ leftI
  rw [List.take_succ_eq_append_getElem hi, cutG_snoc]
theorem cutJ_end {ts : List (Int × Int)} {a b i : Nat} (ha : a < 8) (hab : a ≠ b) (h : i = ts.length ∨ flowV (leftI ts a b i) a b ≤ 0) : cutJ ts a b i = cutG a b ts ts := by
  rcases h with h | h
  · unfold cutJ; rw [h, List.take_length]
  · have e : cutG a b (ts.take i ++ ts.drop i) ts = cutG a b (ts.take i) ts ++ cutG a b (ts.drop i) (leftG a b (ts.take i) ts) := cutG_app a b _ _ _
    have h' : flowV (leftG a b (ts.take i) ts) a b ≤ 0 := h
    rw [List.take_append_drop, cutG_stop ha hab _ _ h', List.append_nil] at e
    exact e.symm
theorem cutJ_len (ts : List (Int × Int)) (a b i : Nat) : (cutJ ts a b i).length ≤ ts.length := by
  have h1 := (cutG_list a b (ts.take i) ts).length_le
  unfold cutJ
  simp at h1; omega
/-- a tie to which one comes is left still -/
theorem leftI_has {K : Int} {ts : List (Int × Int)} (hok : okB K ts = true) {a b i : Nat} (hi : i < ts.length) : ts[i] ∈ leftI ts a b i := by
  refine (leftG_mem _ _ _).2 ⟨List.getElem_mem hi, fun h => ?_⟩
  have hm := cutG_sub a b _ _ _ h
  have hp := (ok_parts hok).2.2.2
  obtain ⟨j, hj, e⟩ := List.mem_iff_getElem.1 hm
  simp only [List.length_take] at hj
  rw [List.getElem_take] at e
  have := List.pairwise_iff_getElem.1 hp j i (by omega) hi (by omega)
  rw [e] at this
  exact absurd this (Nat.lt_irrefl _)
/-- that tie cut from what is left -/
theorem leftI_cut {K : Int} {ts : List (Int × Int)} (hok : okB K ts = true) {a b i : Nat} (hi : i < ts.length) : cutB K (leftI ts a b i) (tA ts i) (tB ts i) = true ∧ cutK K (leftI ts a b i) (tA ts i) (tB ts i) = K ∧ cutTs K (leftI ts a b i) (tA ts i) (tB ts i) = minusT (leftI ts a b i) ts[i] := by
  have hm := leftI_has hok (a := a) (b := b) hi
  have hl := leftI_ok hok a b i
  obtain ⟨x, y, e, _, _, eo, hh⟩ := tie_knots hl hm
  have e1 : tA ts i = (x : Int) := by rw [tA_get ts i hi, e]
  have e2 : tB ts i = (y : Int) := by rw [tB_get ts i hi, e]
  have hc : cutB K (leftI ts a b i) (tA ts i) (tB ts i) = true := by rw [e1, e2]; exact hh
  refine ⟨hc, cutK_yes hc, ?_⟩
  rw [e1, e2, cut_minus hh, eo, e]
/-- what stands while ties are cut: the net's box, what is left, what was taken -/
structure Cst (w wr : World) (K : Int) (nv : Value) (X gO capO : Nat) (aoY : Option Addr) (capY : Nat) (left us : List (Int × Int)) : Prop where
  bx : Bx w wr K nv
  xn : XN wr X K aoY capY left
  row : wr.ownsRow (w.heap.size + 1) 63 2 (.slice (some ⟨gO, 0, none⟩) us.length capO) us.length (clist us us.length)
  sx : gO ≠ X
  sy : ∀ b, aoY = some b → b.block ≠ gO
  hX : w.heap.size + 1 < X
  hO : gO < wr.heap.size
  yl : ∀ b, aoY = some b → b.block < wr.heap.size
theorem Cst.next {w wr w' : World} {K : Int} {nv : Value} {X gO capO : Nat} {aoY : Option Addr} {capY : Nat} {left us : List (Int × Int)} (h : Cst w wr K nv X gO capO aoY capY left us) (hb : Below wr.heap.size wr w') : Cst w w' K nv X gO capO aoY capY left us :=
  ⟨h.bx.next hb, h.xn.next hb, own_next h.row hb, h.sx, h.sy, h.hX, Nat.lt_of_lt_of_le h.hO hb.size, fun b e => Nat.lt_of_lt_of_le (h.yl b e) hb.size⟩
/-- what is left is put into the variable -/
theorem Cst.put {w wr W : World} {K : Int} {nv : Value} {X gO capO : Nat} {aoY : Option Addr} {capY : Nat} {left us : List (Int × Int)} (h : Cst w wr K nv X gO capO aoY capY left us) (hb : Below wr.heap.size wr W) {ao : Option Addr} {cap : Nat} {ys : List (Int × Int)} (ho : OwnN W wr.heap.size W.heap.size ao ys.length (tcell ys)) :
    Cst w ((W.setCell ⟨X, 0, none⟩ (.int .i64 K)).setCell ⟨X, 1, none⟩ (.slice ao ys.length cap)) K nv X gO capO ao cap ys us := by
  have h1 := h.next hb
  have ht := turned_set X W K (.slice ao ys.length cap)
  have hX := h.hX
  have hXl := h.xn.lt
  have hbl : ∀ k, k ≠ X → ((W.setCell ⟨X, 0, none⟩ (.int .i64 K)).setCell ⟨X, 1, none⟩ (.slice ao ys.length cap)).heap[k]? = W.heap[k]? := fun k hk => (Below.heap_setCell _ _ _ _ (by show k ≠ X; exact hk)).trans (Below.heap_setCell _ _ _ _ (by show k ≠ X; exact hk))
  refine ⟨⟨(World.cell?_of_block (a := ⟨w.heap.size, 0, none⟩) (hbl w.heap.size (by omega))).trans h1.bx.c0, (World.cell?_of_block (a := ⟨w.heap.size, 1, none⟩) (hbl w.heap.size (by omega))).trans h1.bx.c1, Nat.lt_of_lt_of_le h1.bx.lt ht.size, (h1.bx.B.setCell (p := ⟨X, 0, none⟩) (by show w.heap.size ≤ X; omega) _).setCell (p := ⟨X, 1, none⟩) (by show w.heap.size ≤ X; omega) _⟩, h1.xn.put ho (by omega) (Nat.le_refl _), ?_, h.sx, ?_, h.hX, Nat.lt_of_lt_of_le h1.hO ht.size, ?_⟩
  · refine ⟨h1.row.1, ?_⟩
    rcases h1.row.2 with q | ⟨g, c, cur, q1, q2, q3, q4⟩
    · exact Or.inl q
    · refine Or.inr ⟨g, c, cur, q1, q2, (hbl g ?_).trans q3, q4⟩
      simp only [Value.slice.injEq, Option.some.injEq, Addr.mk.injEq, and_true, true_and] at q1
      have := h.sx
      omega
  · intro b hb'
    have := h.hO
    rcases ho with ⟨_, e⟩ | ⟨g, e, h2, _⟩
    · rw [e] at hb'; cases hb'
    · rw [e] at hb'; cases hb'
      show g ≠ gO
      omega
  · intro b hb'
    have := ht.size
    rcases ho with ⟨_, e⟩ | ⟨g, e, _, h3, _⟩
    · rw [e] at hb'; cases hb'
    · rw [e] at hb'; cases hb'
      exact Nat.lt_of_lt_of_le h3 this
/-- a tie was added to what was taken -/
theorem Cst.grow {w wr w' : World} {K : Int} {nv : Value} {X gO capO gN capN : Nat} {aoY : Option Addr} {capY : Nat} {left us vs : List (Int × Int)} (h : Cst w wr K nv X gO capO aoY capY left us) (hrow : w'.ownsRow (w.heap.size + 1) 63 2 (.slice (some ⟨gN, 0, none⟩) vs.length capN) vs.length (clist vs vs.length)) (hg : wr.grownBy w' (some gO)) (hn : gN = gO ∨ gN = wr.heap.size) (hl : gN < w'.heap.size) :
    Cst w w' K nv X gN capN aoY capY left vs := by
  have hlo := own_ge h.row gO rfl
  have hbl : ∀ k, k < wr.heap.size → k ≠ gO → w'.heap[k]? = wr.heap[k]? := fun k h1 h2 => hg.block k h1 (by intro e; cases e; exact h2 rfl)
  have hsx := h.sx
  have hX := h.hX
  have hxl := h.xn.lt
  have hbl' := h.bx.lt
  have eX := hbl X hxl (fun e => hsx e.symm)
  have eB := hbl w.heap.size hbl' (by omega)
  refine ⟨⟨(World.cell?_of_block (a := ⟨w.heap.size, 0, none⟩) eB).trans h.bx.c0, (World.cell?_of_block (a := ⟨w.heap.size, 1, none⟩) eB).trans h.bx.c1, Nat.lt_of_lt_of_le hbl' hg.size, h.bx.B.trans ⟨hg.os, hg.tape, hg.output, hg.size, fun k hk => hbl k (by omega) (by omega)⟩⟩,
    ⟨(World.cell?_of_block (a := ⟨X, 0, none⟩) eX).trans h.xn.c0, (World.cell?_of_block (a := ⟨X, 1, none⟩) eX).trans h.xn.c1, (World.frozen?_of_block (a := ⟨X, 0, none⟩) eX).trans h.xn.f0, (World.frozen?_of_block (a := ⟨X, 1, none⟩) eX).trans h.xn.f1, Nat.lt_of_lt_of_le hxl hg.size, ?_⟩, hrow, ?_, ?_, h.hX, hl, fun b e => Nat.lt_of_lt_of_le (h.yl b e) hg.size⟩
  · intro i hi
    obtain ⟨b, off, e, h1, h2, h3⟩ := h.xn.ties i hi
    have eb := hbl b h1 (h.sy _ e)
    exact ⟨b, off, e, Nat.lt_of_lt_of_le h1 hg.size, (World.cell?_of_block (a := ⟨b, off + i * 2, none⟩) eb).trans h2, (World.cell?_of_block (a := ⟨b, off + i * 2 + 1, none⟩) eb).trans h3⟩
  · rcases hn with rfl | rfl
    · exact hsx
    · omega
  · intro b hb
    rcases hn with rfl | rfl
    · exact h.sy b hb
    · have := h.yl b hb; omega

set_option maxRecDepth 100000 in
set_option maxHeartbeats 3200000 in
theorem specFlowCut_in (K : Int) (ao : Option Addr) (cap : Nat) (ts : List (Int × Int)) (a b : Int) (w : World) (hn : ts.length ≤ 1099511627776) (ht : TiesIn w w.heap.size ao ts) :
    Calls Tryd.prog 8 #[.agg #[.int .i64 K, .slice ao ts.length cap], .int .i64 a, .int .i64 b] w fun e w' => ∃ ao' cap', e = .returned (.tuple #[.slice ao' (cutI K ts a b).length cap', .bool (twoB K ts a b)]) ∧ w'.ownsRow w.heap.size 63 2 (.slice ao' (cutI K ts a b).length cap') (cutI K ts a b).length (clist (cutI K ts a b) (cutI K ts a b).length) ∧ Below w.heap.size w w' := by
  obtain ⟨i1, hj, hy0, hy1, hy2⟩ := info_parts Tryd.infoTie
  have HI1 : Hid (Tryd.prog.info? 63 = some i1 ∧ i1.zero = some (.agg #[.int .i64 0, .int .i64 0]) ∧ i1.size = 2 ∧ i1.bytes = 16) := ⟨hj, hy0, hy1, hy2⟩
  have X0 := fun (t u : TypeId) => (Bx.start w K (.slice ao ts.length cap) t).next (below_one _ (.cells #[] u))
  have R0 : ∀ t : TypeId, ((w.alloc (.cells #[.int .i64 K, .slice ao ts.length cap] t)).alloc (.cells #[] 63)).ownsRow (w.heap.size + 1) 63 2 (.slice (some ⟨w.heap.size + 1, 0, none⟩) 0 0) 0 (clist ([] : List (Int × Int)) 0) := fun t => by
    have h := World.ownsRow_lit (w.alloc (.cells #[.int .i64 K, .slice ao ts.length cap] t)) #[] 0 (base := w.heap.size + 1) (e := 63) (size := 2) (by simp) (by unfold maxLen; omega) (by simp)
    have e : (w.alloc (.cells #[.int .i64 K, .slice ao ts.length cap] t)).heap.size = w.heap.size + 1 := by simp
    rw [e] at h
    exact h
  have HX0 := hideP X0
  have HR0 := hideP R0
  have HT := hideP ht
  obtain ⟨V, hV⟩ : ∃ V, countI K ts a b = V := ⟨_, rfl⟩
  have HV := hideP hV
  have hV8 := countI_le8 K ts a b
  rw [hV] at hV8
  clear X0 R0 ht hj hy0 hy1 hy2 hV
  go_enter Tryd.func8, Tryd.ntmps8
  go_wp2_with fail
  refine (specFlow_v V K ao cap ts a b _ hn ((HT.out.below (HX0.out _ _).B (Nat.le_refl _)).wide (Nat.le_of_lt (HX0.out _ _).lt)) HV.out).mono ?_
  rintro e w1 ⟨rfl, hb1⟩
  have X1 := hideP ((HX0.out _ _).next hb1)
  have R1 := hideP (own_next (HR0.out _) hb1)
  have hs1 : w.heap.size + 1 < w1.heap.size := by have := hb1.size; simp at this; omega
  clear hb1 HX0 HR0
  by_cases hneg : V < 0
  · have hTW : twoB K ts a b = false := by
      cases e : twoB K ts a b with
      | false => rfl
      | true =>
        have h := HV.out
        obtain ⟨_, x, y, rfl, rfl, hx, hy, _, _, hxy⟩ := knot_nat e
        rw [two_flow e] at h
        have := flowV_nonneg ts (a := x) (b := y) hx hxy
        omega
    have HN : Hid (cutI K ts a b = []) := hideP (by unfold cutI; rw [hTW]; rfl)
    go_wp2
    refine bodyPost_ret (v := .tuple #[.slice (some ⟨w.heap.size + 1, 0, none⟩) 0 0, .bool false]) (by simp [results, Tryd.results8, go_sem]) rfl ?_
    refine ⟨some ⟨w.heap.size + 1, 0, none⟩, 0, by rw [HN.out, hTW]; rfl, ?_, X1.out.B⟩
    rw [HN.out]
    exact own_base R1.out (Nat.le_succ _)
  have hTW : twoB K ts a b = true := countI_neg (by rw [HV.out]; exact hneg)
  obtain ⟨hok, x, y, rfl, rfl, hx, hy, hxk, hyk, hxy⟩ := knot_nat hTW
  have hVF : V = flowV ts x y := by rw [← HV.out]; exact two_flow hTW
  have HVF := hideP hVF
  have HTW := hideP hTW
  have HOK := hideP hok
  have HCI : Hid (cutI K ts (x : Int) (y : Int) = cutG x y ts ts) := hideP (by unfold cutI; rw [if_pos hTW]; rfl)
  have hlen : ts.length ≤ 64 := ok_short (okB_iff.1 hok)
  have O1 : Hid (TiesIn w1 w1.heap.size ao ts) := hideP ((HT.out.below X1.out.B (Nat.le_refl _)).wide X1.out.B.size)
  have c0 := X1.out.c0
  have c1 := X1.out.c1
  clear hTW hok hVF
  go_wp2_with fail
  refine (l1Copy_in K ao cap ts _ (by omega) O1.out).mono ?_
  rintro e w4 ⟨aoX, capX, rfl, ho4, hb4⟩
  have bx := below_one w4 (.cells #[.int .i64 K, .slice aoX ts.length capX] 25)
  have hlow := (OwnN.of_row ho4)
  have C4 : Hid (Cst w (w4.alloc (.cells #[.int .i64 K, .slice aoX ts.length capX] 25)) K (.slice ao ts.length cap) w4.heap.size (w.heap.size + 1) 0 aoX capX ts []) := by
    have hz4 := hb4.size
    refine ⟨(X1.out.next hb4).next bx, ⟨by simp, by simp, by simp, by simp, by simp, (((OwnN.of_row ho4).ties (Nat.le_refl _)).below bx (Nat.le_refl _)).wide bx.size⟩, own_next (own_next R1.out hb4) bx, by omega, ?_, by omega, by simp; omega, ?_⟩
    · intro b hb
      rcases hlow with ⟨_, e⟩ | ⟨g, e, h2, _, _⟩
      · rw [e] at hb; cases hb
      · rw [e] at hb; cases hb
        show g ≠ w.heap.size + 1
        omega
    · intro b hb
      rcases hlow with ⟨_, e⟩ | ⟨g, e, _, h3, _⟩
      · rw [e] at hb; cases hb
      · rw [e] at hb; cases hb
        simp; omega
  obtain ⟨w5, hw5⟩ : ∃ w5, w5 = w4.alloc (.cells #[.int .i64 K, .slice aoX ts.length capX] 25) := ⟨_, rfl⟩
  obtain ⟨X, hX⟩ : ∃ x, x = w4.heap.size := ⟨_, rfl⟩
  rw [← hw5, ← hX] at C4
  clear hb4 ho4 bx c0 c1 O1 X1 R1 hlow hs1
  go_wp2
  rw [← hw5, ← hX]
  clear hw5 hX
  go_loopw [8, 9, 11] (fun ov nv iv wr => ∃ (j gO capO : Nat) (aoY : Option Addr) (capY : Nat), j ≤ ts.length ∧ iv = .int .i64 (j : Int) ∧ nv = .int .i64 (flowV (leftI ts x y j) x y) ∧ ov = .slice (some ⟨gO, 0, none⟩) (cutJ ts x y j).length capO ∧ Cst w wr K (.slice ao ts.length cap) X gO capO aoY capY (leftI ts x y j) (cutJ ts x y j))
    (fun _ _ iv _ => ts.length - (intOf iv).toNat)
  case atStart => exact ⟨0, w.heap.size + 1, 0, aoX, capX, Nat.zero_le _, rfl, by rw [HVF.out]; rfl, rfl, C4.out⟩
  case round =>
    clear C4
    obtain ⟨j, gO, capO, aoY, capY, hj, rfl, rfl, rfl, hS⟩ := hrel
    have HS := hideP hS
    clear hS
    have hnn := flowV_nonneg (leftI ts x y j) (a := x) (b := y) hx hxy
    have hn8 := flowV_le8 (leftI ts x y j) (a := x) (b := y) hx hxy
    have HJE := hideP (fun h => cutJ_end (ts := ts) (a := x) (b := y) (i := j) hx hxy h)
    obtain ⟨F, hF⟩ : ∃ F, F = flowV (leftI ts x y j) x y := ⟨_, rfl⟩
    rw [← hF] at hnn hn8 HJE ⊢
    have c0 := HS.out.bx.c0
    have c1 := HS.out.bx.c1
    by_cases hlt : j < ts.length ∧ 0 < F
    · obtain ⟨hlt, hpos⟩ := hlt
      have hk0 : (0 : Int) ≤ (j : Int) := by omega
      have hk1 : (j : Int) < (ts.length : Int) := by omega
      obtain ⟨g, off, rfl, hgw, e0, e1⟩ := (HT.out.below HS.out.bx.B (Nat.le_refl _)) j hlt
      have hcut := leftI_cut HOK.out (a := x) (b := y) hlt
      have hmok := minus_ok (leftI_ok HOK.out x y j) ts[j]
      have hnx := leftI_succ (a := x) (b := y) hlt
      have hux := cutJ_succ (a := x) (b := y) hlt
      have hone := leftI_one HOK.out (a := x) (b := y) hx hxy hlt
      have htt : ts[j] = (tA ts j, tB ts j) := by rw [tA_get ts j hlt, tB_get ts j hlt]
      have hll : (leftI ts x y j).length ≤ 64 := ok_short (okB_iff.1 (leftI_ok HOK.out x y j))
      have hul := cutJ_len ts x y j
      rw [← hF] at hnx hux hone
      obtain ⟨left, hleft⟩ : ∃ l, l = leftI ts x y j := ⟨_, rfl⟩
      obtain ⟨us, hus⟩ : ∃ us, us = cutJ ts x y j := ⟨_, rfl⟩
      rw [← hleft] at hcut hmok hnx hone hll HS
      rw [← hus] at hux hul HS ⊢
      rw [← hleft] at hux
      obtain ⟨ys, hys⟩ : ∃ ys, ys = minusT left ts[j] := ⟨_, rfl⟩
      rw [← hys] at hcut hmok hnx hux hone
      obtain ⟨G, hG⟩ : ∃ G, G = flowV ys x y := ⟨_, rfl⟩
      have HG := hideP hG
      have HFL := hideP (show flowV left x y = F from by rw [hF, hleft])
      rw [← hG] at hnx hux hone
      obtain ⟨ca, hca⟩ : ∃ a, a = tA ts j := ⟨_, rfl⟩
      obtain ⟨cb, hcb⟩ : ∃ b, b = tB ts j := ⟨_, rfl⟩
      rw [← hca, ← hcb] at hcut htt
      rw [← hca] at e0
      rw [← hcb] at e1
      rw [htt] at hux
      have HNX := hideP hnx
      have HUX := hideP hux
      have HONE := hideP hone
      have hyl : ys.length ≤ 64 := ok_short (okB_iff.1 hmok)
      have HCNT : Hid (countI K ys (x : Int) (y : Int) = G) := hideP (by rw [two_flow (two_other HTW.out hmok), ← hG])
      have CUT : Hid (∀ W, TiesIn W W.heap.size aoY left → Calls Tryd.prog 31 #[.agg #[.int .i64 K, .slice aoY left.length capY], .int .i64 ca, .int .i64 cb] W fun e w' => ∃ ao' cap', e = .returned (.tuple #[.agg #[.int .i64 K, .slice ao' ys.length cap'], .bool true]) ∧ OwnN w' W.heap.size w'.heap.size ao' ys.length (tcell ys) ∧ Below W.heap.size W w') := hideP (fun W h => by
        have := specCut_all K aoY capY left ca cb W (by omega) h
        rw [hcut.1, hcut.2.1, hcut.2.2] at this; exact this)
      have hgr : g < wr.heap.size := Nat.lt_of_lt_of_le hgw HS.out.bx.B.size
      have hbl := HS.out.bx.lt
      have B0 : Hid (Below wr.heap.size wr wr.drew) := (Below.refl _ _).drew
      have B1 : Hid (Below wr.heap.size wr (wr.drew.alloc (.cells #[.int .i64 0, .slice none 0 0] 25))) := (Below.refl _ _).drew.alloc (Nat.le_refl _) _
      have HELD : Hid (∀ W, Below wr.heap.size wr W → W.cell? ⟨X, 0, none⟩ = some (.int .i64 K) ∧ W.cell? ⟨X, 1, none⟩ = some (.slice aoY left.length capY) ∧ W.cell? ⟨w.heap.size, 0, none⟩ = some (.int .i64 K) ∧ W.cell? ⟨w.heap.size, 1, none⟩ = some (.slice (some ⟨g, off, none⟩) ts.length cap) ∧ W.cell? ⟨g, off + j * 2, none⟩ = some (.int .i64 ca) ∧ W.cell? ⟨g, off + j * 2 + 1, none⟩ = some (.int .i64 cb)) := fun W hb => ⟨(HS.out.next hb).xn.c0, (HS.out.next hb).xn.c1, (HS.out.next hb).bx.c0, (HS.out.next hb).bx.c1, (hb.cell (p := ⟨g, off + j * 2, none⟩) hgr).trans e0, (hb.cell (p := ⟨g, off + j * 2 + 1, none⟩) hgr).trans e1⟩
      have HXE : Hid ((wr.drew.alloc (.cells #[.int .i64 0, .slice none 0 0] 25)).heap[wr.heap.size]? = some (Obj.cells #[.int .i64 0, .slice none 0 0] 25 (0, 0))) := World.alloc_heap_new wr.drew _
      have hszE : (wr.drew.alloc (.cells #[.int .i64 0, .slice none 0 0] 25)).heap.size = wr.heap.size + 1 := World.size_alloc _ _
      have N0 := hideP (HS.out.next B0.out).xn.ties
      have N1 := hideP (HS.out.next B1.out).xn.ties
      clear hF hcut hmok hnx hux hone htt hleft hus hys hG hca hcb e0 e1 HJE
      go_wp2
      apply wp_weakC (J := fun XB ao cap W => Ns wr W XB K ao cap ys)
      case h =>
        go_region_held3 (fun w' => w'.cell? ⟨X, 0, none⟩ = some (.int .i64 K) ∧ w'.cell? ⟨X, 1, none⟩ = some (.slice aoY left.length capY) ∧ w'.cell? ⟨w.heap.size, 0, none⟩ = some (.int .i64 K) ∧ w'.cell? ⟨w.heap.size, 1, none⟩ = some (.slice (some ⟨g, off, none⟩) ts.length cap) ∧ w'.cell? ⟨g, off + j * 2, none⟩ = some (.int .i64 ca) ∧ w'.cell? ⟨g, off + j * 2 + 1, none⟩ = some (.int .i64 cb)) (first | exact HELD.out _ bX.out | exact HELD.out _ (bX.out.alloc bX.out.size _) | exact HELD.out _ ((bX.out.setCell (p := ⟨wr.heap.size, 0, none⟩) (Nat.le_refl _) _).setCell (p := ⟨wr.heap.size, 1, none⟩) (Nat.le_refl _) _) | exact HELD.out _ B1.out | exact HELD.out _ B0.out) (first | (go_at_call 31; refine (CUT.out _ N0.out).mono ?_; rintro e w6 ⟨aoZ, capZ, rfl, ho6, hb6⟩; have bX : Hid (Below wr.heap.size wr w6) := hideP (B0.out.trans hb6); have O6 : Hid (OwnN w6 wr.heap.size w6.heap.size aoZ ys.length (tcell ys)) := hideP ho6; clear hb6 ho6) | (go_at_call 31; refine (CUT.out _ N1.out).mono ?_; rintro e w6 ⟨aoZ, capZ, rfl, ho6, hb6⟩; rw [hszE] at ho6 hb6; have bX : Hid (Below wr.heap.size wr w6) := hideP (B1.out.trans (hb6.mono (Nat.le_succ _))); have O6e : Hid (OwnN w6 (wr.heap.size + 1) w6.heap.size aoZ ys.length (tcell ys)) := hideP ho6; have HX6 : Hid (w6.heap[wr.heap.size]? = some (Obj.cells #[.int .i64 0, .slice none 0 0] 25 (0, 0))) := hideP ((hb6.block wr.heap.size (Nat.lt_succ_self _)).trans HXE.out); obtain ⟨xc0, xc1, xf⟩ := two_cells HX6.out; clear hb6 ho6))
        all_goals
          first
          | (have JJ := Ns.put (K := K) (cap := capZ) HX6.out O6e.out bX.out
             generalize wr.heap.size = XB at JJ ⊢
             exact ⟨XB, aoZ, capZ, rfl, JJ⟩)
          | (have JJ := Ns.new (K := K) (cap := capZ) 25 O6.out bX.out
             generalize w6.heap.size = XB at JJ ⊢
             exact ⟨XB, aoZ, capZ, rfl, JJ⟩)
      intro XB aoZ capZ W hJ
      have HJ := hideP hJ
      clear hJ B0 B1 HXE hszE N0 N1 CUT
      have z0 := HJ.out.c0
      have z1 := HJ.out.c1
      go_wp2_with fail
      refine (specFlow_v G K aoZ capZ ys (x : Int) (y : Int) _ (by omega) (HJ.out.own.ties (Nat.le_refl _)) HCNT.out).mono ?_
      rintro e w6 ⟨rfl, hb6⟩
      have zl := HJ.out.lt
      have z0' := (hb6.cell (p := ⟨XB, 0, none⟩) zl).trans z0
      have z1' := (hb6.cell (p := ⟨XB, 1, none⟩) zl).trans z1
      have HB6 := hideP (HJ.out.bel.trans (hb6.mono HJ.out.bel.size))
      have O6 := hideP ((HJ.out.own.next hb6).higher hb6.size)
      clear hb6 z0 z1 HCNT
      by_cases hless : G < F
      · have HL : Hid (leftI ts x y (j + 1) = ys) := hideP (by rw [HNX.out, if_pos hless])
        have HU : Hid (cutJ ts x y (j + 1) = us ++ [(ca, cb)]) := hideP (by rw [HUX.out, if_pos hless])
        have HF : Hid (F - 1 = G) := hideP (HONE.out hless)
        have S6 := hideP (HS.out.next HB6.out)
        have x0 := S6.out.xn.c0
        have x1 := S6.out.xn.c1
        have f0 := S6.out.xn.f0
        have f1 := S6.out.xn.f1
        have CP := hideP (HS.out.put (cap := capZ) HB6.out O6.out)
        have hXg : g ≠ X := by have := HS.out.hX; omega
        have hXw : w.heap.size ≠ X := by have := HS.out.hX; omega
        have H6 := HELD.out _ HB6.out
        have y1 : ((w6.setCell ⟨X, 0, none⟩ (.int .i64 K)).setCell ⟨X, 1, none⟩ (.slice aoZ ys.length capZ)).cell? ⟨w.heap.size, 1, none⟩ = some (.slice (some ⟨g, off, none⟩) ts.length cap) := CP.out.bx.c1
        have y2 : ((w6.setCell ⟨X, 0, none⟩ (.int .i64 K)).setCell ⟨X, 1, none⟩ (.slice aoZ ys.length capZ)).cell? ⟨g, off + j * 2, none⟩ = some (.int .i64 ca) := (World.cell?_setCell_other _ _ _ _ (by intro q; have := congrArg Addr.block q; simp at this; omega)).trans ((World.cell?_setCell_other _ _ _ _ (by intro q; have := congrArg Addr.block q; simp at this; omega)).trans H6.2.2.2.2.1)
        have y3 : ((w6.setCell ⟨X, 0, none⟩ (.int .i64 K)).setCell ⟨X, 1, none⟩ (.slice aoZ ys.length capZ)).cell? ⟨g, off + j * 2 + 1, none⟩ = some (.int .i64 cb) := (World.cell?_setCell_other _ _ _ _ (by intro q; have := congrArg Addr.block q; simp at this; omega)).trans ((World.cell?_setCell_other _ _ _ _ (by intro q; have := congrArg Addr.block q; simp at this; omega)).trans H6.2.2.2.2.2)
        have CA := hideP (CP.out.next (below_one _ (.cells #[.int .i64 ca, .int .i64 cb] 63)))
        have hbz := CA.out.bx.lt
        clear H6 HS HELD HJ O6 S6 c0 c1
        go_wp2_with (at_builtin; refine wpList_append_at rfl _ _ 23 rfl (w.heap.size + 1) 63 i1 (.agg #[.int .i64 0, .int .i64 0]) 2 16 Tryd.underlying23 HI1.out.1 HI1.out.2.1 HI1.out.2.2.1 HI1.out.2.2.2 rfl (by decide) (.slice (some ⟨gO, 0, none⟩) us.length capO) us.length (clist us us.length) rfl (by simp) CA.out.row (us.length + 1) ⟨_, 0, none⟩ 1 1 rfl [.int .i64 ca, .int .i64 cb] rfl rfl ?c1 ?c2 ?c3 ?c4 ?c5 ?_)
        case c1 =>
          intro q u hq
          match q, hq with
          | 0, hq => simp at hq; subst hq; simp [Addr.add]; exact (World.cell?_alloc_at _ _ _ _ (by simp)).trans rfl
          | 1, hq => simp at hq; subst hq; simp [Addr.add]; exact (World.cell?_alloc_at _ _ _ _ (by simp)).trans rfl
        case c2 => intro u hu; simp at hu; rcases hu with rfl | rfl <;> rfl
        case c3 => unfold maxLen; omega
        case c4 => omega
        case c5 => omega
        intro gN capN w9 hown hgrow hnew
        have hul1 : (us ++ [(ca, cb)]).length = us.length + 1 := by simp
        have C9 : Hid (Cst w w9 K (.slice (some ⟨g, off, none⟩) ts.length cap) X gN capN aoZ capZ ys (us ++ [(ca, cb)])) := by
          refine hideP (CA.out.grow (vs := us ++ [(ca, cb)]) ?_ (by simpa [Value.ownBlock] using hgrow) ?_ ?_)
          · rw [hul1, clist_app]; exact hown
          · rcases hnew with q | q
            · left; simpa [Value.ownBlock] using q
            · right; simpa using q
          · rcases hown.2 with ⟨q, _⟩ | ⟨g', c', cur, q, _, q3, _⟩
            · cases q
            · simp only [Value.slice.injEq, Option.some.injEq, Addr.mk.injEq, and_true, true_and] at q
              rw [q.1]; exact (Array.getElem?_eq_some_iff.1 q3).1
        clear hown hgrow hnew CA CP
        go_wp2
        go_roundw
        case rel => exact ⟨j + 1, gN, capN, aoZ, capZ, by omega, by go_num, by rw [HL.out, ← HG.out, ← HF.out], by rw [HU.out, hul1], by rw [HL.out, HU.out]; exact C9.out⟩
        case measure => simp [intOf]; omega
      · have HL : Hid (leftI ts x y (j + 1) = left) := hideP (by rw [HNX.out, if_neg hless])
        have HU : Hid (cutJ ts x y (j + 1) = us) := hideP (by rw [HUX.out, if_neg hless])
        have S6 := hideP (HS.out.next HB6.out)
        clear HS HELD HJ O6 HB6
        go_wp2
        go_roundw
        case rel => exact ⟨j + 1, gO, capO, aoY, capY, by omega, by go_num, by rw [HL.out, HFL.out], by rw [HU.out], by rw [HL.out, HU.out]; exact S6.out⟩
        case measure => simp [intOf]; omega
    · have HU : Hid (cutJ ts x y j = cutI K ts (x : Int) (y : Int)) := hideP (by rw [HCI.out]; exact HJE.out (by omega))
      have hnot : ¬ ((j : Int) < (ts.length : Int)) ∨ ((j : Int) < (ts.length : Int) ∧ ¬ (0 < F)) := by omega
      have HB := hideP HS.out.bx.B
      have HROW := hideP (own_base HS.out.row (Nat.le_succ _))
      rw [HU.out] at HROW
      rw [HU.out]
      clear HS HU HJE
      rcases hnot with h1 | ⟨h1, h2⟩
      · go_wp2
        refine bodyPost_ret (v := .tuple #[.slice (some ⟨gO, 0, none⟩) (cutI K ts (x : Int) (y : Int)).length capO, .bool true]) (by simp [results, Tryd.results8, go_sem]) rfl ?_
        exact ⟨some ⟨gO, 0, none⟩, capO, by rw [HTW.out], HROW.out, HB.out⟩
      · have h2' : decide (0 < F) = false := decide_eq_false h2
        go_wp2
        refine bodyPost_ret (v := .tuple #[.slice (some ⟨gO, 0, none⟩) (cutI K ts (x : Int) (y : Int)).length capO, .bool true]) (by simp [results, Tryd.results8, go_sem]) rfl ?_
        exact ⟨some ⟨gO, 0, none⟩, capO, by rw [HTW.out], HROW.out, HB.out⟩
theorem specFlowCut_row (lo hi : Nat) (K : Int) (ao : Option Addr) (cap : Nat) (ts : List (Int × Int)) (a b : Int) (w : World) (hn : ts.length ≤ 1099511627776) (ho : OwnN w lo hi ao ts.length (tcell ts)) (hhi : hi ≤ w.heap.size) :
    Calls Tryd.prog 8 #[.agg #[.int .i64 K, .slice ao ts.length cap], .int .i64 a, .int .i64 b] w fun e w' => ∃ ao' cap', e = .returned (.tuple #[.slice ao' (cutI K ts a b).length cap', .bool (twoB K ts a b)]) ∧ w'.ownsRow w.heap.size 63 2 (.slice ao' (cutI K ts a b).length cap') (cutI K ts a b).length (clist (cutI K ts a b) (cutI K ts a b).length) ∧ Below w.heap.size w w' := by
  exact specFlowCut_in K ao cap ts a b w hn (ho.ties hhi)
theorem specFlowCut_any (lo hi : Nat) (K : Int) (ao : Option Addr) (cap : Nat) (ts : List (Int × Int)) (a b : Int) (w : World) (hn : ts.length ≤ 1099511627776) (ho : OwnN w lo hi ao ts.length (tcell ts)) (hhi : hi ≤ w.heap.size) :
    Calls Tryd.prog 8 #[.agg #[.int .i64 K, .slice ao ts.length cap], .int .i64 a, .int .i64 b] w fun e w' => ∃ ao' cap', e = .returned (.tuple #[.slice ao' (cutI K ts a b).length cap', .bool (twoB K ts a b)]) ∧ OwnN w' w.heap.size w'.heap.size ao' (cutI K ts a b).length (tcell (cutI K ts a b)) ∧ Below w.heap.size w w' := by
  exact (specFlowCut_row lo hi K ao cap ts a b w hn ho hhi).mono fun e w' ⟨ao', cap', he, ho', hb⟩ => ⟨ao', cap', he, OwnN.of_row ho', hb⟩

end Go.Proofs.YtljnjpjnadlmhaaDoor
