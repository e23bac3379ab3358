/- Texts put together: MathC, MathE, WDive, WDive2. -/
import Derived.Test.YticoiolpofibdaaDoorPart10
import Derived.Test.YticoiolpofibdaaDoorPart7
import Derived.Test.YticoiolpofibdaaDoorPart8
import Derived.Deep.RegionLaw
import Derived.BigRegion
import Derived.Laws.OwnMore
import Derived.Deep.RegionWith
/- Plain mathematics of parts: counted; a tie more. No program stands here. -/
namespace Go.Proofs.YticoiolpofibdaaDoor
set_option linter.unusedVariables false

theorem tied_mem_iff (ts : List (Int × Int)) (x y : Nat) : Tied ts ts.length x y ↔ ∃ t, t ∈ ts ∧ t.1.toNat = x ∧ t.2.toNat = y := by
  constructor
  · rintro ⟨i, hi, e1, e2⟩; exact ⟨(tA ts i, tB ts i), mem_at hi, e1, e2⟩
  · rintro ⟨t, ht, e1, e2⟩
    obtain ⟨i, hi, e⟩ := List.mem_iff_getElem.1 ht
    exact ⟨i, hi, by rw [tA_get ts i hi, e]; exact e1, by rw [tB_get ts i hi, e]; exact e2⟩
/-- a tie more: one part less just if both were in two -/
theorem cnt_add {K : Int} {ts : List (Int × Int)} {a b : Int} (h : addB K ts a b = true) :
    cnt (addTs K ts a b) K.toNat + (if reachB ts a.toNat b.toNat = true then 0 else 1) = cnt ts K.toNat := by
  obtain ⟨hok, a0, a1, b0, b1, hab, hno⟩ := addB_yes h
  have eus := addTs_yes h
  obtain ⟨us', hus'⟩ : ∃ us', us' = ts ++ [tieOf a b] := ⟨_, rfl⟩
  have hlen : us'.length = ts.length + 1 := by rw [hus']; simp
  have hc : cnt (addTs K ts a b) K.toNat = cnt us' K.toNat := by
    rw [cnt_is, cnt_is]
    refine cntF_congr _ (fun k _ => ?_)
    rw [top_self_iff, top_self_iff]
    have hE : ∀ x y, Tied (addTs K ts a b) (addTs K ts a b).length x y ↔ Tied us' us'.length x y := by
      intro x y
      rw [tied_mem_iff, tied_mem_iff]
      have hm : ∀ t, t ∈ addTs K ts a b ↔ t ∈ us' := by
        intro t
        rw [eus, mem_ins, hus', List.mem_append, List.mem_singleton]
        exact ⟨fun h => h.elim Or.inr Or.inl, fun h => h.elim Or.inr Or.inl⟩
      exact ⟨fun ⟨t, h1, h2⟩ => ⟨t, (hm t).1 h1, h2⟩, fun ⟨t, h1, h2⟩ => ⟨t, (hm t).2 h1, h2⟩⟩
    exact ⟨fun h j hj hc => h j hj ((Cn.iff hE j k).2 hc), fun h j hj hc => h j hj ((Cn.iff hE j k).1 hc)⟩
  have hpre : ∀ i, i < ts.length → tA us' i = tA ts i ∧ tB us' i = tB ts i := by
    intro i hi
    have : us'[i]? = ts[i]? := by rw [hus']; exact List.getElem?_append_left hi
    simp only [tA, tB, List.getD_eq_getElem?_getD, this, and_self]
  have hlast : tA us' ts.length = min a b ∧ tB us' ts.length = max a b := by
    have : us'[ts.length]? = some (tieOf a b) := by rw [hus']; simp
    simp only [tA, tB, List.getD_eq_getElem?_getD, this, Option.getD_some, tieOf, and_self]
  have hf : forest us' us'.length = join (forest ts ts.length) (min a b).toNat (max a b).toNat := by
    rw [hlen]
    show join (forest us' ts.length) (tA us' ts.length).toNat (tB us' ts.length).toNat = _
    rw [forest_same ts.length hpre, hlast.1, hlast.2]
  rw [hc, cnt_is, hf, cnt_is]
  have hl := forest_low ts ts.length
  have hr : reachB ts a.toNat b.toNat = decide (top (forest ts ts.length) (min a b).toNat = top (forest ts ts.length) (max a b).toNat) := by
    unfold reachB
    by_cases hm : a ≤ b
    · rw [Int.min_eq_left hm, Int.max_eq_right hm]
      by_cases e : top (forest ts ts.length) b.toNat = top (forest ts ts.length) a.toNat
      · rw [decide_eq_true e, decide_eq_true e.symm]
      · rw [decide_eq_false e, decide_eq_false (fun x => e x.symm)]
    · rw [Int.min_eq_right (by omega), Int.max_eq_left (by omega)]
  by_cases e : top (forest ts ts.length) (min a b).toNat = top (forest ts ts.length) (max a b).toNat
  · rw [hr, decide_eq_true e, if_pos rfl, join_same hl e]; rfl
  · rw [hr, decide_eq_false e, if_neg (by simp)]
    exact join_less hl e (by omega) (by omega)

end Go.Proofs.YticoiolpofibdaaDoor

/- Plain mathematics of bridges: what is told, held against cutting and counting. No program stands here. -/
namespace Go.Proofs.YticoiolpofibdaaDoor
set_option linter.unusedVariables false

/-- bits of pairs of which something is so -/
def BrBits (m : Nat) (br : Nat → Nat → Prop) : Prop := ∀ j, m.testBit j = true ↔ ∃ x y : Nat, x < y ∧ y < 8 ∧ x * 8 + y = j ∧ br x y
theorem BrBits.none : BrBits 0 (fun _ _ => False) := by intro j; simp
theorem BrBits.same {m : Nat} {br br' : Nat → Nat → Prop} (h : BrBits m br) (e : ∀ x y, br x y ↔ br' x y) : BrBits m br' := by
  intro j; rw [h j]
  exact ⟨fun ⟨x, y, h1, h2, h3, h4⟩ => ⟨x, y, h1, h2, h3, (e x y).1 h4⟩, fun ⟨x, y, h1, h2, h3, h4⟩ => ⟨x, y, h1, h2, h3, (e x y).2 h4⟩⟩
theorem BrBits.with {m : Nat} {br : Nat → Nat → Prop} (h : BrBits m br) {a b : Nat} (ha : a < 8) (hb : b < 8) (hab : a ≠ b) : BrBits (m ||| pbit (a : Int) (b : Int)) (fun x y => br x y ∨ ((x = a ∧ y = b) ∨ (x = b ∧ y = a))) := by
  intro j
  rw [Nat.testBit_or, Bool.or_eq_true, h j, pbit_bit]
  constructor
  · rintro (⟨x, y, h1, h2, h3, h4⟩ | ⟨⟨p1, p2, p3⟩, e⟩)
    · exact ⟨x, y, h1, h2, h3, Or.inl h4⟩
    · unfold tieOf ix idx at e
      by_cases hl : a < b
      · exact ⟨a, b, hl, hb, by omega, Or.inr (Or.inl ⟨rfl, rfl⟩)⟩
      · exact ⟨b, a, by omega, ha, by omega, Or.inr (Or.inr ⟨rfl, rfl⟩)⟩
  · rintro ⟨x, y, h1, h2, h3, h4 | (⟨rfl, rfl⟩ | ⟨rfl, rfl⟩)⟩
    · exact Or.inl ⟨x, y, h1, h2, h3, h4⟩
    · right
      refine ⟨⟨by omega, by omega, by omega⟩, ?_⟩
      unfold tieOf ix idx; omega
    · right
      refine ⟨⟨by omega, by omega, by omega⟩, ?_⟩
      unfold tieOf ix idx; omega
/-- a tie is a bridge: with it cut there is one part more -/
def bridgeB (K : Int) (ts : List (Int × Int)) (a b : Int) : Bool := hasB K ts a b && decide (cnt ts K.toNat < cnt (cutTs K ts a b) K.toNat)
def brTs (K : Int) (ts : List (Int × Int)) : List (Int × Int) := if okB K ts = true then ts.filter (fun t => bridgeB K ts t.1 t.2) else []
/-- the ties of a net, either way -/
def EE (ts : List (Int × Int)) (x y : Nat) : Prop := tieNB ts x y = true
theorem tieNB_turn (ts : List (Int × Int)) (x y : Nat) : tieNB ts x y = tieNB ts y x := by unfold tieNB; rw [Int.min_comm, Int.max_comm]
theorem tieNB_mem (ts : List (Int × Int)) (x y : Nat) : tieNB ts x y = true ↔ tieOf (x : Int) (y : Int) ∈ ts := by unfold tieNB; rw [tied_mem]; rfl
theorem EE.gr {K : Int} {ts : List (Int × Int)} (h : NetOk K ts) : Gr (EE ts) := by
  have h8 := h.2.1
  have key : ∀ x y, EE ts x y → x < K.toNat ∧ y < K.toNat ∧ x ≠ y := by
    intro x y hxy
    unfold EE tieNB at hxy
    rw [tiedB_iff] at hxy
    obtain ⟨i, hi, e1, e2⟩ := hxy
    obtain ⟨q1, q2, q3⟩ := (h.2.2 i hi).1
    omega
  refine ⟨fun x y hxy => by unfold EE at *; rw [tieNB_turn]; exact hxy, fun x hx => (key x x hx).2.2 rfl, fun x y hxy => by have := (key x y hxy).1; omega⟩
theorem cn_sym {E E' : Nat → Nat → Prop} (h : ∀ x y, E x y → E' x y ∨ E' y x) {x y : Nat} (hc : Cn E x y) : Cn E' x y := by
  induction hc with
  | refl => exact Cn.refl _
  | fwd _ e ih => rcases h _ _ e with e | e; exact ih.fwd e; exact ih.bwd e
  | bwd _ e ih => rcases h _ _ e with e | e; exact ih.bwd e; exact ih.fwd e
theorem tieOf_nat {a b x y : Nat} : tieOf (x : Int) (y : Int) = tieOf (a : Int) (b : Int) ↔ (x = a ∧ y = b) ∨ (x = b ∧ y = a) := by
  unfold tieOf
  simp only [Prod.mk.injEq]
  omega
/-- two knots hang together without their tie just if they do in the net with that cut -/
theorem nb_cut {K : Int} {ts : List (Int × Int)} {a b : Nat} (hh : hasB K ts (a : Int) (b : Int) = true) : Nb (EE ts) a b ↔ Cn (Tied (cutTs K ts a b) (cutTs K ts a b).length) a b := by
  have hok := has_ok hh
  have hC := cutOut (show cutB K ts (a : Int) (b : Int) = true from hh)
  have e := cutTs_yes (show cutB K ts (a : Int) (b : Int) = true from hh)
  have hco := okB_iff.1 hC.ok
  have mem : ∀ x y : Nat, But (EE ts) a b x y ↔ tieNB (cutTs K ts a b) x y = true := by
    intro x y
    rw [tieNB_mem, e, List.mem_filter]
    unfold But EE
    rw [tieNB_mem]
    have : other (tieOf (a : Int) (b : Int)) (tieOf (x : Int) (y : Int)) = true ↔ ¬ (x = a ∧ y = b) ∧ ¬ (x = b ∧ y = a) := by
      unfold other
      rw [decide_eq_true_eq, ne_eq, tieOf_nat]
      constructor
      · intro h; exact ⟨fun q => h (Or.inl q), fun q => h (Or.inr q)⟩
      · rintro ⟨h1, h2⟩ (q | q)
        · exact h1 q
        · exact h2 q
    rw [this]
  unfold Nb
  constructor
  · exact cn_sym (fun x y h => (tieNB_iff hco).1 ((mem x y).1 h))
  · refine cn_sym (fun x y h => Or.inl ((mem x y).2 ((tieNB_iff hco).2 (Or.inl h))))
theorem cnt_cut {K : Int} {ts : List (Int × Int)} {a b : Int} (hh : hasB K ts a b = true) : cnt ts K.toNat + (if reachB (cutTs K ts a b) b.toNat a.toNat = true then 0 else 1) = cnt (cutTs K ts a b) K.toNat := by
  obtain ⟨h1, h2⟩ := cut_add (show cutB K ts a b = true from hh)
  have := cnt_add h1
  rw [h2] at this
  exact this
theorem bridge_nb {K : Int} {ts : List (Int × Int)} {a b : Nat} (hh : hasB K ts (a : Int) (b : Int) = true) : bridgeB K ts a b = true ↔ ¬ Nb (EE ts) a b := by
  have h1 := cnt_cut hh
  rw [nb_cut hh]
  have h2 : reachB (cutTs K ts a b) (b : Int).toNat (a : Int).toNat = true ↔ Cn (Tied (cutTs K ts a b) (cutTs K ts a b).length) a b := by
    unfold reachB
    rw [decide_eq_true_eq, forest_cn]; simp
  unfold bridgeB
  rw [hh, Bool.true_and, decide_eq_true_eq, ← h2]
  cases e : reachB (cutTs K ts a b) (b : Int).toNat (a : Int).toNat
  · rw [e, if_neg (by simp)] at h1; simp; omega
  · rw [e, if_pos rfl] at h1; simp; omega
theorem bridge_turn (K : Int) (ts : List (Int × Int)) (a b : Int) : bridgeB K ts b a = bridgeB K ts a b := by
  unfold bridgeB cutTs cutB
  rw [hasB_turned, tieOf_turn]
/-- the bits that are told in the end are those of the bridges -/
theorem br_bits {K : Int} {ts : List (Int × Int)} (hok : okB K ts = true) {m : Nat} {br : Nat → Nat → Prop} (hb : BrBits m br) (ha : ∀ x y, br x y ↔ EE ts x y ∧ ¬ Nb (EE ts) x y) : BitsOf m (brTs K ts) := by
  intro j
  rw [hb j]
  have hnet := okB_iff.1 hok
  obtain ⟨k0, k8, hs⟩ := ok_parts hok
  have e : brTs K ts = ts.filter (fun t => bridgeB K ts t.1 t.2) := if_pos hok
  rw [e]
  constructor
  · rintro ⟨x, y, h1, h2, h3, h4⟩
    obtain ⟨q1, q2⟩ := (ha x y).1 h4
    have hm := (tieNB_mem ts x y).1 q1
    have ht : tieOf (x : Int) (y : Int) = ((x : Int), (y : Int)) := by unfold tieOf; rw [Int.min_eq_left (by omega), Int.max_eq_right (by omega)]
    have hh : hasB K ts (x : Int) (y : Int) = true := (hasB_mem hok).2 hm
    refine ⟨((x : Int), (y : Int)), List.mem_filter.2 ⟨ht ▸ hm, (bridge_nb hh).2 q2⟩, ?_⟩
    unfold ix idx; omega
  · rintro ⟨t, ht, rfl⟩
    obtain ⟨h1, h2⟩ := List.mem_filter.1 ht
    obtain ⟨q1, q2, q3⟩ := hs.1 t h1
    have e1 : ((t.1.toNat : Nat) : Int) = t.1 := by omega
    have e2 : ((t.2.toNat : Nat) : Int) = t.2 := by omega
    have hm : tieOf ((t.1.toNat : Nat) : Int) ((t.2.toNat : Nat) : Int) ∈ ts := by
      rw [e1, e2]; unfold tieOf; rw [Int.min_eq_left (by omega), Int.max_eq_right (by omega)]; exact h1
    have hh : hasB K ts ((t.1.toNat : Nat) : Int) ((t.2.toNat : Nat) : Int) = true := (hasB_mem hok).2 hm
    refine ⟨t.1.toNat, t.2.toNat, by omega, by omega, by unfold ix idx; omega, (ha _ _).2 ⟨(tieNB_mem ts _ _).2 hm, (bridge_nb hh).1 ?_⟩⟩
    rw [e1, e2]; exact h2
theorem brTs_ok {K : Int} {ts : List (Int × Int)} (h : okB K ts = true) : okB K (brTs K ts) = true := by
  obtain ⟨k0, k8, hs⟩ := ok_parts h
  rw [show brTs K ts = ts.filter (fun t => bridgeB K ts t.1 t.2) from if_pos h]
  exact ok_of_srt k0 k8 (srt_filter hs _)
theorem brTs_len (K : Int) (ts : List (Int × Int)) : (brTs K ts).length ≤ 64 := by
  cases h : okB K ts
  · rw [show brTs K ts = [] by simp [brTs, h]]; simp
  · exact ok_short (okB_iff.1 (brTs_ok h))
theorem brTs_has {K : Int} {ts : List (Int × Int)} (h : okB K ts = true) (a b : Int) : hasB K (brTs K ts) a b = bridgeB K ts a b := by
  rw [Bool.eq_iff_iff, hasB_mem (brTs_ok h), show brTs K ts = ts.filter (fun t => bridgeB K ts t.1 t.2) from if_pos h, List.mem_filter]
  have e : bridgeB K ts (tieOf a b).1 (tieOf a b).2 = bridgeB K ts a b := by
    unfold tieOf
    by_cases hab : a ≤ b
    · rw [Int.min_eq_left hab, Int.max_eq_right hab]
    · rw [Int.min_eq_right (by omega), Int.max_eq_left (by omega)]; exact bridge_turn K ts a b
  rw [e, ← hasB_mem h]
  constructor
  · exact fun q => q.2
  · intro q
    refine ⟨?_, q⟩
    unfold bridgeB at q
    rw [Bool.and_eq_true] at q
    exact q.1

end Go.Proofs.YticoiolpofibdaaDoor

/- Walks of impl.dive's methods: top, enter, leave, move. -/
namespace Go.Proofs.YticoiolpofibdaaDoor
open Go.RowKit
set_option linter.unusedVariables false

theorem Tryd.infoStep : (Tryd.prog.info? 111).map (fun i => (i.zero, i.size, i.bytes)) = some (some (.agg #[.int .i64 0, .int .i64 0, .int .i64 0, .int .i64 0]), 4, 32) := by kernel_rfl
/-- the stack's cells -/
def scell (d : Dv) (j : Nat) : Value := .int .i64 (((if j % 4 = 0 then d.kn (j / 4) else if j % 4 = 1 then d.fr (j / 4) else if j % 4 = 2 then d.nx (j / 4) else d.le (j / 4) : Nat)) : Int)
def slist (d : Dv) (k : Nat) : List Value := (List.range (k * 4)).map (scell d)
theorem slist_length (d : Dv) (k : Nat) : (slist d k).length = k * 4 := by simp [slist]
theorem slist_get (d : Dv) (k j : Nat) (h : j < k * 4) : (slist d k)[j]? = some (scell d j) := by simp [slist, h]
theorem slist_none (d : Dv) (k j : Nat) (h : ¬ j < k * 4) : (slist d k)[j]? = none := by rw [List.getElem?_eq_none]; rw [slist_length]; omega
theorem slist_push (d : Dv) (k f : Nat) : slist (d.push k f) (d.m + 1) = slist d d.m ++ [.int .i64 (k : Int), .int .i64 (f : Int), .int .i64 0, .int .i64 ((d.cn + 1 : Nat) : Int)] := by
  apply List.ext_getElem?
  intro j
  by_cases hj : j < (d.m + 1) * 4
  · rw [slist_get _ _ _ hj]
    by_cases hj2 : j < d.m * 4
    · rw [List.getElem?_append_left (by rw [slist_length]; exact hj2), slist_get _ _ _ hj2]
      have hne : j / 4 ≠ d.m := by omega
      simp [scell, Dv.push, upd, hne]
    · rw [List.getElem?_append_right (by rw [slist_length]; omega), slist_length]
      have hq : j / 4 = d.m := by omega
      obtain ⟨r, hr⟩ : ∃ r, r = j - d.m * 4 := ⟨_, rfl⟩
      rw [← hr]
      have hm : j % 4 = r := by omega
      have : r = 0 ∨ r = 1 ∨ r = 2 ∨ r = 3 := by omega
      rcases this with e | e | e | e <;> subst e <;> simp [scell, Dv.push, upd, hq, hm]
  · rw [slist_none _ _ _ hj, List.getElem?_eq_none]
    simp [slist_length]; omega
/-- the dive's cells -/
def dcell (s : Nat) (v : Value) (tu : Nat → Nat) (cn mB : Nat) (j : Nat) : Value :=
  if j = 0 then .int .u64 (s : Int) else if j = 1 then v else if j < 10 then .int .i64 (tu (j - 2) : Int) else if j = 10 then .int .i64 (cn : Int) else .int .u64 (mB : Int)
/-- a dive in memory: its own block A, its stack in a row from A + 1 on -/
structure Dm (wr : World) (A : Nat) (s mB : Nat) (d : Dv) (v : Value) : Prop where
  I : OwnI wr A 12 (dcell s v d.tu d.cn mB)
  own : wr.ownsRow (A + 1) 111 4 v d.m (slist d d.m)
theorem Dm.c0 {wr : World} {A s mB : Nat} {d : Dv} {v : Value} (h : Dm wr A s mB d v) : wr.cell? ⟨A, 0, none⟩ = some (.int .u64 (s : Int)) := h.I.1 0 (by omega)
theorem Dm.c1 {wr : World} {A s mB : Nat} {d : Dv} {v : Value} (h : Dm wr A s mB d v) : wr.cell? ⟨A, 1, none⟩ = some v := h.I.1 1 (by omega)
theorem Dm.ct {wr : World} {A s mB : Nat} {d : Dv} {v : Value} (h : Dm wr A s mB d v) {k : Nat} (hk : k < 8) : wr.cell? ⟨A, 2 + k, none⟩ = some (.int .i64 (d.tu k : Int)) := by
  rw [h.I.1 (2 + k) (by omega)]
  unfold dcell
  rw [if_neg (by omega), if_neg (by omega), if_pos (by omega), show 2 + k - 2 = k by omega]
theorem Dm.cc {wr : World} {A s mB : Nat} {d : Dv} {v : Value} (h : Dm wr A s mB d v) : wr.cell? ⟨A, 10, none⟩ = some (.int .i64 (d.cn : Int)) := h.I.1 10 (by omega)
theorem Dm.cb {wr : World} {A s mB : Nat} {d : Dv} {v : Value} (h : Dm wr A s mB d v) : wr.cell? ⟨A, 11, none⟩ = some (.int .u64 (mB : Int)) := h.I.1 11 (by omega)

theorem Dm.drew {wr : World} {A s mB : Nat} {d : Dv} {v : Value} (h : Dm wr A s mB d v) : Dm wr.drew A s mB d v := ⟨h.I, h.own⟩
theorem Dm.lt {wr : World} {A s mB : Nat} {d : Dv} {v : Value} (h : Dm wr A s mB d v) : A < wr.heap.size := h.I.2.2
/-- what is turned in the dive's own block -/
theorem Dm.set {wr : World} {A s mB mB' : Nat} {d d' : Dv} {v v' : Value} (h : Dm wr A s mB d v) {i : Nat} (hi : i < 12) (u : Value) (he : ∀ j, j < 12 → (if j = i then u else dcell s v d.tu d.cn mB j) = dcell s v' d'.tu d'.cn mB' j) (ho : wr.ownsRow (A + 1) 111 4 v' d'.m (slist d' d'.m)) : Dm (wr.setCell ⟨A, i, none⟩ u) A s mB' d' v' :=
  ⟨(h.I.set hi u).congr he, ownsRow_setCell_below ho (by show A < A + 1; omega) u⟩
theorem dcells {s : Nat} {v v' : Value} {tu tu' : Nat → Nat} {cn cn' mB mB' : Nat} {i : Nat} {u : Value} (h0 : i ≠ 0) (h1 : (if 1 = i then u else v) = v') (ht : ∀ k, k < 8 → (if 2 + k = i then u else Value.int .i64 (tu k : Int)) = .int .i64 (tu' k : Int)) (hc : (if 10 = i then u else Value.int .i64 (cn : Int)) = .int .i64 (cn' : Int)) (hb : (if 11 = i then u else Value.int .u64 (mB : Int)) = .int .u64 (mB' : Int)) :
    ∀ j, j < 12 → (if j = i then u else dcell s v tu cn mB j) = dcell s v' tu' cn' mB' j := by
  intro j hj
  by_cases e0 : j = 0
  · subst e0; rw [if_neg (fun e => h0 e.symm)]; rfl
  by_cases e1 : j = 1
  · subst e1; exact h1
  by_cases e2 : j < 10
  · obtain ⟨k, rfl⟩ : ∃ k, j = 2 + k := ⟨j - 2, by omega⟩
    have := ht k (by omega)
    have q : ∀ (v : Value) tu cn mB, dcell s v tu cn mB (2 + k) = .int .i64 (tu k : Int) := by
      intro v tu cn mB
      unfold dcell
      rw [if_neg (by omega), if_neg (by omega), if_pos (by omega), show 2 + k - 2 = k by omega]
    rw [q, q]; exact this
  by_cases e3 : j = 10
  · subst e3; exact hc
  · obtain rfl : j = 11 := by omega
    exact hb
theorem Dm.turns {wr : World} {A s mB : Nat} {d : Dv} {v : Value} (h : Dm wr A s mB d v) {k : Nat} (hk : k < 8) :
    Dm ((wr.setCell ⟨A, 10, none⟩ (.int .i64 ((d.cn : Int) + 1))).setCell ⟨A, 2 + k, none⟩ (.int .i64 ((d.cn : Int) + 1))) A s mB { d with tu := upd d.tu k (d.cn + 1), cn := d.cn + 1 } v := by
  have h1 : Dm (wr.setCell ⟨A, 10, none⟩ (.int .i64 ((d.cn : Int) + 1))) A s mB { d with cn := d.cn + 1 } v :=
    h.set (by omega) _ (dcells (by omega) (by simp) (fun k hk => by rw [if_neg (by omega)]) (by simp) (by simp)) h.own
  refine h1.set (by omega) _ (dcells (by omega) (by rw [if_neg (by omega)]) (fun j hj => ?_) (by rw [if_neg (by omega)]) (by rw [if_neg (by omega)])) h1.own
  by_cases e : j = k
  · subst e; rw [if_pos rfl]; show _ = Value.int .i64 ((upd d.tu j (d.cn + 1) j : Nat) : Int); rw [upd_at]; simp
  · rw [if_neg (by omega)]; show Value.int .i64 (d.tu j : Int) = Value.int .i64 ((upd d.tu k (d.cn + 1) j : Nat) : Int); rw [upd_no _ _ e]
/-- the stack's row has grown -/
theorem Dm.grown {ww wa wb : World} {A s mB : Nat} {d d' : Dv} {v v' : Value} (h : Dm ww A s mB d v) (ha : Below ww.heap.size ww wa) (hg : wa.grownBy wb v.ownBlock) (ho : wb.ownsRow (A + 1) 111 4 v' d'.m (slist d' d'.m)) (ht : d'.tu = d.tu) (hc : d'.cn = d.cn) :
    Dm (wb.setCell ⟨A, 1, none⟩ v') A s mB d' v' ∧ Below A ww (wb.setCell ⟨A, 1, none⟩ v') ∧ wb.cell? ⟨A, 1, none⟩ = some v ∧ wb.frozen? ⟨A, 1, none⟩ = false := by
  have hA := h.lt
  have hs := ha.size
  have hz := hg.size
  have eb : ∀ k, k ≤ A → wb.heap[k]? = ww.heap[k]? := fun k hk => (hg.block k (by omega) (fun e => by have := own_ge h.own k e.symm; omega)).trans (ha.block k (by omega))
  have hI : OwnI wb A 12 (dcell s v d.tu d.cn mB) := h.I.same (eb A (Nat.le_refl _)) (by omega)
  refine ⟨⟨?_, ownsRow_setCell_below ho (by show A < A + 1; omega) _⟩, ?_, hI.1 1 (by omega), hI.2.1 1⟩
  · refine (hI.set (i := 1) (by omega) v').congr ?_
    rw [ht, hc]
    exact dcells (by omega) (by simp) (fun k hk => by rw [if_neg (by omega)]) (by simp) (by simp)
  · exact Below.setCell (B := A) (w := wb) (p := ⟨A, 1, none⟩) ⟨hg.os.trans ha.os, hg.tape.trans ha.tape, hg.output.trans ha.output, by omega, fun k hk => eb k (by omega)⟩ (Nat.le_refl _) v'

set_option maxHeartbeats 800000 in
theorem enter_any (A s mB : Nat) (d : Dv) (v : Value) (k f : Nat) (w : World) (hD : Dm w A s mB d v) (hk : k < 8) (hf : f < 8) (hm : d.m ≤ 8) (hc : d.cn ≤ 8) :
    Calls Tryd.prog 91 #[.pointer (some ⟨A, 0, none⟩), .int .i64 (k : Int), .int .i64 (f : Int)] w fun e w' => e = .returned (.tuple #[]) ∧ ∃ v', Dm w' A s mB (d.push k f) v' ∧ Below A w w' := by
  obtain ⟨i0, hi0, hz0, hz1, hz2⟩ := info_parts Tryd.infoStep
  have HI : Hid (Tryd.prog.info? 111 = some i0 ∧ i0.zero = some (.agg #[.int .i64 0, .int .i64 0, .int .i64 0, .int .i64 0]) ∧ i0.size = 4 ∧ i0.bytes = 32) := ⟨hi0, hz0, hz1, hz2⟩
  clear hi0 hz0 hz1 hz2
  have c1 := hD.c1
  have ct := hD.ct hk
  have cc := hD.cc
  have fz := hD.I.2.1
  have hA := hD.I.2.2
  have HD := hideP hD
  clear hD
  go_enter Tryd.func91, Tryd.ntmps91
  go_wp2
  go_region
  go_wp2
  obtain ⟨ww, hww⟩ : ∃ ww, ww = (w.setCell ⟨A, 10, none⟩ (.int .i64 ((d.cn : Int) + 1))).setCell ⟨A, 2 + k, none⟩ (.int .i64 ((d.cn : Int) + 1)) := ⟨_, rfl⟩
  have D2 : Hid (Dm ww A s mB { d with tu := upd d.tu k (d.cn + 1), cn := d.cn + 1 } v) := by rw [hww]; exact HD.out.turns hk
  have B2 : Hid (Below A w ww) := by rw [hww]; exact ((Below.refl _ _).setCell (p := ⟨A, 10, none⟩) (Nat.le_refl _) _).setCell (p := ⟨A, 2 + k, none⟩) (Nat.le_refl _) _
  rw [← hww]
  clear hww c1 ct cc fz hA HD
  have c1 := D2.out.c1
  have cc : ww.cell? ⟨A, 10, none⟩ = some (.int .i64 ((d.cn : Int) + 1)) := D2.out.cc
  have hA := D2.out.lt
  go_region_law ((refine step_append_lies _ (by rfl) _ _ _ (by rfl) (A + 1) 111 i0 _ 4 32 Tryd.underlying95 HI.out.1 HI.out.2.1 HI.out.2.2.1 HI.out.2.2.2 rfl (by omega) v d.m (slist d d.m) (by rfl) ((D2.out.own.alloc _).drew) ⟨ww.heap.size, 0, none⟩ 1 1 [.int .i64 (k : Int), .int .i64 (f : Int), .int .i64 0, .int .i64 ((d.cn : Int) + 1)] (by rfl) (by rfl) (World.news_of_block (cs := #[.int .i64 (k : Int), .int .i64 (f : Int), .int .i64 0, .int .i64 ((d.cn : Int) + 1)]) (t := 111) (fr := (0, 0)) (heap_alloc_new ww _)) (by simp [Value.oneCell']) (by omega) (by unfold maxLen; omega) (by omega) (by simp; omega) (ww.heap.size + 1) (by simp) ?_; intro g cap' wb hown1 hgrow hat hltg; obtain ⟨D3, B3, e1, e2⟩ := D2.out.grown (d' := d.push k f) (below_one _ _).drew.drew hgrow (by show wb.ownsRow (A + 1) 111 4 _ (d.m + 1) (slist (d.push k f) (d.m + 1)); rw [slist_push]; exact hown1) rfl rfl; have D4 := hideP D3; have B4 := hideP B3; clear D3 B3 hown1 hgrow hat hltg))
  all_goals
    go_wp2
    refine bodyPost_end (v := .tuple #[]) (by simp [results, Tryd.results91, go_sem]) rfl ⟨rfl, _, D4.out, B2.out.trans B4.out⟩

end Go.Proofs.YticoiolpofibdaaDoor

/- Walks of impl.dive's methods: top, leave. -/
namespace Go.Proofs.YticoiolpofibdaaDoor
open Go.RowKit
set_option linter.unusedVariables false

/-- a region of which all ways end alike: what follows is asked once -/
theorem wp_once {P : Program} {c : Code} {Q' : Exit → Act → World → Prop} {K : Act → World → Prop} {a : Act} {w : World} {aa : Act} {wz : World} (h : c.wp P (Exit.then (fun a' w' => a' = aa ∧ w' = wz) Q') a w) (hk : K aa wz) : c.wp P (Exit.then K Q') a w :=
  Code.wp_mono (fun e a' w' h => by
    cases e with
    | normal => obtain ⟨rfl, rfl⟩ := h; exact hk
    | _ => exact h) h
set_option maxHeartbeats 400000 in
theorem top_any (A s mB : Nat) (d : Dv) (g cap i : Nat) (w : World) (hD : Dm w A s mB d (.slice (some ⟨g, 0, none⟩) (i + 1) cap)) (hm : d.m = i + 1) (hi : i ≤ 8) :
    Calls Tryd.prog 105 #[.pointer (some ⟨A, 0, none⟩)] w fun e w' => e = .returned (.pointer (some ⟨g, i * 4, none⟩)) ∧ w' = w.drew := by
  have c1 := hD.c1
  clear hD hm
  go_enter Tryd.func105, Tryd.ntmps105
  go_wp2
  go_region
  go_wp2
  go_ret
  exact ⟨rfl, rfl⟩

theorem scell0 (d : Dv) (q : Nat) : scell d (q * 4) = .int .i64 (d.kn q : Int) := by
  unfold scell; rw [if_pos (by omega), show q * 4 / 4 = q by omega]
theorem scell1 (d : Dv) (q : Nat) : scell d (q * 4 + 1) = .int .i64 (d.fr q : Int) := by
  unfold scell; rw [if_neg (by omega), if_pos (by omega), show (q * 4 + 1) / 4 = q by omega]
theorem scell2 (d : Dv) (q : Nat) : scell d (q * 4 + 2) = .int .i64 (d.nx q : Int) := by
  unfold scell; rw [if_neg (by omega), if_neg (by omega), if_pos (by omega), show (q * 4 + 2) / 4 = q by omega]
theorem scell3 (d : Dv) (q : Nat) : scell d (q * 4 + 3) = .int .i64 (d.le q : Int) := by
  unfold scell; rw [if_neg (by omega), if_neg (by omega), if_neg (by omega), show (q * 4 + 3) / 4 = q by omega]
theorem Dm.st {wr : World} {A s mB : Nat} {d : Dv} {g n cap : Nat} (h : Dm wr A s mB d (.slice (some ⟨g, 0, none⟩) n cap)) (hn : d.m = n) {q : Nat} (hq : q < d.m) :
    wr.cell? ⟨g, q * 4, none⟩ = some (.int .i64 (d.kn q : Int)) ∧ wr.cell? ⟨g, q * 4 + 1, none⟩ = some (.int .i64 (d.fr q : Int)) ∧ wr.cell? ⟨g, q * 4 + 2, none⟩ = some (.int .i64 (d.nx q : Int)) ∧ wr.cell? ⟨g, q * 4 + 3, none⟩ = some (.int .i64 (d.le q : Int)) ∧ (∀ j, wr.frozen? ⟨g, j, none⟩ = false) ∧ A + 1 ≤ g ∧ g < wr.heap.size := by
  subst hn
  have ho := h.own
  obtain ⟨g', cap', e, h1, h2⟩ := ho.form (by omega)
  simp only [Value.slice.injEq, Option.some.injEq, Addr.mk.injEq, and_true, true_and] at e
  obtain ⟨rfl, rfl⟩ := e
  refine ⟨?_, ?_, ?_, ?_, fun j => ho.frozenAt j, h1, h2⟩
  · rw [ho.cellAt _ (by omega), slist_get _ _ _ (by omega), scell0]
  · rw [ho.cellAt _ (by omega), slist_get _ _ _ (by omega), scell1]
  · rw [ho.cellAt _ (by omega), slist_get _ _ _ (by omega), scell2]
  · rw [ho.cellAt _ (by omega), slist_get _ _ _ (by omega), scell3]
theorem own_shrink {w : World} {base : Nat} {e : TypeId} {size g n cap : Nat} {xs ys : List Value} (h : w.ownsRow base e size (.slice (some ⟨g, 0, none⟩) (n + 1) cap) (n + 1) xs) (hy : xs.take (n * size) = ys) : w.ownsRow base e size (.slice (some ⟨g, 0, none⟩) n cap) n ys := by
  rcases h.2 with ⟨h', _⟩ | ⟨g', cap', cur, h', hb, hg, hnc, hcm, hcs, htake⟩
  · simp at h'
  · simp only [Value.slice.injEq, Option.some.injEq, Addr.mk.injEq, and_true, true_and] at h'
    obtain ⟨rfl, rfl⟩ := h'
    have hl := h.1
    have hmul : (n + 1) * size = n * size + size := by rw [Nat.add_mul]; omega
    refine ⟨by rw [← hy, List.length_take, hl, hmul]; omega, .inr ⟨g, cap, cur, rfl, hb, hg, by omega, hcm, hcs, ?_⟩⟩
    rw [← hy, ← htake, List.take_take, hmul]
    congr 1; omega
theorem slist_take (d : Dv) (n : Nat) : (slist d (n + 1)).take (n * 4) = slist d n := by
  apply List.ext_getElem?
  intro j
  rw [List.getElem?_take]
  by_cases hj : j < n * 4
  · rw [if_pos hj, slist_get _ _ _ (by omega), slist_get _ _ _ hj]
  · rw [if_neg hj, slist_none _ _ _ hj]
/-- the stack without its last -/
theorem Dm.pop {wr : World} {A s mB : Nat} {d : Dv} {g n cap : Nat} (h : Dm wr A s mB d (.slice (some ⟨g, 0, none⟩) (n + 1) cap)) (hm : d.m = n + 1) :
    Dm (wr.setCell ⟨A, 1, none⟩ (.slice (some ⟨g, 0, none⟩) n cap)) A s mB { d with m := n } (.slice (some ⟨g, 0, none⟩) n cap) := by
  have ho := h.own
  rw [hm] at ho
  exact h.set (by omega) _ (dcells (by omega) (by simp) (fun k hk => by rw [if_neg (by omega)]) (by simp) (by simp)) (own_shrink ho (slist_take d n))
theorem Dm.bits {wr : World} {A s mB : Nat} {d : Dv} {v : Value} (h : Dm wr A s mB d v) (mB' : Nat) : Dm (wr.setCell ⟨A, 11, none⟩ (.int .u64 (mB' : Int))) A s mB' d v :=
  h.set (by omega) _ (dcells (by omega) (by simp) (fun k hk => by rw [if_neg (by omega)]) (by simp) (by simp)) h.own
/-- one number of the stack's last is turned -/
theorem Dm.stored {wr : World} {A s mB : Nat} {d d' : Dv} {g n cap : Nat} (h : Dm wr A s mB d (.slice (some ⟨g, 0, none⟩) n cap)) (hn : d.m = n) (hn' : d'.m = n) (ht : d'.tu = d.tu) (hc : d'.cn = d.cn) {j : Nat} {x : Nat} (hg : A + 1 ≤ g) (hx : ∀ i, i < n * 4 → (if j = i then Value.int .i64 (x : Int) else scell d i) = scell d' i) :
    Dm (wr.setCell ⟨g, j, none⟩ (.int .i64 (x : Int))) A s mB d' (.slice (some ⟨g, 0, none⟩) n cap) := by
  have ho := h.own
  rw [hn] at ho
  obtain ⟨o1, g1⟩ := ho.stored j (.int .i64 (x : Int))
  refine ⟨by rw [ht, hc]; exact h.I.other (by show g ≠ A; omega) _, ?_⟩
  rw [hn']
  have e : (slist d n).set j (.int .i64 (x : Int)) = slist d' n := by
    apply List.ext_getElem?
    intro i
    rw [List.getElem?_set, slist_length]
    by_cases hi : i < n * 4
    · rw [slist_get _ _ _ hi, slist_get _ _ _ hi, ← hx i hi]
      by_cases e : j = i
      · rw [if_pos e, if_pos e, if_pos (by omega)]
      · rw [if_neg e, if_neg e]
    · rw [slist_none _ _ _ hi, slist_none _ _ _ hi]
      by_cases e : j = i
      · rw [if_pos e, if_neg (by omega)]
      · rw [if_neg e]
  rw [← e]; exact o1
theorem Dm.least {wr : World} {A s mB : Nat} {d : Dv} {g i cap : Nat} (h : Dm wr A s mB d (.slice (some ⟨g, 0, none⟩) (i + 1) cap)) (hm : d.m = i + 1) (hg : A + 1 ≤ g) (x : Nat) :
    Dm (wr.setCell ⟨g, i * 4 + 3, none⟩ (.int .i64 (x : Int))) A s mB { d with le := upd d.le i x } (.slice (some ⟨g, 0, none⟩) (i + 1) cap) := by
  refine h.stored (d' := { d with le := upd d.le i x }) hm hm rfl rfl hg (fun j hj => ?_)
  by_cases e : i * 4 + 3 = j
  · subst e; rw [if_pos rfl, scell3]; show _ = Value.int .i64 ((upd d.le i x i : Nat) : Int); rw [upd_at]
  · rw [if_neg e]
    unfold scell
    by_cases e3 : j % 4 = 3
    · have hne : j / 4 ≠ i := by omega
      show _ = Value.int .i64 ((((if j % 4 = 0 then d.kn (j / 4) else if j % 4 = 1 then d.fr (j / 4) else if j % 4 = 2 then d.nx (j / 4) else upd d.le i x (j / 4)) : Nat)) : Int)
      rw [upd_no _ _ hne]
    · have : j % 4 = 0 ∨ j % 4 = 1 ∨ j % 4 = 2 := by omega
      rcases this with q | q | q <;> simp [q]
theorem Dm.next {wr : World} {A s mB : Nat} {d : Dv} {g i cap : Nat} (h : Dm wr A s mB d (.slice (some ⟨g, 0, none⟩) (i + 1) cap)) (hm : d.m = i + 1) (hg : A + 1 ≤ g) (x : Nat) :
    Dm (wr.setCell ⟨g, i * 4 + 2, none⟩ (.int .i64 (x : Int))) A s mB { d with nx := upd d.nx i x } (.slice (some ⟨g, 0, none⟩) (i + 1) cap) := by
  refine h.stored (d' := { d with nx := upd d.nx i x }) hm hm rfl rfl hg (fun j hj => ?_)
  by_cases e : i * 4 + 2 = j
  · subst e; rw [if_pos rfl, scell2]; show _ = Value.int .i64 ((upd d.nx i x i : Nat) : Int); rw [upd_at]
  · rw [if_neg e]
    unfold scell
    by_cases e3 : j % 4 = 2
    · have hne : j / 4 ≠ i := by omega
      show _ = Value.int .i64 ((((if j % 4 = 0 then d.kn (j / 4) else if j % 4 = 1 then d.fr (j / 4) else if j % 4 = 2 then upd d.nx i x (j / 4) else d.le (j / 4)) : Nat)) : Int)
      rw [upd_no _ _ hne]
    · have : j % 4 = 0 ∨ j % 4 = 1 ∨ j % 4 = 3 := by omega
      rcases this with q | q | q <;> simp [q]

theorem Dm.alloc {wr : World} {A s mB : Nat} {d : Dv} {v : Value} (h : Dm wr A s mB d v) (o : Obj) : Dm (wr.alloc o) A s mB d v :=
  ⟨h.I.same (Below.heap_alloc _ _ _ h.lt) (by simp), h.own.alloc o⟩
set_option maxHeartbeats 400000 in
theorem leave_root (A s mB : Nat) (d : Dv) (g cap : Nat) (w : World) (hD : Dm w A s mB d (.slice (some ⟨g, 0, none⟩) 1 cap)) (hm : d.m = 1) :
    Calls Tryd.prog 106 #[.pointer (some ⟨A, 0, none⟩)] w fun e w' => e = .returned (.tuple #[]) ∧ Dm w' A s mB { d with m := 0 } (.slice (some ⟨g, 0, none⟩) 0 cap) ∧ Below A w w' := by
  obtain ⟨k0, k1, k2, k3, kf, hg, hgz⟩ := hD.st hm (q := 0) (by omega)
  have HD := hideP hD
  have hA := hD.lt
  clear hD
  go_enter Tryd.func106, Tryd.ntmps106
  go_wp2_with fail
  refine (top_any A s mB d g cap 0 _ HD.out hm (by omega)).mono ?_
  rintro e w1 ⟨rfl, rfl⟩
  have c1 := HD.out.c1
  have fz := HD.out.I.2.1
  go_wp2
  obtain ⟨ww, hww⟩ : ∃ ww, ww = w.alloc (.cells #[.int .i64 (d.kn 0 : Int), .int .i64 (d.fr 0 : Int), .int .i64 (d.nx 0 : Int), .int .i64 (d.le 0 : Int)] 111) := ⟨_, rfl⟩
  have DW : Hid (Dm ww A s mB d (.slice (some ⟨g, 0, none⟩) 1 cap)) := by rw [hww]; exact HD.out.alloc _
  have BW : Hid (Below A w ww) := by rw [hww]; exact (Below.refl _ _).alloc (Nat.le_of_lt hA) _
  rw [← hww]
  clear hww c1 fz HD k0 k1 k2 k3 kf
  have c1 := DW.out.c1
  have fz := DW.out.I.2.1
  have hA := DW.out.lt
  have D2 := hideP (DW.out.pop (n := 0) hm)
  go_region
  go_wp2
  refine bodyPost_ret (v := .tuple #[]) (results_none rfl _ _ _) rfl ⟨rfl, D2.out.drew.drew, (BW.out.setCell (p := ⟨A, 1, none⟩) (Nat.le_refl _) _).drew.drew⟩

set_option maxHeartbeats 800000 in
theorem leave_more (A s mB : Nat) (d : Dv) (g cap i : Nat) (w : World) (hD : Dm w A s mB d (.slice (some ⟨g, 0, none⟩) (i + 2) cap)) (hm : d.m = i + 2) (hi : i ≤ 7) (hmB : mB < 2 ^ 64) (hk : d.kn (i + 1) < 8) :
    Calls Tryd.prog 106 #[.pointer (some ⟨A, 0, none⟩)] w fun e w' => e = .returned (.tuple #[]) ∧ (∃ mB', (mB' = if d.le (i + 1) = d.tu (d.kn (i + 1)) then mB ||| pbit (d.fr (i + 1) : Int) (d.kn (i + 1) : Int) else mB) ∧ Dm w' A s mB' (d.leave i) (.slice (some ⟨g, 0, none⟩) (i + 1) cap)) ∧ Below A w w' := by
  obtain ⟨k0, k1, k2, k3, kf, hg, hgz⟩ := hD.st hm (q := i + 1) (by omega)
  have HD := hideP hD
  have hA := hD.lt
  have HE : Hid (d.leave i = { d with m := i + 1, le := upd d.le i (min (d.le i) (d.le (i + 1))), br := (d.leave i).br }) := rfl
  have hcap : i + 2 ≤ cap := by
    have ho := hD.own
    rw [hm] at ho
    rcases ho.2 with ⟨h', _⟩ | ⟨g', cap', cur, h', _, _, hnc, _⟩
    · simp at h'
    · simp only [Value.slice.injEq, true_and] at h'; obtain ⟨_, rfl⟩ := h'; exact hnc
  clear hD
  obtain ⟨dl, hdl⟩ : ∃ x, x = d.leave i := ⟨_, rfl⟩
  rw [← hdl] at HE ⊢
  obtain ⟨kk, hkk⟩ : ∃ x, x = d.kn (i + 1) := ⟨_, rfl⟩
  obtain ⟨ff, hff⟩ : ∃ x, x = d.fr (i + 1) := ⟨_, rfl⟩
  obtain ⟨ll, hll⟩ : ∃ x, x = d.le (i + 1) := ⟨_, rfl⟩
  obtain ⟨nn, hnn⟩ : ∃ x, x = d.nx (i + 1) := ⟨_, rfl⟩
  obtain ⟨tt, htt⟩ : ∃ x, x = d.tu kk := ⟨_, rfl⟩
  rw [← hkk] at k0 hk ⊢
  rw [← hff] at k1 ⊢
  rw [← hll] at k3 HE ⊢
  rw [← hnn] at k2
  rw [← htt]
  have HTT := hideP htt
  clear hkk hff hll hnn hdl htt
  go_enter Tryd.func106, Tryd.ntmps106
  go_wp2_with fail
  refine (top_any A s mB d g cap (i + 1) _ HD.out hm (by omega)).mono ?_
  rintro e w1 ⟨rfl, rfl⟩
  go_wp2
  obtain ⟨ww, hww⟩ : ∃ ww, ww = w.alloc (.cells #[.int .i64 (kk : Int), .int .i64 (ff : Int), .int .i64 (nn : Int), .int .i64 (ll : Int)] 111) := ⟨_, rfl⟩
  have DW : Hid (Dm ww A s mB d (.slice (some ⟨g, 0, none⟩) (i + 2) cap)) := by rw [hww]; exact HD.out.alloc _
  have BW : Hid (Below A w ww) := by rw [hww]; exact (Below.refl _ _).alloc (Nat.le_of_lt hA) _
  have l0 : ww.cell? ⟨w.heap.size, 0, none⟩ = some (.int .i64 (kk : Int)) := by rw [hww]; simp
  have l1 : ww.cell? ⟨w.heap.size, 1, none⟩ = some (.int .i64 (ff : Int)) := by rw [hww]; simp
  have l3 : ww.cell? ⟨w.heap.size, 3, none⟩ = some (.int .i64 (ll : Int)) := by rw [hww]; simp
  rw [← hww]
  obtain ⟨L, hL⟩ : ∃ L, L = w.heap.size := ⟨_, rfl⟩
  rw [← hL] at l0 l1 l3 hA hgz ⊢
  clear hww HD k0 k1 k2 k3 kf hL
  have c1 := DW.out.c1
  have fz := DW.out.I.2.1
  have D2 := hideP (DW.out.pop (n := i + 1) hm)
  have hcap' : (i : Int) + 1 ≤ (cap : Int) := by omega
  have hne : ((i : Int) + 1 == 0) = false := by simp; omega
  go_region
  go_wp2
  obtain ⟨w2, hw2⟩ : ∃ w2, w2 = ww.setCell ⟨A, 1, none⟩ (.slice (some ⟨g, 0, none⟩) (i + 1) cap) := ⟨_, rfl⟩
  have r0 : w2.cell? ⟨L, 0, none⟩ = some (.int .i64 (kk : Int)) := by rw [hw2, World.cell?_setCell_other _ _ _ _ (by intro e; simp at e)]; exact l0
  have r1 : w2.cell? ⟨L, 1, none⟩ = some (.int .i64 (ff : Int)) := by rw [hw2, World.cell?_setCell_other _ _ _ _ (by intro e; simp at e)]; exact l1
  have r3 : w2.cell? ⟨L, 3, none⟩ = some (.int .i64 (ll : Int)) := by rw [hw2, World.cell?_setCell_other _ _ _ _ (by intro e; simp at e)]; exact l3
  have B2 : Hid (Below A w w2) := by rw [hw2]; exact BW.out.setCell (p := ⟨A, 1, none⟩) (Nat.le_refl _) _
  rw [← hw2] at D2 ⊢
  clear hw2 c1 fz l0 l1 l3 DW BW hne
  have ct : w2.cell? ⟨A, 2 + kk, none⟩ = some (.int .i64 (tt : Int)) := by rw [HTT.out]; exact D2.out.ct hk
  have cb := D2.out.cb
  have fz := D2.out.I.2.1
  by_cases hlt : ll = tt
  · subst hlt
    have HP := hideP (D2.out.bits (mB ||| pbit (ff : Int) (kk : Int)))
    have HBP : Hid (Below A w (w2.setCell ⟨A, 11, none⟩ (.int .u64 ((mB ||| pbit (ff : Int) (kk : Int) : Nat) : Int)))) := B2.out.setCell (p := ⟨A, 11, none⟩) (Nat.le_refl _) _
    go_region
    go_wp2
    apply wp_once
    case h =>
      go_region_with (go_at_call 74; refine (with_any mB (ff : Int) (kk : Int) _ hmB).mono ?_; rintro e wq ⟨rfl, rfl⟩)
      all_goals exact ⟨rfl, rfl⟩
    obtain ⟨mX, hmX⟩ : ∃ m, m = mB ||| pbit (ff : Int) (kk : Int) := ⟨_, rfl⟩
    have HL : Hid (mX = mB ||| pbit (ff : Int) (kk : Int)) := hmX
    rw [← hmX] at HP HBP
    obtain ⟨w3, hw3⟩ : ∃ w3, w3 = w2.setCell ⟨A, 11, none⟩ (.int .u64 (mX : Int)) := ⟨_, rfl⟩
    have r3' : w3.cell? ⟨L, 3, none⟩ = some (.int .i64 (ll : Int)) := by rw [hw3, World.cell?_setCell_other _ _ _ _ (by intro e; simp at e)]; exact r3
    rw [← hw3] at HP HBP
    rw [← hmX, ← hw3]
    obtain ⟨_, _, _, s3, sf, _, _⟩ := HP.out.st (n := i + 1) rfl (q := i) (Nat.lt_succ_self i)
    have s3' : w3.cell? ⟨g, i * 4 + 3, none⟩ = some (.int .i64 (d.le i : Int)) := s3
    clear s3 hw3 hmX r0 r1 r3 cb ct fz D2 B2
    have HMIN : Hid ((if ll < d.le i then (ll : Int) else (d.le i : Int)) = ((min (d.le i) ll : Nat) : Int)) := by show (if ll < d.le i then (ll : Int) else (d.le i : Int)) = _; split <;> omega
    have DF : Hid (Dm (w3.setCell ⟨g, i * 4 + 3, none⟩ (.int .i64 ((min (d.le i) ll : Nat) : Int))) A s mX dl (.slice (some ⟨g, 0, none⟩) (i + 1) cap)) := by
      have h1 := HP.out.least (i := i) rfl hg (min (d.le i) ll)
      rw [HE.out]; exact ⟨h1.I, h1.own⟩
    have BF : Hid (Below A w (w3.setCell ⟨g, i * 4 + 3, none⟩ (.int .i64 ((min (d.le i) ll : Nat) : Int)))) := HBP.out.setCell (p := ⟨g, i * 4 + 3, none⟩) (by show A ≤ g; omega) _
    go_wp2
    go_region_law (go_simp; go_at_call 105; refine (top_any A s mX _ g cap i _ (by repeat (first | exact HP.out | apply Dm.drew)) rfl (by omega)).mono ?_; rintro e wq ⟨rfl, rfl⟩)
    all_goals
      rw [HMIN.out]
      refine bodyPost_end (v := .tuple #[]) (results_none rfl _ _ _) rfl ⟨rfl, ⟨mX, HL.out.trans (if_pos rfl).symm, ?_⟩, ?_⟩
      · repeat (first | exact DF.out | apply Dm.drew)
      · repeat (first | exact BF.out | apply Below.drew)
  · have hne : ((ll : Int) == (tt : Int)) = false := by simp; omega
    have HL : Hid (mB = if ll = tt then mB ||| pbit (ff : Int) (kk : Int) else mB) := (if_neg hlt).symm
    obtain ⟨_, _, _, s3, sf, _, _⟩ := D2.out.st (n := i + 1) rfl (q := i) (Nat.lt_succ_self i)
    have s3' : w2.cell? ⟨g, i * 4 + 3, none⟩ = some (.int .i64 (d.le i : Int)) := s3
    clear s3
    go_region
    go_wp2
    clear hne ct cb hlt
    have HMIN : Hid ((if ll < d.le i then (ll : Int) else (d.le i : Int)) = ((min (d.le i) ll : Nat) : Int)) := by show (if ll < d.le i then (ll : Int) else (d.le i : Int)) = _; split <;> omega
    have DF : Hid (Dm (w2.setCell ⟨g, i * 4 + 3, none⟩ (.int .i64 ((min (d.le i) ll : Nat) : Int))) A s mB dl (.slice (some ⟨g, 0, none⟩) (i + 1) cap)) := by
      have h1 := D2.out.least (i := i) rfl hg (min (d.le i) ll)
      rw [HE.out]; exact ⟨h1.I, h1.own⟩
    have BF : Hid (Below A w (w2.setCell ⟨g, i * 4 + 3, none⟩ (.int .i64 ((min (d.le i) ll : Nat) : Int)))) := B2.out.setCell (p := ⟨g, i * 4 + 3, none⟩) (by show A ≤ g; omega) _
    go_region_law (go_simp; go_at_call 105; refine (top_any A s mB _ g cap i _ (by repeat (first | exact D2.out | apply Dm.drew)) rfl (by omega)).mono ?_; rintro e wq ⟨rfl, rfl⟩)
    all_goals
      rw [HMIN.out]
      refine bodyPost_end (v := .tuple #[]) (results_none rfl _ _ _) rfl ⟨rfl, ⟨mB, HL.out, ?_⟩, ?_⟩
      · repeat (first | exact DF.out | apply Dm.drew)
      · repeat (first | exact BF.out | apply Below.drew)

end Go.Proofs.YticoiolpofibdaaDoor
