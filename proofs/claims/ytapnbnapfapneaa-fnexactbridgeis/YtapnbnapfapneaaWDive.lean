/- Walks of impl.dive's methods: top, enter, leave, move. -/
import Derived.Test.YtapnbnapfapneaaMathE
import Derived.Test.YtapnbnapfapneaaWWith
import Derived.Test.YtapnbnapfapneaaWInts
import Derived.Test.YtapnbnapfapneaaWRange
import Derived.Deep.RegionLaw
import Derived.BigRegion
import Derived.Laws.OwnMore
namespace Go.Proofs.Ytapnbnapfapneaa
open Go.RowKit
set_option linter.unusedVariables false

theorem Try.infoStep : (Try.prog.info? 76).map (fun i => (i.zero, i.size, i.bytes)) = some (some (.agg #[.int .i64 0, .int .i64 0, .int .i64 0, .int .i64 0]), 4, 32) := by kernel_rfl
/-- the stack's cells -/
def scell (d : Dv) (j : Nat) : Value := .int .i64 (((if j % 4 = 0 then d.kn (j / 4) else if j % 4 = 1 then d.fr (j / 4) else if j % 4 = 2 then d.nx (j / 4) else d.le (j / 4) : Nat)) : Int)
def slist (d : Dv) (k : Nat) : List Value := (List.range (k * 4)).map (scell d)
theorem slist_length (d : Dv) (k : Nat) : (slist d k).length = k * 4 := by simp [slist]
theorem slist_get (d : Dv) (k j : Nat) (h : j < k * 4) : (slist d k)[j]? = some (scell d j) := by simp [slist, h]
theorem slist_none (d : Dv) (k j : Nat) (h : ¬ j < k * 4) : (slist d k)[j]? = none := by rw [List.getElem?_eq_none]; rw [slist_length]; omega
theorem slist_push (d : Dv) (k f : Nat) : slist (d.push k f) (d.m + 1) = slist d d.m ++ [.int .i64 (k : Int), .int .i64 (f : Int), .int .i64 0, .int .i64 ((d.cn + 1 : Nat) : Int)] := by
  apply List.ext_getElem?
  intro j
  by_cases hj : j < (d.m + 1) * 4
  · rw [slist_get _ _ _ hj]
    by_cases hj2 : j < d.m * 4
    · rw [List.getElem?_append_left (by rw [slist_length]; exact hj2), slist_get _ _ _ hj2]
      have hne : j / 4 ≠ d.m := by omega
      simp [scell, Dv.push, upd, hne]
    · rw [List.getElem?_append_right (by rw [slist_length]; omega), slist_length]
      have hq : j / 4 = d.m := by omega
      obtain ⟨r, hr⟩ : ∃ r, r = j - d.m * 4 := ⟨_, rfl⟩
      rw [← hr]
      have hm : j % 4 = r := by omega
      have : r = 0 ∨ r = 1 ∨ r = 2 ∨ r = 3 := by omega
      rcases this with e | e | e | e <;> subst e <;> simp [scell, Dv.push, upd, hq, hm]
  · rw [slist_none _ _ _ hj, List.getElem?_eq_none]
    simp [slist_length]; omega
/-- the dive's cells -/
def dcell (s : Nat) (v : Value) (tu : Nat → Nat) (cn : Nat) (j : Nat) : Value :=
  if j = 0 then .int .u64 (s : Int) else if j = 1 then v else if j < 10 then .int .i64 (tu (j - 2) : Int) else .int .i64 (cn : Int)
/-- a dive in memory: its own block A, its stack in a row from A + 1 on -/
structure Dm (wr : World) (A : Nat) (s : Nat) (d : Dv) (v : Value) : Prop where
  I : OwnI wr A 11 (dcell s v d.tu d.cn)
  own : wr.ownsRow (A + 1) 76 4 v d.m (slist d d.m)
theorem Dm.c0 {wr : World} {A s : Nat} {d : Dv} {v : Value} (h : Dm wr A s d v) : wr.cell? ⟨A, 0, none⟩ = some (.int .u64 (s : Int)) := h.I.1 0 (by omega)
theorem Dm.c1 {wr : World} {A s : Nat} {d : Dv} {v : Value} (h : Dm wr A s d v) : wr.cell? ⟨A, 1, none⟩ = some v := h.I.1 1 (by omega)
theorem Dm.ct {wr : World} {A s : Nat} {d : Dv} {v : Value} (h : Dm wr A s d v) {k : Nat} (hk : k < 8) : wr.cell? ⟨A, 2 + k, none⟩ = some (.int .i64 (d.tu k : Int)) := by
  rw [h.I.1 (2 + k) (by omega)]
  unfold dcell
  rw [if_neg (by omega), if_neg (by omega), if_pos (by omega), show 2 + k - 2 = k by omega]
theorem Dm.cc {wr : World} {A s : Nat} {d : Dv} {v : Value} (h : Dm wr A s d v) : wr.cell? ⟨A, 10, none⟩ = some (.int .i64 (d.cn : Int)) := h.I.1 10 (by omega)

/-- what lies outside a dive lies as it lay: its own block A, and rows of its stack, aside -/
structure Kd (A : Nat) (W W' : World) : Prop where
  bel : Below A W W'
  same : ∀ k, k < W.heap.size → k ≠ A → (∀ cs fr, W.heap[k]? ≠ some (Obj.cells cs 76 fr)) → W'.heap[k]? = W.heap[k]?
theorem Kd.refl (A : Nat) (W : World) : Kd A W W := ⟨Below.refl _ _, fun _ _ _ _ => rfl⟩
theorem Kd.trans {A : Nat} {W W1 W2 : World} (h : Kd A W W1) (k : Kd A W1 W2) : Kd A W W2 :=
  ⟨h.bel.trans k.bel, fun j hj ha ht => by
    have e := h.same j hj ha ht
    exact (k.same j (Nat.lt_of_lt_of_le hj h.bel.size) ha (fun cs fr => by rw [e]; exact ht cs fr)).trans e⟩
theorem Kd.drew {A : Nat} {W W' : World} (h : Kd A W W') : Kd A W W'.drew := ⟨h.bel.drew, h.same⟩
theorem Kd.low {A : Nat} {W W' : World} (h : Below W.heap.size W W') (hA : A < W.heap.size) : Kd A W W' := ⟨h.mono (Nat.le_of_lt hA), fun k hk _ _ => h.block k hk⟩
theorem Kd.alloc {A : Nat} {W W' : World} (h : Kd A W W') (hA : A < W.heap.size) (o : Obj) : Kd A W (W'.alloc o) := h.trans (Kd.low (below_one _ _) (Nat.lt_of_lt_of_le hA h.bel.size))
theorem Kd.setA {A : Nat} {W W' : World} (h : Kd A W W') (i : Nat) (u : Value) : Kd A W (W'.setCell ⟨A, i, none⟩ u) :=
  h.trans ⟨(Below.refl _ _).setCell (p := ⟨A, i, none⟩) (Nat.le_refl _) _, fun k _ ha _ => Below.heap_setCell _ _ _ _ (by show k ≠ A; exact ha)⟩
theorem own_step {w : World} {base g n cap : Nat} {xs : List Value} (h : w.ownsRow base 76 4 (.slice (some ⟨g, 0, none⟩) n cap) n xs) : base ≤ g ∧ ∃ cs fr, w.heap[g]? = some (Obj.cells cs 76 fr) := by
  rcases h.2 with ⟨h', _⟩ | ⟨g', cap', cur, h', hb, hg, _⟩
  · simp at h'
  · simp only [Value.slice.injEq, Option.some.injEq, Addr.mk.injEq, and_true, true_and] at h'
    obtain ⟨rfl, _⟩ := h'
    exact ⟨hb, _, _, hg⟩
theorem Dm.drew {wr : World} {A s : Nat} {d : Dv} {v : Value} (h : Dm wr A s d v) : Dm wr.drew A s d v := ⟨h.I, h.own⟩
theorem Dm.lt {wr : World} {A s : Nat} {d : Dv} {v : Value} (h : Dm wr A s d v) : A < wr.heap.size := h.I.2.2
theorem Kd.setG {A s : Nat} {d : Dv} {g n cap : Nat} {W W' : World} (h : Kd A W W') (hD : Dm W' A s d (.slice (some ⟨g, 0, none⟩) n cap)) (hn : d.m = n) (i : Nat) (u : Value) : Kd A W (W'.setCell ⟨g, i, none⟩ u) := by
  have ho := hD.own
  rw [hn] at ho
  obtain ⟨hg, cs, fr, hb⟩ := own_step ho
  refine h.trans ⟨(Below.refl _ _).setCell (p := ⟨g, i, none⟩) (by show A ≤ g; omega) _, fun k _ _ ht => Below.heap_setCell _ _ _ _ (by show k ≠ g; intro e; subst e; exact ht _ _ hb)⟩
theorem Kd.at {A : Nat} {W W' : World} (h : Kd A W W') {k : Nat} {cs : Array Value} {t : TypeId} {fr : Nat × Nat} (hk : W.heap[k]? = some (Obj.cells cs t fr)) (hA : k ≠ A) (ht : t ≠ 76) : W'.heap[k]? = some (Obj.cells cs t fr) :=
  (h.same k (Array.getElem?_eq_some_iff.1 hk).1 hA (fun cs' fr' e => by rw [hk] at e; cases e; exact ht rfl)).trans hk
theorem Kd.other {A : Nat} {W W' : World} (h : Kd A W W') (hA : ∃ cs t fr, W.heap[A]? = some (Obj.cells cs t fr)) {k : Nat} {o : Obj} (hk : W.heap[k]? = some o) (ho : o.isCells = false) : W'.heap[k]? = some o :=
  (h.same k (Array.getElem?_eq_some_iff.1 hk).1 (fun e => by subst e; obtain ⟨cs, t, fr, e⟩ := hA; rw [e] at hk; cases hk; cases ho) (fun cs' fr' e => by rw [hk] at e; cases e; cases ho)).trans hk
/-- what is turned in the dive's own block -/
theorem Dm.set {wr : World} {A s : Nat} {d d' : Dv} {v v' : Value} (h : Dm wr A s d v) {i : Nat} (hi : i < 11) (u : Value) (he : ∀ j, j < 11 → (if j = i then u else dcell s v d.tu d.cn j) = dcell s v' d'.tu d'.cn j) (ho : wr.ownsRow (A + 1) 76 4 v' d'.m (slist d' d'.m)) : Dm (wr.setCell ⟨A, i, none⟩ u) A s d' v' :=
  ⟨(h.I.set hi u).congr he, ownsRow_setCell_below ho (by show A < A + 1; omega) u⟩
theorem dcells {s : Nat} {v v' : Value} {tu tu' : Nat → Nat} {cn cn' : Nat} {i : Nat} {u : Value} (h0 : i ≠ 0) (h1 : (if 1 = i then u else v) = v') (ht : ∀ k, k < 8 → (if 2 + k = i then u else Value.int .i64 (tu k : Int)) = .int .i64 (tu' k : Int)) (hc : (if 10 = i then u else Value.int .i64 (cn : Int)) = .int .i64 (cn' : Int)) :
    ∀ j, j < 11 → (if j = i then u else dcell s v tu cn j) = dcell s v' tu' cn' j := by
  intro j hj
  by_cases e0 : j = 0
  · subst e0; rw [if_neg (fun e => h0 e.symm)]; rfl
  by_cases e1 : j = 1
  · subst e1; exact h1
  by_cases e2 : j < 10
  · obtain ⟨k, rfl⟩ : ∃ k, j = 2 + k := ⟨j - 2, by omega⟩
    have := ht k (by omega)
    have q : ∀ (v : Value) tu cn, dcell s v tu cn (2 + k) = .int .i64 (tu k : Int) := by
      intro v tu cn
      unfold dcell
      rw [if_neg (by omega), if_neg (by omega), if_pos (by omega), show 2 + k - 2 = k by omega]
    rw [q, q]; exact this
  · obtain rfl : j = 10 := by omega
    exact hc
theorem Dm.turns {wr : World} {A s : Nat} {d : Dv} {v : Value} (h : Dm wr A s d v) {k : Nat} (hk : k < 8) :
    Dm ((wr.setCell ⟨A, 10, none⟩ (.int .i64 ((d.cn : Int) + 1))).setCell ⟨A, 2 + k, none⟩ (.int .i64 ((d.cn : Int) + 1))) A s { d with tu := upd d.tu k (d.cn + 1), cn := d.cn + 1 } v := by
  have h1 : Dm (wr.setCell ⟨A, 10, none⟩ (.int .i64 ((d.cn : Int) + 1))) A s { d with cn := d.cn + 1 } v :=
    h.set (by omega) _ (dcells (by omega) (by simp) (fun k hk => by rw [if_neg (by omega)]) (by simp)) h.own
  refine h1.set (by omega) _ (dcells (by omega) (by rw [if_neg (by omega)]) (fun j hj => ?_) (by rw [if_neg (by omega)])) h1.own
  by_cases e : j = k
  · subst e; rw [if_pos rfl]; show _ = Value.int .i64 ((upd d.tu j (d.cn + 1) j : Nat) : Int); rw [upd_at]; simp
  · rw [if_neg (by omega)]; show Value.int .i64 (d.tu j : Int) = Value.int .i64 ((upd d.tu k (d.cn + 1) j : Nat) : Int); rw [upd_no _ _ e]
/-- the stack's row has grown -/
theorem Dm.grown {ww wa wb : World} {A s : Nat} {d d' : Dv} {v v' : Value} (h : Dm ww A s d v) (ha : Below ww.heap.size ww wa) (hg : wa.grownBy wb v.ownBlock) (ho : wb.ownsRow (A + 1) 76 4 v' d'.m (slist d' d'.m)) (ht : d'.tu = d.tu) (hc : d'.cn = d.cn) :
    Dm (wb.setCell ⟨A, 1, none⟩ v') A s d' v' ∧ Kd A ww (wb.setCell ⟨A, 1, none⟩ v') ∧ wb.cell? ⟨A, 1, none⟩ = some v ∧ wb.frozen? ⟨A, 1, none⟩ = false := by
  have hA := h.lt
  have hs := ha.size
  have hz := hg.size
  have eb : ∀ k, k ≤ A → wb.heap[k]? = ww.heap[k]? := fun k hk => (hg.block k (by omega) (fun e => by have := own_ge h.own k e.symm; omega)).trans (ha.block k (by omega))
  have hI : OwnI wb A 11 (dcell s v d.tu d.cn) := h.I.same (eb A (Nat.le_refl _)) (by omega)
  refine ⟨⟨?_, ownsRow_setCell_below ho (by show A < A + 1; omega) _⟩, ?_, hI.1 1 (by omega), hI.2.1 1⟩
  · refine (hI.set (i := 1) (by omega) v').congr ?_
    rw [ht, hc]
    exact dcells (by omega) (by simp) (fun k hk => by rw [if_neg (by omega)]) (by simp)
  · refine Kd.setA ⟨⟨hg.os.trans ha.os, hg.tape.trans ha.tape, hg.output.trans ha.output, by omega, fun k hk => eb k (by omega)⟩, fun k hk hka ht => (hg.block k (by omega) (fun e => ?_)).trans (ha.block k hk)⟩ 1 v'
    rcases h.own.2 with ⟨q, _⟩ | ⟨g, cap, cur, q, _, hg2, _⟩
    · rw [q] at e; simp [Value.ownBlock] at e
    · rw [q] at e
      simp [Value.ownBlock] at e
      subst e
      exact ht _ _ hg2

set_option maxHeartbeats 800000 in
theorem enter_any (A s : Nat) (d : Dv) (v : Value) (k f : Nat) (w : World) (hD : Dm w A s d v) (hk : k < 8) (hf : f < 8) (hm : d.m ≤ 8) (hc : d.cn ≤ 8) :
    Calls Try.prog 32 #[.pointer (some ⟨A, 0, none⟩), .int .i64 (k : Int), .int .i64 (f : Int)] w fun e w' => e = .returned (.tuple #[]) ∧ ∃ v', Dm w' A s (d.push k f) v' ∧ Kd A w w' := by
  obtain ⟨i0, hi0, hz0, hz1, hz2⟩ := info_parts Try.infoStep
  have HI : Hid (Try.prog.info? 76 = some i0 ∧ i0.zero = some (.agg #[.int .i64 0, .int .i64 0, .int .i64 0, .int .i64 0]) ∧ i0.size = 4 ∧ i0.bytes = 32) := ⟨hi0, hz0, hz1, hz2⟩
  clear hi0 hz0 hz1 hz2
  have c1 := hD.c1
  have ct := hD.ct hk
  have cc := hD.cc
  have fz := hD.I.2.1
  have hA := hD.I.2.2
  have HD := hideP hD
  clear hD
  go_enter Try.func32, Try.ntmps32
  go_wp2
  go_region
  go_wp2
  obtain ⟨ww, hww⟩ : ∃ ww, ww = (w.setCell ⟨A, 10, none⟩ (.int .i64 ((d.cn : Int) + 1))).setCell ⟨A, 2 + k, none⟩ (.int .i64 ((d.cn : Int) + 1)) := ⟨_, rfl⟩
  have D2 : Hid (Dm ww A s { d with tu := upd d.tu k (d.cn + 1), cn := d.cn + 1 } v) := by rw [hww]; exact HD.out.turns hk
  have B2 : Hid (Kd A w ww) := by rw [hww]; exact ((Kd.refl _ _).setA 10 _).setA (2 + k) _
  rw [← hww]
  clear hww c1 ct cc fz hA HD
  have c1 := D2.out.c1
  have cc : ww.cell? ⟨A, 10, none⟩ = some (.int .i64 ((d.cn : Int) + 1)) := D2.out.cc
  have hA := D2.out.lt
  go_region_law ((refine step_append_lies _ (by rfl) _ _ _ (by rfl) (A + 1) 76 i0 _ 4 32 Try.underlying55 HI.out.1 HI.out.2.1 HI.out.2.2.1 HI.out.2.2.2 rfl (by omega) v d.m (slist d d.m) (by rfl) ((D2.out.own.alloc _).drew) ⟨ww.heap.size, 0, none⟩ 1 1 [.int .i64 (k : Int), .int .i64 (f : Int), .int .i64 0, .int .i64 ((d.cn : Int) + 1)] (by rfl) (by rfl) (World.news_of_block (cs := #[.int .i64 (k : Int), .int .i64 (f : Int), .int .i64 0, .int .i64 ((d.cn : Int) + 1)]) (t := 76) (fr := (0, 0)) (heap_alloc_new ww _)) (by simp [Value.oneCell']) (by omega) (by unfold maxLen; omega) (by omega) (by simp; omega) (ww.heap.size + 1) (by simp) ?_; intro g cap' wb hown1 hgrow hat hltg; obtain ⟨D3, B3, e1, e2⟩ := D2.out.grown (d' := d.push k f) (below_one _ _).drew.drew hgrow (by show wb.ownsRow (A + 1) 76 4 _ (d.m + 1) (slist (d.push k f) (d.m + 1)); rw [slist_push]; exact hown1) rfl rfl; have D4 := hideP D3; have B4 := hideP B3; clear D3 B3 hown1 hgrow hat hltg))
  all_goals
    go_wp2
    refine bodyPost_end (v := .tuple #[]) (by simp [results, Try.results32, go_sem]) rfl ⟨rfl, _, D4.out, B2.out.trans B4.out⟩

end Go.Proofs.Ytapnbnapfapneaa
