/- Texts put together: WDive, WDive2, WDive3, WBridge. -/
import Derived.Test.YticoiolpofibdaaDoorMathE
import Derived.Test.YticoiolpofibdaaDoorWWith
import Derived.Test.YticoiolpofibdaaDoorWInts
import Derived.Deep.RegionLaw
import Derived.BigRegion
import Derived.Laws.OwnMore
import Derived.Deep.RegionWith
import Derived.Test.YticoiolpofibdaaDoorWQuiet
/- Walks of impl.dive's methods: top, enter, leave, move. -/
namespace Go.Proofs.YticoiolpofibdaaDoor
open Go.RowKit
set_option linter.unusedVariables false

theorem Tryd.infoStep : (Tryd.prog.info? 111).map (fun i => (i.zero, i.size, i.bytes)) = some (some (.agg #[.int .i64 0, .int .i64 0, .int .i64 0, .int .i64 0]), 4, 32) := by kernel_rfl
/-- the stack's cells -/
def scell (d : Dv) (j : Nat) : Value := .int .i64 (((if j % 4 = 0 then d.kn (j / 4) else if j % 4 = 1 then d.fr (j / 4) else if j % 4 = 2 then d.nx (j / 4) else d.le (j / 4) : Nat)) : Int)
def slist (d : Dv) (k : Nat) : List Value := (List.range (k * 4)).map (scell d)
theorem slist_length (d : Dv) (k : Nat) : (slist d k).length = k * 4 := by simp [slist]
theorem slist_get (d : Dv) (k j : Nat) (h : j < k * 4) : (slist d k)[j]? = some (scell d j) := by simp [slist, h]
theorem slist_none (d : Dv) (k j : Nat) (h : ¬ j < k * 4) : (slist d k)[j]? = none := by rw [List.getElem?_eq_none]; rw [slist_length]; omega
theorem slist_push (d : Dv) (k f : Nat) : slist (d.push k f) (d.m + 1) = slist d d.m ++ [.int .i64 (k : Int), .int .i64 (f : Int), .int .i64 0, .int .i64 ((d.cn + 1 : Nat) : Int)] := by
  apply List.ext_getElem?
  intro j
  by_cases hj : j < (d.m + 1) * 4
  · rw [slist_get _ _ _ hj]
    by_cases hj2 : j < d.m * 4
    · rw [List.getElem?_append_left (by rw [slist_length]; exact hj2), slist_get _ _ _ hj2]
      have hne : j / 4 ≠ d.m := by omega
      simp [scell, Dv.push, upd, hne]
    · rw [List.getElem?_append_right (by rw [slist_length]; omega), slist_length]
      have hq : j / 4 = d.m := by omega
      obtain ⟨r, hr⟩ : ∃ r, r = j - d.m * 4 := ⟨_, rfl⟩
      rw [← hr]
      have hm : j % 4 = r := by omega
      have : r = 0 ∨ r = 1 ∨ r = 2 ∨ r = 3 := by omega
      rcases this with e | e | e | e <;> subst e <;> simp [scell, Dv.push, upd, hq, hm]
  · rw [slist_none _ _ _ hj, List.getElem?_eq_none]
    simp [slist_length]; omega
/-- the dive's cells -/
def dcell (s : Nat) (v : Value) (tu : Nat → Nat) (cn mB : Nat) (j : Nat) : Value :=
  if j = 0 then .int .u64 (s : Int) else if j = 1 then v else if j < 10 then .int .i64 (tu (j - 2) : Int) else if j = 10 then .int .i64 (cn : Int) else .int .u64 (mB : Int)
/-- a dive in memory: its own block A, its stack in a row from A + 1 on -/
structure Dm (wr : World) (A : Nat) (s mB : Nat) (d : Dv) (v : Value) : Prop where
  I : OwnI wr A 12 (dcell s v d.tu d.cn mB)
  own : wr.ownsRow (A + 1) 111 4 v d.m (slist d d.m)
theorem Dm.c0 {wr : World} {A s mB : Nat} {d : Dv} {v : Value} (h : Dm wr A s mB d v) : wr.cell? ⟨A, 0, none⟩ = some (.int .u64 (s : Int)) := h.I.1 0 (by omega)
theorem Dm.c1 {wr : World} {A s mB : Nat} {d : Dv} {v : Value} (h : Dm wr A s mB d v) : wr.cell? ⟨A, 1, none⟩ = some v := h.I.1 1 (by omega)
theorem Dm.ct {wr : World} {A s mB : Nat} {d : Dv} {v : Value} (h : Dm wr A s mB d v) {k : Nat} (hk : k < 8) : wr.cell? ⟨A, 2 + k, none⟩ = some (.int .i64 (d.tu k : Int)) := by
  rw [h.I.1 (2 + k) (by omega)]
  unfold dcell
  rw [if_neg (by omega), if_neg (by omega), if_pos (by omega), show 2 + k - 2 = k by omega]
theorem Dm.cc {wr : World} {A s mB : Nat} {d : Dv} {v : Value} (h : Dm wr A s mB d v) : wr.cell? ⟨A, 10, none⟩ = some (.int .i64 (d.cn : Int)) := h.I.1 10 (by omega)
theorem Dm.cb {wr : World} {A s mB : Nat} {d : Dv} {v : Value} (h : Dm wr A s mB d v) : wr.cell? ⟨A, 11, none⟩ = some (.int .u64 (mB : Int)) := h.I.1 11 (by omega)

theorem Dm.drew {wr : World} {A s mB : Nat} {d : Dv} {v : Value} (h : Dm wr A s mB d v) : Dm wr.drew A s mB d v := ⟨h.I, h.own⟩
theorem Dm.lt {wr : World} {A s mB : Nat} {d : Dv} {v : Value} (h : Dm wr A s mB d v) : A < wr.heap.size := h.I.2.2
/-- what is turned in the dive's own block -/
theorem Dm.set {wr : World} {A s mB mB' : Nat} {d d' : Dv} {v v' : Value} (h : Dm wr A s mB d v) {i : Nat} (hi : i < 12) (u : Value) (he : ∀ j, j < 12 → (if j = i then u else dcell s v d.tu d.cn mB j) = dcell s v' d'.tu d'.cn mB' j) (ho : wr.ownsRow (A + 1) 111 4 v' d'.m (slist d' d'.m)) : Dm (wr.setCell ⟨A, i, none⟩ u) A s mB' d' v' :=
  ⟨(h.I.set hi u).congr he, ownsRow_setCell_below ho (by show A < A + 1; omega) u⟩
theorem dcells {s : Nat} {v v' : Value} {tu tu' : Nat → Nat} {cn cn' mB mB' : Nat} {i : Nat} {u : Value} (h0 : i ≠ 0) (h1 : (if 1 = i then u else v) = v') (ht : ∀ k, k < 8 → (if 2 + k = i then u else Value.int .i64 (tu k : Int)) = .int .i64 (tu' k : Int)) (hc : (if 10 = i then u else Value.int .i64 (cn : Int)) = .int .i64 (cn' : Int)) (hb : (if 11 = i then u else Value.int .u64 (mB : Int)) = .int .u64 (mB' : Int)) :
    ∀ j, j < 12 → (if j = i then u else dcell s v tu cn mB j) = dcell s v' tu' cn' mB' j := by
  intro j hj
  by_cases e0 : j = 0
  · subst e0; rw [if_neg (fun e => h0 e.symm)]; rfl
  by_cases e1 : j = 1
  · subst e1; exact h1
  by_cases e2 : j < 10
  · obtain ⟨k, rfl⟩ : ∃ k, j = 2 + k := ⟨j - 2, by omega⟩
    have := ht k (by omega)
    have q : ∀ (v : Value) tu cn mB, dcell s v tu cn mB (2 + k) = .int .i64 (tu k : Int) := by
      intro v tu cn mB
      unfold dcell
      rw [if_neg (by omega), if_neg (by omega), if_pos (by omega), show 2 + k - 2 = k by omega]
    rw [q, q]; exact this
  by_cases e3 : j = 10
  · subst e3; exact hc
  · obtain rfl : j = 11 := by omega
    exact hb
theorem Dm.turns {wr : World} {A s mB : Nat} {d : Dv} {v : Value} (h : Dm wr A s mB d v) {k : Nat} (hk : k < 8) :
    Dm ((wr.setCell ⟨A, 10, none⟩ (.int .i64 ((d.cn : Int) + 1))).setCell ⟨A, 2 + k, none⟩ (.int .i64 ((d.cn : Int) + 1))) A s mB { d with tu := upd d.tu k (d.cn + 1), cn := d.cn + 1 } v := by
  have h1 : Dm (wr.setCell ⟨A, 10, none⟩ (.int .i64 ((d.cn : Int) + 1))) A s mB { d with cn := d.cn + 1 } v :=
    h.set (by omega) _ (dcells (by omega) (by simp) (fun k hk => by rw [if_neg (by omega)]) (by simp) (by simp)) h.own
  refine h1.set (by omega) _ (dcells (by omega) (by rw [if_neg (by omega)]) (fun j hj => ?_) (by rw [if_neg (by omega)]) (by rw [if_neg (by omega)])) h1.own
  by_cases e : j = k
  · subst e; rw [if_pos rfl]; show _ = Value.int .i64 ((upd d.tu j (d.cn + 1) j : Nat) : Int); rw [upd_at]; simp
  · rw [if_neg (by omega)]; show Value.int .i64 (d.tu j : Int) = Value.int .i64 ((upd d.tu k (d.cn + 1) j : Nat) : Int); rw [upd_no _ _ e]
/-- the stack's row has grown -/
theorem Dm.grown {ww wa wb : World} {A s mB : Nat} {d d' : Dv} {v v' : Value} (h : Dm ww A s mB d v) (ha : Below ww.heap.size ww wa) (hg : wa.grownBy wb v.ownBlock) (ho : wb.ownsRow (A + 1) 111 4 v' d'.m (slist d' d'.m)) (ht : d'.tu = d.tu) (hc : d'.cn = d.cn) :
    Dm (wb.setCell ⟨A, 1, none⟩ v') A s mB d' v' ∧ Below A ww (wb.setCell ⟨A, 1, none⟩ v') ∧ wb.cell? ⟨A, 1, none⟩ = some v ∧ wb.frozen? ⟨A, 1, none⟩ = false := by
  have hA := h.lt
  have hs := ha.size
  have hz := hg.size
  have eb : ∀ k, k ≤ A → wb.heap[k]? = ww.heap[k]? := fun k hk => (hg.block k (by omega) (fun e => by have := own_ge h.own k e.symm; omega)).trans (ha.block k (by omega))
  have hI : OwnI wb A 12 (dcell s v d.tu d.cn mB) := h.I.same (eb A (Nat.le_refl _)) (by omega)
  refine ⟨⟨?_, ownsRow_setCell_below ho (by show A < A + 1; omega) _⟩, ?_, hI.1 1 (by omega), hI.2.1 1⟩
  · refine (hI.set (i := 1) (by omega) v').congr ?_
    rw [ht, hc]
    exact dcells (by omega) (by simp) (fun k hk => by rw [if_neg (by omega)]) (by simp) (by simp)
  · exact Below.setCell (B := A) (w := wb) (p := ⟨A, 1, none⟩) ⟨hg.os.trans ha.os, hg.tape.trans ha.tape, hg.output.trans ha.output, by omega, fun k hk => eb k (by omega)⟩ (Nat.le_refl _) v'

set_option maxHeartbeats 800000 in
theorem enter_any (A s mB : Nat) (d : Dv) (v : Value) (k f : Nat) (w : World) (hD : Dm w A s mB d v) (hk : k < 8) (hf : f < 8) (hm : d.m ≤ 8) (hc : d.cn ≤ 8) :
    Calls Tryd.prog 91 #[.pointer (some ⟨A, 0, none⟩), .int .i64 (k : Int), .int .i64 (f : Int)] w fun e w' => e = .returned (.tuple #[]) ∧ ∃ v', Dm w' A s mB (d.push k f) v' ∧ Below A w w' := by
  obtain ⟨i0, hi0, hz0, hz1, hz2⟩ := info_parts Tryd.infoStep
  have HI : Hid (Tryd.prog.info? 111 = some i0 ∧ i0.zero = some (.agg #[.int .i64 0, .int .i64 0, .int .i64 0, .int .i64 0]) ∧ i0.size = 4 ∧ i0.bytes = 32) := ⟨hi0, hz0, hz1, hz2⟩
  clear hi0 hz0 hz1 hz2
  have c1 := hD.c1
  have ct := hD.ct hk
  have cc := hD.cc
  have fz := hD.I.2.1
  have hA := hD.I.2.2
  have HD := hideP hD
  clear hD
  go_enter Tryd.func91, Tryd.ntmps91
  go_wp2
  go_region
  go_wp2
  obtain ⟨ww, hww⟩ : ∃ ww, ww = (w.setCell ⟨A, 10, none⟩ (.int .i64 ((d.cn : Int) + 1))).setCell ⟨A, 2 + k, none⟩ (.int .i64 ((d.cn : Int) + 1)) := ⟨_, rfl⟩
  have D2 : Hid (Dm ww A s mB { d with tu := upd d.tu k (d.cn + 1), cn := d.cn + 1 } v) := by rw [hww]; exact HD.out.turns hk
  have B2 : Hid (Below A w ww) := by rw [hww]; exact ((Below.refl _ _).setCell (p := ⟨A, 10, none⟩) (Nat.le_refl _) _).setCell (p := ⟨A, 2 + k, none⟩) (Nat.le_refl _) _
  rw [← hww]
  clear hww c1 ct cc fz hA HD
  have c1 := D2.out.c1
  have cc : ww.cell? ⟨A, 10, none⟩ = some (.int .i64 ((d.cn : Int) + 1)) := D2.out.cc
  have hA := D2.out.lt
  go_region_law ((refine step_append_lies _ (by rfl) _ _ _ (by rfl) (A + 1) 111 i0 _ 4 32 Tryd.underlying95 HI.out.1 HI.out.2.1 HI.out.2.2.1 HI.out.2.2.2 rfl (by omega) v d.m (slist d d.m) (by rfl) ((D2.out.own.alloc _).drew) ⟨ww.heap.size, 0, none⟩ 1 1 [.int .i64 (k : Int), .int .i64 (f : Int), .int .i64 0, .int .i64 ((d.cn : Int) + 1)] (by rfl) (by rfl) (World.news_of_block (cs := #[.int .i64 (k : Int), .int .i64 (f : Int), .int .i64 0, .int .i64 ((d.cn : Int) + 1)]) (t := 111) (fr := (0, 0)) (heap_alloc_new ww _)) (by simp [Value.oneCell']) (by omega) (by unfold maxLen; omega) (by omega) (by simp; omega) (ww.heap.size + 1) (by simp) ?_; intro g cap' wb hown1 hgrow hat hltg; obtain ⟨D3, B3, e1, e2⟩ := D2.out.grown (d' := d.push k f) (below_one _ _).drew.drew hgrow (by show wb.ownsRow (A + 1) 111 4 _ (d.m + 1) (slist (d.push k f) (d.m + 1)); rw [slist_push]; exact hown1) rfl rfl; have D4 := hideP D3; have B4 := hideP B3; clear D3 B3 hown1 hgrow hat hltg))
  all_goals
    go_wp2
    refine bodyPost_end (v := .tuple #[]) (by simp [results, Tryd.results91, go_sem]) rfl ⟨rfl, _, D4.out, B2.out.trans B4.out⟩

end Go.Proofs.YticoiolpofibdaaDoor

/- Walks of impl.dive's methods: top, leave. -/
namespace Go.Proofs.YticoiolpofibdaaDoor
open Go.RowKit
set_option linter.unusedVariables false

/-- a region of which all ways end alike: what follows is asked once -/
theorem wp_once {P : Program} {c : Code} {Q' : Exit → Act → World → Prop} {K : Act → World → Prop} {a : Act} {w : World} {aa : Act} {wz : World} (h : c.wp P (Exit.then (fun a' w' => a' = aa ∧ w' = wz) Q') a w) (hk : K aa wz) : c.wp P (Exit.then K Q') a w :=
  Code.wp_mono (fun e a' w' h => by
    cases e with
    | normal => obtain ⟨rfl, rfl⟩ := h; exact hk
    | _ => exact h) h
set_option maxHeartbeats 400000 in
theorem top_any (A s mB : Nat) (d : Dv) (g cap i : Nat) (w : World) (hD : Dm w A s mB d (.slice (some ⟨g, 0, none⟩) (i + 1) cap)) (hm : d.m = i + 1) (hi : i ≤ 8) :
    Calls Tryd.prog 105 #[.pointer (some ⟨A, 0, none⟩)] w fun e w' => e = .returned (.pointer (some ⟨g, i * 4, none⟩)) ∧ w' = w.drew := by
  have c1 := hD.c1
  clear hD hm
  go_enter Tryd.func105, Tryd.ntmps105
  go_wp2
  go_region
  go_wp2
  go_ret
  exact ⟨rfl, rfl⟩

theorem scell0 (d : Dv) (q : Nat) : scell d (q * 4) = .int .i64 (d.kn q : Int) := by
  unfold scell; rw [if_pos (by omega), show q * 4 / 4 = q by omega]
theorem scell1 (d : Dv) (q : Nat) : scell d (q * 4 + 1) = .int .i64 (d.fr q : Int) := by
  unfold scell; rw [if_neg (by omega), if_pos (by omega), show (q * 4 + 1) / 4 = q by omega]
theorem scell2 (d : Dv) (q : Nat) : scell d (q * 4 + 2) = .int .i64 (d.nx q : Int) := by
  unfold scell; rw [if_neg (by omega), if_neg (by omega), if_pos (by omega), show (q * 4 + 2) / 4 = q by omega]
theorem scell3 (d : Dv) (q : Nat) : scell d (q * 4 + 3) = .int .i64 (d.le q : Int) := by
  unfold scell; rw [if_neg (by omega), if_neg (by omega), if_neg (by omega), show (q * 4 + 3) / 4 = q by omega]
theorem Dm.st {wr : World} {A s mB : Nat} {d : Dv} {g n cap : Nat} (h : Dm wr A s mB d (.slice (some ⟨g, 0, none⟩) n cap)) (hn : d.m = n) {q : Nat} (hq : q < d.m) :
    wr.cell? ⟨g, q * 4, none⟩ = some (.int .i64 (d.kn q : Int)) ∧ wr.cell? ⟨g, q * 4 + 1, none⟩ = some (.int .i64 (d.fr q : Int)) ∧ wr.cell? ⟨g, q * 4 + 2, none⟩ = some (.int .i64 (d.nx q : Int)) ∧ wr.cell? ⟨g, q * 4 + 3, none⟩ = some (.int .i64 (d.le q : Int)) ∧ (∀ j, wr.frozen? ⟨g, j, none⟩ = false) ∧ A + 1 ≤ g ∧ g < wr.heap.size := by
  subst hn
  have ho := h.own
  obtain ⟨g', cap', e, h1, h2⟩ := ho.form (by omega)
  simp only [Value.slice.injEq, Option.some.injEq, Addr.mk.injEq, and_true, true_and] at e
  obtain ⟨rfl, rfl⟩ := e
  refine ⟨?_, ?_, ?_, ?_, fun j => ho.frozenAt j, h1, h2⟩
  · rw [ho.cellAt _ (by omega), slist_get _ _ _ (by omega), scell0]
  · rw [ho.cellAt _ (by omega), slist_get _ _ _ (by omega), scell1]
  · rw [ho.cellAt _ (by omega), slist_get _ _ _ (by omega), scell2]
  · rw [ho.cellAt _ (by omega), slist_get _ _ _ (by omega), scell3]
theorem own_shrink {w : World} {base : Nat} {e : TypeId} {size g n cap : Nat} {xs ys : List Value} (h : w.ownsRow base e size (.slice (some ⟨g, 0, none⟩) (n + 1) cap) (n + 1) xs) (hy : xs.take (n * size) = ys) : w.ownsRow base e size (.slice (some ⟨g, 0, none⟩) n cap) n ys := by
  rcases h.2 with ⟨h', _⟩ | ⟨g', cap', cur, h', hb, hg, hnc, hcm, hcs, htake⟩
  · simp at h'
  · simp only [Value.slice.injEq, Option.some.injEq, Addr.mk.injEq, and_true, true_and] at h'
    obtain ⟨rfl, rfl⟩ := h'
    have hl := h.1
    have hmul : (n + 1) * size = n * size + size := by rw [Nat.add_mul]; omega
    refine ⟨by rw [← hy, List.length_take, hl, hmul]; omega, .inr ⟨g, cap, cur, rfl, hb, hg, by omega, hcm, hcs, ?_⟩⟩
    rw [← hy, ← htake, List.take_take, hmul]
    congr 1; omega
theorem slist_take (d : Dv) (n : Nat) : (slist d (n + 1)).take (n * 4) = slist d n := by
  apply List.ext_getElem?
  intro j
  rw [List.getElem?_take]
  by_cases hj : j < n * 4
  · rw [if_pos hj, slist_get _ _ _ (by omega), slist_get _ _ _ hj]
  · rw [if_neg hj, slist_none _ _ _ hj]
/-- the stack without its last -/
theorem Dm.pop {wr : World} {A s mB : Nat} {d : Dv} {g n cap : Nat} (h : Dm wr A s mB d (.slice (some ⟨g, 0, none⟩) (n + 1) cap)) (hm : d.m = n + 1) :
    Dm (wr.setCell ⟨A, 1, none⟩ (.slice (some ⟨g, 0, none⟩) n cap)) A s mB { d with m := n } (.slice (some ⟨g, 0, none⟩) n cap) := by
  have ho := h.own
  rw [hm] at ho
  exact h.set (by omega) _ (dcells (by omega) (by simp) (fun k hk => by rw [if_neg (by omega)]) (by simp) (by simp)) (own_shrink ho (slist_take d n))
theorem Dm.bits {wr : World} {A s mB : Nat} {d : Dv} {v : Value} (h : Dm wr A s mB d v) (mB' : Nat) : Dm (wr.setCell ⟨A, 11, none⟩ (.int .u64 (mB' : Int))) A s mB' d v :=
  h.set (by omega) _ (dcells (by omega) (by simp) (fun k hk => by rw [if_neg (by omega)]) (by simp) (by simp)) h.own
/-- one number of the stack's last is turned -/
theorem Dm.stored {wr : World} {A s mB : Nat} {d d' : Dv} {g n cap : Nat} (h : Dm wr A s mB d (.slice (some ⟨g, 0, none⟩) n cap)) (hn : d.m = n) (hn' : d'.m = n) (ht : d'.tu = d.tu) (hc : d'.cn = d.cn) {j : Nat} {x : Nat} (hg : A + 1 ≤ g) (hx : ∀ i, i < n * 4 → (if j = i then Value.int .i64 (x : Int) else scell d i) = scell d' i) :
    Dm (wr.setCell ⟨g, j, none⟩ (.int .i64 (x : Int))) A s mB d' (.slice (some ⟨g, 0, none⟩) n cap) := by
  have ho := h.own
  rw [hn] at ho
  obtain ⟨o1, g1⟩ := ho.stored j (.int .i64 (x : Int))
  refine ⟨by rw [ht, hc]; exact h.I.other (by show g ≠ A; omega) _, ?_⟩
  rw [hn']
  have e : (slist d n).set j (.int .i64 (x : Int)) = slist d' n := by
    apply List.ext_getElem?
    intro i
    rw [List.getElem?_set, slist_length]
    by_cases hi : i < n * 4
    · rw [slist_get _ _ _ hi, slist_get _ _ _ hi, ← hx i hi]
      by_cases e : j = i
      · rw [if_pos e, if_pos e, if_pos (by omega)]
      · rw [if_neg e, if_neg e]
    · rw [slist_none _ _ _ hi, slist_none _ _ _ hi]
      by_cases e : j = i
      · rw [if_pos e, if_neg (by omega)]
      · rw [if_neg e]
  rw [← e]; exact o1
theorem Dm.least {wr : World} {A s mB : Nat} {d : Dv} {g i cap : Nat} (h : Dm wr A s mB d (.slice (some ⟨g, 0, none⟩) (i + 1) cap)) (hm : d.m = i + 1) (hg : A + 1 ≤ g) (x : Nat) :
    Dm (wr.setCell ⟨g, i * 4 + 3, none⟩ (.int .i64 (x : Int))) A s mB { d with le := upd d.le i x } (.slice (some ⟨g, 0, none⟩) (i + 1) cap) := by
  refine h.stored (d' := { d with le := upd d.le i x }) hm hm rfl rfl hg (fun j hj => ?_)
  by_cases e : i * 4 + 3 = j
  · subst e; rw [if_pos rfl, scell3]; show _ = Value.int .i64 ((upd d.le i x i : Nat) : Int); rw [upd_at]
  · rw [if_neg e]
    unfold scell
    by_cases e3 : j % 4 = 3
    · have hne : j / 4 ≠ i := by omega
      show _ = Value.int .i64 ((((if j % 4 = 0 then d.kn (j / 4) else if j % 4 = 1 then d.fr (j / 4) else if j % 4 = 2 then d.nx (j / 4) else upd d.le i x (j / 4)) : Nat)) : Int)
      rw [upd_no _ _ hne]
    · have : j % 4 = 0 ∨ j % 4 = 1 ∨ j % 4 = 2 := by omega
      rcases this with q | q | q <;> simp [q]
theorem Dm.next {wr : World} {A s mB : Nat} {d : Dv} {g i cap : Nat} (h : Dm wr A s mB d (.slice (some ⟨g, 0, none⟩) (i + 1) cap)) (hm : d.m = i + 1) (hg : A + 1 ≤ g) (x : Nat) :
    Dm (wr.setCell ⟨g, i * 4 + 2, none⟩ (.int .i64 (x : Int))) A s mB { d with nx := upd d.nx i x } (.slice (some ⟨g, 0, none⟩) (i + 1) cap) := by
  refine h.stored (d' := { d with nx := upd d.nx i x }) hm hm rfl rfl hg (fun j hj => ?_)
  by_cases e : i * 4 + 2 = j
  · subst e; rw [if_pos rfl, scell2]; show _ = Value.int .i64 ((upd d.nx i x i : Nat) : Int); rw [upd_at]
  · rw [if_neg e]
    unfold scell
    by_cases e3 : j % 4 = 2
    · have hne : j / 4 ≠ i := by omega
      show _ = Value.int .i64 ((((if j % 4 = 0 then d.kn (j / 4) else if j % 4 = 1 then d.fr (j / 4) else if j % 4 = 2 then upd d.nx i x (j / 4) else d.le (j / 4)) : Nat)) : Int)
      rw [upd_no _ _ hne]
    · have : j % 4 = 0 ∨ j % 4 = 1 ∨ j % 4 = 3 := by omega
      rcases this with q | q | q <;> simp [q]

theorem Dm.alloc {wr : World} {A s mB : Nat} {d : Dv} {v : Value} (h : Dm wr A s mB d v) (o : Obj) : Dm (wr.alloc o) A s mB d v :=
  ⟨h.I.same (Below.heap_alloc _ _ _ h.lt) (by simp), h.own.alloc o⟩
set_option maxHeartbeats 400000 in
theorem leave_root (A s mB : Nat) (d : Dv) (g cap : Nat) (w : World) (hD : Dm w A s mB d (.slice (some ⟨g, 0, none⟩) 1 cap)) (hm : d.m = 1) :
    Calls Tryd.prog 106 #[.pointer (some ⟨A, 0, none⟩)] w fun e w' => e = .returned (.tuple #[]) ∧ Dm w' A s mB { d with m := 0 } (.slice (some ⟨g, 0, none⟩) 0 cap) ∧ Below A w w' := by
  obtain ⟨k0, k1, k2, k3, kf, hg, hgz⟩ := hD.st hm (q := 0) (by omega)
  have HD := hideP hD
  have hA := hD.lt
  clear hD
  go_enter Tryd.func106, Tryd.ntmps106
  go_wp2_with fail
  refine (top_any A s mB d g cap 0 _ HD.out hm (by omega)).mono ?_
  rintro e w1 ⟨rfl, rfl⟩
  have c1 := HD.out.c1
  have fz := HD.out.I.2.1
  go_wp2
  obtain ⟨ww, hww⟩ : ∃ ww, ww = w.alloc (.cells #[.int .i64 (d.kn 0 : Int), .int .i64 (d.fr 0 : Int), .int .i64 (d.nx 0 : Int), .int .i64 (d.le 0 : Int)] 111) := ⟨_, rfl⟩
  have DW : Hid (Dm ww A s mB d (.slice (some ⟨g, 0, none⟩) 1 cap)) := by rw [hww]; exact HD.out.alloc _
  have BW : Hid (Below A w ww) := by rw [hww]; exact (Below.refl _ _).alloc (Nat.le_of_lt hA) _
  rw [← hww]
  clear hww c1 fz HD k0 k1 k2 k3 kf
  have c1 := DW.out.c1
  have fz := DW.out.I.2.1
  have hA := DW.out.lt
  have D2 := hideP (DW.out.pop (n := 0) hm)
  go_region
  go_wp2
  refine bodyPost_ret (v := .tuple #[]) (results_none rfl _ _ _) rfl ⟨rfl, D2.out.drew.drew, (BW.out.setCell (p := ⟨A, 1, none⟩) (Nat.le_refl _) _).drew.drew⟩

set_option maxHeartbeats 800000 in
theorem leave_more (A s mB : Nat) (d : Dv) (g cap i : Nat) (w : World) (hD : Dm w A s mB d (.slice (some ⟨g, 0, none⟩) (i + 2) cap)) (hm : d.m = i + 2) (hi : i ≤ 7) (hmB : mB < 2 ^ 64) (hk : d.kn (i + 1) < 8) :
    Calls Tryd.prog 106 #[.pointer (some ⟨A, 0, none⟩)] w fun e w' => e = .returned (.tuple #[]) ∧ (∃ mB', (mB' = if d.le (i + 1) = d.tu (d.kn (i + 1)) then mB ||| pbit (d.fr (i + 1) : Int) (d.kn (i + 1) : Int) else mB) ∧ Dm w' A s mB' (d.leave i) (.slice (some ⟨g, 0, none⟩) (i + 1) cap)) ∧ Below A w w' := by
  obtain ⟨k0, k1, k2, k3, kf, hg, hgz⟩ := hD.st hm (q := i + 1) (by omega)
  have HD := hideP hD
  have hA := hD.lt
  have HE : Hid (d.leave i = { d with m := i + 1, le := upd d.le i (min (d.le i) (d.le (i + 1))), br := (d.leave i).br }) := rfl
  have hcap : i + 2 ≤ cap := by
    have ho := hD.own
    rw [hm] at ho
    rcases ho.2 with ⟨h', _⟩ | ⟨g', cap', cur, h', _, _, hnc, _⟩
    · simp at h'
    · simp only [Value.slice.injEq, true_and] at h'; obtain ⟨_, rfl⟩ := h'; exact hnc
  clear hD
  obtain ⟨dl, hdl⟩ : ∃ x, x = d.leave i := ⟨_, rfl⟩
  rw [← hdl] at HE ⊢
  obtain ⟨kk, hkk⟩ : ∃ x, x = d.kn (i + 1) := ⟨_, rfl⟩
  obtain ⟨ff, hff⟩ : ∃ x, x = d.fr (i + 1) := ⟨_, rfl⟩
  obtain ⟨ll, hll⟩ : ∃ x, x = d.le (i + 1) := ⟨_, rfl⟩
  obtain ⟨nn, hnn⟩ : ∃ x, x = d.nx (i + 1) := ⟨_, rfl⟩
  obtain ⟨tt, htt⟩ : ∃ x, x = d.tu kk := ⟨_, rfl⟩
  rw [← hkk] at k0 hk ⊢
  rw [← hff] at k1 ⊢
  rw [← hll] at k3 HE ⊢
  rw [← hnn] at k2
  rw [← htt]
  have HTT := hideP htt
  clear hkk hff hll hnn hdl htt
  go_enter Tryd.func106, Tryd.ntmps106
  go_wp2_with fail
  refine (top_any A s mB d g cap (i + 1) _ HD.out hm (by omega)).mono ?_
  rintro e w1 ⟨rfl, rfl⟩
  go_wp2
  obtain ⟨ww, hww⟩ : ∃ ww, ww = w.alloc (.cells #[.int .i64 (kk : Int), .int .i64 (ff : Int), .int .i64 (nn : Int), .int .i64 (ll : Int)] 111) := ⟨_, rfl⟩
  have DW : Hid (Dm ww A s mB d (.slice (some ⟨g, 0, none⟩) (i + 2) cap)) := by rw [hww]; exact HD.out.alloc _
  have BW : Hid (Below A w ww) := by rw [hww]; exact (Below.refl _ _).alloc (Nat.le_of_lt hA) _
  have l0 : ww.cell? ⟨w.heap.size, 0, none⟩ = some (.int .i64 (kk : Int)) := by rw [hww]; simp
  have l1 : ww.cell? ⟨w.heap.size, 1, none⟩ = some (.int .i64 (ff : Int)) := by rw [hww]; simp
  have l3 : ww.cell? ⟨w.heap.size, 3, none⟩ = some (.int .i64 (ll : Int)) := by rw [hww]; simp
  rw [← hww]
  obtain ⟨L, hL⟩ : ∃ L, L = w.heap.size := ⟨_, rfl⟩
  rw [← hL] at l0 l1 l3 hA hgz ⊢
  clear hww HD k0 k1 k2 k3 kf hL
  have c1 := DW.out.c1
  have fz := DW.out.I.2.1
  have D2 := hideP (DW.out.pop (n := i + 1) hm)
  have hcap' : (i : Int) + 1 ≤ (cap : Int) := by omega
  have hne : ((i : Int) + 1 == 0) = false := by simp; omega
  go_region
  go_wp2
  obtain ⟨w2, hw2⟩ : ∃ w2, w2 = ww.setCell ⟨A, 1, none⟩ (.slice (some ⟨g, 0, none⟩) (i + 1) cap) := ⟨_, rfl⟩
  have r0 : w2.cell? ⟨L, 0, none⟩ = some (.int .i64 (kk : Int)) := by rw [hw2, World.cell?_setCell_other _ _ _ _ (by intro e; simp at e)]; exact l0
  have r1 : w2.cell? ⟨L, 1, none⟩ = some (.int .i64 (ff : Int)) := by rw [hw2, World.cell?_setCell_other _ _ _ _ (by intro e; simp at e)]; exact l1
  have r3 : w2.cell? ⟨L, 3, none⟩ = some (.int .i64 (ll : Int)) := by rw [hw2, World.cell?_setCell_other _ _ _ _ (by intro e; simp at e)]; exact l3
  have B2 : Hid (Below A w w2) := by rw [hw2]; exact BW.out.setCell (p := ⟨A, 1, none⟩) (Nat.le_refl _) _
  rw [← hw2] at D2 ⊢
  clear hw2 c1 fz l0 l1 l3 DW BW hne
  have ct : w2.cell? ⟨A, 2 + kk, none⟩ = some (.int .i64 (tt : Int)) := by rw [HTT.out]; exact D2.out.ct hk
  have cb := D2.out.cb
  have fz := D2.out.I.2.1
  by_cases hlt : ll = tt
  · subst hlt
    have HP := hideP (D2.out.bits (mB ||| pbit (ff : Int) (kk : Int)))
    have HBP : Hid (Below A w (w2.setCell ⟨A, 11, none⟩ (.int .u64 ((mB ||| pbit (ff : Int) (kk : Int) : Nat) : Int)))) := B2.out.setCell (p := ⟨A, 11, none⟩) (Nat.le_refl _) _
    go_region
    go_wp2
    apply wp_once
    case h =>
      go_region_with (go_at_call 74; refine (with_any mB (ff : Int) (kk : Int) _ hmB).mono ?_; rintro e wq ⟨rfl, rfl⟩)
      all_goals exact ⟨rfl, rfl⟩
    obtain ⟨mX, hmX⟩ : ∃ m, m = mB ||| pbit (ff : Int) (kk : Int) := ⟨_, rfl⟩
    have HL : Hid (mX = mB ||| pbit (ff : Int) (kk : Int)) := hmX
    rw [← hmX] at HP HBP
    obtain ⟨w3, hw3⟩ : ∃ w3, w3 = w2.setCell ⟨A, 11, none⟩ (.int .u64 (mX : Int)) := ⟨_, rfl⟩
    have r3' : w3.cell? ⟨L, 3, none⟩ = some (.int .i64 (ll : Int)) := by rw [hw3, World.cell?_setCell_other _ _ _ _ (by intro e; simp at e)]; exact r3
    rw [← hw3] at HP HBP
    rw [← hmX, ← hw3]
    obtain ⟨_, _, _, s3, sf, _, _⟩ := HP.out.st (n := i + 1) rfl (q := i) (Nat.lt_succ_self i)
    have s3' : w3.cell? ⟨g, i * 4 + 3, none⟩ = some (.int .i64 (d.le i : Int)) := s3
    clear s3 hw3 hmX r0 r1 r3 cb ct fz D2 B2
    have HMIN : Hid ((if ll < d.le i then (ll : Int) else (d.le i : Int)) = ((min (d.le i) ll : Nat) : Int)) := by show (if ll < d.le i then (ll : Int) else (d.le i : Int)) = _; split <;> omega
    have DF : Hid (Dm (w3.setCell ⟨g, i * 4 + 3, none⟩ (.int .i64 ((min (d.le i) ll : Nat) : Int))) A s mX dl (.slice (some ⟨g, 0, none⟩) (i + 1) cap)) := by
      have h1 := HP.out.least (i := i) rfl hg (min (d.le i) ll)
      rw [HE.out]; exact ⟨h1.I, h1.own⟩
    have BF : Hid (Below A w (w3.setCell ⟨g, i * 4 + 3, none⟩ (.int .i64 ((min (d.le i) ll : Nat) : Int)))) := HBP.out.setCell (p := ⟨g, i * 4 + 3, none⟩) (by show A ≤ g; omega) _
    go_wp2
    go_region_law (go_simp; go_at_call 105; refine (top_any A s mX _ g cap i _ (by repeat (first | exact HP.out | apply Dm.drew)) rfl (by omega)).mono ?_; rintro e wq ⟨rfl, rfl⟩)
    all_goals
      rw [HMIN.out]
      refine bodyPost_end (v := .tuple #[]) (results_none rfl _ _ _) rfl ⟨rfl, ⟨mX, HL.out.trans (if_pos rfl).symm, ?_⟩, ?_⟩
      · repeat (first | exact DF.out | apply Dm.drew)
      · repeat (first | exact BF.out | apply Below.drew)
  · have hne : ((ll : Int) == (tt : Int)) = false := by simp; omega
    have HL : Hid (mB = if ll = tt then mB ||| pbit (ff : Int) (kk : Int) else mB) := (if_neg hlt).symm
    obtain ⟨_, _, _, s3, sf, _, _⟩ := D2.out.st (n := i + 1) rfl (q := i) (Nat.lt_succ_self i)
    have s3' : w2.cell? ⟨g, i * 4 + 3, none⟩ = some (.int .i64 (d.le i : Int)) := s3
    clear s3
    go_region
    go_wp2
    clear hne ct cb hlt
    have HMIN : Hid ((if ll < d.le i then (ll : Int) else (d.le i : Int)) = ((min (d.le i) ll : Nat) : Int)) := by show (if ll < d.le i then (ll : Int) else (d.le i : Int)) = _; split <;> omega
    have DF : Hid (Dm (w2.setCell ⟨g, i * 4 + 3, none⟩ (.int .i64 ((min (d.le i) ll : Nat) : Int))) A s mB dl (.slice (some ⟨g, 0, none⟩) (i + 1) cap)) := by
      have h1 := D2.out.least (i := i) rfl hg (min (d.le i) ll)
      rw [HE.out]; exact ⟨h1.I, h1.own⟩
    have BF : Hid (Below A w (w2.setCell ⟨g, i * 4 + 3, none⟩ (.int .i64 ((min (d.le i) ll : Nat) : Int)))) := B2.out.setCell (p := ⟨g, i * 4 + 3, none⟩) (by show A ≤ g; omega) _
    go_region_law (go_simp; go_at_call 105; refine (top_any A s mB _ g cap i _ (by repeat (first | exact D2.out | apply Dm.drew)) rfl (by omega)).mono ?_; rintro e wq ⟨rfl, rfl⟩)
    all_goals
      rw [HMIN.out]
      refine bodyPost_end (v := .tuple #[]) (results_none rfl _ _ _) rfl ⟨rfl, ⟨mB, HL.out, ?_⟩, ?_⟩
      · repeat (first | exact DF.out | apply Dm.drew)
      · repeat (first | exact BF.out | apply Below.drew)

end Go.Proofs.YticoiolpofibdaaDoor

/- Walk of impl.dive.move. -/
namespace Go.Proofs.YticoiolpofibdaaDoor
open Go.RowKit
set_option linter.unusedVariables false

theorem own_kept {w w' : World} {base : Nat} {e : TypeId} {size : Nat} {v : Value} {n : Nat} {xs : List Value} (h : w.ownsRow base e size v n xs) (hb : ∀ g, g < w.heap.size → w'.heap[g]? = w.heap[g]?) : w'.ownsRow base e size v n xs := by
  refine ⟨h.1, ?_⟩
  rcases h.2 with h1 | ⟨g, cap, cur, h1, h2, h3, h4⟩
  · exact Or.inl h1
  · exact Or.inr ⟨g, cap, cur, h1, h2, (hb g (Array.getElem?_eq_some_iff.1 h3).1).trans h3, h4⟩
theorem Dm.below {w w' : World} {A s mB : Nat} {d : Dv} {v : Value} (h : Dm w A s mB d v) (hb : Below w.heap.size w w') : Dm w' A s mB d v :=
  ⟨h.I.below hb h.lt, own_kept h.own (fun g hgl => hb.block g hgl)⟩
/-- one step of going down: what holds goes on to hold, and there is less to come -/
def Went (E : Nat → Nat → Prop) (A s : Nat) (d : Dv) (w : World) (e : Ending) (w' : World) : Prop :=
  e = .returned (.tuple #[]) ∧ ∃ d' mB' v', Dm w' A s mB' d' v' ∧ mB' < 2 ^ 64 ∧ BrBits mB' d'.br ∧ Inv E d' ∧ Aux d' ∧ mu d' < mu d ∧ (∀ x, 0 < d.tu x → 0 < d'.tu x) ∧ Below A w w'
theorem leave_bits {mB : Nat} {d : Dv} {i : Nat} (hb : BrBits mB d.br) (hf : d.fr (i + 1) < 8) (hk : d.kn (i + 1) < 8) (hne : d.fr (i + 1) ≠ d.kn (i + 1)) : BrBits (if d.le (i + 1) = d.tu (d.kn (i + 1)) then mB ||| pbit (d.fr (i + 1) : Int) (d.kn (i + 1) : Int) else mB) (d.leave i).br := by
  by_cases h : d.le (i + 1) = d.tu (d.kn (i + 1))
  · rw [if_pos h]
    refine (hb.with hf hk hne).same (fun x y => ?_)
    exact ⟨fun q => q.elim Or.inl (fun q => Or.inr ⟨h, q⟩), fun q => q.elim Or.inl (fun q => Or.inr q.2)⟩
  · rw [if_neg h]
    refine hb.same (fun x y => ?_)
    exact ⟨Or.inl, fun q => q.elim id (fun q => absurd q.1 h)⟩
theorem leave_small {mB : Nat} {d : Dv} {i : Nat} (h : mB < 2 ^ 64) : (if d.le (i + 1) = d.tu (d.kn (i + 1)) then mB ||| pbit (d.fr (i + 1) : Int) (d.kn (i + 1) : Int) else mB) < 2 ^ 64 := by
  split
  · exact or_lt _ _ h (pbit_lt _ _)
  · exact h

set_option maxHeartbeats 1600000 in
theorem move_left (E : Nat → Nat → Prop) (G : Gr E) (A s mB : Nat) (d : Dv) (v : Value) (w : World) (hD : Dm w A s mB d v) (hmB : mB < 2 ^ 64) (hb : BrBits mB d.br) (hI : Inv E d) (hX : Aux d) (i : Nat) (hi : d.m = i + 1) (hn : d.nx i = 8) :
    Calls Tryd.prog 92 #[.pointer (some ⟨A, 0, none⟩)] w (Went E A s d w) := by
  have hm8 : d.m ≤ 8 := by have := hX.mcn; have := hX.sum; omega
  obtain ⟨g, cap, rfl, _, _⟩ := hD.own.form (by omega)
  rw [hi] at hD
  have him : i < d.m := by omega
  obtain ⟨k0, k1, k2, k3, kf, hg, hgz⟩ := hD.st hi him
  rw [hn] at k2
  have k2' : w.cell? ⟨g, i * 4 + 2, none⟩ = some (.int .i64 8) := k2
  have HD := hideP hD
  clear hD k2
  have HTU : Hid (∀ x, 0 < d.tu x → 0 < d.tu x) := fun x h => h
  by_cases h0 : i = 0
  · subst h0
    have HALL : Hid (∀ w2, Dm w2 A s mB { d with m := 0 } (.slice (some ⟨g, 0, none⟩) 0 cap) → Below A w w2 → Went E A s d w (.returned (.tuple #[])) w2) := fun w2 h1 h2 =>
      ⟨rfl, { d with m := 0 }, mB, _, h1, hmB, hb, hI.leaveRoot G hi hn, hX.root, mu_root (d := d) hi hn, fun x h => h, h2⟩
    clear hI hX hb G k0 k1 k3 kf hmB hn
    go_enter Tryd.func92, Tryd.ntmps92
    go_wp2_with fail
    refine (top_any A s mB d g cap 0 _ HD.out hi (by omega)).mono ?_
    rintro e w1 ⟨rfl, rfl⟩
    go_wp2_with fail
    refine (leave_root A s mB d g cap _ HD.out.drew hi).mono ?_
    rintro e w2 ⟨rfl, h2, b2⟩
    have F := hideP (HALL.out w2 h2 ((Below.refl _ _).drew.trans b2))
    clear HALL h2 b2 HD
    go_wp2
    exact bodyPost_ret (v := .tuple #[]) (results_none rfl _ _ _) rfl F.out
  · obtain ⟨j, rfl⟩ : ∃ j, i = j + 1 := ⟨i - 1, by omega⟩
    have c := hI.chain j (by omega)
    have p := hI.knk j (by omega)
    have q := hI.knk (j + 1) (by omega)
    have hne : d.fr (j + 1) ≠ d.kn (j + 1) := fun e => G.irr (d.kn j) (by have := c.2.1; rw [← e, c.1] at this; exact this)
    have hk1 : d.kn (j + 1) < 8 := q.1
    have HALL : Hid (∀ w2 mB', (mB' = if d.le (j + 1) = d.tu (d.kn (j + 1)) then mB ||| pbit (d.fr (j + 1) : Int) (d.kn (j + 1) : Int) else mB) → Dm w2 A s mB' (d.leave j) (.slice (some ⟨g, 0, none⟩) (j + 1) cap) → Below A w w2 → Went E A s d w (.returned (.tuple #[])) w2) := fun w2 mB' e h1 h2 =>
      ⟨rfl, d.leave j, mB', _, h1, e ▸ leave_small hmB, e ▸ leave_bits hb (by rw [c.1]; exact p.1) hk1 hne, hI.leaveTo G (by omega) hn, hX.leave (by omega), mu_leave (by omega) hn, fun x h => h, h2⟩
    have HK := hideP hk1
    clear hI hX hb G k0 k1 k3 kf hn c p q hne hk1
    go_enter Tryd.func92, Tryd.ntmps92
    go_wp2_with fail
    refine (top_any A s mB d g cap (j + 1) _ HD.out hi (by omega)).mono ?_
    rintro e w1 ⟨rfl, rfl⟩
    go_wp2_with fail
    refine (leave_more A s mB d g cap j _ HD.out.drew hi (by omega) hmB HK.out).mono ?_
    rintro e w2 ⟨rfl, ⟨mB', e2, h2⟩, b2⟩
    have F := hideP (HALL.out w2 mB' e2 h2 ((Below.refl _ _).drew.trans b2))
    clear HALL h2 b2 HD e2
    go_wp2
    exact bodyPost_ret (v := .tuple #[]) (results_none rfl _ _ _) rfl F.out

theorem has_v (v : Bool) (p : Nat) (a b : Int) (w : World) (hp : p < 2 ^ 64) (h : decide (p &&& pbit a b ≠ 0) = v) :
    Calls Tryd.prog 64 #[.int .u64 (p : Int), .int .i64 a, .int .i64 b] w fun e w' => e = .returned (.bool v) ∧ w' = w := by
  rw [← h]; exact has_any p a b w hp
set_option maxHeartbeats 1600000 in
theorem move_on (E : Nat → Nat → Prop) (G : Gr E) (A s mB : Nat) (d : Dv) (v : Value) (w : World) (hD : Dm w A s mB d v) (hmB : mB < 2 ^ 64) (hs : s < 2 ^ 64) (hE : ∀ x y : Nat, decide (s &&& pbit (x : Int) (y : Int) ≠ 0) = true ↔ E x y) (hb : BrBits mB d.br) (hI : Inv E d) (hX : Aux d) (i : Nat) (hi : d.m = i + 1) (x : Nat) (hn : d.nx i = x) (hx : x < 8) :
    Calls Tryd.prog 92 #[.pointer (some ⟨A, 0, none⟩)] w (Went E A s d w) := by
  have hm8 : d.m ≤ 8 := by have := hX.mcn; have := hX.sum; omega
  have hc8 : d.cn ≤ 8 := by have := hX.sum; omega
  obtain ⟨g, cap, rfl, _, _⟩ := hD.own.form (by omega)
  rw [hi] at hD
  have him : i < d.m := by omega
  obtain ⟨k0, k1, k2, k3, kf, hg, hgz⟩ := hD.st hi him
  rw [hn] at k2
  have k2' : w.cell? ⟨g, i * 4 + 2, none⟩ = some (.int .i64 (x : Int)) := k2
  obtain ⟨q1, q2, q3, q4, q5, q6⟩ := hI.knk i him
  have hA := hD.lt
  -- the world with the next one to look at
  have D1 : Hid (Dm (w.setCell ⟨g, i * 4 + 2, none⟩ (.int .i64 ((x : Int) + 1))) A s mB (d.skip i x) (.slice (some ⟨g, 0, none⟩) (i + 1) cap)) := by
    have h1 := hD.next hi hg (x + 1)
    have e : ((x + 1 : Nat) : Int) = (x : Int) + 1 := by omega
    rw [e] at h1
    exact ⟨h1.I, h1.own⟩
  have B1 : Hid (Below A w (w.setCell ⟨g, i * 4 + 2, none⟩ (.int .i64 ((x : Int) + 1)))) := (Below.refl _ _).setCell (p := ⟨g, i * 4 + 2, none⟩) (by show A ≤ g; omega) _
  have HD := hideP hD
  have hne8 : ((x : Int) == 8) = false := by simp; omega
  have hx9 : (x : Int) < 8 := by omega
  clear hD k2
  have HSK : Hid ((¬ E (d.kn i) x ∨ x = d.fr i) → ∀ w2, Dm w2 A s mB (d.skip i x) (.slice (some ⟨g, 0, none⟩) (i + 1) cap) → Below A w w2 → Went E A s d w (.returned (.tuple #[])) w2) := fun hc w2 h1 h2 =>
    ⟨rfl, d.skip i x, mB, _, h1, hmB, hb, hI.skipTo G (by omega) hn hx hc, hX.skip i x, mu_skip (by omega) hn hx, fun x h => h, h2⟩
  go_enter Tryd.func92, Tryd.ntmps92
  go_wp2_with fail
  refine (top_any A s mB d g cap i _ HD.out hi (by omega)).mono ?_
  rintro e w1 ⟨rfl, rfl⟩
  go_wp2
  obtain ⟨w2, hw2⟩ : ∃ w2, w2 = w.setCell ⟨g, i * 4 + 2, none⟩ (.int .i64 ((x : Int) + 1)) := ⟨_, rfl⟩
  rw [← hw2] at D1 B1 ⊢
  clear hw2 k0 k1 k3 kf k2' HD hne8
  obtain ⟨k0, k1, _, k3, kf, _, hgz2⟩ := D1.out.st hi him
  have k0' : w2.cell? ⟨g, i * 4, none⟩ = some (.int .i64 (d.kn i : Int)) := k0
  have k1' : w2.cell? ⟨g, i * 4 + 1, none⟩ = some (.int .i64 (d.fr i : Int)) := k1
  have k3' : w2.cell? ⟨g, i * 4 + 3, none⟩ = some (.int .i64 (d.le i : Int)) := k3
  have c0 := D1.out.c0
  have ct : w2.cell? ⟨A, 2 + x, none⟩ = some (.int .i64 (d.tu x : Int)) := D1.out.ct hx
  clear k0 k1 k3
  by_cases hEx : E (d.kn i) x
  · have HV : Hid (decide (s &&& pbit (d.kn i : Int) (x : Int) ≠ 0) = true) := (hE _ _).2 hEx
    by_cases hf : x = d.fr i
    · have F := hideP (HSK.out (Or.inr hf))
      rw [← hf] at k1'
      clear hI hX hb hE G HSK q1 q2 q3 q4 q5 q6 hEx hf
      have hne9 : Nonempty (Cls (Below w2.heap.size w2)) := ⟨⟨w2, Below.refl _ _⟩⟩
      have p0 : ∀ u : Cls (Below w2.heap.size w2), u.w.cell? ⟨g, i * 4, none⟩ = some (.int .i64 (d.kn i : Int)) := fun u => (u.ok.cell (p := ⟨g, i * 4, none⟩) hgz2).trans k0'
      have p1 : ∀ u : Cls (Below w2.heap.size w2), u.w.cell? ⟨g, i * 4 + 1, none⟩ = some (.int .i64 (x : Int)) := fun u => (u.ok.cell (p := ⟨g, i * 4 + 1, none⟩) hgz2).trans k1'
      have p2 : ∀ u : Cls (Below w2.heap.size w2), u.w.cell? ⟨A, 0, none⟩ = some (.int .u64 (s : Int)) := fun u => (u.ok.cell (p := ⟨A, 0, none⟩) D1.out.lt).trans c0
      have CH : Hid (∀ u : Cls (Below w2.heap.size w2), Calls Tryd.prog 64 #[.int .u64 (s : Int), .int .i64 (d.kn i : Int), .int .i64 (x : Int)] u.w fun e w'' => e = .returned (.bool true) ∧ ∃ u2 : Cls (Below w2.heap.size w2), w'' = u2.w) := fun u =>
        Calls.cls (D := Below w2.heap.size w2) ((has_v true s (d.kn i : Int) (x : Int) u.w hs HV.out).mono fun e w3 ⟨he, hb3⟩ => ⟨he, hb3 ▸ u.ok⟩)
      refine wp_region_cls (Below w2.heap.size w2) (by kernel_rfl) (by kernel_rfl) (Below.refl _ _).drew.drew ?_
      repeat (go_big_quiet_step (first | (go_at_call 64; refine CH.out _)))
      refine wpQuiet_nil ?_
      intro wz hw'
      have hz : Below w2.heap.size w2 wz := by obtain ⟨u, e⟩ := hw'; rw [e]; exact u.ok
      clear hw' p0 p1 p2 CH hne9
      have DZ := hideP (D1.out.below hz)
      have BZ := hideP (B1.out.trans (hz.mono (Nat.le_of_lt D1.out.lt)))
      have kz3 := (hz.cell (p := ⟨g, i * 4 + 3, none⟩) hgz2).trans k3'
      have kz0 := (hz.cell (p := ⟨g, i * 4, none⟩) hgz2).trans k0'
      have kzt := (hz.cell (p := ⟨A, 2 + x, none⟩) D1.out.lt).trans ct
      have kzf := fun j => (hz.frozen (p := ⟨g, j, none⟩) hgz2).trans (kf j)
      clear hz D1 B1 k0' k1' k3' ct kf c0
      go_wp2
      exact bodyPost_ret (v := .tuple #[]) (results_none rfl _ _ _) rfl (F.out _ (by repeat (first | exact DZ.out | apply Dm.drew)) (by repeat (first | exact BZ.out | apply Below.drew)))
    · have hne : ((x : Int) == (d.fr i : Int)) = false := by simp; omega
      by_cases htz : d.tu x = 0
      · have F : Hid (∀ w2 v', Dm w2 A s mB ((d.skip i x).push x (d.kn i)) v' → Below A w w2 → Went E A s d w (.returned (.tuple #[])) w2) := fun w2 v' h1 h2 =>
          ⟨rfl, (d.skip i x).push x (d.kn i), mB, v', h1, hmB, hb, hI.pushChild G (by omega) hEx htz hn, (hX.skip i x).push hx htz, mu_push (by omega) hn hx htz, fun y hy => (by
            show 0 < upd d.tu x (d.cn + 1) y
            by_cases e : y = x
            · subst e; rw [upd_at]; omega
            · rw [upd_no _ _ e]; exact hy), h2⟩
        have HN := fun w3 (h : Dm w3 A s mB (d.skip i x) (.slice (some ⟨g, 0, none⟩) (i + 1) cap)) => enter_any A s mB (d.skip i x) _ x (d.kn i) w3 h hx q1 hm8 hc8
        have HEN := hideP HN
        rw [htz] at ct
        clear hI hX hb hE G HSK q1 q2 q3 q4 q5 q6 hEx hf HN
        have hne9 : Nonempty (Cls (Below w2.heap.size w2)) := ⟨⟨w2, Below.refl _ _⟩⟩
        have p0 : ∀ u : Cls (Below w2.heap.size w2), u.w.cell? ⟨g, i * 4, none⟩ = some (.int .i64 (d.kn i : Int)) := fun u => (u.ok.cell (p := ⟨g, i * 4, none⟩) hgz2).trans k0'
        have p1 : ∀ u : Cls (Below w2.heap.size w2), u.w.cell? ⟨g, i * 4 + 1, none⟩ = some (.int .i64 (d.fr i : Int)) := fun u => (u.ok.cell (p := ⟨g, i * 4 + 1, none⟩) hgz2).trans k1'
        have p2 : ∀ u : Cls (Below w2.heap.size w2), u.w.cell? ⟨A, 0, none⟩ = some (.int .u64 (s : Int)) := fun u => (u.ok.cell (p := ⟨A, 0, none⟩) D1.out.lt).trans c0
        have CH : Hid (∀ u : Cls (Below w2.heap.size w2), Calls Tryd.prog 64 #[.int .u64 (s : Int), .int .i64 (d.kn i : Int), .int .i64 (x : Int)] u.w fun e w'' => e = .returned (.bool true) ∧ ∃ u2 : Cls (Below w2.heap.size w2), w'' = u2.w) := fun u =>
          Calls.cls (D := Below w2.heap.size w2) ((has_v true s (d.kn i : Int) (x : Int) u.w hs HV.out).mono fun e w3 ⟨he, hb3⟩ => ⟨he, hb3 ▸ u.ok⟩)
        refine wp_region_cls (Below w2.heap.size w2) (by kernel_rfl) (by kernel_rfl) (Below.refl _ _).drew.drew ?_
        repeat (go_big_quiet_step (first | (go_at_call 64; refine CH.out _)))
        refine wpQuiet_nil ?_
        intro wz hw'
        have hz : Below w2.heap.size w2 wz := by obtain ⟨u, e⟩ := hw'; rw [e]; exact u.ok
        clear hw' p0 p1 p2 CH hne9
        have DZ := hideP (D1.out.below hz)
        have BZ := hideP (B1.out.trans (hz.mono (Nat.le_of_lt D1.out.lt)))
        have kz3 := (hz.cell (p := ⟨g, i * 4 + 3, none⟩) hgz2).trans k3'
        have kz0 := (hz.cell (p := ⟨g, i * 4, none⟩) hgz2).trans k0'
        have kzt := (hz.cell (p := ⟨A, 2 + x, none⟩) D1.out.lt).trans ct
        have kzf := fun j => (hz.frozen (p := ⟨g, j, none⟩) hgz2).trans (kf j)
        clear hz D1 B1 k0' k1' k3' ct kf c0
        have kzt' : wz.cell? ⟨A, 2 + x, none⟩ = some (.int .i64 0) := kzt
        clear hne kzt
        go_wp2_with fail
        refine (HEN.out _ (by repeat (first | exact DZ.out | apply Dm.drew))).mono ?_
        rintro e w5 ⟨rfl, v5, h5, b5⟩
        have BZ5 : Hid (Below A w w5) := BZ.out.trans (by first | exact b5 | exact (Below.refl _ _).drew.trans b5 | exact (Below.refl _ _).drew.drew.trans b5)
        have F5 := hideP (F.out w5 v5 h5 BZ5.out)
        clear F h5 b5 BZ BZ5 HEN DZ
        go_wp2
        exact bodyPost_ret (v := .tuple #[]) (results_none rfl _ _ _) rfl F5.out
      · have hpos : 0 < d.tu x := by omega
        have F : Hid (∀ w2, Dm w2 A s mB (d.look i x) (.slice (some ⟨g, 0, none⟩) (i + 1) cap) → Below A w w2 → Went E A s d w (.returned (.tuple #[])) w2) := fun w2 h1 h2 =>
          ⟨rfl, d.look i x, mB, _, h1, hmB, hb, hI.lookAt G (by omega) hn hx hEx hf hpos, hX.look i x, mu_look (by omega) hn hx, fun x h => h, h2⟩
        have hne0 : ((d.tu x : Int) == 0) = false := by simp; omega
        clear hI hX hb hE G HSK q1 q2 q3 q4 q5 q6 hEx hf hpos htz
        have hne9 : Nonempty (Cls (Below w2.heap.size w2)) := ⟨⟨w2, Below.refl _ _⟩⟩
        have p0 : ∀ u : Cls (Below w2.heap.size w2), u.w.cell? ⟨g, i * 4, none⟩ = some (.int .i64 (d.kn i : Int)) := fun u => (u.ok.cell (p := ⟨g, i * 4, none⟩) hgz2).trans k0'
        have p1 : ∀ u : Cls (Below w2.heap.size w2), u.w.cell? ⟨g, i * 4 + 1, none⟩ = some (.int .i64 (d.fr i : Int)) := fun u => (u.ok.cell (p := ⟨g, i * 4 + 1, none⟩) hgz2).trans k1'
        have p2 : ∀ u : Cls (Below w2.heap.size w2), u.w.cell? ⟨A, 0, none⟩ = some (.int .u64 (s : Int)) := fun u => (u.ok.cell (p := ⟨A, 0, none⟩) D1.out.lt).trans c0
        have CH : Hid (∀ u : Cls (Below w2.heap.size w2), Calls Tryd.prog 64 #[.int .u64 (s : Int), .int .i64 (d.kn i : Int), .int .i64 (x : Int)] u.w fun e w'' => e = .returned (.bool true) ∧ ∃ u2 : Cls (Below w2.heap.size w2), w'' = u2.w) := fun u =>
          Calls.cls (D := Below w2.heap.size w2) ((has_v true s (d.kn i : Int) (x : Int) u.w hs HV.out).mono fun e w3 ⟨he, hb3⟩ => ⟨he, hb3 ▸ u.ok⟩)
        refine wp_region_cls (Below w2.heap.size w2) (by kernel_rfl) (by kernel_rfl) (Below.refl _ _).drew.drew ?_
        repeat (go_big_quiet_step (first | (go_at_call 64; refine CH.out _)))
        refine wpQuiet_nil ?_
        intro wz hw'
        have hz : Below w2.heap.size w2 wz := by obtain ⟨u, e⟩ := hw'; rw [e]; exact u.ok
        clear hw' p0 p1 p2 CH hne9
        have DZ := hideP (D1.out.below hz)
        have BZ := hideP (B1.out.trans (hz.mono (Nat.le_of_lt D1.out.lt)))
        have kz3 := (hz.cell (p := ⟨g, i * 4 + 3, none⟩) hgz2).trans k3'
        have kz0 := (hz.cell (p := ⟨g, i * 4, none⟩) hgz2).trans k0'
        have kzt := (hz.cell (p := ⟨A, 2 + x, none⟩) D1.out.lt).trans ct
        have kzf := fun j => (hz.frozen (p := ⟨g, j, none⟩) hgz2).trans (kf j)
        clear hz D1 B1 k0' k1' k3' ct kf c0
        have DF : Hid (Dm (wz.setCell ⟨g, i * 4 + 3, none⟩ (.int .i64 ((min (d.le i) (d.tu x) : Nat) : Int))) A s mB (d.look i x) (.slice (some ⟨g, 0, none⟩) (i + 1) cap)) := by
          have h1 := DZ.out.least (i := i) hi hg (min (d.le i) (d.tu x))
          exact ⟨h1.I, h1.own⟩
        have BF : Hid (Below A w (wz.setCell ⟨g, i * 4 + 3, none⟩ (.int .i64 ((min (d.le i) (d.tu x) : Nat) : Int)))) := BZ.out.setCell (p := ⟨g, i * 4 + 3, none⟩) (by show A ≤ g; omega) _
        clear hne
        by_cases hmn : d.tu x < d.le i
        · have em : min (d.le i) (d.tu x) = d.tu x := by omega
          rw [em] at DF BF
          clear em
          go_wp2
          go_region
          go_wp2
          all_goals first | (exfalso; omega) | exact bodyPost_end (v := .tuple #[]) (results_none rfl _ _ _) rfl (F.out _ (by repeat (first | exact DF.out | apply Dm.drew)) (by repeat (first | exact BF.out | apply Below.drew)))
        · have em : min (d.le i) (d.tu x) = d.le i := by omega
          rw [em] at DF BF
          clear em
          go_wp2
          go_region
          go_wp2
          all_goals first | (exfalso; omega) | exact bodyPost_end (v := .tuple #[]) (results_none rfl _ _ _) rfl (F.out _ (by repeat (first | exact DF.out | apply Dm.drew)) (by repeat (first | exact BF.out | apply Below.drew)))
  · have HV : Hid (decide (s &&& pbit (d.kn i : Int) (x : Int) ≠ 0) = false) := by
      show decide (s &&& pbit (d.kn i : Int) (x : Int) ≠ 0) = false
      rw [← Bool.not_eq_true]; exact fun h => hEx ((hE _ _).1 h)
    have F := hideP (HSK.out (Or.inl hEx))
    clear hI hX hb hE G HSK q1 q2 q3 q4 q5 q6 hEx
    have hne9 : Nonempty (Cls (Below w2.heap.size w2)) := ⟨⟨w2, Below.refl _ _⟩⟩
    have p0 : ∀ u : Cls (Below w2.heap.size w2), u.w.cell? ⟨g, i * 4, none⟩ = some (.int .i64 (d.kn i : Int)) := fun u => (u.ok.cell (p := ⟨g, i * 4, none⟩) hgz2).trans k0'
    have p1 : ∀ u : Cls (Below w2.heap.size w2), u.w.cell? ⟨g, i * 4 + 1, none⟩ = some (.int .i64 (d.fr i : Int)) := fun u => (u.ok.cell (p := ⟨g, i * 4 + 1, none⟩) hgz2).trans k1'
    have p2 : ∀ u : Cls (Below w2.heap.size w2), u.w.cell? ⟨A, 0, none⟩ = some (.int .u64 (s : Int)) := fun u => (u.ok.cell (p := ⟨A, 0, none⟩) D1.out.lt).trans c0
    have CH : Hid (∀ u : Cls (Below w2.heap.size w2), Calls Tryd.prog 64 #[.int .u64 (s : Int), .int .i64 (d.kn i : Int), .int .i64 (x : Int)] u.w fun e w'' => e = .returned (.bool false) ∧ ∃ u2 : Cls (Below w2.heap.size w2), w'' = u2.w) := fun u =>
      Calls.cls (D := Below w2.heap.size w2) ((has_v false s (d.kn i : Int) (x : Int) u.w hs HV.out).mono fun e w3 ⟨he, hb3⟩ => ⟨he, hb3 ▸ u.ok⟩)
    refine wp_region_cls (Below w2.heap.size w2) (by kernel_rfl) (by kernel_rfl) (Below.refl _ _).drew.drew ?_
    repeat (go_big_quiet_step (first | (go_at_call 64; refine CH.out _)))
    refine wpQuiet_nil ?_
    intro wz hw'
    have hz : Below w2.heap.size w2 wz := by obtain ⟨u, e⟩ := hw'; rw [e]; exact u.ok
    clear hw' p0 p1 p2 CH hne9
    have DZ := hideP (D1.out.below hz)
    have BZ := hideP (B1.out.trans (hz.mono (Nat.le_of_lt D1.out.lt)))
    have kz3 := (hz.cell (p := ⟨g, i * 4 + 3, none⟩) hgz2).trans k3'
    have kz0 := (hz.cell (p := ⟨g, i * 4, none⟩) hgz2).trans k0'
    have kzt := (hz.cell (p := ⟨A, 2 + x, none⟩) D1.out.lt).trans ct
    have kzf := fun j => (hz.frozen (p := ⟨g, j, none⟩) hgz2).trans (kf j)
    clear hz D1 B1 k0' k1' k3' ct kf c0
    go_wp2
    exact bodyPost_ret (v := .tuple #[]) (results_none rfl _ _ _) rfl (F.out _ (by repeat (first | exact DZ.out | apply Dm.drew)) (by repeat (first | exact BZ.out | apply Below.drew)))

end Go.Proofs.YticoiolpofibdaaDoor

/- Walk of impl.bridgesOf: it is all bridges of a net. -/
namespace Go.Proofs.YticoiolpofibdaaDoor
open Go.RowKit
set_option linter.unusedVariables false

/-- a dive under way that began in w -/
structure Dst (E : Nat → Nat → Prop) (w wr : World) (A s : Nat) (d : Dv) (mB : Nat) (v : Value) : Prop where
  M : Dm wr A s mB d v
  lt : mB < 2 ^ 64
  B : BrBits mB d.br
  I : Inv E d
  X : Aux d
  bel : Below w.heap.size w wr
theorem BitsOf.is {m : Nat} {us : List (Int × Int)} (h : BitsOf m us) : m = maskN us us.length := by
  apply Nat.eq_of_testBit_eq
  intro j
  rw [Bool.eq_iff_iff, h j, mask_bitsOf us j]
theorem Dst.answer {K : Int} {ts : List (Int × Int)} (hok : okB K ts = true) {w wr : World} {A s : Nat} {d : Dv} {mB : Nat} {v : Value} (h : Dst (EE ts) w wr A s d mB v) (hm : d.m = 0) (hall : ∀ x, x < 8 → 0 < d.tu x) : mB = setN K (brTs K ts) := by
  rw [setN_yes (brTs_ok hok)]
  exact (br_bits hok h.B (h.I.answer (EE.gr (okB_iff.1 hok)) hm hall)).is

def noDv : Dv := ⟨0, fun _ => 0, fun _ => 0, fun _ => 0, fun _ => 0, fun _ => 0, 0, fun _ _ => False, fun _ => 0⟩
theorem Dst.begin (E : Nat → Nat → Prop) (w : World) (s : Nat) : Dst E w (w.alloc (.cells #[.int .u64 (s : Int), .slice none 0 0, .int .i64 0, .int .i64 0, .int .i64 0, .int .i64 0, .int .i64 0, .int .i64 0, .int .i64 0, .int .i64 0, .int .i64 0, .int .u64 0] 97)) w.heap.size s noDv 0 (.slice none 0 0) := by
  refine ⟨⟨⟨fun j hj => ?_, fun j => by simp, by simp⟩, World.ownsRow_nil _ _ _ _⟩, by omega, BrBits.none, inv_begin _ (fun _ => rfl) _ _ _ _ _, Aux.begin _ (fun _ => rfl) _ _ _ _ _, below_one _ _⟩
  rw [World.cell?_alloc_at _ _ _ _ rfl]
  have : j = 0 ∨ j = 1 ∨ j = 2 ∨ j = 3 ∨ j = 4 ∨ j = 5 ∨ j = 6 ∨ j = 7 ∨ j = 8 ∨ j = 9 ∨ j = 10 ∨ j = 11 := by omega
  rcases this with rfl | rfl | rfl | rfl | rfl | rfl | rfl | rfl | rfl | rfl | rfl | rfl <;> rfl

theorem move_any (E : Nat → Nat → Prop) (G : Gr E) (A s mB : Nat) (d : Dv) (v : Value) (w : World) (hD : Dm w A s mB d v) (hmB : mB < 2 ^ 64) (hs : s < 2 ^ 64) (hE : ∀ x y : Nat, decide (s &&& pbit (x : Int) (y : Int) ≠ 0) = true ↔ E x y) (hb : BrBits mB d.br) (hI : Inv E d) (hX : Aux d) (hm : 0 < d.m) :
    Calls Tryd.prog 92 #[.pointer (some ⟨A, 0, none⟩)] w (Went E A s d w) := by
  obtain ⟨i, hi⟩ : ∃ i, d.m = i + 1 := ⟨d.m - 1, by omega⟩
  have hn8 := (hI.knk i (by omega)).2.2.2.1
  by_cases hn : d.nx i = 8
  · exact move_left E G A s mB d v w hD hmB hb hI hX i hi hn
  · exact move_on E G A s mB d v w hD hmB hs hE hb hI hX i hi (d.nx i) rfl (by omega)
theorem sm_le (nx : Nat → Nat) : ∀ m, sm nx m ≤ 9 * m := by
  intro m
  induction m with
  | zero => exact Nat.le_refl _
  | succ m ih => simp only [sm]; omega
theorem mu_le {d : Dv} (h : Aux d) : mu d ≤ 1000 := by
  have h1 := sm_le d.nx d.m
  have h2 := unm_le (vis d.tu) 8
  have h3 := h.mcn
  have h4 := h.sum
  unfold mu; omega
/-- going down from one knot -/
def Going (ts : List (Int × Int)) (w wr : World) (A s k gk : Nat) : Prop := ∃ d mB v, mu d ≤ gk ∧ Dst (EE ts) w wr A s d mB v ∧ ∀ x, x < k → 0 < d.tu x

set_option maxHeartbeats 1600000 in
theorem bridgesOf_any (K : Int) (ts : List (Int × Int)) (w : World) (hok : okB K ts = true) :
    Calls Tryd.prog 63 #[.int .u64 ((setN K ts : Nat) : Int)] w fun e w' => e = .returned (.int .u64 ((setN K (brTs K ts) : Nat) : Int)) ∧ Below w.heap.size w w' := by
  have HG := hideP (EE.gr (okB_iff.1 hok))
  have HE : Hid (∀ x y : Nat, decide (setN K ts &&& pbit (x : Int) (y : Int) ≠ 0) = true ↔ EE ts x y) := fun x y => by rw [has_set K ts _ _ hok, hasB_ok hok]; rfl
  have HS := hideP (setN_lt K ts)
  have HA := hideP (fun (wr : World) (A s : Nat) (d : Dv) (mB : Nat) (v : Value) (h : Dst (EE ts) w wr A s d mB v) => h.answer hok)
  obtain ⟨s, hs⟩ : ∃ s, s = setN K ts := ⟨_, rfl⟩
  obtain ⟨m', hm'⟩ : ∃ m', m' = setN K (brTs K ts) := ⟨_, rfl⟩
  rw [← hs] at HE HS ⊢
  rw [← hm'] at HA ⊢
  clear hs hm' hok
  go_enter Tryd.func63, Tryd.ntmps63
  have S0 := hideP (Dst.begin (EE ts) w s)
  go_wp2
  obtain ⟨A, hA⟩ : ∃ A, A = w.heap.size := ⟨_, rfl⟩
  rw [← hA] at S0 ⊢
  have hAw : w.heap.size ≤ A := by omega
  clear hA
  go_loopw [7] (fun i wr => ∃ k : Nat, k ≤ 8 ∧ i = .int .i64 k ∧ ∃ d mB v, Dst (EE ts) w wr A s d mB v ∧ d.m = 0 ∧ ∀ x, x < k → 0 < d.tu x)
    (fun i _ => 8 - (intOf i).toNat)
  case atStart => exact ⟨0, Nat.zero_le _, rfl, noDv, 0, _, S0.out, rfl, fun x hx => by omega⟩
  case round =>
    clear S0
    obtain ⟨k, hk, rfl, d, mB, v, hS, hm, hall⟩ := hrel
    by_cases hlt : k < 8
    · have hk8 : (k : Int) < 8 := by omega
      have hk0 : (0 : Int) ≤ (k : Int) := by omega
      have ct := hS.M.ct hlt
      have HST := hideP hS
      have HALL := hideP hall
      have hAz := hS.M.lt
      have hc8 : d.cn ≤ 8 := by have := hS.X.sum; omega
      clear hS hall
      by_cases htz : d.tu k = 0
      · rw [htz] at ct
        have ct' : wr.cell? ⟨A, 2 + k, none⟩ = some (.int .i64 0) := ct
        clear ct
        go_wp2_with fail
        refine (enter_any A s mB d v k k _ HST.out.M hlt hlt (by omega) hc8).mono ?_
        rintro e w1 ⟨rfl, v1, M1, b1⟩
        have D1 : Hid (Going ts w w1 A s (k + 1) 1000) := by
          refine ⟨d.push k k, mB, v1, mu_le (HST.out.X.push hlt htz), ⟨M1, HST.out.lt, HST.out.B, HST.out.I.pushRoot HG.out hm hlt htz, HST.out.X.push hlt htz, HST.out.bel.trans (b1.mono hAw)⟩, fun x hx => ?_⟩
          show 0 < upd d.tu k (d.cn + 1) x
          by_cases e : x = k
          · subst e; rw [upd_at]; omega
          · rw [upd_no _ _ e]; exact HALL.out x (by omega)
        clear M1 b1 HST HALL hc8 htz hm
        go_wp2
        go_loopg [] 1000 (fun gk wr => Going ts w wr A s (k + 1) gk)
        case atStart => exact D1.out
        case round =>
          clear D1
          obtain ⟨d, mB, v, hmu, hS, hall⟩ := hrel
          have hlen := hS.X.mcn
          have hsum := hS.X.sum
          have HST := hideP hS
          have HALL := hideP hall
          have c1 := hS.M.c1
          have hown := hS.M.own
          by_cases hm0 : d.m = 0
          · have F : Hid (∃ d mB v, Dst (EE ts) w wr A s d mB v ∧ d.m = 0 ∧ ∀ x, x < k + 1 → 0 < d.tu x) := ⟨d, mB, v, hS, hm0, hall⟩
            rw [hm0] at hown
            obtain ⟨so, cap, rfl⟩ := own_slice hown
            clear hS hall hown hsum hlen HST HALL hmu hm0
            go_wp2
            exact ⟨⟨k + 1, by omega, by go_num, F.out⟩, by simp [intOf]; omega⟩
          · have hmp : 0 < d.m := by omega
            obtain ⟨g, cap, rfl, _, _⟩ := hown.form hmp
            have hmi : (0 : Int) < (d.m : Int) := by omega
            have MV := hideP (move_any (EE ts) HG.out A s mB d _ wr hS.M hS.lt HS.out HE.out hS.B hS.I hS.X hmp)
            have hb := hS.bel
            clear hS hall hown
            go_wp2_with fail
            refine MV.out.mono ?_
            rintro e w2 ⟨rfl, d', mB', v', M', l', B', I', X', mu', t', b'⟩
            have F : Hid (Going ts w w2 A s (k + 1) (gk - 1)) := ⟨d', mB', v', by omega, ⟨M', l', B', I', X', hb.trans (b'.mono hAw)⟩, fun x hx => t' x (HALL.out x hx)⟩
            have hgk : 0 < gk := by omega
            clear M' l' B' I' X' t' b' mu' HST HALL MV c1 hb
            go_wp2
            go_roundg (gk - 1)
            case measure => omega
            case rel => exact F.out
      · have hne : ((d.tu k : Int) == 0) = false := by simp; omega
        have D1 : Hid (Going ts w wr A s (k + 1) 1000) := by
          refine ⟨d, mB, v, mu_le HST.out.X, HST.out, fun x hx => ?_⟩
          by_cases e : x = k
          · subst e; omega
          · exact HALL.out x (by omega)
        clear HST HALL hc8 htz hm
        go_wp2
        go_loopg [] 1000 (fun gk wr => Going ts w wr A s (k + 1) gk)
        case atStart => exact D1.out
        case round =>
          clear D1
          obtain ⟨d, mB, v, hmu, hS, hall⟩ := hrel
          have hlen := hS.X.mcn
          have hsum := hS.X.sum
          have HST := hideP hS
          have HALL := hideP hall
          have c1 := hS.M.c1
          have hown := hS.M.own
          by_cases hm0 : d.m = 0
          · have F : Hid (∃ d mB v, Dst (EE ts) w wr A s d mB v ∧ d.m = 0 ∧ ∀ x, x < k + 1 → 0 < d.tu x) := ⟨d, mB, v, hS, hm0, hall⟩
            rw [hm0] at hown
            obtain ⟨so, cap, rfl⟩ := own_slice hown
            clear hS hall hown hsum hlen HST HALL hmu hm0
            go_wp2
            exact ⟨⟨k + 1, by omega, by go_num, F.out⟩, by simp [intOf]; omega⟩
          · have hmp : 0 < d.m := by omega
            obtain ⟨g, cap, rfl, _, _⟩ := hown.form hmp
            have hmi : (0 : Int) < (d.m : Int) := by omega
            have MV := hideP (move_any (EE ts) HG.out A s mB d _ wr hS.M hS.lt HS.out HE.out hS.B hS.I hS.X hmp)
            have hb := hS.bel
            clear hS hall hown
            go_wp2_with fail
            refine MV.out.mono ?_
            rintro e w2 ⟨rfl, d', mB', v', M', l', B', I', X', mu', t', b'⟩
            have F : Hid (Going ts w w2 A s (k + 1) (gk - 1)) := ⟨d', mB', v', by omega, ⟨M', l', B', I', X', hb.trans (b'.mono hAw)⟩, fun x hx => t' x (HALL.out x hx)⟩
            have hgk : 0 < gk := by omega
            clear M' l' B' I' X' t' b' mu' HST HALL MV c1 hb
            go_wp2
            go_roundg (gk - 1)
            case measure => omega
            case rel => exact F.out
    · obtain rfl : k = 8 := by omega
      have HF : Hid (mB = m') := HA.out wr A s d mB v hS hm hall
      have HB := hideP hS.bel
      have cb := hS.M.cb
      clear hS hall hlt HA
      go_wp2
      go_ret
      exact ⟨by rw [← HF.out]; rfl, HB.out⟩

end Go.Proofs.YticoiolpofibdaaDoor
