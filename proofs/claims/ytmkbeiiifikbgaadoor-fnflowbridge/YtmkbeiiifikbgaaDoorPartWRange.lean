/- Texts put together: WRange, WRange2, WDive, WDive2, WDive3. -/
import Derived.Test.YtmkbeiiifikbgaaDoorPartWLeaf
import Derived.RangeFuncNested
import Derived.Test.YtmkbeiiifikbgaaDoorPartMathE
import Derived.Test.YtmkbeiiifikbgaaDoorPartWInts
import Derived.Deep.RegionLaw
import Derived.BigRegion
import Derived.Laws.OwnMore
import Derived.Deep.RegionWith
import Derived.Test.YtmkbeiiifikbgaaDoorPartWReach
/- A range over an iterator that goes on in memory of its own, which the loop's body may read: one state for both; the body never leaves the loop. -/
namespace Go.Proofs.YtmkbeiiifikbgaaDoor
open Go.RowKit
set_option linter.unusedVariables false

/-- what is kept where a block that holds no cells is turned -/
def Puts (B : Nat) (J : World → Prop) : Prop := ∀ (W : World) (l : Nat) (o o' : Obj), B ≤ l → W.heap[l]? = some o → o.isCells = false → J W → J (W.putObj l o')

theorem wpIn_rangeState {F : Fence} {n : Nat} {P : Program} {α : Type} {g : Operand} {ps : Array Tmp} {assign body : Code} {Q : Exit → Act → World → Prop} {a : Act} {w : World}
    (hro : F.round = none) (h1 : 1 ≤ n) {gf : Nat} {lb : Array Value} (hg : a.eval g = .func (.func gf) #[] lb) (hFg : F.fn gf) (eg : ∀ args w, (callFunc gf args).run P w = .ok (.enter gf args) w)
    {encs : α → Array Value} (hps : ∀ x, (encs x).size = ps.size)
    (Z0 Z1 : World → Prop) (Y Y' : α → World → Prop) (hZ0 : ∀ o o', Z0 ((w.alloc o).alloc o')) (hY : ∀ x, Puts w.heap.size (Y x)) (hY' : ∀ x, Puts w.heap.size (Y' x)) (hZ1 : Puts w.heap.size Z1)
    (hseq : ∀ (l : Nat) (BK : World → Prop), (∀ W W', BK W → KeepsOthers W W' → BK W') → (∀ x W, Y x W → BK W → YieldAt F (n - 1 - 1) P l (encs x) W (fun e W' => e = .returned (.bool true) ∧ Y' x W' ∧ BK W')) → ∀ W, Z0 W → BK W →
      CallsIn F (n - 1) P gf (#[.func (.yield l) #[] #[]] ++ lb) W (fun e W' => (∃ v, e = .returned v) ∧ Z1 W' ∧ BK W'))
    (a₁ : α → Act)
    (hassign : ∀ (l : Nat) (x : α) (W : World) (K : Act → World → Prop), K (a₁ x) W →
      assign.wpIn (F.inRound l) (n - 1 - 1) P (Exit.then K (fun _ _ _ => False)) { tmps := (ps.zip (encs x)).foldl (fun t (p, v) => t.setIfInBounds p v) a.tmps, defers := [] } W)
    (hbody : ∀ (l : Nat) (x : α) (W : World), w.heap.size ≤ l → Y x W → body.wpIn (F.inRound l) (n - 1 - 1) P (fun e _ W' => e = .normal ∧ KeepsFrom w.heap.size W W' ∧ Y' x W') (a₁ x) W)
    (hdone : ∀ (D : Nat) (W : World), w.heap.size ≤ D → Z1 W → W.heap[D]? = some (.deferred (some [])) → Q .normal { a with defers := { target := .collected D, args := #[] } :: a.defers } W) :
    (Code.rangeFunc g ps assign body).wpIn F n P Q a w := by
  refine wpIn_rangeFunc ?_
  intro fn hfn
  rw [hro]
  obtain ⟨rec, hrec⟩ : ∃ rec : LoopState → Option Code → Loop, rec = fun st pe => { state := st, pending := pe, fn, tmps := a.tmps, params := ps, assign, body, defers := w.heap.size } := ⟨_, rfl⟩
  obtain ⟨W1, hW1⟩ : ∃ W1, (w.alloc (.deferred (some []))).alloc (.loop (rec .ready none)) = W1 := ⟨_, rfl⟩
  have hL1 : W1.heap[w.heap.size + 1]? = some (.loop (rec .ready none)) := by
    rw [← hW1]; have := World.alloc_heap_new (w.alloc (.deferred (some []))) (.loop (rec .ready none)); rwa [World.size_alloc] at this
  have hK1 : W1.heap[w.heap.size]? = some (.deferred (some [])) := by
    rw [← hW1]; exact (Below.heap_alloc _ _ _ (by simp)).trans (World.alloc_heap_new w _)
  have hI1 : Z0 W1 := by rw [← hW1]; exact hZ0 _ _
  refine ⟨w.heap.size + 1, [{ target := .collected w.heap.size, args := #[] }], W1, { target := .fn (.func gf) lb, args := #[.func (.yield (w.heap.size + 1)) #[] #[]] }, W1, gf,
    #[.func (.yield (w.heap.size + 1)) #[] #[]] ++ lb, W1, ?_, ?_, ?_, ?_, fun _ => h1, ?_⟩
  · rw [← hW1, hrec]; exact run_enterLoop_outer _ _ _ _ _
  · simp only [resolve, hg]
    simp [go_sem]
  · intro f' hf'; simp [Target.leads] at hf'; subst hf'; exact hFg
  · simp [invoke, go_sem, eg]
  · refine (hseq (w.heap.size + 1)
      (fun W => W.heap[w.heap.size + 1]? = some (.loop (rec .ready none)) ∧ W.heap[w.heap.size]? = some (.deferred (some [])))
      (fun W W' h hk => ⟨hk.same _ _ h.1 rfl, hk.same _ _ h.2 rfl⟩) ?_ W1 hI1 ⟨hL1, hK1⟩).mono ?_
    · rintro x W hi ⟨hl, hk⟩
      have hlt : w.heap.size + 1 < W.heap.size := (Array.getElem?_eq_some_iff.1 hl).1
      have hy := run_yield (P := P) (args := encs x) hl (by rw [hrec]; exact hps x)
      rw [hrec] at hy
      refine ⟨fn, _, assign, body, hy, roundIn_of_wpIn hfn (hassign _ x W _ ⟨_, run_beginRound hl (by rw [hrec]), ?_⟩)⟩
      have hl2 : (W.putObj (w.heap.size + 1) (.loop { rec .ready none with state := .busy })).heap[w.heap.size + 1]? = some (.loop { rec .ready none with state := .busy }) := World.putObj_heap_same hlt
      have hk2 : (W.putObj (w.heap.size + 1) (.loop { rec .ready none with state := .busy })).heap[w.heap.size]? = some (.deferred (some [])) := (World.putObj_heap_other (by omega)).trans hk
      refine wpIn_mono (hbody _ x _ (by omega) (hY x _ _ _ _ (by omega) hl rfl hi)) ?_
      rintro e a3 W3 ⟨rfl, hk3, hi3⟩
      have hl3 := hk3.same _ _ (by omega) hl2 rfl
      have hr := run_endRound (P := P) none hl3
      rw [hrec] at hr hl3
      refine ⟨_, _, hr, rfl, hY' x _ _ _ _ (by omega) hl3 rfl hi3, ?_, (World.putObj_heap_other (by omega)).trans (hk3.same _ _ (Nat.le_refl _) hk2 rfl)⟩
      rw [hrec]
      exact World.putObj_heap_same (Array.getElem?_eq_some_iff.1 hl3).1
    · rintro e W2 ⟨⟨v, rfl⟩, hi, hl, hk⟩
      exact ⟨none, _, by have := run_endLoop (P := P) hl (by rw [hrec]; simp); rw [hrec] at this; exact this, hdone _ _ (Nat.le_refl _) (hZ1 _ _ _ _ (by omega) hl rfl hi) ((World.putObj_heap_other (by omega)).trans hk)⟩

end Go.Proofs.YtmkbeiiifikbgaaDoor

/- A range over an iterator with a state, where the loop's variable lies in memory. -/
namespace Go.Proofs.YtmkbeiiifikbgaaDoor
open Go.RowKit
set_option linter.unusedVariables false

theorem wpIn_rangeAx {F : Fence} {n : Nat} {P : Program} {α : Type} {g : Operand} {ps : Array Tmp} {assign body : Code} {Q : Exit → Act → World → Prop} {a : Act} {w : World}
    (hro : F.round = none) (h1 : 1 ≤ n) {gf : Nat} {lb : Array Value} (hg : a.eval g = .func (.func gf) #[] lb) (hFg : F.fn gf) (eg : ∀ args w, (callFunc gf args).run P w = .ok (.enter gf args) w)
    {encs : α → Array Value} (hps : ∀ x, (encs x).size = ps.size)
    (Z0 Z1 : World → Prop) (Y Y' : α → World → Prop) (hZ0 : ∀ o o', Z0 ((w.alloc o).alloc o')) (hY : ∀ x, Puts w.heap.size (Y x)) (hY' : ∀ x, Puts w.heap.size (Y' x)) (hZ1 : Puts w.heap.size Z1)
    (hseq : ∀ (l : Nat) (BK : World → Prop), (∀ W W', BK W → KeepsOthers W W' → BK W') → (∀ x W, Y x W → BK W → YieldAt F (n - 1 - 1) P l (encs x) W (fun e W' => e = .returned (.bool true) ∧ Y' x W' ∧ BK W')) → ∀ W, Z0 W → BK W →
      CallsIn F (n - 1) P gf (#[.func (.yield l) #[] #[]] ++ lb) W (fun e W' => (∃ v, e = .returned v) ∧ Z1 W' ∧ BK W'))
    (Ax : α → Act → World → Prop) (hAx : ∀ x a', Puts w.heap.size (Ax x a'))
    (hassign : ∀ (l : Nat) (x : α) (W : World) (K : Act → World → Prop), Y x W → (∀ a' W', KeepsFrom w.heap.size W W' → Y x W' → Ax x a' W' → K a' W') →
      assign.wpIn (F.inRound l) (n - 1 - 1) P (Exit.then K (fun _ _ _ => False)) { tmps := (ps.zip (encs x)).foldl (fun t (p, v) => t.setIfInBounds p v) a.tmps, defers := [] } W)
    (hbody : ∀ (l : Nat) (x : α) (a' : Act) (W : World), w.heap.size ≤ l → Y x W → Ax x a' W → body.wpIn (F.inRound l) (n - 1 - 1) P (fun e _ W' => e = .normal ∧ KeepsFrom w.heap.size W W' ∧ Y' x W') a' W)
    (hdone : ∀ (D : Nat) (W : World), w.heap.size ≤ D → Z1 W → W.heap[D]? = some (.deferred (some [])) → Q .normal { a with defers := { target := .collected D, args := #[] } :: a.defers } W) :
    (Code.rangeFunc g ps assign body).wpIn F n P Q a w := by
  refine wpIn_rangeFunc ?_
  intro fn hfn
  rw [hro]
  obtain ⟨rec, hrec⟩ : ∃ rec : LoopState → Option Code → Loop, rec = fun st pe => { state := st, pending := pe, fn, tmps := a.tmps, params := ps, assign, body, defers := w.heap.size } := ⟨_, rfl⟩
  obtain ⟨W1, hW1⟩ : ∃ W1, (w.alloc (.deferred (some []))).alloc (.loop (rec .ready none)) = W1 := ⟨_, rfl⟩
  have hL1 : W1.heap[w.heap.size + 1]? = some (.loop (rec .ready none)) := by
    rw [← hW1]; have := World.alloc_heap_new (w.alloc (.deferred (some []))) (.loop (rec .ready none)); rwa [World.size_alloc] at this
  have hK1 : W1.heap[w.heap.size]? = some (.deferred (some [])) := by
    rw [← hW1]; exact (Below.heap_alloc _ _ _ (by simp)).trans (World.alloc_heap_new w _)
  have hI1 : Z0 W1 := by rw [← hW1]; exact hZ0 _ _
  refine ⟨w.heap.size + 1, [{ target := .collected w.heap.size, args := #[] }], W1, { target := .fn (.func gf) lb, args := #[.func (.yield (w.heap.size + 1)) #[] #[]] }, W1, gf,
    #[.func (.yield (w.heap.size + 1)) #[] #[]] ++ lb, W1, ?_, ?_, ?_, ?_, fun _ => h1, ?_⟩
  · rw [← hW1, hrec]; exact run_enterLoop_outer _ _ _ _ _
  · simp only [resolve, hg]
    simp [go_sem]
  · intro f' hf'; simp [Target.leads] at hf'; subst hf'; exact hFg
  · simp [invoke, go_sem, eg]
  · refine (hseq (w.heap.size + 1)
      (fun W => W.heap[w.heap.size + 1]? = some (.loop (rec .ready none)) ∧ W.heap[w.heap.size]? = some (.deferred (some [])))
      (fun W W' h hk => ⟨hk.same _ _ h.1 rfl, hk.same _ _ h.2 rfl⟩) ?_ W1 hI1 ⟨hL1, hK1⟩).mono ?_
    · rintro x W hi ⟨hl, hk⟩
      have hlt : w.heap.size + 1 < W.heap.size := (Array.getElem?_eq_some_iff.1 hl).1
      have hy := run_yield (P := P) (args := encs x) hl (by rw [hrec]; exact hps x)
      rw [hrec] at hy
      refine ⟨fn, _, assign, body, hy, roundIn_of_wpIn hfn (hassign _ x W _ hi ?_)⟩
      clear hy
      intro a' Wa hkfa hia hax
      replace hl := hkfa.same _ _ (by omega) hl rfl
      replace hk := hkfa.same _ _ (Nat.le_refl _) hk rfl
      replace hlt : w.heap.size + 1 < Wa.heap.size := (Array.getElem?_eq_some_iff.1 hl).1
      replace hi := hia
      clear hia hkfa
      clear W
      obtain ⟨W, rfl⟩ : ∃ W, W = Wa := ⟨_, rfl⟩
      refine ⟨_, run_beginRound hl (by rw [hrec]), ?_⟩
      have hl2 : (W.putObj (w.heap.size + 1) (.loop { rec .ready none with state := .busy })).heap[w.heap.size + 1]? = some (.loop { rec .ready none with state := .busy }) := World.putObj_heap_same hlt
      have hk2 : (W.putObj (w.heap.size + 1) (.loop { rec .ready none with state := .busy })).heap[w.heap.size]? = some (.deferred (some [])) := (World.putObj_heap_other (by omega)).trans hk
      refine wpIn_mono (hbody _ x a' _ (by omega) (hY x _ _ _ _ (by omega) hl rfl hi) (hAx x a' _ _ _ _ (by omega) hl rfl hax)) ?_
      rintro e a3 W3 ⟨rfl, hk3, hi3⟩
      have hl3 := hk3.same _ _ (by omega) hl2 rfl
      have hr := run_endRound (P := P) none hl3
      rw [hrec] at hr hl3
      refine ⟨_, _, hr, rfl, hY' x _ _ _ _ (by omega) hl3 rfl hi3, ?_, (World.putObj_heap_other (by omega)).trans (hk3.same _ _ (Nat.le_refl _) hk2 rfl)⟩
      rw [hrec]
      exact World.putObj_heap_same (Array.getElem?_eq_some_iff.1 hl3).1
    · rintro e W2 ⟨⟨v, rfl⟩, hi, hl, hk⟩
      exact ⟨none, _, by have := run_endLoop (P := P) hl (by rw [hrec]; simp); rw [hrec] at this; exact this, hdone _ _ (Nat.le_refl _) (hZ1 _ _ _ _ (by omega) hl rfl hi) ((World.putObj_heap_other (by omega)).trans hk)⟩

end Go.Proofs.YtmkbeiiifikbgaaDoor

/- Walks of impl.dive's methods: top, enter, leave, move. -/
namespace Go.Proofs.YtmkbeiiifikbgaaDoor
open Go.RowKit
set_option linter.unusedVariables false

theorem Tryd.infoStep : (Tryd.prog.info? 185).map (fun i => (i.zero, i.size, i.bytes)) = some (some (.agg #[.int .i64 0, .int .i64 0, .int .i64 0, .int .i64 0]), 4, 32) := by kernel_rfl
/-- the stack's cells -/
def scell (d : Dv) (j : Nat) : Value := .int .i64 (((if j % 4 = 0 then d.kn (j / 4) else if j % 4 = 1 then d.fr (j / 4) else if j % 4 = 2 then d.nx (j / 4) else d.le (j / 4) : Nat)) : Int)
def slist (d : Dv) (k : Nat) : List Value := (List.range (k * 4)).map (scell d)
theorem slist_length (d : Dv) (k : Nat) : (slist d k).length = k * 4 := by simp [slist]
theorem slist_get (d : Dv) (k j : Nat) (h : j < k * 4) : (slist d k)[j]? = some (scell d j) := by simp [slist, h]
theorem slist_none (d : Dv) (k j : Nat) (h : ¬ j < k * 4) : (slist d k)[j]? = none := by rw [List.getElem?_eq_none]; rw [slist_length]; omega
theorem slist_push (d : Dv) (k f : Nat) : slist (d.push k f) (d.m + 1) = slist d d.m ++ [.int .i64 (k : Int), .int .i64 (f : Int), .int .i64 0, .int .i64 ((d.cn + 1 : Nat) : Int)] := by
  apply List.ext_getElem?
  intro j
  by_cases hj : j < (d.m + 1) * 4
  · rw [slist_get _ _ _ hj]
    by_cases hj2 : j < d.m * 4
    · rw [List.getElem?_append_left (by rw [slist_length]; exact hj2), slist_get _ _ _ hj2]
      have hne : j / 4 ≠ d.m := by omega
      simp [scell, Dv.push, upd, hne]
    · rw [List.getElem?_append_right (by rw [slist_length]; omega), slist_length]
      have hq : j / 4 = d.m := by omega
      obtain ⟨r, hr⟩ : ∃ r, r = j - d.m * 4 := ⟨_, rfl⟩
      rw [← hr]
      have hm : j % 4 = r := by omega
      have : r = 0 ∨ r = 1 ∨ r = 2 ∨ r = 3 := by omega
      rcases this with e | e | e | e <;> subst e <;> simp [scell, Dv.push, upd, hq, hm]
  · rw [slist_none _ _ _ hj, List.getElem?_eq_none]
    simp [slist_length]; omega
/-- the dive's cells -/
def dcell (s : Nat) (v : Value) (tu : Nat → Nat) (cn : Nat) (j : Nat) : Value :=
  if j = 0 then .int .u64 (s : Int) else if j = 1 then v else if j < 10 then .int .i64 (tu (j - 2) : Int) else .int .i64 (cn : Int)
/-- a dive in memory: its own block A, its stack in a row from A + 1 on -/
structure Dm (wr : World) (A : Nat) (s : Nat) (d : Dv) (v : Value) : Prop where
  I : OwnI wr A 11 (dcell s v d.tu d.cn)
  own : wr.ownsRow (A + 1) 185 4 v d.m (slist d d.m)
theorem Dm.c0 {wr : World} {A s : Nat} {d : Dv} {v : Value} (h : Dm wr A s d v) : wr.cell? ⟨A, 0, none⟩ = some (.int .u64 (s : Int)) := h.I.1 0 (by omega)
theorem Dm.c1 {wr : World} {A s : Nat} {d : Dv} {v : Value} (h : Dm wr A s d v) : wr.cell? ⟨A, 1, none⟩ = some v := h.I.1 1 (by omega)
theorem Dm.ct {wr : World} {A s : Nat} {d : Dv} {v : Value} (h : Dm wr A s d v) {k : Nat} (hk : k < 8) : wr.cell? ⟨A, 2 + k, none⟩ = some (.int .i64 (d.tu k : Int)) := by
  rw [h.I.1 (2 + k) (by omega)]
  unfold dcell
  rw [if_neg (by omega), if_neg (by omega), if_pos (by omega), show 2 + k - 2 = k by omega]
theorem Dm.cc {wr : World} {A s : Nat} {d : Dv} {v : Value} (h : Dm wr A s d v) : wr.cell? ⟨A, 10, none⟩ = some (.int .i64 (d.cn : Int)) := h.I.1 10 (by omega)

/-- what lies outside a dive lies as it lay: its own block A, and rows of its stack, aside -/
structure Kd (A : Nat) (W W' : World) : Prop where
  bel : Below A W W'
  same : ∀ k, k < W.heap.size → k ≠ A → (∀ cs fr, W.heap[k]? ≠ some (Obj.cells cs 185 fr)) → W'.heap[k]? = W.heap[k]?
theorem Kd.refl (A : Nat) (W : World) : Kd A W W := ⟨Below.refl _ _, fun _ _ _ _ => rfl⟩
theorem Kd.trans {A : Nat} {W W1 W2 : World} (h : Kd A W W1) (k : Kd A W1 W2) : Kd A W W2 :=
  ⟨h.bel.trans k.bel, fun j hj ha ht => by
    have e := h.same j hj ha ht
    exact (k.same j (Nat.lt_of_lt_of_le hj h.bel.size) ha (fun cs fr => by rw [e]; exact ht cs fr)).trans e⟩
theorem Kd.drew {A : Nat} {W W' : World} (h : Kd A W W') : Kd A W W'.drew := ⟨h.bel.drew, h.same⟩
theorem Kd.low {A : Nat} {W W' : World} (h : Below W.heap.size W W') (hA : A < W.heap.size) : Kd A W W' := ⟨h.mono (Nat.le_of_lt hA), fun k hk _ _ => h.block k hk⟩
theorem Kd.alloc {A : Nat} {W W' : World} (h : Kd A W W') (hA : A < W.heap.size) (o : Obj) : Kd A W (W'.alloc o) := h.trans (Kd.low (below_one _ _) (Nat.lt_of_lt_of_le hA h.bel.size))
theorem Kd.setA {A : Nat} {W W' : World} (h : Kd A W W') (i : Nat) (u : Value) : Kd A W (W'.setCell ⟨A, i, none⟩ u) :=
  h.trans ⟨(Below.refl _ _).setCell (p := ⟨A, i, none⟩) (Nat.le_refl _) _, fun k _ ha _ => Below.heap_setCell _ _ _ _ (by show k ≠ A; exact ha)⟩
theorem own_step {w : World} {base g n cap : Nat} {xs : List Value} (h : w.ownsRow base 185 4 (.slice (some ⟨g, 0, none⟩) n cap) n xs) : base ≤ g ∧ ∃ cs fr, w.heap[g]? = some (Obj.cells cs 185 fr) := by
  rcases h.2 with ⟨h', _⟩ | ⟨g', cap', cur, h', hb, hg, _⟩
  · simp at h'
  · simp only [Value.slice.injEq, Option.some.injEq, Addr.mk.injEq, and_true, true_and] at h'
    obtain ⟨rfl, _⟩ := h'
    exact ⟨hb, _, _, hg⟩
theorem Dm.drew {wr : World} {A s : Nat} {d : Dv} {v : Value} (h : Dm wr A s d v) : Dm wr.drew A s d v := ⟨h.I, h.own⟩
theorem Dm.lt {wr : World} {A s : Nat} {d : Dv} {v : Value} (h : Dm wr A s d v) : A < wr.heap.size := h.I.2.2
theorem Kd.setG {A s : Nat} {d : Dv} {g n cap : Nat} {W W' : World} (h : Kd A W W') (hD : Dm W' A s d (.slice (some ⟨g, 0, none⟩) n cap)) (hn : d.m = n) (i : Nat) (u : Value) : Kd A W (W'.setCell ⟨g, i, none⟩ u) := by
  have ho := hD.own
  rw [hn] at ho
  obtain ⟨hg, cs, fr, hb⟩ := own_step ho
  refine h.trans ⟨(Below.refl _ _).setCell (p := ⟨g, i, none⟩) (by show A ≤ g; omega) _, fun k _ _ ht => Below.heap_setCell _ _ _ _ (by show k ≠ g; intro e; subst e; exact ht _ _ hb)⟩
theorem Kd.at {A : Nat} {W W' : World} (h : Kd A W W') {k : Nat} {cs : Array Value} {t : TypeId} {fr : Nat × Nat} (hk : W.heap[k]? = some (Obj.cells cs t fr)) (hA : k ≠ A) (ht : t ≠ 185) : W'.heap[k]? = some (Obj.cells cs t fr) :=
  (h.same k (Array.getElem?_eq_some_iff.1 hk).1 hA (fun cs' fr' e => by rw [hk] at e; cases e; exact ht rfl)).trans hk
theorem Kd.other {A : Nat} {W W' : World} (h : Kd A W W') (hA : ∃ cs t fr, W.heap[A]? = some (Obj.cells cs t fr)) {k : Nat} {o : Obj} (hk : W.heap[k]? = some o) (ho : o.isCells = false) : W'.heap[k]? = some o :=
  (h.same k (Array.getElem?_eq_some_iff.1 hk).1 (fun e => by subst e; obtain ⟨cs, t, fr, e⟩ := hA; rw [e] at hk; cases hk; cases ho) (fun cs' fr' e => by rw [hk] at e; cases e; cases ho)).trans hk
/-- what is turned in the dive's own block -/
theorem Dm.set {wr : World} {A s : Nat} {d d' : Dv} {v v' : Value} (h : Dm wr A s d v) {i : Nat} (hi : i < 11) (u : Value) (he : ∀ j, j < 11 → (if j = i then u else dcell s v d.tu d.cn j) = dcell s v' d'.tu d'.cn j) (ho : wr.ownsRow (A + 1) 185 4 v' d'.m (slist d' d'.m)) : Dm (wr.setCell ⟨A, i, none⟩ u) A s d' v' :=
  ⟨(h.I.set hi u).congr he, ownsRow_setCell_below ho (by show A < A + 1; omega) u⟩
theorem dcells {s : Nat} {v v' : Value} {tu tu' : Nat → Nat} {cn cn' : Nat} {i : Nat} {u : Value} (h0 : i ≠ 0) (h1 : (if 1 = i then u else v) = v') (ht : ∀ k, k < 8 → (if 2 + k = i then u else Value.int .i64 (tu k : Int)) = .int .i64 (tu' k : Int)) (hc : (if 10 = i then u else Value.int .i64 (cn : Int)) = .int .i64 (cn' : Int)) :
    ∀ j, j < 11 → (if j = i then u else dcell s v tu cn j) = dcell s v' tu' cn' j := by
  intro j hj
  by_cases e0 : j = 0
  · subst e0; rw [if_neg (fun e => h0 e.symm)]; rfl
  by_cases e1 : j = 1
  · subst e1; exact h1
  by_cases e2 : j < 10
  · obtain ⟨k, rfl⟩ : ∃ k, j = 2 + k := ⟨j - 2, by omega⟩
    have := ht k (by omega)
    have q : ∀ (v : Value) tu cn, dcell s v tu cn (2 + k) = .int .i64 (tu k : Int) := by
      intro v tu cn
      unfold dcell
      rw [if_neg (by omega), if_neg (by omega), if_pos (by omega), show 2 + k - 2 = k by omega]
    rw [q, q]; exact this
  · obtain rfl : j = 10 := by omega
    exact hc
theorem Dm.turns {wr : World} {A s : Nat} {d : Dv} {v : Value} (h : Dm wr A s d v) {k : Nat} (hk : k < 8) :
    Dm ((wr.setCell ⟨A, 10, none⟩ (.int .i64 ((d.cn : Int) + 1))).setCell ⟨A, 2 + k, none⟩ (.int .i64 ((d.cn : Int) + 1))) A s { d with tu := upd d.tu k (d.cn + 1), cn := d.cn + 1 } v := by
  have h1 : Dm (wr.setCell ⟨A, 10, none⟩ (.int .i64 ((d.cn : Int) + 1))) A s { d with cn := d.cn + 1 } v :=
    h.set (by omega) _ (dcells (by omega) (by simp) (fun k hk => by rw [if_neg (by omega)]) (by simp)) h.own
  refine h1.set (by omega) _ (dcells (by omega) (by rw [if_neg (by omega)]) (fun j hj => ?_) (by rw [if_neg (by omega)])) h1.own
  by_cases e : j = k
  · subst e; rw [if_pos rfl]; show _ = Value.int .i64 ((upd d.tu j (d.cn + 1) j : Nat) : Int); rw [upd_at]; simp
  · rw [if_neg (by omega)]; show Value.int .i64 (d.tu j : Int) = Value.int .i64 ((upd d.tu k (d.cn + 1) j : Nat) : Int); rw [upd_no _ _ e]
/-- the stack's row has grown -/
theorem Dm.grown {ww wa wb : World} {A s : Nat} {d d' : Dv} {v v' : Value} (h : Dm ww A s d v) (ha : Below ww.heap.size ww wa) (hg : wa.grownBy wb v.ownBlock) (ho : wb.ownsRow (A + 1) 185 4 v' d'.m (slist d' d'.m)) (ht : d'.tu = d.tu) (hc : d'.cn = d.cn) :
    Dm (wb.setCell ⟨A, 1, none⟩ v') A s d' v' ∧ Kd A ww (wb.setCell ⟨A, 1, none⟩ v') ∧ wb.cell? ⟨A, 1, none⟩ = some v ∧ wb.frozen? ⟨A, 1, none⟩ = false := by
  have hA := h.lt
  have hs := ha.size
  have hz := hg.size
  have eb : ∀ k, k ≤ A → wb.heap[k]? = ww.heap[k]? := fun k hk => (hg.block k (by omega) (fun e => by have := own_ge h.own k e.symm; omega)).trans (ha.block k (by omega))
  have hI : OwnI wb A 11 (dcell s v d.tu d.cn) := h.I.same (eb A (Nat.le_refl _)) (by omega)
  refine ⟨⟨?_, ownsRow_setCell_below ho (by show A < A + 1; omega) _⟩, ?_, hI.1 1 (by omega), hI.2.1 1⟩
  · refine (hI.set (i := 1) (by omega) v').congr ?_
    rw [ht, hc]
    exact dcells (by omega) (by simp) (fun k hk => by rw [if_neg (by omega)]) (by simp)
  · refine Kd.setA ⟨⟨hg.os.trans ha.os, hg.tape.trans ha.tape, hg.output.trans ha.output, by omega, fun k hk => eb k (by omega)⟩, fun k hk hka ht => (hg.block k (by omega) (fun e => ?_)).trans (ha.block k hk)⟩ 1 v'
    rcases h.own.2 with ⟨q, _⟩ | ⟨g, cap, cur, q, _, hg2, _⟩
    · rw [q] at e; simp [Value.ownBlock] at e
    · rw [q] at e
      simp [Value.ownBlock] at e
      subst e
      exact ht _ _ hg2

set_option maxHeartbeats 800000 in
theorem enter_any (A s : Nat) (d : Dv) (v : Value) (k f : Nat) (w : World) (hD : Dm w A s d v) (hk : k < 8) (hf : f < 8) (hm : d.m ≤ 8) (hc : d.cn ≤ 8) :
    Calls Tryd.prog 127 #[.pointer (some ⟨A, 0, none⟩), .int .i64 (k : Int), .int .i64 (f : Int)] w fun e w' => e = .returned (.tuple #[]) ∧ ∃ v', Dm w' A s (d.push k f) v' ∧ Kd A w w' := by
  obtain ⟨i0, hi0, hz0, hz1, hz2⟩ := info_parts Tryd.infoStep
  have HI : Hid (Tryd.prog.info? 185 = some i0 ∧ i0.zero = some (.agg #[.int .i64 0, .int .i64 0, .int .i64 0, .int .i64 0]) ∧ i0.size = 4 ∧ i0.bytes = 32) := ⟨hi0, hz0, hz1, hz2⟩
  clear hi0 hz0 hz1 hz2
  have c1 := hD.c1
  have ct := hD.ct hk
  have cc := hD.cc
  have fz := hD.I.2.1
  have hA := hD.I.2.2
  have HD := hideP hD
  clear hD
  go_enter Tryd.func127, Tryd.ntmps127
  go_wp2
  go_region
  go_wp2
  obtain ⟨ww, hww⟩ : ∃ ww, ww = (w.setCell ⟨A, 10, none⟩ (.int .i64 ((d.cn : Int) + 1))).setCell ⟨A, 2 + k, none⟩ (.int .i64 ((d.cn : Int) + 1)) := ⟨_, rfl⟩
  have D2 : Hid (Dm ww A s { d with tu := upd d.tu k (d.cn + 1), cn := d.cn + 1 } v) := by rw [hww]; exact HD.out.turns hk
  have B2 : Hid (Kd A w ww) := by rw [hww]; exact ((Kd.refl _ _).setA 10 _).setA (2 + k) _
  rw [← hww]
  clear hww c1 ct cc fz hA HD
  have c1 := D2.out.c1
  have cc : ww.cell? ⟨A, 10, none⟩ = some (.int .i64 ((d.cn : Int) + 1)) := D2.out.cc
  have hA := D2.out.lt
  go_region_law ((refine step_append_lies _ (by rfl) _ _ _ (by rfl) (A + 1) 185 i0 _ 4 32 Tryd.underlying123 HI.out.1 HI.out.2.1 HI.out.2.2.1 HI.out.2.2.2 rfl (by omega) v d.m (slist d d.m) (by rfl) ((D2.out.own.alloc _).drew) ⟨ww.heap.size, 0, none⟩ 1 1 [.int .i64 (k : Int), .int .i64 (f : Int), .int .i64 0, .int .i64 ((d.cn : Int) + 1)] (by rfl) (by rfl) (World.news_of_block (cs := #[.int .i64 (k : Int), .int .i64 (f : Int), .int .i64 0, .int .i64 ((d.cn : Int) + 1)]) (t := 185) (fr := (0, 0)) (heap_alloc_new ww _)) (by simp [Value.oneCell']) (by omega) (by unfold maxLen; omega) (by omega) (by simp; omega) (ww.heap.size + 1) (by simp) ?_; intro g cap' wb hown1 hgrow hat hltg; obtain ⟨D3, B3, e1, e2⟩ := D2.out.grown (d' := d.push k f) (below_one _ _).drew.drew hgrow (by show wb.ownsRow (A + 1) 185 4 _ (d.m + 1) (slist (d.push k f) (d.m + 1)); rw [slist_push]; exact hown1) rfl rfl; have D4 := hideP D3; have B4 := hideP B3; clear D3 B3 hown1 hgrow hat hltg))
  all_goals
    go_wp2
    refine bodyPost_end (v := .tuple #[]) (by simp [results, Tryd.results127, go_sem]) rfl ⟨rfl, _, D4.out, B2.out.trans B4.out⟩

end Go.Proofs.YtmkbeiiifikbgaaDoor

/- Walks of impl.dive's methods: top, leave. -/
namespace Go.Proofs.YtmkbeiiifikbgaaDoor
open Go.RowKit
set_option linter.unusedVariables false

/-- a region of which all ways end alike: what follows is asked once -/
theorem wp_once {P : Program} {c : Code} {Q' : Exit → Act → World → Prop} {K : Act → World → Prop} {a : Act} {w : World} {aa : Act} {wz : World} (h : c.wp P (Exit.then (fun a' w' => a' = aa ∧ w' = wz) Q') a w) (hk : K aa wz) : c.wp P (Exit.then K Q') a w :=
  Code.wp_mono (fun e a' w' h => by
    cases e with
    | normal => obtain ⟨rfl, rfl⟩ := h; exact hk
    | _ => exact h) h
set_option maxHeartbeats 400000 in
theorem top_any (A s : Nat) (d : Dv) (g cap i : Nat) (w : World) (hD : Dm w A s d (.slice (some ⟨g, 0, none⟩) (i + 1) cap)) (hm : d.m = i + 1) (hi : i ≤ 8) :
    Calls Tryd.prog 139 #[.pointer (some ⟨A, 0, none⟩)] w fun e w' => e = .returned (.pointer (some ⟨g, i * 4, none⟩)) ∧ w' = w.drew := by
  have c1 := hD.c1
  clear hD hm
  go_enter Tryd.func139, Tryd.ntmps139
  go_wp2
  go_region
  go_wp2
  go_ret
  exact ⟨rfl, rfl⟩

theorem scell0 (d : Dv) (q : Nat) : scell d (q * 4) = .int .i64 (d.kn q : Int) := by
  unfold scell; rw [if_pos (by omega), show q * 4 / 4 = q by omega]
theorem scell1 (d : Dv) (q : Nat) : scell d (q * 4 + 1) = .int .i64 (d.fr q : Int) := by
  unfold scell; rw [if_neg (by omega), if_pos (by omega), show (q * 4 + 1) / 4 = q by omega]
theorem scell2 (d : Dv) (q : Nat) : scell d (q * 4 + 2) = .int .i64 (d.nx q : Int) := by
  unfold scell; rw [if_neg (by omega), if_neg (by omega), if_pos (by omega), show (q * 4 + 2) / 4 = q by omega]
theorem scell3 (d : Dv) (q : Nat) : scell d (q * 4 + 3) = .int .i64 (d.le q : Int) := by
  unfold scell; rw [if_neg (by omega), if_neg (by omega), if_neg (by omega), show (q * 4 + 3) / 4 = q by omega]
theorem Dm.st {wr : World} {A s : Nat} {d : Dv} {g n cap : Nat} (h : Dm wr A s d (.slice (some ⟨g, 0, none⟩) n cap)) (hn : d.m = n) {q : Nat} (hq : q < d.m) :
    wr.cell? ⟨g, q * 4, none⟩ = some (.int .i64 (d.kn q : Int)) ∧ wr.cell? ⟨g, q * 4 + 1, none⟩ = some (.int .i64 (d.fr q : Int)) ∧ wr.cell? ⟨g, q * 4 + 2, none⟩ = some (.int .i64 (d.nx q : Int)) ∧ wr.cell? ⟨g, q * 4 + 3, none⟩ = some (.int .i64 (d.le q : Int)) ∧ (∀ j, wr.frozen? ⟨g, j, none⟩ = false) ∧ A + 1 ≤ g ∧ g < wr.heap.size := by
  subst hn
  have ho := h.own
  obtain ⟨g', cap', e, h1, h2⟩ := ho.form (by omega)
  simp only [Value.slice.injEq, Option.some.injEq, Addr.mk.injEq, and_true, true_and] at e
  obtain ⟨rfl, rfl⟩ := e
  refine ⟨?_, ?_, ?_, ?_, fun j => ho.frozenAt j, h1, h2⟩
  · rw [ho.cellAt _ (by omega), slist_get _ _ _ (by omega), scell0]
  · rw [ho.cellAt _ (by omega), slist_get _ _ _ (by omega), scell1]
  · rw [ho.cellAt _ (by omega), slist_get _ _ _ (by omega), scell2]
  · rw [ho.cellAt _ (by omega), slist_get _ _ _ (by omega), scell3]
theorem own_shrink {w : World} {base : Nat} {e : TypeId} {size g n cap : Nat} {xs ys : List Value} (h : w.ownsRow base e size (.slice (some ⟨g, 0, none⟩) (n + 1) cap) (n + 1) xs) (hy : xs.take (n * size) = ys) : w.ownsRow base e size (.slice (some ⟨g, 0, none⟩) n cap) n ys := by
  rcases h.2 with ⟨h', _⟩ | ⟨g', cap', cur, h', hb, hg, hnc, hcm, hcs, htake⟩
  · simp at h'
  · simp only [Value.slice.injEq, Option.some.injEq, Addr.mk.injEq, and_true, true_and] at h'
    obtain ⟨rfl, rfl⟩ := h'
    have hl := h.1
    have hmul : (n + 1) * size = n * size + size := by rw [Nat.add_mul]; omega
    refine ⟨by rw [← hy, List.length_take, hl, hmul]; omega, .inr ⟨g, cap, cur, rfl, hb, hg, by omega, hcm, hcs, ?_⟩⟩
    rw [← hy, ← htake, List.take_take, hmul]
    congr 1; omega
theorem slist_take (d : Dv) (n : Nat) : (slist d (n + 1)).take (n * 4) = slist d n := by
  apply List.ext_getElem?
  intro j
  rw [List.getElem?_take]
  by_cases hj : j < n * 4
  · rw [if_pos hj, slist_get _ _ _ (by omega), slist_get _ _ _ hj]
  · rw [if_neg hj, slist_none _ _ _ hj]
/-- the stack without its last -/
theorem Dm.pop {wr : World} {A s : Nat} {d : Dv} {g n cap : Nat} (h : Dm wr A s d (.slice (some ⟨g, 0, none⟩) (n + 1) cap)) (hm : d.m = n + 1) :
    Dm (wr.setCell ⟨A, 1, none⟩ (.slice (some ⟨g, 0, none⟩) n cap)) A s { d with m := n } (.slice (some ⟨g, 0, none⟩) n cap) := by
  have ho := h.own
  rw [hm] at ho
  exact h.set (by omega) _ (dcells (by omega) (by simp) (fun k hk => by rw [if_neg (by omega)]) (by simp)) (own_shrink ho (slist_take d n))
/-- one number of the stack's last is turned -/
theorem Dm.stored {wr : World} {A s : Nat} {d d' : Dv} {g n cap : Nat} (h : Dm wr A s d (.slice (some ⟨g, 0, none⟩) n cap)) (hn : d.m = n) (hn' : d'.m = n) (ht : d'.tu = d.tu) (hc : d'.cn = d.cn) {j : Nat} {x : Nat} (hg : A + 1 ≤ g) (hx : ∀ i, i < n * 4 → (if j = i then Value.int .i64 (x : Int) else scell d i) = scell d' i) :
    Dm (wr.setCell ⟨g, j, none⟩ (.int .i64 (x : Int))) A s d' (.slice (some ⟨g, 0, none⟩) n cap) := by
  have ho := h.own
  rw [hn] at ho
  obtain ⟨o1, g1⟩ := ho.stored j (.int .i64 (x : Int))
  refine ⟨by rw [ht, hc]; exact h.I.other (by show g ≠ A; omega) _, ?_⟩
  rw [hn']
  have e : (slist d n).set j (.int .i64 (x : Int)) = slist d' n := by
    apply List.ext_getElem?
    intro i
    rw [List.getElem?_set, slist_length]
    by_cases hi : i < n * 4
    · rw [slist_get _ _ _ hi, slist_get _ _ _ hi, ← hx i hi]
      by_cases e : j = i
      · rw [if_pos e, if_pos e, if_pos (by omega)]
      · rw [if_neg e, if_neg e]
    · rw [slist_none _ _ _ hi, slist_none _ _ _ hi]
      by_cases e : j = i
      · rw [if_pos e, if_neg (by omega)]
      · rw [if_neg e]
  rw [← e]; exact o1
theorem Dm.least {wr : World} {A s : Nat} {d : Dv} {g i cap : Nat} (h : Dm wr A s d (.slice (some ⟨g, 0, none⟩) (i + 1) cap)) (hm : d.m = i + 1) (hg : A + 1 ≤ g) (x : Nat) :
    Dm (wr.setCell ⟨g, i * 4 + 3, none⟩ (.int .i64 (x : Int))) A s { d with le := upd d.le i x } (.slice (some ⟨g, 0, none⟩) (i + 1) cap) := by
  refine h.stored (d' := { d with le := upd d.le i x }) hm hm rfl rfl hg (fun j hj => ?_)
  by_cases e : i * 4 + 3 = j
  · subst e; rw [if_pos rfl, scell3]; show _ = Value.int .i64 ((upd d.le i x i : Nat) : Int); rw [upd_at]
  · rw [if_neg e]
    unfold scell
    by_cases e3 : j % 4 = 3
    · have hne : j / 4 ≠ i := by omega
      show _ = Value.int .i64 ((((if j % 4 = 0 then d.kn (j / 4) else if j % 4 = 1 then d.fr (j / 4) else if j % 4 = 2 then d.nx (j / 4) else upd d.le i x (j / 4)) : Nat)) : Int)
      rw [upd_no _ _ hne]
    · have : j % 4 = 0 ∨ j % 4 = 1 ∨ j % 4 = 2 := by omega
      rcases this with q | q | q <;> simp [q]
theorem Dm.next {wr : World} {A s : Nat} {d : Dv} {g i cap : Nat} (h : Dm wr A s d (.slice (some ⟨g, 0, none⟩) (i + 1) cap)) (hm : d.m = i + 1) (hg : A + 1 ≤ g) (x : Nat) :
    Dm (wr.setCell ⟨g, i * 4 + 2, none⟩ (.int .i64 (x : Int))) A s { d with nx := upd d.nx i x } (.slice (some ⟨g, 0, none⟩) (i + 1) cap) := by
  refine h.stored (d' := { d with nx := upd d.nx i x }) hm hm rfl rfl hg (fun j hj => ?_)
  by_cases e : i * 4 + 2 = j
  · subst e; rw [if_pos rfl, scell2]; show _ = Value.int .i64 ((upd d.nx i x i : Nat) : Int); rw [upd_at]
  · rw [if_neg e]
    unfold scell
    by_cases e3 : j % 4 = 2
    · have hne : j / 4 ≠ i := by omega
      show _ = Value.int .i64 ((((if j % 4 = 0 then d.kn (j / 4) else if j % 4 = 1 then d.fr (j / 4) else if j % 4 = 2 then upd d.nx i x (j / 4) else d.le (j / 4)) : Nat)) : Int)
      rw [upd_no _ _ hne]
    · have : j % 4 = 0 ∨ j % 4 = 1 ∨ j % 4 = 3 := by omega
      rcases this with q | q | q <;> simp [q]

theorem Dm.alloc {wr : World} {A s : Nat} {d : Dv} {v : Value} (h : Dm wr A s d v) (o : Obj) : Dm (wr.alloc o) A s d v :=
  ⟨h.I.same (Below.heap_alloc _ _ _ h.lt) (by simp), h.own.alloc o⟩
theorem four_cells {W : World} {R : Nat} {t : TypeId} {v0 v1 v2 v3 : Value} (h : W.heap[R]? = some (Obj.cells #[v0, v1, v2, v3] t (0, 0))) : W.cell? ⟨R, 0, none⟩ = some v0 ∧ W.cell? ⟨R, 1, none⟩ = some v1 ∧ W.cell? ⟨R, 2, none⟩ = some v2 ∧ W.cell? ⟨R, 3, none⟩ = some v3 ∧ ∀ j, W.frozen? ⟨R, j, none⟩ = false := by
  refine ⟨?_, ?_, ?_, ?_, fun j => ?_⟩
  · simp [World.cell?, h]
  · simp [World.cell?, h]
  · simp [World.cell?, h]
  · simp [World.cell?, h]
  · simp [World.frozen?, h]
/-- a move as a value -/
def mvV (f t : Nat) (u : Bool) (l : Nat) : Value := .agg #[.int .i64 (f : Int), .int .i64 (t : Int), .bool u, .int .i64 (l : Int)]
/-- four cells of a block turned -/
def Four (W : World) (R : Nat) (a b c e : Value) : World := (((W.setCell ⟨R, 0, none⟩ a).setCell ⟨R, 1, none⟩ b).setCell ⟨R, 2, none⟩ c).setCell ⟨R, 3, none⟩ e
theorem four_other (W : World) (R : Nat) (a b c e : Value) {k : Nat} (h : k ≠ R) : (Four W R a b c e).heap[k]? = W.heap[k]? :=
  (Below.heap_setCell _ _ _ _ (by exact h)).trans ((Below.heap_setCell _ _ _ _ (by exact h)).trans ((Below.heap_setCell _ _ _ _ (by exact h)).trans (Below.heap_setCell _ _ _ _ (by exact h))))
theorem four_size (W : World) (R : Nat) (a b c e : Value) : (Four W R a b c e).heap.size = W.heap.size := by simp [Four]
theorem four_at {W : World} {R : Nat} {t : TypeId} {v0 v1 v2 v3 : Value} (h : W.heap[R]? = some (Obj.cells #[v0, v1, v2, v3] t (0, 0))) (a b c e : Value) : (Four W R a b c e).heap[R]? = some (Obj.cells #[a, b, c, e] t (0, 0)) := by
  have one : ∀ (W : World) (cs : Array Value) (j : Nat) (u : Value), W.heap[R]? = some (Obj.cells cs t (0, 0)) → (W.setCell ⟨R, j, none⟩ u).heap[R]? = some (Obj.cells (cs.setIfInBounds j u) t (0, 0)) := fun W cs j u h => by
    obtain ⟨hl, he⟩ := Array.getElem?_eq_some_iff.1 h
    simp [World.setCell, Array.getElem_modify, hl, he]
  exact one _ _ 3 e (one _ _ 2 c (one _ _ 1 b (one _ _ 0 a h)))
theorem Dm.four {W : World} {A s : Nat} {d : Dv} {v : Value} {R : Nat} {v0 v1 v2 v3 : Value} (hD : Dm W A s d v) (h : W.heap[R]? = some (Obj.cells #[v0, v1, v2, v3] 130 (0, 0))) (hA : A < R) (a b c e : Value) : Dm (Four W R a b c e) A s d v := by
  refine ⟨hD.I.same (four_other _ _ _ _ _ _ (by omega)) (by rw [four_size]; omega), hD.own.1, ?_⟩
  rcases hD.own.2 with q | ⟨g, cap, cur, q1, q2, q3, q4⟩
  · exact Or.inl q
  · exact Or.inr ⟨g, cap, cur, q1, q2, (four_other _ _ _ _ _ _ (fun e => by subst e; rw [h] at q3; cases q3)).trans q3, q4⟩
theorem Kd.four {A : Nat} {w W : World} {R : Nat} (hk : Kd A w W) (hw : w.heap.size ≤ R) (hA : A < R) (a b c e : Value) : Kd A w (Four W R a b c e) := by
  have hb : Below A W (Four W R a b c e) := ((((Below.refl _ _).setCell (p := ⟨R, 0, none⟩) (by show A ≤ R; omega) a).setCell (p := ⟨R, 1, none⟩) (by show A ≤ R; omega) b).setCell (p := ⟨R, 2, none⟩) (by show A ≤ R; omega) c).setCell (p := ⟨R, 3, none⟩) (by show A ≤ R; omega) e
  exact ⟨hk.bel.trans hb, fun k hk1 ha ht => (four_other _ _ _ _ _ _ (by omega)).trans (hk.same k hk1 ha ht)⟩
set_option maxHeartbeats 400000 in
theorem leave_root (A s : Nat) (d : Dv) (g cap : Nat) (w : World) (hD : Dm w A s d (.slice (some ⟨g, 0, none⟩) 1 cap)) (hm : d.m = 1) :
    Calls Tryd.prog 140 #[.pointer (some ⟨A, 0, none⟩)] w fun e w' => e = .returned (.tuple #[mvV 0 0 false 0, .bool false]) ∧ Dm w' A s { d with m := 0 } (.slice (some ⟨g, 0, none⟩) 0 cap) ∧ Kd A w w' := by
  have hA := hD.lt
  go_enter Tryd.func140, Tryd.ntmps140
  go_wp2_with fail
  obtain ⟨w0, hw0⟩ : ∃ w0, w0 = w.alloc (Obj.cells #[.int .i64 0, .int .i64 0, .bool false, .int .i64 0] 130) := ⟨_, rfl⟩
  have hD0 : Dm w0 A s d (.slice (some ⟨g, 0, none⟩) 1 cap) := by rw [hw0]; exact hD.alloc _
  have B0 : Hid (Kd A w w0) := by rw [hw0]; exact (Kd.refl _ _).alloc hA _
  have R0 : Hid (w0.heap[w.heap.size]? = some (Obj.cells #[.int .i64 0, .int .i64 0, .bool false, .int .i64 0] 130 (0, 0))) := by rw [hw0]; exact World.alloc_heap_new w _
  rw [← hw0]
  obtain ⟨R, hR⟩ : ∃ R, R = w.heap.size := ⟨_, rfl⟩
  rw [← hR] at R0 hA ⊢
  have hRw : w.heap.size ≤ R := by omega
  clear hw0 hD hR
  obtain ⟨k0, k1, k2, k3, kf, hg, hgz⟩ := hD0.st hm (q := 0) (by omega)
  have HD := hideP hD0
  have hRz : R < w0.heap.size := (Array.getElem?_eq_some_iff.1 R0.out).1
  clear hD0
  refine (top_any A s d g cap 0 _ HD.out hm (by omega)).mono ?_
  rintro e w1 ⟨rfl, rfl⟩
  have c1 := HD.out.c1
  have fz := HD.out.I.2.1
  go_wp2
  obtain ⟨ww, hww⟩ : ∃ ww, ww = w0.alloc (.cells #[.int .i64 (d.kn 0 : Int), .int .i64 (d.fr 0 : Int), .int .i64 (d.nx 0 : Int), .int .i64 (d.le 0 : Int)] 185) := ⟨_, rfl⟩
  have DW : Hid (Dm ww A s d (.slice (some ⟨g, 0, none⟩) 1 cap)) := by rw [hww]; exact HD.out.alloc _
  have BW : Hid (Kd A w ww) := by rw [hww]; exact B0.out.trans ((Kd.refl _ _).alloc HD.out.lt _)
  have RW : Hid (ww.heap[R]? = some (Obj.cells #[.int .i64 0, .int .i64 0, .bool false, .int .i64 0] 130 (0, 0))) := by rw [hww]; exact (Below.heap_alloc _ _ _ hRz).trans R0.out
  rw [← hww]
  clear hww c1 fz HD k0 k1 k2 k3 kf R0 B0
  have c1 := DW.out.c1
  have fz := DW.out.I.2.1
  have D2 := hideP (DW.out.pop (n := 0) hm)
  have B2 := hideP (BW.out.setA 1 (.slice (some ⟨g, 0, none⟩) 0 cap))
  have R2 : Hid ((ww.setCell ⟨A, 1, none⟩ (.slice (some ⟨g, 0, none⟩) 0 cap)).heap[R]? = some (Obj.cells #[.int .i64 0, .int .i64 0, .bool false, .int .i64 0] 130 (0, 0))) := (Below.heap_setCell _ _ _ _ (by show R ≠ A; omega)).trans RW.out
  go_region
  obtain ⟨w2, hw2⟩ : ∃ w2, w2 = ww.setCell ⟨A, 1, none⟩ (.slice (some ⟨g, 0, none⟩) 0 cap) := ⟨_, rfl⟩
  rw [← hw2] at D2 B2 R2 ⊢
  clear hw2 c1 fz RW BW DW
  have c1 := D2.out.c1
  obtain ⟨r0, r1, r2, r3, rf⟩ := four_cells R2.out
  go_wp2
  have DF := hideP (D2.out.four R2.out hA (.int .i64 0) (.int .i64 0) (.bool false) (.int .i64 0))
  have KF := hideP (B2.out.four hRw hA (.int .i64 0) (.int .i64 0) (.bool false) (.int .i64 0))
  obtain ⟨q0, q1, q2, q3, _⟩ := four_cells (four_at R2.out (.int .i64 0) (.int .i64 0) (.bool false) (.int .i64 0))
  change bodyPost _ _ _ _ _ (Four w2 R (.int .i64 0) (.int .i64 0) (.bool false) (.int .i64 0)).drew.drew
  obtain ⟨w3, hw3⟩ : ∃ w3, w3 = Four w2 R (.int .i64 0) (.int .i64 0) (.bool false) (.int .i64 0) := ⟨_, rfl⟩
  rw [← hw3] at DF KF q0 q1 q2 q3 ⊢
  refine bodyPost_ret (v := .tuple #[mvV 0 0 false 0, .bool false]) (by simp [results, Tryd.results140, go_sem, q0, q1, q2, q3, mvV]) rfl ⟨rfl, DF.out.drew.drew, KF.out.drew.drew⟩

set_option maxHeartbeats 800000 in
theorem leave_more (A s : Nat) (d : Dv) (g cap i : Nat) (w : World) (hD : Dm w A s d (.slice (some ⟨g, 0, none⟩) (i + 2) cap)) (hm : d.m = i + 2) (hi : i ≤ 7) :
    Calls Tryd.prog 140 #[.pointer (some ⟨A, 0, none⟩)] w fun e w' => e = .returned (.tuple #[mvV (d.fr (i + 1)) (d.kn (i + 1)) true (d.le (i + 1)), .bool true]) ∧ Dm w' A s (d.leave i) (.slice (some ⟨g, 0, none⟩) (i + 1) cap) ∧ Kd A w w' := by
  have hA := hD.lt
  have HE : Hid (d.leave i = { d with m := i + 1, le := upd d.le i (min (d.le i) (d.le (i + 1))), br := (d.leave i).br }) := rfl
  have hcap : i + 2 ≤ cap := by
    have ho := hD.own
    rw [hm] at ho
    rcases ho.2 with ⟨h', _⟩ | ⟨g', cap', cur, h', _, _, hnc, _⟩
    · simp at h'
    · simp only [Value.slice.injEq, true_and] at h'; obtain ⟨_, rfl⟩ := h'; exact hnc
  obtain ⟨dl, hdl⟩ : ∃ x, x = d.leave i := ⟨_, rfl⟩
  rw [← hdl] at HE ⊢
  obtain ⟨kk, hkk⟩ : ∃ x, x = d.kn (i + 1) := ⟨_, rfl⟩
  obtain ⟨ff, hff⟩ : ∃ x, x = d.fr (i + 1) := ⟨_, rfl⟩
  obtain ⟨ll, hll⟩ : ∃ x, x = d.le (i + 1) := ⟨_, rfl⟩
  obtain ⟨nn, hnn⟩ : ∃ x, x = d.nx (i + 1) := ⟨_, rfl⟩
  rw [← hkk, ← hff, ← hll]
  rw [← hll] at HE
  clear hdl
  go_enter Tryd.func140, Tryd.ntmps140
  go_wp2_with fail
  obtain ⟨w0, hw0⟩ : ∃ w0, w0 = w.alloc (Obj.cells #[.int .i64 0, .int .i64 0, .bool false, .int .i64 0] 130) := ⟨_, rfl⟩
  have hD0 : Dm w0 A s d (.slice (some ⟨g, 0, none⟩) (i + 2) cap) := by rw [hw0]; exact hD.alloc _
  have B0 : Hid (Kd A w w0) := by rw [hw0]; exact (Kd.refl _ _).alloc hA _
  have R0 : Hid (w0.heap[w.heap.size]? = some (Obj.cells #[.int .i64 0, .int .i64 0, .bool false, .int .i64 0] 130 (0, 0))) := by rw [hw0]; exact World.alloc_heap_new w _
  rw [← hw0]
  obtain ⟨R, hR⟩ : ∃ R, R = w.heap.size := ⟨_, rfl⟩
  rw [← hR] at R0 hA ⊢
  have hRw : w.heap.size ≤ R := by omega
  clear hw0 hD hR
  obtain ⟨k0, k1, k2, k3, kf, hg, hgz⟩ := hD0.st hm (q := i + 1) (by omega)
  have HD := hideP hD0
  have hRz : R < w0.heap.size := (Array.getElem?_eq_some_iff.1 R0.out).1
  clear hD0
  rw [← hkk] at k0
  rw [← hff] at k1
  rw [← hll] at k3
  rw [← hnn] at k2
  clear hkk hff hll hnn
  refine (top_any A s d g cap (i + 1) _ HD.out hm (by omega)).mono ?_
  rintro e w1 ⟨rfl, rfl⟩
  go_wp2
  obtain ⟨ww, hww⟩ : ∃ ww, ww = w0.alloc (.cells #[.int .i64 (kk : Int), .int .i64 (ff : Int), .int .i64 (nn : Int), .int .i64 (ll : Int)] 185) := ⟨_, rfl⟩
  have DW : Hid (Dm ww A s d (.slice (some ⟨g, 0, none⟩) (i + 2) cap)) := by rw [hww]; exact HD.out.alloc _
  have BW : Hid (Kd A w ww) := by rw [hww]; exact B0.out.trans ((Kd.refl _ _).alloc HD.out.lt _)
  have RW : Hid (ww.heap[R]? = some (Obj.cells #[.int .i64 0, .int .i64 0, .bool false, .int .i64 0] 130 (0, 0))) := by rw [hww]; exact (Below.heap_alloc _ _ _ hRz).trans R0.out
  have l0 : ww.cell? ⟨w0.heap.size, 0, none⟩ = some (.int .i64 (kk : Int)) := by rw [hww]; simp
  have l1 : ww.cell? ⟨w0.heap.size, 1, none⟩ = some (.int .i64 (ff : Int)) := by rw [hww]; simp
  have l3 : ww.cell? ⟨w0.heap.size, 3, none⟩ = some (.int .i64 (ll : Int)) := by rw [hww]; simp
  rw [← hww]
  obtain ⟨L, hL⟩ : ∃ L, L = w0.heap.size := ⟨_, rfl⟩
  rw [← hL] at l0 l1 l3 hRz hgz ⊢
  clear hww HD k0 k1 k2 k3 kf hL R0 B0
  have c1 := DW.out.c1
  have fz := DW.out.I.2.1
  have D2 := hideP (DW.out.pop (n := i + 1) hm)
  have hcap' : (i : Int) + 1 ≤ (cap : Int) := by omega
  have hne : ((i : Int) + 1 == 0) = false := by simp; omega
  go_region
  go_wp2
  obtain ⟨w2, hw2⟩ : ∃ w2, w2 = ww.setCell ⟨A, 1, none⟩ (.slice (some ⟨g, 0, none⟩) (i + 1) cap) := ⟨_, rfl⟩
  have hLA : L ≠ A := by omega
  have r0 : w2.cell? ⟨L, 0, none⟩ = some (.int .i64 (kk : Int)) := by rw [hw2, World.cell?_setCell_other _ _ _ _ (by intro e; simp at e)]; exact l0
  have r1 : w2.cell? ⟨L, 1, none⟩ = some (.int .i64 (ff : Int)) := by rw [hw2, World.cell?_setCell_other _ _ _ _ (by intro e; have e2 := congrArg Addr.block e; exact hLA (by first | exact e2 | exact e2.symm))]; exact l1
  have r3 : w2.cell? ⟨L, 3, none⟩ = some (.int .i64 (ll : Int)) := by rw [hw2, World.cell?_setCell_other _ _ _ _ (by intro e; simp at e)]; exact l3
  have B2 : Hid (Kd A w w2) := by rw [hw2]; exact BW.out.setA 1 _
  have R2 : Hid (w2.heap[R]? = some (Obj.cells #[.int .i64 0, .int .i64 0, .bool false, .int .i64 0] 130 (0, 0))) := by rw [hw2]; exact (Below.heap_setCell _ _ _ _ (by show R ≠ A; omega)).trans RW.out
  rw [← hw2] at D2 ⊢
  clear hw2 c1 fz l0 l1 l3 DW BW RW hne
  obtain ⟨_, _, _, s3, sf, _, _⟩ := D2.out.st (n := i + 1) rfl (q := i) (Nat.lt_succ_self i)
  have s3' : w2.cell? ⟨g, i * 4 + 3, none⟩ = some (.int .i64 (d.le i : Int)) := s3
  clear s3
  have HMIN : Hid ((if ll < d.le i then (ll : Int) else (d.le i : Int)) = ((min (d.le i) ll : Nat) : Int)) := by show (if ll < d.le i then (ll : Int) else (d.le i : Int)) = _; split <;> omega
  have HGL : Hid (g ≠ L ∧ g ≠ R) := by
    obtain ⟨_, cs, fr, hb⟩ := own_step D2.out.own
    exact ⟨by omega, fun e => by subst e; rw [R2.out] at hb; cases hb⟩
  have DF : Hid (Dm (w2.setCell ⟨g, i * 4 + 3, none⟩ (.int .i64 ((min (d.le i) ll : Nat) : Int))) A s dl (.slice (some ⟨g, 0, none⟩) (i + 1) cap)) := by
    have h1 := D2.out.least (i := i) rfl hg (min (d.le i) ll)
    rw [HE.out]; exact ⟨h1.I, h1.own⟩
  have BF : Hid (Kd A w (w2.setCell ⟨g, i * 4 + 3, none⟩ (.int .i64 ((min (d.le i) ll : Nat) : Int)))) := B2.out.setG D2.out rfl _ _
  apply wp_once
  case h =>
    go_region_law (go_simp; go_at_call 139; refine (top_any A s _ g cap i _ (by repeat (first | exact D2.out | apply Dm.drew)) rfl (by omega)).mono ?_; rintro e wq ⟨rfl, rfl⟩)
    all_goals
      rw [HMIN.out]
      exact ⟨rfl, rfl⟩
  obtain ⟨w3, hw3⟩ : ∃ w3, w3 = w2.setCell ⟨g, i * 4 + 3, none⟩ (.int .i64 ((min (d.le i) ll : Nat) : Int)) := ⟨_, rfl⟩
  have t0 : w3.cell? ⟨L, 0, none⟩ = some (.int .i64 (kk : Int)) := by rw [hw3, World.cell?_setCell_other _ _ _ _ (by intro e; have e2 := congrArg Addr.block e; exact HGL.out.1 (by first | exact e2 | exact e2.symm))]; exact r0
  have t1 : w3.cell? ⟨L, 1, none⟩ = some (.int .i64 (ff : Int)) := by rw [hw3, World.cell?_setCell_other _ _ _ _ (by intro e; have e2 := congrArg Addr.block e; exact HGL.out.1 (by first | exact e2 | exact e2.symm))]; exact r1
  have t3 : w3.cell? ⟨L, 3, none⟩ = some (.int .i64 (ll : Int)) := by rw [hw3, World.cell?_setCell_other _ _ _ _ (by intro e; have e2 := congrArg Addr.block e; exact HGL.out.1 (by first | exact e2 | exact e2.symm))]; exact r3
  have R3 : Hid (w3.heap[R]? = some (Obj.cells #[.int .i64 0, .int .i64 0, .bool false, .int .i64 0] 130 (0, 0))) := by rw [hw3]; exact (Below.heap_setCell _ _ _ _ (fun e => HGL.out.2 e.symm)).trans R2.out
  rw [← hw3] at DF BF ⊢
  clear hw3 r0 r1 r3 R2 D2 B2 HMIN HGL s3'
  obtain ⟨u0, u1, u2, u3, uf⟩ := four_cells R3.out
  go_wp2
  have DG := hideP (DF.out.four R3.out hA (.int .i64 (ff : Int)) (.int .i64 (kk : Int)) (.bool true) (.int .i64 (ll : Int)))
  have KG := hideP (BF.out.four hRw hA (.int .i64 (ff : Int)) (.int .i64 (kk : Int)) (.bool true) (.int .i64 (ll : Int)))
  obtain ⟨q0, q1, q2, q3, _⟩ := four_cells (four_at R3.out (.int .i64 (ff : Int)) (.int .i64 (kk : Int)) (.bool true) (.int .i64 (ll : Int)))
  change bodyPost _ _ _ _ _ (Four w3 R (.int .i64 (ff : Int)) (.int .i64 (kk : Int)) (.bool true) (.int .i64 (ll : Int))).drew.drew.drew.drew.drew
  obtain ⟨w4, hw4⟩ : ∃ w4, w4 = Four w3 R (.int .i64 (ff : Int)) (.int .i64 (kk : Int)) (.bool true) (.int .i64 (ll : Int)) := ⟨_, rfl⟩
  rw [← hw4] at DG KG q0 q1 q2 q3 ⊢
  refine bodyPost_ret (v := .tuple #[mvV ff kk true ll, .bool true]) (by simp [results, Tryd.results140, go_sem, q0, q1, q2, q3, mvV]) rfl ⟨rfl, ?_, ?_⟩
  · repeat (first | exact DG.out | apply Dm.drew)
  · repeat (first | exact KG.out | apply Kd.drew)

end Go.Proofs.YtmkbeiiifikbgaaDoor

/- Walk of impl.dive.look. -/
namespace Go.Proofs.YtmkbeiiifikbgaaDoor
open Go.RowKit
set_option linter.unusedVariables false

theorem own_kept {w w' : World} {base : Nat} {e : TypeId} {size : Nat} {v : Value} {n : Nat} {xs : List Value} (h : w.ownsRow base e size v n xs) (hb : ∀ g, g < w.heap.size → w'.heap[g]? = w.heap[g]?) : w'.ownsRow base e size v n xs := by
  refine ⟨h.1, ?_⟩
  rcases h.2 with h1 | ⟨g, cap, cur, h1, h2, h3, h4⟩
  · exact Or.inl h1
  · exact Or.inr ⟨g, cap, cur, h1, h2, (hb g (Array.getElem?_eq_some_iff.1 h3).1).trans h3, h4⟩
theorem Dm.below {w w' : World} {A s : Nat} {d : Dv} {v : Value} (h : Dm w A s d v) (hb : Below w.heap.size w w') : Dm w' A s d v :=
  ⟨h.I.below hb h.lt, own_kept h.own (fun g hgl => hb.block g hgl)⟩
/-- what is told, as a value -/
def mvO : Option Mv → Value
  | none => mvV 0 0 false 0
  | some x => mvV x.f x.t x.u x.l
/-- one step of going down, by a call -/
def Looked (E : Nat → Nat → Prop) (A s : Nat) (d : Dv) (w : World) (e : Ending) (w' : World) : Prop :=
  ∃ o d' v', e = .returned (.tuple #[mvO o, .bool o.isSome]) ∧ Tr E d o d' ∧ Dm w' A s d' v' ∧ Kd A w w'

set_option maxHeartbeats 1600000 in
theorem look_left (E : Nat → Nat → Prop) (A s : Nat) (d : Dv) (v : Value) (w : World) (hD : Dm w A s d v) (hX : Aux d) (i : Nat) (hi : d.m = i + 1) (hn : d.nx i = 8) :
    Calls Tryd.prog 128 #[.pointer (some ⟨A, 0, none⟩)] w (Looked E A s d w) := by
  have hm8 : d.m ≤ 8 := by have := hX.mcn; have := hX.sum; omega
  obtain ⟨g, cap, rfl, _, _⟩ := hD.own.form (by omega)
  rw [hi] at hD
  have him : i < d.m := by omega
  have hA := hD.lt
  have LV : Hid (∀ w0, Dm w0 A s d (.slice (some ⟨g, 0, none⟩) (i + 1) cap) → Calls Tryd.prog 140 #[.pointer (some ⟨A, 0, none⟩)] w0 fun e w' => ∃ o d' v', e = .returned (.tuple #[mvO o, .bool o.isSome]) ∧ Tr E d o d' ∧ Dm w' A s d' v' ∧ Kd A w0 w') := fun w0 h0 => by
    by_cases e0 : i = 0
    · subst e0
      exact (leave_root A s d g cap w0 h0 hi).mono fun e w' ⟨h1, h2, h3⟩ => ⟨none, _, _, h1, Tr.out hi hn, h2, h3⟩
    · obtain ⟨j, rfl⟩ : ∃ j, i = j + 1 := ⟨i - 1, by omega⟩
      exact (leave_more A s d g cap j w0 h0 hi (by omega)).mono fun e w' ⟨h1, h2, h3⟩ => ⟨some ⟨d.fr (j + 1), d.kn (j + 1), true, d.le (j + 1)⟩, _, _, h1, Tr.up hi hn, h2, h3⟩
  clear hX
  go_enter Tryd.func128, Tryd.ntmps128
  go_wp2_with fail
  obtain ⟨w0, hw0⟩ : ∃ w0, w0 = w.alloc (Obj.cells #[.int .i64 0, .int .i64 0, .bool false, .int .i64 0] 130) := ⟨_, rfl⟩
  have hD0 : Dm w0 A s d (.slice (some ⟨g, 0, none⟩) (i + 1) cap) := by rw [hw0]; exact hD.alloc _
  have B0 : Hid (Kd A w w0) := by rw [hw0]; exact (Kd.refl _ _).alloc hA _
  have R0 : Hid (w0.heap[w.heap.size]? = some (Obj.cells #[.int .i64 0, .int .i64 0, .bool false, .int .i64 0] 130 (0, 0))) := by rw [hw0]; exact World.alloc_heap_new w _
  rw [← hw0]
  obtain ⟨R, hR⟩ : ∃ R, R = w.heap.size := ⟨_, rfl⟩
  rw [← hR] at R0 hA ⊢
  have hRw : w.heap.size ≤ R := by omega
  clear hw0 hD hR
  obtain ⟨k0, k1, k2, k3, kf, hg, hgz⟩ := hD0.st hi him
  rw [hn] at k2
  have k2' : w0.cell? ⟨g, i * 4 + 2, none⟩ = some (.int .i64 8) := k2
  have HD := hideP hD0
  clear hD0 k2
  refine (top_any A s d g cap i _ HD.out hi (by omega)).mono ?_
  rintro e w1 ⟨rfl, rfl⟩
  go_wp2_with fail
  refine (LV.out _ HD.out.drew).mono ?_
  rintro e w2 ⟨o, d', v', rfl, ht, h2, b2⟩
  have R2 : Hid (w2.heap[R]? = some (Obj.cells #[.int .i64 0, .int .i64 0, .bool false, .int .i64 0] 130 (0, 0))) := b2.at (k := R) R0.out (by omega) (by decide)
  have B2 : Hid (Kd A w w2) := (B0.out.drew).trans b2
  have D2 := hideP h2
  have HT := hideP ht
  obtain ⟨u0, u1, u2, u3, uf⟩ := four_cells R2.out
  clear LV h2 b2 HD R0 B0 k0 k1 k3 kf k2' ht
  obtain ⟨f, t, u, l, hmv⟩ : ∃ f t u l, mvO o = mvV f t u l := by
    cases o with
    | none => exact ⟨_, _, _, _, rfl⟩
    | some x => exact ⟨_, _, _, _, rfl⟩
  have HMV := hideP hmv
  rw [hmv]
  clear hmv
  unfold mvV
  go_wp2
  have DG := hideP (D2.out.four R2.out hA (.int .i64 (f : Int)) (.int .i64 (t : Int)) (.bool u) (.int .i64 (l : Int)))
  have KG := hideP (B2.out.four hRw hA (.int .i64 (f : Int)) (.int .i64 (t : Int)) (.bool u) (.int .i64 (l : Int)))
  obtain ⟨q0, q1, q2, q3, _⟩ := four_cells (four_at R2.out (.int .i64 (f : Int)) (.int .i64 (t : Int)) (.bool u) (.int .i64 (l : Int)))
  change bodyPost _ _ _ _ _ (Four w2 R (.int .i64 (f : Int)) (.int .i64 (t : Int)) (.bool u) (.int .i64 (l : Int)))
  obtain ⟨w4, hw4⟩ : ∃ w4, w4 = Four w2 R (.int .i64 (f : Int)) (.int .i64 (t : Int)) (.bool u) (.int .i64 (l : Int)) := ⟨_, rfl⟩
  rw [← hw4] at DG KG q0 q1 q2 q3 ⊢
  refine bodyPost_ret (v := .tuple #[mvV f t u l, .bool o.isSome]) (by simp [results, Tryd.results128, go_sem, q0, q1, q2, q3, mvV]) rfl ⟨o, d', v', by rw [HMV.out], HT.out, DG.out, KG.out⟩

theorem has_v (v : Bool) (p : Nat) (a b : Int) (w : World) (hp : p < 2 ^ 64) (h : decide (p &&& pbit a b ≠ 0) = v) :
    Calls Tryd.prog 65 #[.int .u64 (p : Int), .int .i64 a, .int .i64 b] w fun e w' => e = .returned (.bool v) ∧ w' = w := by
  rw [← h]; exact has_any p a b w hp
/-- what stands where one looks on: the world with the next one to look at -/
structure Lk (w W : World) (A s R g cap i x : Nat) (d : Dv) : Prop where
  D : Dm W A s (d.skip i x) (.slice (some ⟨g, 0, none⟩) (i + 1) cap)
  K : Kd A w W
  R : W.heap[R]? = some (Obj.cells #[.int .i64 0, .int .i64 0, .bool false, .int .i64 0] 130 (0, 0))
theorem Lk.below {w W W' : World} {A s R g cap i x : Nat} {d : Dv} (h : Lk w W A s R g cap i x d) (hb : Below W.heap.size W W') : Lk w W' A s R g cap i x d :=
  ⟨h.D.below hb, h.K.trans (Kd.low hb h.D.lt), (hb.block _ (Array.getElem?_eq_some_iff.1 h.R).1).trans h.R⟩

set_option maxHeartbeats 3200000 in
theorem look_on (E : Nat → Nat → Prop) (A s : Nat) (d : Dv) (v : Value) (w : World) (hD : Dm w A s d v) (hs : s < 2 ^ 64) (hI : Inv E d) (hX : Aux d) (i : Nat) (hi : d.m = i + 1) (x : Nat) (hn : d.nx i = x) (hx : x < 8) (b1 b2 b3 : Bool) (hb1 : decide (s &&& pbit (d.kn i : Int) (x : Int) ≠ 0) = b1) (hb2 : ((x : Int) == (d.fr i : Int)) = b2) (hb3 : decide ((d.tu (d.kn i) : Int) < (d.tu x : Int)) = b3)
    (hno : b1 = false ∨ b2 = true ∨ b3 = true → ∃ d', Tr E d none d' ∧ ∀ W v, Dm W A s (d.skip i x) v → Dm W A s d' v)
    (hdn : b1 = true → b2 = false → d.tu x = 0 → Tr E d (some ⟨d.kn i, x, false, 0⟩) ((d.skip i x).push x (d.kn i)))
    (hbk : b1 = true → b2 = false → b3 = false → 0 < d.tu x → Tr E d (some ⟨d.kn i, x, false, 0⟩) (d.look i x)) :
    Calls Tryd.prog 128 #[.pointer (some ⟨A, 0, none⟩)] w (Looked E A s d w) := by
  have hm8 : d.m ≤ 8 := by have := hX.mcn; have := hX.sum; omega
  obtain ⟨g, cap, rfl, _, _⟩ := hD.own.form (by omega)
  rw [hi] at hD
  have him : i < d.m := by omega
  have hA := hD.lt
  have hk8 := (hI.knk i him).1
  have HB1 := hideP hb1
  have HB2 := hideP hb2
  have HB3 := hideP hb3
  have hc8 : d.cn ≤ 8 := by have := hX.sum; omega
  have HNO := hideP hno
  have HDN := hideP hdn
  have HBK := hideP hbk
  clear hX hI hno hdn hbk hb1 hb2 hb3
  go_enter Tryd.func128, Tryd.ntmps128
  go_wp2_with fail
  obtain ⟨w0, hw0⟩ : ∃ w0, w0 = w.alloc (Obj.cells #[.int .i64 0, .int .i64 0, .bool false, .int .i64 0] 130) := ⟨_, rfl⟩
  have hD0 : Dm w0 A s d (.slice (some ⟨g, 0, none⟩) (i + 1) cap) := by rw [hw0]; exact hD.alloc _
  have B0 : Hid (Kd A w w0) := by rw [hw0]; exact (Kd.refl _ _).alloc hA _
  have R0 : Hid (w0.heap[w.heap.size]? = some (Obj.cells #[.int .i64 0, .int .i64 0, .bool false, .int .i64 0] 130 (0, 0))) := by rw [hw0]; exact World.alloc_heap_new w _
  rw [← hw0]
  obtain ⟨R, hR⟩ : ∃ R, R = w.heap.size := ⟨_, rfl⟩
  rw [← hR] at R0 hA ⊢
  have hRw : w.heap.size ≤ R := by omega
  clear hw0 hD hR
  obtain ⟨k0, k1, k2, k3, kf, hg, hgz⟩ := hD0.st hi him
  rw [hn] at k2
  have k2' : w0.cell? ⟨g, i * 4 + 2, none⟩ = some (.int .i64 (x : Int)) := k2
  have L1 : Hid (Lk w (w0.setCell ⟨g, i * 4 + 2, none⟩ (.int .i64 ((x : Int) + 1))) A s R g cap i x d) := by
    have h1 := hD0.next hi hg (x + 1)
    have e : ((x + 1 : Nat) : Int) = (x : Int) + 1 := by omega
    rw [e] at h1
    obtain ⟨_, cs, fr, hb⟩ := own_step (hi ▸ hD0.own)
    exact ⟨⟨h1.I, h1.own⟩, B0.out.setG hD0 hi _ _, (Below.heap_setCell _ _ _ _ (by show R ≠ g; intro e; subst e; rw [R0.out] at hb; cases hb)).trans R0.out⟩
  have HD := hideP hD0
  have hne8 : ((x : Int) == 8) = false := by simp; omega
  have hx9 : (x : Int) < 8 := by omega
  have hk9 : (d.kn i : Int) < 8 := by omega
  clear hD0 k2
  refine (top_any A s d g cap i _ HD.out hi (by omega)).mono ?_
  rintro e w1 ⟨rfl, rfl⟩
  go_wp2
  obtain ⟨w2, hw2⟩ : ∃ w2, w2 = w0.setCell ⟨g, i * 4 + 2, none⟩ (.int .i64 ((x : Int) + 1)) := ⟨_, rfl⟩
  rw [← hw2] at L1 ⊢
  clear hw2 k0 k1 k3 kf k2' HD hne8 R0 B0
  obtain ⟨k0, k1, _, k3, kf, _, hgz2⟩ := L1.out.D.st hi him
  have k0' : w2.cell? ⟨g, i * 4, none⟩ = some (.int .i64 (d.kn i : Int)) := k0
  have k1' : w2.cell? ⟨g, i * 4 + 1, none⟩ = some (.int .i64 (d.fr i : Int)) := k1
  have c0 := L1.out.D.c0
  have ct : w2.cell? ⟨A, 2 + x, none⟩ = some (.int .i64 (d.tu x : Int)) := L1.out.D.ct hx
  have ck : w2.cell? ⟨A, 2 + d.kn i, none⟩ = some (.int .i64 (d.tu (d.kn i) : Int)) := L1.out.D.ct hk8
  clear k0 k1 k3
  have hne9 : Nonempty (Cls (Below w2.heap.size w2)) := ⟨⟨w2, Below.refl _ _⟩⟩
  have p0 : ∀ u : Cls (Below w2.heap.size w2), u.w.cell? ⟨g, i * 4, none⟩ = some (.int .i64 (d.kn i : Int)) := fun u => (u.ok.cell (p := ⟨g, i * 4, none⟩) hgz2).trans k0'
  have p1 : ∀ u : Cls (Below w2.heap.size w2), u.w.cell? ⟨g, i * 4 + 1, none⟩ = some (.int .i64 (d.fr i : Int)) := fun u => (u.ok.cell (p := ⟨g, i * 4 + 1, none⟩) hgz2).trans k1'
  have p2 : ∀ u : Cls (Below w2.heap.size w2), u.w.cell? ⟨A, 0, none⟩ = some (.int .u64 (s : Int)) := fun u => (u.ok.cell (p := ⟨A, 0, none⟩) L1.out.D.lt).trans c0
  have p3 : ∀ u : Cls (Below w2.heap.size w2), u.w.cell? ⟨A, 2 + x, none⟩ = some (.int .i64 (d.tu x : Int)) := fun u => (u.ok.cell (p := ⟨A, 2 + x, none⟩) L1.out.D.lt).trans ct
  have p4 : ∀ u : Cls (Below w2.heap.size w2), u.w.cell? ⟨A, 2 + d.kn i, none⟩ = some (.int .i64 (d.tu (d.kn i) : Int)) := fun u => (u.ok.cell (p := ⟨A, 2 + d.kn i, none⟩) L1.out.D.lt).trans ck
  have CH : Hid (∀ u : Cls (Below w2.heap.size w2), Calls Tryd.prog 65 #[.int .u64 (s : Int), .int .i64 (d.kn i : Int), .int .i64 (x : Int)] u.w fun e w'' => e = .returned (.bool b1) ∧ ∃ u2 : Cls (Below w2.heap.size w2), w'' = u2.w) := fun u =>
    Calls.cls (D := Below w2.heap.size w2) ((has_v b1 s (d.kn i : Int) (x : Int) u.w hs HB1.out).mono fun e w3 ⟨he, hb3⟩ => ⟨he, hb3 ▸ u.ok⟩)
  have e2 := HB2.out
  have e3 := HB3.out
  refine wp_region_cls (Below w2.heap.size w2) (by kernel_rfl) (by kernel_rfl) (Below.refl _ _).drew.drew ?_
  cases b1 with
  | false =>
    repeat (go_big_quiet_step (first | (go_at_call 65; refine CH.out _)))
    refine wpQuiet_nil ?_
    intro wz hw'
    have hz : Below w2.heap.size w2 wz := by obtain ⟨u, e⟩ := hw'; rw [e]; exact u.ok
    clear hw' p0 p1 p2 p3 p4 CH hne9 e2 e3 ck
    have LZ := hideP (L1.out.below hz)
    clear hz L1 k0' k1' ct kf c0
    obtain ⟨u0, u1, u2, u3, uf⟩ := four_cells LZ.out.R
    obtain ⟨d', hT, hM⟩ := HNO.out (by simp)
    have HT := hideP hT
    have HM := hideP hM
    clear hT hM HNO HDN HBK
    go_wp2
    have DG := hideP ((HM.out _ _ LZ.out.D).four LZ.out.R hA (.int .i64 0) (.int .i64 0) (.bool false) (.int .i64 0))
    have KG := hideP (LZ.out.K.four hRw hA (.int .i64 0) (.int .i64 0) (.bool false) (.int .i64 0))
    obtain ⟨q0, q1, q2, q3, _⟩ := four_cells (four_at LZ.out.R (.int .i64 0) (.int .i64 0) (.bool false) (.int .i64 0))
    refine bodyPost_ret (v := .tuple #[mvV 0 0 false 0, .bool false]) (by unfold Four at q0 q1 q2 q3; simp [results, Tryd.results128, go_sem, q0, q1, q2, q3, mvV]) rfl ⟨none, d', .slice (some ⟨g, 0, none⟩) (i + 1) cap, rfl, HT.out, ?_, ?_⟩
    · repeat (first | exact DG.out | apply Dm.drew)
    · repeat (first | exact KG.out | apply Kd.drew)
  | true =>
    cases b2 with
    | true =>
      have hxf : (d.fr i : Int) = (x : Int) := by have := eq_of_beq e2; omega
      rw [hxf] at p1
      clear e2 e3
      have e2 : Hid True := trivial
      have e3 := e2
      repeat (go_big_quiet_step (first | (go_at_call 65; refine CH.out _)))
      refine wpQuiet_nil ?_
      intro wz hw'
      have hz : Below w2.heap.size w2 wz := by obtain ⟨u, e⟩ := hw'; rw [e]; exact u.ok
      clear hw' p0 p1 p2 p3 p4 CH hne9 e2 e3 ck
      have LZ := hideP (L1.out.below hz)
      clear hz L1 k0' k1' ct kf c0
      obtain ⟨u0, u1, u2, u3, uf⟩ := four_cells LZ.out.R
      obtain ⟨d', hT, hM⟩ := HNO.out (by simp)
      have HT := hideP hT
      have HM := hideP hM
      clear hT hM HNO HDN HBK
      go_wp2
      have DG := hideP ((HM.out _ _ LZ.out.D).four LZ.out.R hA (.int .i64 0) (.int .i64 0) (.bool false) (.int .i64 0))
      have KG := hideP (LZ.out.K.four hRw hA (.int .i64 0) (.int .i64 0) (.bool false) (.int .i64 0))
      obtain ⟨q0, q1, q2, q3, _⟩ := four_cells (four_at LZ.out.R (.int .i64 0) (.int .i64 0) (.bool false) (.int .i64 0))
      refine bodyPost_ret (v := .tuple #[mvV 0 0 false 0, .bool false]) (by unfold Four at q0 q1 q2 q3; simp [results, Tryd.results128, go_sem, q0, q1, q2, q3, mvV]) rfl ⟨none, d', .slice (some ⟨g, 0, none⟩) (i + 1) cap, rfl, HT.out, ?_, ?_⟩
      · repeat (first | exact DG.out | apply Dm.drew)
      · repeat (first | exact KG.out | apply Kd.drew)
    | false =>
      cases b3 with
      | true =>
        have e4 : (d.tu (d.kn i) : Int) < (d.tu x : Int) := of_decide_eq_true e3
        have e5 : d.tu (d.kn i) < d.tu x := by omega
        repeat (go_big_quiet_step (first | (go_at_call 65; refine CH.out _)))
        refine wpQuiet_nil ?_
        intro wz hw'
        have hz : Below w2.heap.size w2 wz := by obtain ⟨u, e⟩ := hw'; rw [e]; exact u.ok
        clear hw' e4 e5 p0 p1 p2 p3 p4 CH hne9 e2 e3 ck
        have LZ := hideP (L1.out.below hz)
        clear hz L1 k0' k1' ct kf c0
        obtain ⟨u0, u1, u2, u3, uf⟩ := four_cells LZ.out.R
        obtain ⟨d', hT, hM⟩ := HNO.out (by simp)
        have HT := hideP hT
        have HM := hideP hM
        clear hT hM HNO HDN HBK
        go_wp2
        have DG := hideP ((HM.out _ _ LZ.out.D).four LZ.out.R hA (.int .i64 0) (.int .i64 0) (.bool false) (.int .i64 0))
        have KG := hideP (LZ.out.K.four hRw hA (.int .i64 0) (.int .i64 0) (.bool false) (.int .i64 0))
        obtain ⟨q0, q1, q2, q3, _⟩ := four_cells (four_at LZ.out.R (.int .i64 0) (.int .i64 0) (.bool false) (.int .i64 0))
        refine bodyPost_ret (v := .tuple #[mvV 0 0 false 0, .bool false]) (by unfold Four at q0 q1 q2 q3; simp [results, Tryd.results128, go_sem, q0, q1, q2, q3, mvV]) rfl ⟨none, d', .slice (some ⟨g, 0, none⟩) (i + 1) cap, rfl, HT.out, ?_, ?_⟩
        · repeat (first | exact DG.out | apply Dm.drew)
        · repeat (first | exact KG.out | apply Kd.drew)
      | false =>
        have e4 : ¬ (d.tu (d.kn i) : Int) < (d.tu x : Int) := of_decide_eq_false e3
        have e5 : ¬ d.tu (d.kn i) < d.tu x := by omega
        repeat (go_big_quiet_step (first | (go_at_call 65; refine CH.out _)))
        refine wpQuiet_nil ?_
        intro wz hw'
        have hz : Below w2.heap.size w2 wz := by obtain ⟨u, e⟩ := hw'; rw [e]; exact u.ok
        clear hw' p0 p1 p2 p3 p4 CH hne9 e2 e3 e4 e5 ck
        have LZ := hideP (L1.out.below hz)
        have kz3 : wz.cell? ⟨g, i * 4 + 3, none⟩ = some (.int .i64 (d.le i : Int)) := (LZ.out.D.st hi him).2.2.2.1
        have kz0 : wz.cell? ⟨g, i * 4, none⟩ = some (.int .i64 (d.kn i : Int)) := (LZ.out.D.st hi him).1
        have kzt : wz.cell? ⟨A, 2 + x, none⟩ = some (.int .i64 (d.tu x : Int)) := LZ.out.D.ct hx
        have kzf := fun j => (hz.frozen (p := ⟨g, j, none⟩) hgz2).trans (kf j)
        have hgzz : g < wz.heap.size := Nat.lt_of_lt_of_le hgz2 hz.size
        clear hz L1 k0' k1' ct kf c0 HNO
        have hAz := LZ.out.D.lt
        have hM0 : ∃ M, M = wz.heap.size := ⟨_, rfl⟩
        obtain ⟨wm, hwm⟩ : ∃ wm, wm = wz.alloc (Obj.cells #[.int .i64 (d.kn i : Int), .int .i64 (x : Int), .bool false, .int .i64 0] 130) := ⟨_, rfl⟩
        have LM : Hid (Lk w wm A s R g cap i x d) := by rw [hwm]; exact LZ.out.below (below_one _ _)
        have MM : Hid (wm.heap[wz.heap.size]? = some (Obj.cells #[.int .i64 (d.kn i : Int), .int .i64 (x : Int), .bool false, .int .i64 0] 130 (0, 0))) := by rw [hwm]; exact World.alloc_heap_new wz _
        have hMA : A < wz.heap.size := hAz
        have HRM : Hid (R < wz.heap.size) := (Array.getElem?_eq_some_iff.1 LZ.out.R).1
        by_cases htz : d.tu x = 0
        · have HTD := hideP (HDN.out rfl rfl htz)
          have HEN : Hid (∀ w3, Dm w3 A s (d.skip i x) (.slice (some ⟨g, 0, none⟩) (i + 1) cap) → Calls Tryd.prog 127 #[.pointer (some ⟨A, 0, none⟩), .int .i64 (x : Int), .int .i64 (d.kn i : Int)] w3 fun e w' => e = .returned (.tuple #[]) ∧ ∃ v', Dm w' A s ((d.skip i x).push x (d.kn i)) v' ∧ Kd A w3 w') := fun w3 h => enter_any A s (d.skip i x) _ x (d.kn i) w3 h hx hk8 hm8 hc8
          rw [htz] at kzt
          have kzt' : wz.cell? ⟨A, 2 + x, none⟩ = some (.int .i64 0) := kzt
          clear kzt htz HDN HBK
          go_wp2_with fail
          rw [← hwm]
          refine (HEN.out _ LM.out.D).mono ?_
          rintro e w5 ⟨rfl, v5, h5, b5⟩
          have D5 := hideP h5
          have K5 := hideP (LM.out.K.trans b5)
          have R5 := hideP (b5.at LM.out.R (by omega) (by decide))
          have M5 := hideP (b5.at MM.out (by omega) (by decide))
          obtain ⟨u0, u1, u2, u3, uf⟩ := four_cells R5.out
          obtain ⟨m0, m1, m2, m3, _⟩ := four_cells M5.out
          clear h5 b5 hwm LM MM HEN LZ kz3 kz0 kzt' kzf
          go_wp2
          have DG := hideP (D5.out.four R5.out hA (.int .i64 (d.kn i : Int)) (.int .i64 (x : Int)) (.bool false) (.int .i64 0))
          have KG := hideP (K5.out.four hRw hA (.int .i64 (d.kn i : Int)) (.int .i64 (x : Int)) (.bool false) (.int .i64 0))
          obtain ⟨q0, q1, q2, q3, _⟩ := four_cells (four_at R5.out (.int .i64 (d.kn i : Int)) (.int .i64 (x : Int)) (.bool false) (.int .i64 0))
          refine bodyPost_ret (v := .tuple #[mvV (d.kn i) x false 0, .bool true]) (by unfold Four at q0 q1 q2 q3; simp [results, Tryd.results128, go_sem, q0, q1, q2, q3, mvV]) rfl ⟨some ⟨d.kn i, x, false, 0⟩, _, v5, rfl, HTD.out, ?_, ?_⟩
          · repeat (first | exact DG.out | apply Dm.drew)
          · repeat (first | exact KG.out | apply Kd.drew)
        · have hne0 : ((d.tu x : Int) == 0) = false := by simp; omega
          have HTD := hideP (HBK.out rfl rfl rfl (by omega))
          have hgM : g ≠ wz.heap.size := by omega
          have D5 : Hid (Dm (wm.setCell ⟨g, i * 4 + 3, none⟩ (.int .i64 ((min (d.le i) (d.tu x) : Nat) : Int))) A s (d.look i x) (.slice (some ⟨g, 0, none⟩) (i + 1) cap)) := by
            have h1 := LM.out.D.least (i := i) hi hg (min (d.le i) (d.tu x))
            exact ⟨h1.I, h1.own⟩
          have K5 : Hid (Kd A w (wm.setCell ⟨g, i * 4 + 3, none⟩ (.int .i64 ((min (d.le i) (d.tu x) : Nat) : Int)))) := LM.out.K.setG LM.out.D hi _ _
          have HGR : Hid (R ≠ g) := by
            obtain ⟨_, cs, fr, hb⟩ := own_step (hi ▸ LM.out.D.own)
            show R ≠ g
            intro e; subst e; rw [LM.out.R] at hb; cases hb
          have R5 : Hid ((wm.setCell ⟨g, i * 4 + 3, none⟩ (.int .i64 ((min (d.le i) (d.tu x) : Nat) : Int))).heap[R]? = some (Obj.cells #[.int .i64 0, .int .i64 0, .bool false, .int .i64 0] 130 (0, 0))) := (Below.heap_setCell _ _ _ _ (by exact HGR.out)).trans LM.out.R
          have M5 : Hid ((wm.setCell ⟨g, i * 4 + 3, none⟩ (.int .i64 ((min (d.le i) (d.tu x) : Nat) : Int))).heap[wz.heap.size]? = some (Obj.cells #[.int .i64 (d.kn i : Int), .int .i64 (x : Int), .bool false, .int .i64 0] 130 (0, 0))) := (Below.heap_setCell _ _ _ _ (by exact fun e => hgM e.symm)).trans MM.out
          have km3 : wm.cell? ⟨g, i * 4 + 3, none⟩ = some (.int .i64 (d.le i : Int)) := (LM.out.D.st hi him).2.2.2.1
          have kmt : wm.cell? ⟨A, 2 + x, none⟩ = some (.int .i64 (d.tu x : Int)) := LM.out.D.ct hx
          have kmf : ∀ j, wm.frozen? ⟨g, j, none⟩ = false := (LM.out.D.st hi him).2.2.2.2.1
          clear HDN HBK
          by_cases hmn : d.tu x < d.le i
          · have em : min (d.le i) (d.tu x) = d.tu x := by omega
            rw [em] at D5 K5 R5 M5
            clear em
            obtain ⟨u0, u1, u2, u3, uf⟩ := four_cells R5.out
            obtain ⟨m0, m1, m2, m3, _⟩ := four_cells M5.out
            go_wp2
            rw [← hwm]
            clear hwm kz3 kz0 kzt kzf LZ LM MM
            go_region
            go_wp2
            all_goals first | (exfalso; omega) | skip
            all_goals
              have DG := hideP (D5.out.four R5.out hA (.int .i64 (d.kn i : Int)) (.int .i64 (x : Int)) (.bool false) (.int .i64 0))
              have KG := hideP (K5.out.four hRw hA (.int .i64 (d.kn i : Int)) (.int .i64 (x : Int)) (.bool false) (.int .i64 0))
              obtain ⟨q0, q1, q2, q3, _⟩ := four_cells (four_at R5.out (.int .i64 (d.kn i : Int)) (.int .i64 (x : Int)) (.bool false) (.int .i64 0))
              refine bodyPost_ret (v := .tuple #[mvV (d.kn i) x false 0, .bool true]) (by unfold Four at q0 q1 q2 q3; simp [results, Tryd.results128, go_sem, q0, q1, q2, q3, mvV]) rfl ⟨some ⟨d.kn i, x, false, 0⟩, d.look i x, .slice (some ⟨g, 0, none⟩) (i + 1) cap, rfl, HTD.out, ?_, ?_⟩
              · repeat (first | exact DG.out | apply Dm.drew)
              · repeat (first | exact KG.out | apply Kd.drew)
          · have em : min (d.le i) (d.tu x) = d.le i := by omega
            rw [em] at D5 K5 R5 M5
            clear em
            obtain ⟨u0, u1, u2, u3, uf⟩ := four_cells R5.out
            obtain ⟨m0, m1, m2, m3, _⟩ := four_cells M5.out
            go_wp2
            rw [← hwm]
            clear hwm kz3 kz0 kzt kzf LZ LM MM
            go_region
            go_wp2
            all_goals first | (exfalso; omega) | skip
            all_goals
              have DG := hideP (D5.out.four R5.out hA (.int .i64 (d.kn i : Int)) (.int .i64 (x : Int)) (.bool false) (.int .i64 0))
              have KG := hideP (K5.out.four hRw hA (.int .i64 (d.kn i : Int)) (.int .i64 (x : Int)) (.bool false) (.int .i64 0))
              obtain ⟨q0, q1, q2, q3, _⟩ := four_cells (four_at R5.out (.int .i64 (d.kn i : Int)) (.int .i64 (x : Int)) (.bool false) (.int .i64 0))
              refine bodyPost_ret (v := .tuple #[mvV (d.kn i) x false 0, .bool true]) (by unfold Four at q0 q1 q2 q3; simp [results, Tryd.results128, go_sem, q0, q1, q2, q3, mvV]) rfl ⟨some ⟨d.kn i, x, false, 0⟩, d.look i x, .slice (some ⟨g, 0, none⟩) (i + 1) cap, rfl, HTD.out, ?_, ?_⟩
              · repeat (first | exact DG.out | apply Dm.drew)
              · repeat (first | exact KG.out | apply Kd.drew)

theorem look_any (E : Nat → Nat → Prop) (A s : Nat) (d : Dv) (v : Value) (w : World) (hD : Dm w A s d v) (hs : s < 2 ^ 64) (hE : ∀ x y : Nat, decide (s &&& pbit (x : Int) (y : Int) ≠ 0) = true ↔ E x y) (hI : Inv E d) (hX : Aux d) (hm : 0 < d.m) :
    Calls Tryd.prog 128 #[.pointer (some ⟨A, 0, none⟩)] w (Looked E A s d w) := by
  obtain ⟨i, hi⟩ : ∃ i, d.m = i + 1 := ⟨d.m - 1, by omega⟩
  obtain ⟨q1, q2, q3, q4, q5, q6⟩ := hI.knk i (by omega)
  by_cases hn : d.nx i = 8
  · exact look_left E A s d v w hD hX i hi hn
  · have hx : d.nx i < 8 := by omega
    have same : ∀ W v, d.tu (d.kn i) < d.tu (d.nx i) → Dm W A s (d.skip i (d.nx i)) v → Dm W A s (d.look i (d.nx i)) v := fun W v ht h => by
      refine ⟨h.I, ?_⟩
      have e : slist (d.look i (d.nx i)) (d.look i (d.nx i)).m = slist (d.skip i (d.nx i)) (d.skip i (d.nx i)).m := by
        unfold slist
        show (List.range (d.m * 4)).map _ = (List.range (d.m * 4)).map _
        apply List.map_congr_left
        intro j hj
        have e2 : upd d.le i (min (d.le i) (d.tu (d.nx i))) (j / 4) = d.le (j / 4) := by
          by_cases e : j / 4 = i
          · rw [e, upd_at]; omega
          · rw [upd_no _ _ e]
        unfold scell
        show Value.int .i64 (((if j % 4 = 0 then d.kn (j / 4) else if j % 4 = 1 then d.fr (j / 4) else if j % 4 = 2 then upd d.nx i (d.nx i + 1) (j / 4) else upd d.le i (min (d.le i) (d.tu (d.nx i))) (j / 4) : Nat)) : Int) = _
        rw [e2]; rfl
      rw [e]; exact h.own
    refine look_on E A s d v w hD hs hI hX i hi (d.nx i) rfl hx _ _ _ rfl rfl rfl ?_ ?_ ?_
    · intro h
      by_cases hEx : E (d.kn i) (d.nx i)
      · by_cases hf : d.nx i = d.fr i
        · exact ⟨_, Tr.skip hi rfl hx (Or.inr hf), fun _ _ h => h⟩
        · have ht : d.tu (d.kn i) < d.tu (d.nx i) := by
            rcases h with h | h | h
            · rw [(hE _ _).2 hEx] at h; cases h
            · have := eq_of_beq h; omega
            · have := of_decide_eq_true h; omega
          exact ⟨_, Tr.later hi rfl hx hEx hf ht, fun W v => same W v ht⟩
      · exact ⟨_, Tr.skip hi rfl hx (Or.inl hEx), fun _ _ h => h⟩
    · intro h1 h2 ht
      exact Tr.down hi rfl hx ((hE _ _).1 h1) (fun e => by rw [← e] at h2; simp at h2) ht
    · intro h1 h2 h3 h0
      have := of_decide_eq_false h3
      exact Tr.back hi rfl hx ((hE _ _).1 h1) (fun e => by rw [← e] at h2; simp at h2) h0 (by omega)

end Go.Proofs.YtmkbeiiifikbgaaDoor
