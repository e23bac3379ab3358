/- Walks of impl.dive's methods: top, leave. -/
import Derived.Test.YtapnbnapfapneaaWDive
import Derived.Deep.RegionWith
namespace Go.Proofs.Ytapnbnapfapneaa
open Go.RowKit
set_option linter.unusedVariables false

/-- a region of which all ways end alike: what follows is asked once -/
theorem wp_once {P : Program} {c : Code} {Q' : Exit → Act → World → Prop} {K : Act → World → Prop} {a : Act} {w : World} {aa : Act} {wz : World} (h : c.wp P (Exit.then (fun a' w' => a' = aa ∧ w' = wz) Q') a w) (hk : K aa wz) : c.wp P (Exit.then K Q') a w :=
  Code.wp_mono (fun e a' w' h => by
    cases e with
    | normal => obtain ⟨rfl, rfl⟩ := h; exact hk
    | _ => exact h) h
set_option maxHeartbeats 400000 in
theorem top_any (A s : Nat) (d : Dv) (g cap i : Nat) (w : World) (hD : Dm w A s d (.slice (some ⟨g, 0, none⟩) (i + 1) cap)) (hm : d.m = i + 1) (hi : i ≤ 8) :
    Calls Try.prog 36 #[.pointer (some ⟨A, 0, none⟩)] w fun e w' => e = .returned (.pointer (some ⟨g, i * 4, none⟩)) ∧ w' = w.drew := by
  have c1 := hD.c1
  clear hD hm
  go_enter Try.func36, Try.ntmps36
  go_wp2
  go_region
  go_wp2
  go_ret
  exact ⟨rfl, rfl⟩

theorem scell0 (d : Dv) (q : Nat) : scell d (q * 4) = .int .i64 (d.kn q : Int) := by
  unfold scell; rw [if_pos (by omega), show q * 4 / 4 = q by omega]
theorem scell1 (d : Dv) (q : Nat) : scell d (q * 4 + 1) = .int .i64 (d.fr q : Int) := by
  unfold scell; rw [if_neg (by omega), if_pos (by omega), show (q * 4 + 1) / 4 = q by omega]
theorem scell2 (d : Dv) (q : Nat) : scell d (q * 4 + 2) = .int .i64 (d.nx q : Int) := by
  unfold scell; rw [if_neg (by omega), if_neg (by omega), if_pos (by omega), show (q * 4 + 2) / 4 = q by omega]
theorem scell3 (d : Dv) (q : Nat) : scell d (q * 4 + 3) = .int .i64 (d.le q : Int) := by
  unfold scell; rw [if_neg (by omega), if_neg (by omega), if_neg (by omega), show (q * 4 + 3) / 4 = q by omega]
theorem Dm.st {wr : World} {A s : Nat} {d : Dv} {g n cap : Nat} (h : Dm wr A s d (.slice (some ⟨g, 0, none⟩) n cap)) (hn : d.m = n) {q : Nat} (hq : q < d.m) :
    wr.cell? ⟨g, q * 4, none⟩ = some (.int .i64 (d.kn q : Int)) ∧ wr.cell? ⟨g, q * 4 + 1, none⟩ = some (.int .i64 (d.fr q : Int)) ∧ wr.cell? ⟨g, q * 4 + 2, none⟩ = some (.int .i64 (d.nx q : Int)) ∧ wr.cell? ⟨g, q * 4 + 3, none⟩ = some (.int .i64 (d.le q : Int)) ∧ (∀ j, wr.frozen? ⟨g, j, none⟩ = false) ∧ A + 1 ≤ g ∧ g < wr.heap.size := by
  subst hn
  have ho := h.own
  obtain ⟨g', cap', e, h1, h2⟩ := ho.form (by omega)
  simp only [Value.slice.injEq, Option.some.injEq, Addr.mk.injEq, and_true, true_and] at e
  obtain ⟨rfl, rfl⟩ := e
  refine ⟨?_, ?_, ?_, ?_, fun j => ho.frozenAt j, h1, h2⟩
  · rw [ho.cellAt _ (by omega), slist_get _ _ _ (by omega), scell0]
  · rw [ho.cellAt _ (by omega), slist_get _ _ _ (by omega), scell1]
  · rw [ho.cellAt _ (by omega), slist_get _ _ _ (by omega), scell2]
  · rw [ho.cellAt _ (by omega), slist_get _ _ _ (by omega), scell3]
theorem own_shrink {w : World} {base : Nat} {e : TypeId} {size g n cap : Nat} {xs ys : List Value} (h : w.ownsRow base e size (.slice (some ⟨g, 0, none⟩) (n + 1) cap) (n + 1) xs) (hy : xs.take (n * size) = ys) : w.ownsRow base e size (.slice (some ⟨g, 0, none⟩) n cap) n ys := by
  rcases h.2 with ⟨h', _⟩ | ⟨g', cap', cur, h', hb, hg, hnc, hcm, hcs, htake⟩
  · simp at h'
  · simp only [Value.slice.injEq, Option.some.injEq, Addr.mk.injEq, and_true, true_and] at h'
    obtain ⟨rfl, rfl⟩ := h'
    have hl := h.1
    have hmul : (n + 1) * size = n * size + size := by rw [Nat.add_mul]; omega
    refine ⟨by rw [← hy, List.length_take, hl, hmul]; omega, .inr ⟨g, cap, cur, rfl, hb, hg, by omega, hcm, hcs, ?_⟩⟩
    rw [← hy, ← htake, List.take_take, hmul]
    congr 1; omega
theorem slist_take (d : Dv) (n : Nat) : (slist d (n + 1)).take (n * 4) = slist d n := by
  apply List.ext_getElem?
  intro j
  rw [List.getElem?_take]
  by_cases hj : j < n * 4
  · rw [if_pos hj, slist_get _ _ _ (by omega), slist_get _ _ _ hj]
  · rw [if_neg hj, slist_none _ _ _ hj]
/-- the stack without its last -/
theorem Dm.pop {wr : World} {A s : Nat} {d : Dv} {g n cap : Nat} (h : Dm wr A s d (.slice (some ⟨g, 0, none⟩) (n + 1) cap)) (hm : d.m = n + 1) :
    Dm (wr.setCell ⟨A, 1, none⟩ (.slice (some ⟨g, 0, none⟩) n cap)) A s { d with m := n } (.slice (some ⟨g, 0, none⟩) n cap) := by
  have ho := h.own
  rw [hm] at ho
  exact h.set (by omega) _ (dcells (by omega) (by simp) (fun k hk => by rw [if_neg (by omega)]) (by simp)) (own_shrink ho (slist_take d n))
/-- one number of the stack's last is turned -/
theorem Dm.stored {wr : World} {A s : Nat} {d d' : Dv} {g n cap : Nat} (h : Dm wr A s d (.slice (some ⟨g, 0, none⟩) n cap)) (hn : d.m = n) (hn' : d'.m = n) (ht : d'.tu = d.tu) (hc : d'.cn = d.cn) {j : Nat} {x : Nat} (hg : A + 1 ≤ g) (hx : ∀ i, i < n * 4 → (if j = i then Value.int .i64 (x : Int) else scell d i) = scell d' i) :
    Dm (wr.setCell ⟨g, j, none⟩ (.int .i64 (x : Int))) A s d' (.slice (some ⟨g, 0, none⟩) n cap) := by
  have ho := h.own
  rw [hn] at ho
  obtain ⟨o1, g1⟩ := ho.stored j (.int .i64 (x : Int))
  refine ⟨by rw [ht, hc]; exact h.I.other (by show g ≠ A; omega) _, ?_⟩
  rw [hn']
  have e : (slist d n).set j (.int .i64 (x : Int)) = slist d' n := by
    apply List.ext_getElem?
    intro i
    rw [List.getElem?_set, slist_length]
    by_cases hi : i < n * 4
    · rw [slist_get _ _ _ hi, slist_get _ _ _ hi, ← hx i hi]
      by_cases e : j = i
      · rw [if_pos e, if_pos e, if_pos (by omega)]
      · rw [if_neg e, if_neg e]
    · rw [slist_none _ _ _ hi, slist_none _ _ _ hi]
      by_cases e : j = i
      · rw [if_pos e, if_neg (by omega)]
      · rw [if_neg e]
  rw [← e]; exact o1
theorem Dm.least {wr : World} {A s : Nat} {d : Dv} {g i cap : Nat} (h : Dm wr A s d (.slice (some ⟨g, 0, none⟩) (i + 1) cap)) (hm : d.m = i + 1) (hg : A + 1 ≤ g) (x : Nat) :
    Dm (wr.setCell ⟨g, i * 4 + 3, none⟩ (.int .i64 (x : Int))) A s { d with le := upd d.le i x } (.slice (some ⟨g, 0, none⟩) (i + 1) cap) := by
  refine h.stored (d' := { d with le := upd d.le i x }) hm hm rfl rfl hg (fun j hj => ?_)
  by_cases e : i * 4 + 3 = j
  · subst e; rw [if_pos rfl, scell3]; show _ = Value.int .i64 ((upd d.le i x i : Nat) : Int); rw [upd_at]
  · rw [if_neg e]
    unfold scell
    by_cases e3 : j % 4 = 3
    · have hne : j / 4 ≠ i := by omega
      show _ = Value.int .i64 ((((if j % 4 = 0 then d.kn (j / 4) else if j % 4 = 1 then d.fr (j / 4) else if j % 4 = 2 then d.nx (j / 4) else upd d.le i x (j / 4)) : Nat)) : Int)
      rw [upd_no _ _ hne]
    · have : j % 4 = 0 ∨ j % 4 = 1 ∨ j % 4 = 2 := by omega
      rcases this with q | q | q <;> simp [q]
theorem Dm.next {wr : World} {A s : Nat} {d : Dv} {g i cap : Nat} (h : Dm wr A s d (.slice (some ⟨g, 0, none⟩) (i + 1) cap)) (hm : d.m = i + 1) (hg : A + 1 ≤ g) (x : Nat) :
    Dm (wr.setCell ⟨g, i * 4 + 2, none⟩ (.int .i64 (x : Int))) A s { d with nx := upd d.nx i x } (.slice (some ⟨g, 0, none⟩) (i + 1) cap) := by
  refine h.stored (d' := { d with nx := upd d.nx i x }) hm hm rfl rfl hg (fun j hj => ?_)
  by_cases e : i * 4 + 2 = j
  · subst e; rw [if_pos rfl, scell2]; show _ = Value.int .i64 ((upd d.nx i x i : Nat) : Int); rw [upd_at]
  · rw [if_neg e]
    unfold scell
    by_cases e3 : j % 4 = 2
    · have hne : j / 4 ≠ i := by omega
      show _ = Value.int .i64 ((((if j % 4 = 0 then d.kn (j / 4) else if j % 4 = 1 then d.fr (j / 4) else if j % 4 = 2 then upd d.nx i x (j / 4) else d.le (j / 4)) : Nat)) : Int)
      rw [upd_no _ _ hne]
    · have : j % 4 = 0 ∨ j % 4 = 1 ∨ j % 4 = 3 := by omega
      rcases this with q | q | q <;> simp [q]

theorem Dm.alloc {wr : World} {A s : Nat} {d : Dv} {v : Value} (h : Dm wr A s d v) (o : Obj) : Dm (wr.alloc o) A s d v :=
  ⟨h.I.same (Below.heap_alloc _ _ _ h.lt) (by simp), h.own.alloc o⟩
theorem four_cells {W : World} {R : Nat} {t : TypeId} {v0 v1 v2 v3 : Value} (h : W.heap[R]? = some (Obj.cells #[v0, v1, v2, v3] t (0, 0))) : W.cell? ⟨R, 0, none⟩ = some v0 ∧ W.cell? ⟨R, 1, none⟩ = some v1 ∧ W.cell? ⟨R, 2, none⟩ = some v2 ∧ W.cell? ⟨R, 3, none⟩ = some v3 ∧ ∀ j, W.frozen? ⟨R, j, none⟩ = false := by
  refine ⟨?_, ?_, ?_, ?_, fun j => ?_⟩
  · simp [World.cell?, h]
  · simp [World.cell?, h]
  · simp [World.cell?, h]
  · simp [World.cell?, h]
  · simp [World.frozen?, h]
/-- a move as a value -/
def mvV (f t : Nat) (u : Bool) (l : Nat) : Value := .agg #[.int .i64 (f : Int), .int .i64 (t : Int), .bool u, .int .i64 (l : Int)]
/-- four cells of a block turned -/
def Four (W : World) (R : Nat) (a b c e : Value) : World := (((W.setCell ⟨R, 0, none⟩ a).setCell ⟨R, 1, none⟩ b).setCell ⟨R, 2, none⟩ c).setCell ⟨R, 3, none⟩ e
theorem four_other (W : World) (R : Nat) (a b c e : Value) {k : Nat} (h : k ≠ R) : (Four W R a b c e).heap[k]? = W.heap[k]? :=
  (Below.heap_setCell _ _ _ _ (by exact h)).trans ((Below.heap_setCell _ _ _ _ (by exact h)).trans ((Below.heap_setCell _ _ _ _ (by exact h)).trans (Below.heap_setCell _ _ _ _ (by exact h))))
theorem four_size (W : World) (R : Nat) (a b c e : Value) : (Four W R a b c e).heap.size = W.heap.size := by simp [Four]
theorem four_at {W : World} {R : Nat} {t : TypeId} {v0 v1 v2 v3 : Value} (h : W.heap[R]? = some (Obj.cells #[v0, v1, v2, v3] t (0, 0))) (a b c e : Value) : (Four W R a b c e).heap[R]? = some (Obj.cells #[a, b, c, e] t (0, 0)) := by
  have one : ∀ (W : World) (cs : Array Value) (j : Nat) (u : Value), W.heap[R]? = some (Obj.cells cs t (0, 0)) → (W.setCell ⟨R, j, none⟩ u).heap[R]? = some (Obj.cells (cs.setIfInBounds j u) t (0, 0)) := fun W cs j u h => by
    obtain ⟨hl, he⟩ := Array.getElem?_eq_some_iff.1 h
    simp [World.setCell, Array.getElem_modify, hl, he]
  exact one _ _ 3 e (one _ _ 2 c (one _ _ 1 b (one _ _ 0 a h)))
theorem Dm.four {W : World} {A s : Nat} {d : Dv} {v : Value} {R : Nat} {v0 v1 v2 v3 : Value} (hD : Dm W A s d v) (h : W.heap[R]? = some (Obj.cells #[v0, v1, v2, v3] 63 (0, 0))) (hA : A < R) (a b c e : Value) : Dm (Four W R a b c e) A s d v := by
  refine ⟨hD.I.same (four_other _ _ _ _ _ _ (by omega)) (by rw [four_size]; omega), hD.own.1, ?_⟩
  rcases hD.own.2 with q | ⟨g, cap, cur, q1, q2, q3, q4⟩
  · exact Or.inl q
  · exact Or.inr ⟨g, cap, cur, q1, q2, (four_other _ _ _ _ _ _ (fun e => by subst e; rw [h] at q3; cases q3)).trans q3, q4⟩
theorem Kd.four {A : Nat} {w W : World} {R : Nat} (hk : Kd A w W) (hw : w.heap.size ≤ R) (hA : A < R) (a b c e : Value) : Kd A w (Four W R a b c e) := by
  have hb : Below A W (Four W R a b c e) := ((((Below.refl _ _).setCell (p := ⟨R, 0, none⟩) (by show A ≤ R; omega) a).setCell (p := ⟨R, 1, none⟩) (by show A ≤ R; omega) b).setCell (p := ⟨R, 2, none⟩) (by show A ≤ R; omega) c).setCell (p := ⟨R, 3, none⟩) (by show A ≤ R; omega) e
  exact ⟨hk.bel.trans hb, fun k hk1 ha ht => (four_other _ _ _ _ _ _ (by omega)).trans (hk.same k hk1 ha ht)⟩
set_option maxHeartbeats 400000 in
theorem leave_root (A s : Nat) (d : Dv) (g cap : Nat) (w : World) (hD : Dm w A s d (.slice (some ⟨g, 0, none⟩) 1 cap)) (hm : d.m = 1) :
    Calls Try.prog 37 #[.pointer (some ⟨A, 0, none⟩)] w fun e w' => e = .returned (.tuple #[mvV 0 0 false 0, .bool false]) ∧ Dm w' A s { d with m := 0 } (.slice (some ⟨g, 0, none⟩) 0 cap) ∧ Kd A w w' := by
  have hA := hD.lt
  go_enter Try.func37, Try.ntmps37
  go_wp2_with fail
  obtain ⟨w0, hw0⟩ : ∃ w0, w0 = w.alloc (Obj.cells #[.int .i64 0, .int .i64 0, .bool false, .int .i64 0] 63) := ⟨_, rfl⟩
  have hD0 : Dm w0 A s d (.slice (some ⟨g, 0, none⟩) 1 cap) := by rw [hw0]; exact hD.alloc _
  have B0 : Hid (Kd A w w0) := by rw [hw0]; exact (Kd.refl _ _).alloc hA _
  have R0 : Hid (w0.heap[w.heap.size]? = some (Obj.cells #[.int .i64 0, .int .i64 0, .bool false, .int .i64 0] 63 (0, 0))) := by rw [hw0]; exact World.alloc_heap_new w _
  rw [← hw0]
  obtain ⟨R, hR⟩ : ∃ R, R = w.heap.size := ⟨_, rfl⟩
  rw [← hR] at R0 hA ⊢
  have hRw : w.heap.size ≤ R := by omega
  clear hw0 hD hR
  obtain ⟨k0, k1, k2, k3, kf, hg, hgz⟩ := hD0.st hm (q := 0) (by omega)
  have HD := hideP hD0
  have hRz : R < w0.heap.size := (Array.getElem?_eq_some_iff.1 R0.out).1
  clear hD0
  refine (top_any A s d g cap 0 _ HD.out hm (by omega)).mono ?_
  rintro e w1 ⟨rfl, rfl⟩
  have c1 := HD.out.c1
  have fz := HD.out.I.2.1
  go_wp2
  obtain ⟨ww, hww⟩ : ∃ ww, ww = w0.alloc (.cells #[.int .i64 (d.kn 0 : Int), .int .i64 (d.fr 0 : Int), .int .i64 (d.nx 0 : Int), .int .i64 (d.le 0 : Int)] 76) := ⟨_, rfl⟩
  have DW : Hid (Dm ww A s d (.slice (some ⟨g, 0, none⟩) 1 cap)) := by rw [hww]; exact HD.out.alloc _
  have BW : Hid (Kd A w ww) := by rw [hww]; exact B0.out.trans ((Kd.refl _ _).alloc HD.out.lt _)
  have RW : Hid (ww.heap[R]? = some (Obj.cells #[.int .i64 0, .int .i64 0, .bool false, .int .i64 0] 63 (0, 0))) := by rw [hww]; exact (Below.heap_alloc _ _ _ hRz).trans R0.out
  rw [← hww]
  clear hww c1 fz HD k0 k1 k2 k3 kf R0 B0
  have c1 := DW.out.c1
  have fz := DW.out.I.2.1
  have D2 := hideP (DW.out.pop (n := 0) hm)
  have B2 := hideP (BW.out.setA 1 (.slice (some ⟨g, 0, none⟩) 0 cap))
  have R2 : Hid ((ww.setCell ⟨A, 1, none⟩ (.slice (some ⟨g, 0, none⟩) 0 cap)).heap[R]? = some (Obj.cells #[.int .i64 0, .int .i64 0, .bool false, .int .i64 0] 63 (0, 0))) := (Below.heap_setCell _ _ _ _ (by show R ≠ A; omega)).trans RW.out
  go_region
  obtain ⟨w2, hw2⟩ : ∃ w2, w2 = ww.setCell ⟨A, 1, none⟩ (.slice (some ⟨g, 0, none⟩) 0 cap) := ⟨_, rfl⟩
  rw [← hw2] at D2 B2 R2 ⊢
  clear hw2 c1 fz RW BW DW
  have c1 := D2.out.c1
  obtain ⟨r0, r1, r2, r3, rf⟩ := four_cells R2.out
  go_wp2
  have DF := hideP (D2.out.four R2.out hA (.int .i64 0) (.int .i64 0) (.bool false) (.int .i64 0))
  have KF := hideP (B2.out.four hRw hA (.int .i64 0) (.int .i64 0) (.bool false) (.int .i64 0))
  obtain ⟨q0, q1, q2, q3, _⟩ := four_cells (four_at R2.out (.int .i64 0) (.int .i64 0) (.bool false) (.int .i64 0))
  change bodyPost _ _ _ _ _ (Four w2 R (.int .i64 0) (.int .i64 0) (.bool false) (.int .i64 0)).drew.drew
  obtain ⟨w3, hw3⟩ : ∃ w3, w3 = Four w2 R (.int .i64 0) (.int .i64 0) (.bool false) (.int .i64 0) := ⟨_, rfl⟩
  rw [← hw3] at DF KF q0 q1 q2 q3 ⊢
  refine bodyPost_ret (v := .tuple #[mvV 0 0 false 0, .bool false]) (by simp [results, Try.results37, go_sem, q0, q1, q2, q3, mvV]) rfl ⟨rfl, DF.out.drew.drew, KF.out.drew.drew⟩

set_option maxHeartbeats 800000 in
theorem leave_more (A s : Nat) (d : Dv) (g cap i : Nat) (w : World) (hD : Dm w A s d (.slice (some ⟨g, 0, none⟩) (i + 2) cap)) (hm : d.m = i + 2) (hi : i ≤ 7) :
    Calls Try.prog 37 #[.pointer (some ⟨A, 0, none⟩)] w fun e w' => e = .returned (.tuple #[mvV (d.fr (i + 1)) (d.kn (i + 1)) true (d.le (i + 1)), .bool true]) ∧ Dm w' A s (d.leave i) (.slice (some ⟨g, 0, none⟩) (i + 1) cap) ∧ Kd A w w' := by
  have hA := hD.lt
  have HE : Hid (d.leave i = { d with m := i + 1, le := upd d.le i (min (d.le i) (d.le (i + 1))), br := (d.leave i).br }) := rfl
  have hcap : i + 2 ≤ cap := by
    have ho := hD.own
    rw [hm] at ho
    rcases ho.2 with ⟨h', _⟩ | ⟨g', cap', cur, h', _, _, hnc, _⟩
    · simp at h'
    · simp only [Value.slice.injEq, true_and] at h'; obtain ⟨_, rfl⟩ := h'; exact hnc
  obtain ⟨dl, hdl⟩ : ∃ x, x = d.leave i := ⟨_, rfl⟩
  rw [← hdl] at HE ⊢
  obtain ⟨kk, hkk⟩ : ∃ x, x = d.kn (i + 1) := ⟨_, rfl⟩
  obtain ⟨ff, hff⟩ : ∃ x, x = d.fr (i + 1) := ⟨_, rfl⟩
  obtain ⟨ll, hll⟩ : ∃ x, x = d.le (i + 1) := ⟨_, rfl⟩
  obtain ⟨nn, hnn⟩ : ∃ x, x = d.nx (i + 1) := ⟨_, rfl⟩
  rw [← hkk, ← hff, ← hll]
  rw [← hll] at HE
  clear hdl
  go_enter Try.func37, Try.ntmps37
  go_wp2_with fail
  obtain ⟨w0, hw0⟩ : ∃ w0, w0 = w.alloc (Obj.cells #[.int .i64 0, .int .i64 0, .bool false, .int .i64 0] 63) := ⟨_, rfl⟩
  have hD0 : Dm w0 A s d (.slice (some ⟨g, 0, none⟩) (i + 2) cap) := by rw [hw0]; exact hD.alloc _
  have B0 : Hid (Kd A w w0) := by rw [hw0]; exact (Kd.refl _ _).alloc hA _
  have R0 : Hid (w0.heap[w.heap.size]? = some (Obj.cells #[.int .i64 0, .int .i64 0, .bool false, .int .i64 0] 63 (0, 0))) := by rw [hw0]; exact World.alloc_heap_new w _
  rw [← hw0]
  obtain ⟨R, hR⟩ : ∃ R, R = w.heap.size := ⟨_, rfl⟩
  rw [← hR] at R0 hA ⊢
  have hRw : w.heap.size ≤ R := by omega
  clear hw0 hD hR
  obtain ⟨k0, k1, k2, k3, kf, hg, hgz⟩ := hD0.st hm (q := i + 1) (by omega)
  have HD := hideP hD0
  have hRz : R < w0.heap.size := (Array.getElem?_eq_some_iff.1 R0.out).1
  clear hD0
  rw [← hkk] at k0
  rw [← hff] at k1
  rw [← hll] at k3
  rw [← hnn] at k2
  clear hkk hff hll hnn
  refine (top_any A s d g cap (i + 1) _ HD.out hm (by omega)).mono ?_
  rintro e w1 ⟨rfl, rfl⟩
  go_wp2
  obtain ⟨ww, hww⟩ : ∃ ww, ww = w0.alloc (.cells #[.int .i64 (kk : Int), .int .i64 (ff : Int), .int .i64 (nn : Int), .int .i64 (ll : Int)] 76) := ⟨_, rfl⟩
  have DW : Hid (Dm ww A s d (.slice (some ⟨g, 0, none⟩) (i + 2) cap)) := by rw [hww]; exact HD.out.alloc _
  have BW : Hid (Kd A w ww) := by rw [hww]; exact B0.out.trans ((Kd.refl _ _).alloc HD.out.lt _)
  have RW : Hid (ww.heap[R]? = some (Obj.cells #[.int .i64 0, .int .i64 0, .bool false, .int .i64 0] 63 (0, 0))) := by rw [hww]; exact (Below.heap_alloc _ _ _ hRz).trans R0.out
  have l0 : ww.cell? ⟨w0.heap.size, 0, none⟩ = some (.int .i64 (kk : Int)) := by rw [hww]; simp
  have l1 : ww.cell? ⟨w0.heap.size, 1, none⟩ = some (.int .i64 (ff : Int)) := by rw [hww]; simp
  have l3 : ww.cell? ⟨w0.heap.size, 3, none⟩ = some (.int .i64 (ll : Int)) := by rw [hww]; simp
  rw [← hww]
  obtain ⟨L, hL⟩ : ∃ L, L = w0.heap.size := ⟨_, rfl⟩
  rw [← hL] at l0 l1 l3 hRz hgz ⊢
  clear hww HD k0 k1 k2 k3 kf hL R0 B0
  have c1 := DW.out.c1
  have fz := DW.out.I.2.1
  have D2 := hideP (DW.out.pop (n := i + 1) hm)
  have hcap' : (i : Int) + 1 ≤ (cap : Int) := by omega
  have hne : ((i : Int) + 1 == 0) = false := by simp; omega
  go_region
  go_wp2
  obtain ⟨w2, hw2⟩ : ∃ w2, w2 = ww.setCell ⟨A, 1, none⟩ (.slice (some ⟨g, 0, none⟩) (i + 1) cap) := ⟨_, rfl⟩
  have hLA : L ≠ A := by omega
  have r0 : w2.cell? ⟨L, 0, none⟩ = some (.int .i64 (kk : Int)) := by rw [hw2, World.cell?_setCell_other _ _ _ _ (by intro e; simp at e)]; exact l0
  have r1 : w2.cell? ⟨L, 1, none⟩ = some (.int .i64 (ff : Int)) := by rw [hw2, World.cell?_setCell_other _ _ _ _ (by intro e; have e2 := congrArg Addr.block e; exact hLA (by first | exact e2 | exact e2.symm))]; exact l1
  have r3 : w2.cell? ⟨L, 3, none⟩ = some (.int .i64 (ll : Int)) := by rw [hw2, World.cell?_setCell_other _ _ _ _ (by intro e; simp at e)]; exact l3
  have B2 : Hid (Kd A w w2) := by rw [hw2]; exact BW.out.setA 1 _
  have R2 : Hid (w2.heap[R]? = some (Obj.cells #[.int .i64 0, .int .i64 0, .bool false, .int .i64 0] 63 (0, 0))) := by rw [hw2]; exact (Below.heap_setCell _ _ _ _ (by show R ≠ A; omega)).trans RW.out
  rw [← hw2] at D2 ⊢
  clear hw2 c1 fz l0 l1 l3 DW BW RW hne
  obtain ⟨_, _, _, s3, sf, _, _⟩ := D2.out.st (n := i + 1) rfl (q := i) (Nat.lt_succ_self i)
  have s3' : w2.cell? ⟨g, i * 4 + 3, none⟩ = some (.int .i64 (d.le i : Int)) := s3
  clear s3
  have HMIN : Hid ((if ll < d.le i then (ll : Int) else (d.le i : Int)) = ((min (d.le i) ll : Nat) : Int)) := by show (if ll < d.le i then (ll : Int) else (d.le i : Int)) = _; split <;> omega
  have HGL : Hid (g ≠ L ∧ g ≠ R) := by
    obtain ⟨_, cs, fr, hb⟩ := own_step D2.out.own
    exact ⟨by omega, fun e => by subst e; rw [R2.out] at hb; cases hb⟩
  have DF : Hid (Dm (w2.setCell ⟨g, i * 4 + 3, none⟩ (.int .i64 ((min (d.le i) ll : Nat) : Int))) A s dl (.slice (some ⟨g, 0, none⟩) (i + 1) cap)) := by
    have h1 := D2.out.least (i := i) rfl hg (min (d.le i) ll)
    rw [HE.out]; exact ⟨h1.I, h1.own⟩
  have BF : Hid (Kd A w (w2.setCell ⟨g, i * 4 + 3, none⟩ (.int .i64 ((min (d.le i) ll : Nat) : Int)))) := B2.out.setG D2.out rfl _ _
  apply wp_once
  case h =>
    go_region_law (go_simp; go_at_call 36; refine (top_any A s _ g cap i _ (by repeat (first | exact D2.out | apply Dm.drew)) rfl (by omega)).mono ?_; rintro e wq ⟨rfl, rfl⟩)
    all_goals
      rw [HMIN.out]
      exact ⟨rfl, rfl⟩
  obtain ⟨w3, hw3⟩ : ∃ w3, w3 = w2.setCell ⟨g, i * 4 + 3, none⟩ (.int .i64 ((min (d.le i) ll : Nat) : Int)) := ⟨_, rfl⟩
  have t0 : w3.cell? ⟨L, 0, none⟩ = some (.int .i64 (kk : Int)) := by rw [hw3, World.cell?_setCell_other _ _ _ _ (by intro e; have e2 := congrArg Addr.block e; exact HGL.out.1 (by first | exact e2 | exact e2.symm))]; exact r0
  have t1 : w3.cell? ⟨L, 1, none⟩ = some (.int .i64 (ff : Int)) := by rw [hw3, World.cell?_setCell_other _ _ _ _ (by intro e; have e2 := congrArg Addr.block e; exact HGL.out.1 (by first | exact e2 | exact e2.symm))]; exact r1
  have t3 : w3.cell? ⟨L, 3, none⟩ = some (.int .i64 (ll : Int)) := by rw [hw3, World.cell?_setCell_other _ _ _ _ (by intro e; have e2 := congrArg Addr.block e; exact HGL.out.1 (by first | exact e2 | exact e2.symm))]; exact r3
  have R3 : Hid (w3.heap[R]? = some (Obj.cells #[.int .i64 0, .int .i64 0, .bool false, .int .i64 0] 63 (0, 0))) := by rw [hw3]; exact (Below.heap_setCell _ _ _ _ (fun e => HGL.out.2 e.symm)).trans R2.out
  rw [← hw3] at DF BF ⊢
  clear hw3 r0 r1 r3 R2 D2 B2 HMIN HGL s3'
  obtain ⟨u0, u1, u2, u3, uf⟩ := four_cells R3.out
  go_wp2
  have DG := hideP (DF.out.four R3.out hA (.int .i64 (ff : Int)) (.int .i64 (kk : Int)) (.bool true) (.int .i64 (ll : Int)))
  have KG := hideP (BF.out.four hRw hA (.int .i64 (ff : Int)) (.int .i64 (kk : Int)) (.bool true) (.int .i64 (ll : Int)))
  obtain ⟨q0, q1, q2, q3, _⟩ := four_cells (four_at R3.out (.int .i64 (ff : Int)) (.int .i64 (kk : Int)) (.bool true) (.int .i64 (ll : Int)))
  change bodyPost _ _ _ _ _ (Four w3 R (.int .i64 (ff : Int)) (.int .i64 (kk : Int)) (.bool true) (.int .i64 (ll : Int))).drew.drew.drew.drew.drew
  obtain ⟨w4, hw4⟩ : ∃ w4, w4 = Four w3 R (.int .i64 (ff : Int)) (.int .i64 (kk : Int)) (.bool true) (.int .i64 (ll : Int)) := ⟨_, rfl⟩
  rw [← hw4] at DG KG q0 q1 q2 q3 ⊢
  refine bodyPost_ret (v := .tuple #[mvV ff kk true ll, .bool true]) (by simp [results, Try.results37, go_sem, q0, q1, q2, q3, mvV]) rfl ⟨rfl, ?_, ?_⟩
  · repeat (first | exact DG.out | apply Dm.drew)
  · repeat (first | exact KG.out | apply Kd.drew)

end Go.Proofs.Ytapnbnapfapneaa
