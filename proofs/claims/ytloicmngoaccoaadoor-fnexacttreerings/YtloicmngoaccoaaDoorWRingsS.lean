/- Walk of spec.TreeRings. -/
import Derived.Test.YtloicmngoaccoaaDoorWFind0
import Derived.Test.YtloicmngoaccoaaDoorWRings
import Derived.Test.YtloicmngoaccoaaDoorPartWTree
import Derived.Test.YtloicmngoaccoaaDoorPartWReach2
import Derived.Test.YtloicmngoaccoaaDoorWNext
import Derived.Test.YtloicmngoaccoaaDoorWCutV
import Derived.Deep.RegionHeld3
namespace Go.Proofs.YtloicmngoaccoaaDoor
open Go.RowKit
set_option linter.unusedVariables false

/-- the rings of the first ties -/
def ringsTo (K : Int) (ts : List (Int × Int)) (i : Nat) : List (List Nat) := ((ts.take i).filter (fun t => !decide (t ∈ treeTs K ts))).map fun t => findB K (treeTs K ts) t.2 t.1
theorem ringsTo_zero (K : Int) (ts : List (Int × Int)) : ringsTo K ts 0 = [] := rfl
theorem ringsTo_end {K : Int} {ts : List (Int × Int)} (h : okB K ts = true) : ringsTo K ts ts.length = ringsB K ts := by
  unfold ringsTo ringsB; rw [List.take_length, restTs_yes h]
theorem ringsTo_len (K : Int) (ts : List (Int × Int)) (i : Nat) : (ringsTo K ts i).length ≤ i := by
  unfold ringsTo
  rw [List.length_map]
  refine Nat.le_trans (List.length_filter_le _ _) ?_
  simp; omega
theorem ringsTo_in {K : Int} {ts : List (Int × Int)} {i : Nat} (hi : i < ts.length) (h : (tA ts i, tB ts i) ∈ treeTs K ts) : ringsTo K ts (i + 1) = ringsTo K ts i := by
  unfold ringsTo
  have e : ts[i] = (tA ts i, tB ts i) := by simp [tA, tB, hi]
  rw [List.take_add_one, List.getElem?_eq_getElem hi, List.filter_append, e]
  simp [h]
theorem ringsTo_out {K : Int} {ts : List (Int × Int)} {i : Nat} (hi : i < ts.length) (h : (tA ts i, tB ts i) ∉ treeTs K ts) : ringsTo K ts (i + 1) = ringsTo K ts i ++ [findB K (treeTs K ts) (tB ts i) (tA ts i)] := by
  unfold ringsTo
  have e : ts[i] = (tA ts i, tB ts i) := by simp [tA, tB, hi]
  rw [List.take_add_one, List.getElem?_eq_getElem hi, List.filter_append, e]
  simp [h]

theorem grown_on {w w1 w3 : World} {o : Obj} {row : Option Nat} (hb : Below w.heap.size w w1) (hgr : (w1.alloc o).grownBy w3 row) : w.grownBy w3 row :=
  ⟨hgr.os.trans hb.os, hgr.tape.trans hb.tape, hgr.output.trans hb.output, by have h1 := hb.size; have h2 := hgr.size; simp at h2; omega, fun k hk hne => by
    have h1 := hb.size
    exact (hgr.block k (by simp; omega) hne).trans ((Below.heap_alloc _ _ _ (by omega)).trans (hb.block k hk))⟩
theorem NetV.grown {w w' : World} {A r : Nat} {K : Int} {ao : Option Addr} {cap : Nat} {ts : List (Int × Int)} (h : NetV w A K ao cap ts) (g : w.grownBy w' (some r)) (hA : A ≠ r) (ha : ∀ b, ao = some b → b.block ≠ r) : NetV w' A K ao cap ts := by
  have e := g.block A h.lt (by simpa using hA)
  refine ⟨(World.cell?_of_block (a := ⟨A, 0, none⟩) e).trans h.c0, (World.cell?_of_block (a := ⟨A, 1, none⟩) e).trans h.c1, Nat.lt_of_lt_of_le h.lt g.size, fun j hj => ?_⟩
  obtain ⟨b, off, e2, hb, q0, q1⟩ := h.ties j hj
  have e3 := g.block b hb (by have := ha _ e2; simpa using this)
  exact ⟨b, off, e2, Nat.lt_of_lt_of_le hb g.size, (World.cell?_of_block (a := ⟨b, off + j * 2, none⟩) e3).trans q0, (World.cell?_of_block (a := ⟨b, off + j * 2 + 1, none⟩) e3).trans q1⟩
/-- the tree's net in its variable, all of it behind what lay there -/
def TreeSt (w0 W : World) (XB : Nat) (K : Int) (ao : Option Addr) (cap : Nat) (vs : List (Int × Int)) : Prop := CutSt w0 W XB K ao cap vs ∧ (∀ b, ao = some b → w0.heap.size ≤ b.block) ∧ w0.heap.size ≤ XB
theorem OwnN.low {w : World} {lo hi n : Nat} {ao : Option Addr} {f : Nat → Value} (h : OwnN w lo hi ao n f) : ∀ b, ao = some b → lo ≤ b.block := by
  intro b hb
  rcases h with ⟨_, e⟩ | ⟨g, e, h1, _⟩
  · rw [e] at hb; cases hb
  · rw [e] at hb; cases hb; exact h1
theorem alloc_lt {w wb : World} {u : Value} (hb : Below w.heap.size w wb) (h : wb.cell? ⟨w.heap.size, 0, none⟩ = some u) : w.heap.size + 1 ≤ wb.heap.size := by
  by_cases hl : w.heap.size < wb.heap.size
  · omega
  · have : wb.heap[w.heap.size]? = none := Array.getElem?_eq_none (by omega)
    simp [World.cell?, this] at h
theorem found_of {K : Int} {ts : List (Int × Int)} {a b : Int} (h : 0 < (findB K ts a b).length) : foundB K ts a b = true := by
  unfold findB at h; unfold foundB
  cases e : (waysB K ts a b).head? with
  | none => rw [e] at h; simp at h
  | some p => rfl
/-- what stands while rings are told: nothing but the row of rows has changed -/
structure Rgt (w w3 wr : World) (v : Value) (pre : List (List Nat)) (gs cs : Nat → Nat) : Prop where
  g : w3.grownBy wr (some (w.heap.size + 1))
  a : AccV wr (w.heap.size + 1) v pre gs cs
  o : ∀ k, v.ownBlock = some k → k = w.heap.size + 1 ∨ w3.heap.size ≤ k
theorem grown_wide {w3 wr wx : World} {r : Nat} {row : Option Nat} (h : w3.grownBy wr (some r)) (g : wr.grownBy wx row) (ho : ∀ k, row = some k → k = r ∨ w3.heap.size ≤ k) : w3.grownBy wx (some r) :=
  ⟨g.os.trans h.os, g.tape.trans h.tape, g.output.trans h.output, Nat.le_trans h.size g.size, fun k hk hne => by
    refine (g.block k (Nat.lt_of_lt_of_le hk h.size) (fun e => ?_)).trans (h.block k hk hne)
    rcases ho k e.symm with q | q
    · subst q; exact hne rfl
    · omega⟩
theorem below_grown {w3 wr wx : World} {r : Nat} (h : w3.grownBy wr (some r)) (hb : Below wr.heap.size wr wx) : w3.grownBy wx (some r) :=
  ⟨hb.os.trans h.os, hb.tape.trans h.tape, hb.output.trans h.output, Nat.le_trans h.size hb.size, fun k hk hne => (hb.block k (Nat.lt_of_lt_of_le hk h.size)).trans (h.block k hk hne)⟩
theorem grown_below {w3 wr : World} {r : Nat} (h : w3.grownBy wr (some r)) (hr : r ≤ w3.heap.size) : Below r w3 wr :=
  ⟨h.os, h.tape, h.output, h.size, fun k hk => h.block k (by omega) (by intro e; cases e; omega)⟩
theorem in_tree {K : Int} {ts vs : List (Int × Int)} (h : okB K vs = true) {x y : Nat} (hxy : x < y) : tieNB vs x y = true ↔ ((x : Int), (y : Int)) ∈ vs := by
  have e := hasB_mem (a := (x : Int)) (b := (y : Int)) h
  rw [hasB_ok h] at e
  have e2 : tieOf (x : Int) (y : Int) = ((x : Int), (y : Int)) := by unfold tieOf; rw [Int.min_eq_left (by omega), Int.max_eq_right (by omega)]
  rw [e2] at e; exact e

set_option maxHeartbeats 1600000 in
theorem specRings_any (K : Int) (ao : Option Addr) (cap : Nat) (ts : List (Int × Int)) (w : World) (hn : ts.length ≤ 1099511627776) (ht : TiesIn w w.heap.size ao ts) :
    Calls Tryd.prog 20 #[.agg #[.int .i64 K, .slice ao ts.length cap]] w fun e w' => ∃ ao' cap', e = .returned (.slice ao' (ringsB K ts).length cap') ∧ AllR w' w.heap.size ao' (ringsB K ts) ∧ Below w.heap.size w w' := by
  have X0 := fun (t u : TypeId) => (Bx.start w K (.slice ao ts.length cap) t).next (below_one _ (.cells #[] u))
  have HX0 := hideP X0
  have HT := hideP ht
  clear X0 ht
  go_enter Tryd.func20, Tryd.ntmps20
  go_wp2
  obtain ⟨w0, hw0⟩ : ∃ w0, w0 = (w.alloc (.cells #[.int .i64 K, .slice ao ts.length cap] 25)).alloc (.cells #[] 30) := ⟨_, rfl⟩
  have hs0 : w0.heap.size = w.heap.size + 2 := by rw [hw0]; simp
  have X1 : Hid (Bx w w0 K (.slice ao ts.length cap)) := by rw [hw0]; exact HX0.out _ _
  have A1 : Hid (AccV w0 (w.heap.size + 1) (.slice (some ⟨w.heap.size + 1, 0, none⟩) 0 0) [] (fun _ => 0) (fun _ => 0)) := by
    have h := World.ownsRow_lit (w.alloc (.cells #[.int .i64 K, .slice ao ts.length cap] 25)) #[] 0 (base := (w.alloc (.cells #[.int .i64 K, .slice ao ts.length cap] 25)).heap.size) (e := 30) (size := 1) (Nat.le_refl _) (by simp) rfl
    have e : (w.alloc (.cells #[.int .i64 K, .slice ao ts.length cap] 25)).heap.size = w.heap.size + 1 := by simp
    rw [e, ← hw0] at h
    exact ⟨by simpa [rowVs] using h, ⟨fun i hi => absurd hi (by simp), fun i j _ hj => absurd hj (by simp)⟩⟩
  have T1 := hideP ((HT.out.below X1.out.B (Nat.le_refl _)).wide X1.out.B.size)
  have T0d := hideP (T1.out.below (Below.refl _ _).drew (Nat.le_refl _))
  have bo := below_one w0.drew (.cells #[.int .i64 0, .slice none 0 0] 25)
  have T0e := hideP ((T0d.out.below bo (Nat.le_refl _)).wide bo.size)
  have HELD : Hid (∀ W, Below w0.heap.size w0 W → W.cell? ⟨w.heap.size, 0, none⟩ = some (.int .i64 K) ∧ W.cell? ⟨w.heap.size, 1, none⟩ = some (.slice ao ts.length cap)) := fun W hb => ⟨(X1.out.next hb).c0, (X1.out.next hb).c1⟩
  have B0 : Hid (Below w0.heap.size w0 w0.drew) := (Below.refl _ _).drew
  have B1 : Hid (Below w0.heap.size w0 (w0.drew.alloc (.cells #[.int .i64 0, .slice none 0 0] 25))) := (Below.refl _ _).drew.alloc (Nat.le_refl _) _
  have HXE : Hid ((w0.drew.alloc (.cells #[.int .i64 0, .slice none 0 0] 25)).heap[w0.heap.size]? = some (Obj.cells #[.int .i64 0, .slice none 0 0] 25 (0, 0))) := World.alloc_heap_new w0.drew _
  have hszE : (w0.drew.alloc (.cells #[.int .i64 0, .slice none 0 0] 25)).heap.size = w0.heap.size + 1 := World.size_alloc _ _
  obtain ⟨vs, hvs⟩ : ∃ vs, vs = treeTs K ts := ⟨_, rfl⟩
  have HVS := hideP hvs
  have nl : w.heap.size < w0.heap.size := X1.out.lt
  have HS0 := hideP hs0
  clear hvs bo HX0 hs0
  rw [← hw0]
  clear hw0
  apply wp_weakC (J := fun XB ao cap W => TreeSt w0 W XB K ao cap vs)
  case h =>
    go_region_held3 (fun w' => w'.cell? ⟨w.heap.size, 0, none⟩ = some (.int .i64 K) ∧ w'.cell? ⟨w.heap.size, 1, none⟩ = some (.slice ao ts.length cap)) (first | exact HELD.out _ bX.out | exact HELD.out _ (bX.out.alloc bX.out.size _) | exact HELD.out _ ((bX.out.setCell (p := ⟨w0.heap.size, 0, none⟩) (Nat.le_refl _) _).setCell (p := ⟨w0.heap.size, 1, none⟩) (Nat.le_refl _) _) | exact HELD.out _ B1.out | exact HELD.out _ B0.out) (first | (go_at_call 30; refine (specTree_any K ao cap ts _ hn T0d.out).mono ?_; rw [← HVS.out]; rintro e w6 ⟨aoX, capX, rfl, ho6, hb6⟩; have bX : Hid (Below w0.heap.size w0 w6) := hideP (B0.out.trans hb6); have O6 : Hid (OwnN w6 w0.heap.size w6.heap.size aoX vs.length (tcell vs)) := hideP ho6; clear hb6 ho6) | (go_at_call 30; refine (specTree_any K ao cap ts _ hn T0e.out).mono ?_; rw [← HVS.out]; rintro e w6 ⟨aoX, capX, rfl, ho6, hb6⟩; rw [hszE] at ho6 hb6; have bX : Hid (Below w0.heap.size w0 w6) := hideP (B1.out.trans (hb6.mono (Nat.le_succ _))); have O6e : Hid (OwnN w6 (w0.heap.size + 1) w6.heap.size aoX vs.length (tcell vs)) := hideP ho6; have HX6 : Hid (w6.heap[w0.heap.size]? = some (Obj.cells #[.int .i64 0, .slice none 0 0] 25 (0, 0))) := hideP ((hb6.block w0.heap.size (Nat.lt_succ_self _)).trans HXE.out); obtain ⟨xc0, xc1, xf⟩ := two_cells HX6.out; clear hb6 ho6))
    all_goals
      first
      | (have JJ : TreeSt w0 _ w0.heap.size K aoX capX vs := ⟨CutSt.put (K := K) (cap := capX) HX6.out O6e.out bX.out, fun b e => Nat.le_of_succ_le (O6e.out.low b e), Nat.le_refl _⟩
         generalize w0.heap.size = XB at JJ ⊢
         exact ⟨XB, aoX, capX, rfl, JJ⟩)
      | (have JJ : TreeSt w0 (w6.alloc (.cells #[.int .i64 K, .slice aoX vs.length capX] 25)) w6.heap.size K aoX capX vs := ⟨⟨NetV.new _ (O6.out.ties (Nat.le_refl _)), bX.out.alloc bX.out.size _⟩, O6.out.low, bX.out.size⟩
         generalize w6.heap.size = XB at JJ ⊢
         exact ⟨XB, aoX, capX, rfl, JJ⟩)
  intro XB aoX capX W hJ
  obtain ⟨⟨hX, hbW⟩, hlowA, hlowX⟩ := hJ
  have HLA : Hid (∀ b, aoX = some b → b.block ≠ w.heap.size + 1) := fun b e => by have := hlowA b e; have := HS0.out; omega
  have HLX : Hid (XB ≠ w.heap.size + 1) := by have := HS0.out; show XB ≠ w.heap.size + 1; omega
  have XN := hideP hX
  have X2 := hideP (X1.out.next hbW)
  have A2 := hideP (A1.out.kept hbW)
  have HVN := hideP (show vs.length ≤ 64 by rw [HVS.out]; exact treeTs_len K ts)
  have T2 := hideP ((HT.out.below X2.out.B (Nat.le_refl _)).wide X2.out.B.size)
  have c0 := X2.out.c0
  have c1 := X2.out.c1
  clear hX hbW hlowA hlowX HELD B0 B1 HXE hszE T0d T0e T1 X1 A1
  clear nl
  cases hok : okB K ts
  · have HOK := hideP hok
    have HN : Hid (ringsB K ts = []) := ringsB_no hok
    clear hok
    go_wp2_with fail
    refine (specOk_is false K ao cap ts _ hn T2.out HOK.out).mono ?_
    rintro e w3 ⟨rfl, hb3⟩
    have A3 := hideP (A2.out.kept hb3)
    have X3 := hideP (X2.out.next hb3)
    clear hb3 A2 X2 XN T2 c0 c1
    go_wp2
    go_ret
    obtain ⟨ao', cap', e, hAR⟩ := A3.out.told (lo' := w.heap.size) (by omega)
    rw [e, HN.out]
    exact ⟨ao', cap', rfl, hAR, X3.out.B⟩
  have HOK := hideP hok
  clear hok
  go_wp2_with fail
  refine (specOk_is true K ao cap ts _ hn T2.out HOK.out).mono ?_
  rintro e w3 ⟨rfl, hb3⟩
  have A3 := hideP (A2.out.kept hb3)
  have X3 := hideP (X2.out.next hb3)
  have XN3 := hideP (XN.out.next hb3)
  clear hb3 A2 X2 XN T2 c0 c1
  have S3 : Hid (Rgt w w3 w3 (.slice (some ⟨w.heap.size + 1, 0, none⟩) 0 0) (ringsTo K ts 0) (fun _ => 0) (fun _ => 0)) := ⟨⟨rfl, rfl, rfl, Nat.le_refl _, fun k _ _ => rfl⟩, A3.out, fun k e => Or.inl (by simp [Value.ownBlock] at e; exact e.symm)⟩
  have HVK := hideP (treeTs_ok HOK.out)
  have HLW : Hid (w.heap.size + 1 ≤ w3.heap.size) := hideP X3.out.lt
  rw [← HVS.out] at HVK
  obtain ⟨i0, hi0, hz0, hz1, hz2⟩ := info_parts Tryd.infoInts
  have HI : Hid (Tryd.prog.info? 30 = some i0 ∧ i0.zero = some (.slice none 0 0) ∧ i0.size = 1 ∧ i0.bytes = 24) := ⟨hi0, hz0, hz1, hz2⟩
  clear hi0 hz0 hz1 hz2 A3
  go_wp2
  go_loopw [3, 5] (fun v i wr => ∃ (j : Nat) (gs cs : Nat → Nat), j ≤ ts.length ∧ i = .int .i64 (j : Int) ∧ Rgt w w3 wr v (ringsTo K ts j) gs cs)
    (fun _ i _ => ts.length - (intOf i).toNat)
  case atStart => exact ⟨0, _, _, Nat.zero_le _, rfl, S3.out⟩
  case round =>
    clear S3
    obtain ⟨j, gs, cs, hj, rfl, hS⟩ := hrel
    have hXr := X3.out.low (grown_below hS.g HLW.out)
    have hNr := XN3.out.grown hS.g HLX.out HLA.out
    have c0 := hXr.c0
    have c1 := hXr.c1
    by_cases hlt : j < ts.length
    · obtain ⟨x, y, R⟩ := rst_of HOK.out (mem_at hlt)
      have e2 := R.eq
      simp only [Prod.mk.injEq] at e2
      obtain ⟨ex, ey⟩ := e2
      have hpl := ringsTo_len K ts j
      have hj64 : j < 64 := Nat.lt_of_lt_of_le hlt (ok_short (okB_iff.1 HOK.out))
      obtain ⟨Kn, hKn⟩ : ∃ n : Nat, K = (n : Int) := ⟨K.toNat, by have := (okB_iff.1 HOK.out).1; omega⟩
      have hxy := R.lt
      have hyK : y < Kn := by have := R.kn; omega
      have hTE : tieNB vs x y = decide ((tA ts j, tB ts j) ∈ treeTs K ts) := by
        rw [Bool.eq_iff_iff, in_tree (K := K) (ts := ts) HVK.out hxy, decide_eq_true_eq, ← HVS.out, ex, ey]
      have hIN := fun h => ringsTo_in (K := K) hlt h
      have hOUT : (tA ts j, tB ts j) ∉ vs → ringsTo K ts (j + 1) = ringsTo K ts j ++ [findB K vs (y : Int) (x : Int)] := fun h => by
        rw [HVS.out] at h
        have := ringsTo_out (K := K) hlt h
        rw [ex, ey, ← HVS.out] at this; exact this
      rw [← HVS.out] at hIN hTE
      obtain ⟨b, off, haoe, hbw, d0, d1⟩ := ((HT.out.below hXr.B (Nat.le_refl _)).wide hXr.B.size) j hlt
      rw [ex] at d0
      rw [ey] at d1
      subst haoe
      have HS := hideP hS
      have hbw' : b < wr.heap.size := hbw
      obtain ⟨wb, hwb⟩ : ∃ wb, wb = wr.alloc (.cells #[.int .i64 (x : Int), .int .i64 (y : Int)] 35) := ⟨_, rfl⟩
      have q0 : wb.cell? ⟨wr.heap.size, 0, none⟩ = some (.int .i64 (x : Int)) := by rw [hwb]; exact World.cell?_alloc_at _ _ _ _ rfl
      have q1 : wb.cell? ⟨wr.heap.size, 1, none⟩ = some (.int .i64 (y : Int)) := by rw [hwb]; exact World.cell?_alloc_at _ _ _ _ rfl
      have HBB : Hid (Below wr.heap.size wr wb) := by rw [hwb]; exact hideP (below_one _ _)
      have NB := hideP (hNr.next HBB.out)
      have XB3 := hideP (hXr.next HBB.out)
      have hvn : vs.length ≤ 1099511627776 := by have := HVN.out; omega
      have x0 := hNr.c0
      have x1 := hNr.c1
      have hXl := hNr.lt
      have HTE := hideP hTE
      have hw := R.way
      rw [← HVS.out] at hw
      have hfd := found_of hw.pos
      have hq0 := hw.pos
      have hq8 := hw.le
      obtain ⟨q, hq⟩ : ∃ q, q = findB K vs (y : Int) (x : Int) := ⟨_, rfl⟩
      rw [← hq] at hq0 hq8 hOUT
      have hFI : ∀ W, TiesIn W W.heap.size aoX vs → Calls Tryd.prog 62 #[.agg #[.int .i64 K, .slice aoX vs.length capX], .int .i64 (y : Int), .int .i64 (x : Int)] W fun e w' => ∃ g cap', e = .returned (.tuple #[.slice (some ⟨g, 0, none⟩) q.length cap', .bool true]) ∧ w'.ownsRow W.heap.size 3 1 (.slice (some ⟨g, 0, none⟩) q.length cap') q.length (plist q) ∧ Below W.heap.size W w' := fun W h => by
        have hokv := HVK.out
        rw [hKn] at hq hokv hfd ⊢
        have := specFind0_any Kn aoX capX vs y x W hvn h hokv hyK (by omega) hfd
        rw [← hq] at this; exact this
      have HFI := hideP hFI
      have HIN := hideP hIN
      have HOUT := hideP hOUT
      have hclip := hideP (clip_is hq0 hq8)
      obtain ⟨m, hm⟩ : ∃ m, m = q.length := ⟨_, rfl⟩
      have HM9 := hideP hm
      rw [← hm] at HFI hq0 hq8
      have HXY := hideP hxy
      have hpl2 : (ringsTo K ts j).length ≤ 64 := by omega
      obtain ⟨pre, hpre⟩ : ∃ pre, pre = ringsTo K ts j := ⟨_, rfl⟩
      rw [← hpre] at HS HOUT HIN hpl2
      have HPL := hideP hpl2
      clear hS hXr hNr R ex ey hw hfd hq hFI hIN hOUT hm hTE hxy hyK hKn hpl hpl2 hpre
      cases hv : tieNB vs x y
      · have HVO : Hid ((tA ts j, tB ts j) ∉ vs) := by
          have := HTE.out
          rw [hv] at this
          exact hideP (of_decide_eq_false this.symm)
        have HV2 := hideP hv
        clear hv HTE
        go_wp2_with fail
        rw [← hwb]
        clear hwb d0 d1
        refine (l1Has_is false K aoX capX vs x y _ hvn NB.out.ties HV2.out).mono ?_
        rintro e w5 ⟨rfl, hb5⟩
        have r0 : w5.cell? ⟨wr.heap.size, 0, none⟩ = some (.int .i64 (x : Int)) := (hb5.cell (p := ⟨wr.heap.size, 0, none⟩) (Nat.lt_of_lt_of_le (Nat.lt_succ_self _) (alloc_lt HBB.out q0))).trans q0
        have r1 : w5.cell? ⟨wr.heap.size, 1, none⟩ = some (.int .i64 (y : Int)) := (hb5.cell (p := ⟨wr.heap.size, 1, none⟩) (Nat.lt_of_lt_of_le (Nat.lt_succ_self _) (alloc_lt HBB.out q0))).trans q1
        have N5 := hideP (NB.out.next hb5)
        have B5 : Hid (Below wr.heap.size wr w5) := hideP (HBB.out.trans (hb5.mono HBB.out.size))
        have y0 := N5.out.c0
        have y1 := N5.out.c1
        clear q0 q1 hb5 NB XB3 HBB x0 x1
        go_wp2_with fail
        refine (HFI.out _ N5.out.ties).mono ?_
        rintro e w7 ⟨g, c, rfl, ho7, hb7⟩
        have B7 : Hid (Below wr.heap.size wr w7) := hideP (B5.out.trans (hb7.mono B5.out.size))
        have A7 := hideP (HS.out.a.kept B7.out)
        have O7 : Hid (w7.ownsRow w5.heap.size 3 1 (.slice (some ⟨g, 0, none⟩) m c) m (plist q)) := hideP ho7
        have S7 : Hid (wr.heap.size ≤ w5.heap.size) := hideP B5.out.size
        have S77 : Hid (w.heap.size + 1 ≤ w7.heap.size) := hideP (Nat.le_trans HLW.out (Nat.le_trans HS.out.g.size B7.out.size))
        have S78 : Hid (w.heap.size + 1 ≤ wr.heap.size) := hideP (Nat.le_trans HLW.out HS.out.g.size)
        have S79 : Hid (w3.heap.size ≤ w7.heap.size) := hideP (Nat.le_trans HS.out.g.size B7.out.size)
        clear hb7 ho7 y0 y1 r0 r1 N5 B5 HFI
        go_wp2_with (at_builtin; refine wpList_append_own_at _ rfl _ _ 38 rfl (w.heap.size + 1) 30 i0 _ 1 24 Tryd.underlying38 HI.out.1 HI.out.2.1 HI.out.2.2.1 HI.out.2.2.2 rfl (by omega) u3 pre.length (rowVs pre gs cs) rfl (A7.out.own.alloc _) ⟨_, 0, none⟩ 1 1 [.slice (some ⟨g, 0, none⟩) m c] rfl rfl (World.news_of_block (cs := #[.slice (some ⟨g, 0, none⟩) m c]) (t := 30) (fr := (0, 0)) (heap_alloc_new w7 _)) (by simp [Value.oneCell']) (by have := HPL.out; unfold maxLen; omega) (by have := HPL.out; omega) (by have := S77.out; simp; omega) ?_)
        intro v' w8 hown' hgr _ hat
        have SN := HS.out.a.snoc (x := q) hclip.out S78.out B7.out (by rw [← HM9.out]; exact O7.out) S7.out (by rw [← HM9.out]; exact hown') (by rw [← HM9.out]; exact hgr)
        have S8 : Hid (Rgt w w3 w8 v' (pre ++ [q]) (upd' gs pre.length g) (upd' cs pre.length c)) := by
          obtain ⟨n1, n2⟩ := SN
          refine ⟨grown_wide HS.out.g (grown_on B7.out hgr) HS.out.o, n1, fun k hk => ?_⟩
          rcases hat with e | e
          · exact HS.out.o k (e ▸ hk)
          · rw [hk] at e
            simp at e
            exact Or.inr (by have := S79.out; omega)
        have HNX : Hid (ringsTo K ts (j + 1) = pre ++ [q]) := hideP (HOUT.out HVO.out)
        clear hown' hgr SN A7 O7 B7 HS S7 S77 S78 S79 hat
        go_wp2
        go_roundw
        case measure => (simp [intOf] <;> omega)
        case rel => exact ⟨j + 1, _, _, by omega, by go_num, by rw [HNX.out]; exact S8.out⟩
      · have HVO : Hid ((tA ts j, tB ts j) ∈ vs) := by
          have := HTE.out
          rw [hv] at this
          exact hideP (of_decide_eq_true this.symm)
        have HV2 := hideP hv
        clear hv HTE
        go_wp2_with fail
        rw [← hwb]
        clear hwb d0 d1
        refine (l1Has_is true K aoX capX vs x y _ hvn NB.out.ties HV2.out).mono ?_
        rintro e w5 ⟨rfl, hb5⟩
        have B5 : Hid (Below wr.heap.size wr w5) := hideP (HBB.out.trans (hb5.mono HBB.out.size))
        have S8 : Hid (Rgt w w3 w5 u3 pre gs cs) := ⟨below_grown HS.out.g B5.out, HS.out.a.kept B5.out, HS.out.o⟩
        have HNX : Hid (ringsTo K ts (j + 1) = pre) := hideP (HIN.out HVO.out)
        clear q0 q1 hb5 NB XB3 HBB x0 x1 B5 HS
        go_wp2
        go_roundw
        case measure => (simp [intOf] <;> omega)
        case rel => exact ⟨j + 1, _, _, by omega, by go_num, by rw [HNX.out]; exact S8.out⟩
    · obtain rfl : j = ts.length := by omega
      rw [ringsTo_end HOK.out] at hS
      obtain ⟨ao', cap', rfl, hAR⟩ := hS.a.told (lo' := w.heap.size) (by omega)
      have F1 := hideP hAR
      have F2 := hideP hXr.B
      clear hS hAR hXr hNr
      go_wp2
      go_ret
      exact ⟨ao', cap', rfl, F1.out, F2.out⟩

end Go.Proofs.YtloicmngoaccoaaDoor
