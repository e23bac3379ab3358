/- Walk of impl.TreeRings. -/
import Derived.Test.YtloicmngoaccoaaDoorPartWHang
import Derived.Test.YtloicmngoaccoaaDoorPartWTell
import Derived.Test.YtloicmngoaccoaaDoorWOnS
import Derived.Test.YtloicmngoaccoaaDoorPartWTree
import Derived.Test.YtloicmngoaccoaaDoorPartMathX
import Derived.Test.YtloicmngoaccoaaDoorWCut
import Derived.Deep.RegionHeld3
namespace Go.Proofs.YtloicmngoaccoaaDoor
open Go.RowKit
set_option linter.unusedVariables false

/-- ways that were put together, the row of rows nil at first -/
structure AccV (W : World) (lo : Nat) (v : Value) (pre : List (List Nat)) (gs cs : Nat → Nat) : Prop where
  own : W.ownsRow lo 30 1 v pre.length (rowVs pre gs cs)
  row : Rws W lo pre gs cs
theorem AccV.kept {W W' : World} {lo : Nat} {v : Value} {pre : List (List Nat)} {gs cs : Nat → Nat} (h : AccV W lo v pre gs cs) (hb : Below W.heap.size W W') : AccV W' lo v pre gs cs :=
  ⟨own_kept2 h.own (fun g hg => hb.block g hg), h.row.kept hb.size (fun k _ _ hk => hb.block k (Array.getElem?_eq_some_iff.1 hk).1)⟩
theorem AccV.nil (W : World) (lo : Nat) : AccV W lo (.slice none 0 0) [] (fun _ => 0) (fun _ => 0) :=
  ⟨World.ownsRow_nil W lo _ _, ⟨fun i hi => absurd hi (by simp), fun i j _ hj => absurd hj (by simp)⟩⟩
theorem AccV.snoc {w w1 w3 : World} {lo : Nat} {v v' : Value} {pre : List (List Nat)} {x : List Nat} {gs cs : Nat → Nat} {g c lo1 : Nat} (h : AccV w lo v pre gs cs) (hx : clip x = x) (hl : lo ≤ w.heap.size) (hb : Below w.heap.size w w1)
    (hn : w1.ownsRow lo1 3 1 (.slice (some ⟨g, 0, none⟩) x.length c) x.length (plist x)) (hlo : w.heap.size ≤ lo1)
    (h3 : w3.ownsRow lo 30 1 v' (pre.length + 1) (rowVs pre gs cs ++ [.slice (some ⟨g, 0, none⟩) x.length c])) (hgr : (w1.alloc (.cells #[.slice (some ⟨g, 0, none⟩) x.length c] 30)).grownBy w3 v.ownBlock) :
    AccV w3 lo v' (pre ++ [x]) (upd' gs pre.length g) (upd' cs pre.length c) ∧ Below lo w w3 := by
  have hA := (h.kept hb).own
  have hown : ∀ (k : Nat) (ce : Array Value) (fr : Nat × Nat), w1.heap[k]? = some (Obj.cells ce 3 fr) → some k ≠ v.ownBlock := fun k ce fr hk e => by
    rcases hA.2 with ⟨q, _⟩ | ⟨G, cap, cur, q, _, hG, _⟩
    · rw [q] at e; simp [Value.ownBlock] at e
    · rw [q] at e
      simp [Value.ownBlock] at e
      subst e
      rw [hG] at hk; cases hk
  have hlow : ∀ k, k < lo → some k ≠ v.ownBlock := fun k hk e => by
    rcases hA.2 with ⟨q, _⟩ | ⟨G, cap, cur, q, hG, _⟩
    · rw [q] at e; simp [Value.ownBlock] at e
    · rw [q] at e
      simp [Value.ownBlock] at e
      omega
  have same : ∀ (k : Nat) (ce : Array Value) (fr : Nat × Nat), w1.heap[k]? = some (Obj.cells ce 3 fr) → w3.heap[k]? = w1.heap[k]? := fun k ce fr hk => by
    have hkl := (Array.getElem?_eq_some_iff.1 hk).1
    exact (hgr.block k (by simp; omega) (hown k ce fr hk)).trans (Below.heap_alloc _ _ _ hkl)
  have hsz : w1.heap.size + 1 ≤ w3.heap.size := by have := hgr.size; simpa using this
  have hs1 := hb.size
  have hl2 : (pre ++ [x]).length = pre.length + 1 := by simp
  obtain ⟨cg, fg, hgb, hgl⟩ := row_type (g := g) (c := c) hn rfl
  refine ⟨⟨?_, ?_⟩, ⟨hgr.os.trans hb.os, hgr.tape.trans hb.tape, hgr.output.trans hb.output, by omega, fun k hk => ?_⟩⟩
  · rw [rowVs_snoc, hl2, hx]; exact h3
  · refine h.row.snoc (h.row.kept (by omega) (fun k ce fr hk => ?_)) ?_ (by omega)
    · have e := hb.block k (Array.getElem?_eq_some_iff.1 hk).1
      exact (same k ce fr (e.trans hk)).trans e
    · rw [hx]; exact own_low (own_at hn (same g cg fg hgb)) (by omega)
  · exact (hgr.block k (by simp; omega) (hlow k hk)).trans ((Below.heap_alloc _ _ _ (by omega)).trans (hb.block k (by omega)))
theorem rws_down {W : World} {lo lo' : Nat} {pre : List (List Nat)} {gs cs : Nat → Nat} (h : Rws W lo pre gs cs) (hl : lo' ≤ lo) : Rws W lo' pre gs cs := ⟨fun i hi => own_low (h.row i hi) hl, h.ne⟩
/-- what was put together, told as an answer -/
theorem AccV.told {W : World} {lo lo' : Nat} {v : Value} {ps : List (List Nat)} {gs cs : Nat → Nat} (h : AccV W lo v ps gs cs) (hl : lo' ≤ lo) : ∃ ao cap, v = .slice ao ps.length cap ∧ AllR W lo' ao ps := by
  rcases h.own.2 with ⟨q1, q2⟩ | ⟨G, c, cur, q1, q2, _⟩
  · have e := List.length_eq_zero_iff.1 q2
    subst e
    exact ⟨none, 0, q1, Or.inl ⟨rfl, rfl⟩⟩
  · have HO := h.own
    rw [q1] at HO
    refine ⟨some ⟨G, 0, none⟩, c, q1, Or.inr ⟨G, gs, cs, rfl, by omega, ?_, rws_down h.row hl, ?_⟩⟩
    · by_cases h0 : ps.length = 0
      · obtain ⟨ce, fr, hb, _⟩ := row_type (g := G) (c := c) HO rfl
        exact ⟨fun j hj => absurd hj (by omega), fun j => HO.frozenAt j, (Array.getElem?_eq_some_iff.1 hb).1⟩
      · obtain ⟨g', cap', e, r1, r2⟩ := HO.form (by omega)
        simp only [Value.slice.injEq, Option.some.injEq, Addr.mk.injEq, and_true, true_and] at e
        obtain ⟨rfl, _⟩ := e
        refine ⟨fun j hj => ?_, fun j => HO.frozenAt j, r2⟩
        rw [HO.cellAt j (by omega)]
        simp [rowVs, hj]
    · intro i hi e
      obtain ⟨c1, f1, hb1, _⟩ := row_type (g := gs i) (c := cs i) (h.row.row i hi) rfl
      obtain ⟨c2, f2, hb2, _⟩ := row_type (g := G) (c := c) HO rfl
      rw [e, hb2] at hb1
      simp at hb1
/-- what stands while rings are told -/
structure Rgs (w5 wr : World) (A : Nat) (vs us : List (Int × Int)) (aoU : Option Addr) (v : Value) (pre : List (List Nat)) (gs cs : Nat → Nat) : Prop where
  B : Below w5.heap.size w5 wr
  U : OwnI wr A 8 (pcellN (parN 8 vs))
  T : TiesIn wr w5.heap.size aoU us
  a : AccV wr w5.heap.size v pre gs cs
  hA : A < w5.heap.size
set_option maxHeartbeats 1600000 in
theorem implRings_any (K : Int) (ao : Option Addr) (cap : Nat) (ts : List (Int × Int)) (w : World) (hn : ts.length ≤ 1099511627776) (ht : TiesIn w w.heap.size ao ts) (hT : Tab w) :
    Calls Tryd.prog 18 #[.agg #[.int .i64 K, .slice ao ts.length cap]] w fun e w' => ∃ ao' cap', e = .returned (.slice ao' (ringsB K ts).length cap') ∧ AllR w' w.heap.size ao' (ringsB K ts) ∧ Below w.heap.size w w' := by
  have X0 := fun (t : TypeId) => Bx.start w K (.slice ao ts.length cap) t
  have HX0 := hideP X0
  have HT := hideP ht
  have HTab := hideP hT
  clear X0 ht hT
  go_enter Tryd.func18, Tryd.ntmps18
  go_wp2_with fail
  refine (pairsOf_any K ao cap ts _ hn ((HT.out.below (HX0.out _).B (Nat.le_refl _)).wide (Nat.le_of_lt (HX0.out _).lt))).mono ?_
  rintro e w2 ⟨rfl, hb1⟩
  have X2 := hideP ((HX0.out _).next hb1)
  clear hb1
  cases hok : okB K ts
  · have HN : Hid (ringsB K ts = []) := ringsB_no hok
    have HB := hideP X2.out.B
    clear hok
    go_wp2
    go_ret
    exact ⟨none, 0, by rw [HN.out]; rfl, Or.inl ⟨HN.out, rfl⟩, HB.out⟩
  have HOK := hideP hok
  have T2 := hideP (HTab.out.below X2.out.B HTab.out.2)
  have hK8 := (okB_iff.1 hok).2.1
  have HTR := hideP (tree_trn hok)
  have HM : Hid (treeM ts ts.length = setN K (treeTs K ts)) := by rw [treeTs_yes hok]; exact hideP (treeM_set hok (Nat.le_refl _))
  have HUK := hideP (treeTs_ok hok)
  have HRK := hideP (restTs_ok hok)
  have HBF := hideP (bitsFrom_of (rest_bits hok))
  have HRS := hideP (fun t ht => rst_of hok ((mem_restTs hok t).1 ht).1)
  have hrl := restTs_len K ts
  have hand := andNot_nat (setN K ts) (setN K (treeTs K ts)) (setN_lt _ _) (setN_lt _ _)
  clear hok
  go_wp2_with fail
  refine (treeM_any K ts _ T2.out HOK.out).mono ?_
  rintro e w3 ⟨rfl, hb3⟩
  have X3 := hideP (X2.out.next hb3)
  have T3 := hideP (T2.out.below hb3 T2.out.2)
  rw [HM.out]
  clear hb3 T2 X2
  go_wp2_with fail
  refine (parentsOf_any K (treeTs K ts) _ T3.out HUK.out HTR.out.eight).mono ?_
  rintro e w4 ⟨rfl, hb4⟩
  have X4 := hideP (X3.out.next hb4)
  have T4 := hideP (T3.out.below hb4 T3.out.2)
  clear hb4 T3 X3
  unfold forestV
  obtain ⟨us, hus⟩ : ∃ us, us = restTs K ts := ⟨_, rfl⟩
  have HUS := hideP hus
  rw [← hus] at HRK HBF HRS hrl
  obtain ⟨vs, hvs⟩ : ∃ vs, vs = treeTs K ts := ⟨_, rfl⟩
  have HVS := hideP hvs
  rw [← hvs] at HUK HTR hand HBF ⊢
  obtain ⟨sA, hsA⟩ : ∃ s, s = setN K ts := ⟨_, rfl⟩
  obtain ⟨sB, hsB⟩ : ∃ s, s = setN K vs := ⟨_, rfl⟩
  have HLT : Hid (strike sA sB < 2 ^ 64) := strike_lt _ _ (by rw [hsA]; exact setN_lt _ _)
  rw [← hsA, ← hsB] at hand HBF
  rw [← hsA, ← hsB]
  clear hus hvs hsA hsB
  go_wp2_with fail
  refine (ties_two' K us (strike sA sB) _ (T4.out.alloc _) hK8 (okB_iff.1 HRK.out).2.2 (ok_short (okB_iff.1 HRK.out)) HBF.out HLT.out).mono ?_
  rintro e w5 ⟨aoU, capU, rfl, ho5, hb5⟩
  have S5 : Hid (Rgs w5 w5 w4.heap.size vs us aoU (.slice none 0 0) [] (fun _ => 0) (fun _ => 0)) := by
    have hf : ∀ t', OwnI (w4.alloc (.cells #[.int .i64 ((parN 8 vs 0 : Nat) : Int), .int .i64 ((parN 8 vs 1 : Nat) : Int), .int .i64 ((parN 8 vs 2 : Nat) : Int), .int .i64 ((parN 8 vs 3 : Nat) : Int), .int .i64 ((parN 8 vs 4 : Nat) : Int), .int .i64 ((parN 8 vs 5 : Nat) : Int), .int .i64 ((parN 8 vs 6 : Nat) : Int), .int .i64 ((parN 8 vs 7 : Nat) : Int)] t')) w4.heap.size 8 (pcellN (parN 8 vs)) := fun t' => by
      refine ⟨fun j hj => (World.cell?_alloc_at _ _ _ _ rfl).trans ?_, fun j => World.frozen?_alloc_at _ _ _ _ rfl, by simp⟩
      have : j = 0 ∨ j = 1 ∨ j = 2 ∨ j = 3 ∨ j = 4 ∨ j = 5 ∨ j = 6 ∨ j = 7 := by omega
      rcases this with rfl | rfl | rfl | rfl | rfl | rfl | rfl | rfl <;> rfl
    exact ⟨Below.refl _ _, (hf _).below hb5 (hf 73).2.2, ho5.ties (Nat.le_refl _), AccV.nil _ _, by have := hb5.size; simp at this; omega⟩
  have X5 := hideP ((X4.out.next (below_one _ _)).next hb5)
  obtain ⟨A, hA⟩ : ∃ A, A = w4.heap.size := ⟨_, rfl⟩
  rw [← hA] at S5
  obtain ⟨i0, hi0, hz0, hz1, hz2⟩ := info_parts Tryd.infoInts
  have HI : Hid (Tryd.prog.info? 30 = some i0 ∧ i0.zero = some (.slice none 0 0) ∧ i0.size = 1 ∧ i0.bytes = 24) := ⟨hi0, hz0, hz1, hz2⟩
  have HB9 : Hid (Below w.heap.size w w5) := hideP X5.out.B
  have hlow : w.heap.size ≤ w5.heap.size := HB9.out.size
  clear hi0 hz0 hz1 hz2 ho5 hb5 X4 T4 X5
  go_wp2
  rw [← hA]
  clear hA
  go_loopw [7, 26] (fun v i wr => ∃ (j : Nat) (gs cs : Nat → Nat), j ≤ us.length ∧ i = .int .i64 (j : Int) ∧ Rgs w5 wr A vs us aoU v ((ringsB K ts).take j) gs cs)
    (fun _ i _ => us.length - (intOf i).toNat)
  case atStart => exact ⟨0, _, _, Nat.zero_le _, rfl, S5.out⟩
  case round =>
    clear S5
    obtain ⟨j, gs, cs, hj, rfl, hS⟩ := hrel
    by_cases hlt : j < us.length
    · obtain ⟨x, y, R⟩ := HRS.out _ (mem_at hlt)
      have e2 := R.eq
      simp only [Prod.mk.injEq] at e2
      obtain ⟨ex, ey⟩ := e2
      have hx8 : x < 8 := by have := R.lt; have := R.kn; omega
      have hy8 : y < 8 := by have := R.kn; omega
      obtain ⟨q, hq⟩ : ∃ q, q = findB K vs (y : Int) (x : Int) := ⟨_, rfl⟩
      have HTK : Hid ((ringsB K ts).take (j + 1) = (ringsB K ts).take j ++ [q]) := by
        have := ringsB_take (K := K) (ts := ts) (i := j) (by rw [← HUS.out]; exact hlt)
        rw [← HUS.out, ← HVS.out, ex, ey, ← hq] at this
        exact this
      have hw := R.way
      have hs8 := R.same
      have htop := R.top
      rw [← HVS.out] at hw hs8 htop
      rw [← hq] at hw hs8
      have hq0 := hw.pos
      have hq8 := hw.le
      have WAY : Hid (∀ W, OwnI W A 8 (pcellN (parN 8 vs)) → Calls Tryd.prog 59 #[.pointer (some ⟨A, 0, none⟩), .int .i64 (y : Int), .int .i64 (x : Int)] W fun e w' => e = .returned (pathV (cI q)) ∧ Below W.heap.size W w') := fun W h => by
        have := wayUp_any vs HTR.out.eight A y x W h hy8 hx8 htop
        rw [hs8] at this; exact this
      have HS := hideP hS
      have hAw := Nat.lt_of_lt_of_le hS.hA hS.B.size
      obtain ⟨b, off, rfl, hbw, c0, c1⟩ := hS.T j hlt
      rw [ex] at c0
      rw [ey] at c1
      have hsz5 := hS.B.size
      clear hS R ex ey hq hw hs8 htop
      have HPL := hideP (plist_len q)
      obtain ⟨wb, hwb⟩ : ∃ wb, wb = wr.alloc (.cells #[.int .i64 (x : Int), .int .i64 (y : Int)] 35) := ⟨_, rfl⟩
      have d0 : wb.cell? ⟨wr.heap.size, 0, none⟩ = some (.int .i64 (x : Int)) := by rw [hwb]; exact World.cell?_alloc_at _ _ _ _ rfl
      have d1 : wb.cell? ⟨wr.heap.size, 1, none⟩ = some (.int .i64 (y : Int)) := by rw [hwb]; exact World.cell?_alloc_at _ _ _ _ rfl
      have HBB : Hid (Below wr.heap.size wr wb) := by rw [hwb]; exact hideP (below_one _ _)
      have WAY0 := hideP (WAY.out wb (HS.out.U.below HBB.out hAw))
      have hpl : ((ringsB K ts).take j).length = j := by rw [List.length_take, ringsB_len, ← HUS.out]; omega
      obtain ⟨pre, hpre⟩ : ∃ pre, pre = (ringsB K ts).take j := ⟨_, rfl⟩
      rw [← hpre] at HS HTK hpl
      have HPL2 := hideP hpl
      have hclip := clip_is hq0 hq8
      have HCL := hideP hclip
      have HLI := hideP (fun W => list_any q W hq0 hq8)
      have LO5 := hideP (Nat.le_trans hsz5 HBB.out.size)
      obtain ⟨m, hm⟩ : ∃ m, m = q.length := ⟨_, rfl⟩
      rw [← hm] at HLI HPL hq0 hq8
      have HM9 := hideP hm
      clear hpre hpl hclip hm
      go_wp2_with fail
      rw [← hwb]
      clear hwb c0 c1
      refine WAY0.out.mono ?_
      rintro e w6 ⟨rfl, hb6⟩
      go_wp2_with fail
      refine (HLI.out w6).mono ?_
      rintro e w7 ⟨g, c, rfl, ho7, hb7⟩
      have B7 : Hid (Below wr.heap.size wr w7) := hideP (HBB.out.trans ((hb6.trans (hb7.mono hb6.size)).mono HBB.out.size))
      have A7 := hideP (HS.out.a.kept B7.out)
      have O7 : Hid (w7.ownsRow (w6.heap.size + 1) 3 1 (.slice (some ⟨g, 0, none⟩) m c) m (plist q)) := hideP ho7
      have S7 : Hid (wr.heap.size ≤ w6.heap.size + 1) := by have h1 := HBB.out.size; have h2 := hb6.size; show wr.heap.size ≤ w6.heap.size + 1; omega
      have S77 : Hid (w5.heap.size ≤ w7.heap.size) := hideP (Nat.le_trans hsz5 B7.out.size)
      clear hb6 hb7 ho7 WAY0 WAY HLI
      go_wp2_with (at_builtin; refine wpList_append_own _ rfl _ _ 38 rfl w5.heap.size 30 i0 _ 1 24 Tryd.underlying38 HI.out.1 HI.out.2.1 HI.out.2.2.1 HI.out.2.2.2 rfl (by omega) u7 pre.length (rowVs pre gs cs) rfl (A7.out.own.alloc _) ⟨_, 0, none⟩ 1 1 [.slice (some ⟨g, 0, none⟩) m c] rfl rfl (World.news_of_block (cs := #[.slice (some ⟨g, 0, none⟩) m c]) (t := 30) (fr := (0, 0)) (heap_alloc_new w7 _)) (by simp [Value.oneCell']) (by rw [HPL2.out]; unfold maxLen; omega) (by rw [HPL2.out]; omega) (by have := S77.out; simp; omega) ?_)
      intro v' w8 hown' hgr _
      have SN := HS.out.a.snoc (x := q) HCL.out hsz5 B7.out (by rw [← HM9.out]; exact O7.out) S7.out (by rw [← HM9.out]; exact hown') (by rw [← HM9.out]; exact hgr)
      have S8 : Hid (Rgs w5 w8 A vs us (some ⟨b, off, none⟩) v' (pre ++ [q]) (upd' gs pre.length g) (upd' cs pre.length c)) := by
        obtain ⟨n1, n2⟩ := SN
        have hb8 : Below w5.heap.size w5 w8 := HS.out.B.trans n2
        exact ⟨hb8, HS.out.U.below n2 HS.out.hA, HS.out.T.below n2 (Nat.le_refl _), n1, HS.out.hA⟩
      clear hown' hgr SN A7 O7 B7 HS HBB S7 S77
      go_wp2
      go_roundw
      case measure => (simp [intOf] <;> omega)
      case rel => exact ⟨j + 1, _, _, by omega, by go_num, by rw [HTK.out]; exact S8.out⟩
    · obtain rfl : j = us.length := by omega
      have HRL : Hid ((ringsB K ts).take us.length = ringsB K ts) := by rw [HUS.out, ← ringsB_len]; exact hideP (List.take_length)
      rw [HRL.out] at hS
      obtain ⟨ao', cap', rfl, hAR⟩ := hS.a.told hlow
      have F1 := hideP hAR
      have F2 := hideP (HB9.out.trans (hS.B.mono hlow))
      clear hS hAR
      go_wp2
      go_ret
      exact ⟨ao', cap', rfl, F1.out, F2.out⟩

end Go.Proofs.YtloicmngoaccoaaDoor
