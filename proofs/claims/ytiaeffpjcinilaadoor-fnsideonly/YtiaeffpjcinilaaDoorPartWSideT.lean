/- Texts put together: WSideT, WSideOf. -/
import Derived.Test.YtiaeffpjcinilaaDoorPartMathSD
import Derived.Test.YtiaeffpjcinilaaDoorPartWCutV
import Derived.Test.YtiaeffpjcinilaaDoorPartWReach2
import Derived.Deep.RegionHeld3
import Derived.Test.YtiaeffpjcinilaaDoorPartWQueueI
import Derived.Test.YtiaeffpjcinilaaDoorPartWSideOk
import Derived.Test.YtiaeffpjcinilaaDoorPartWTell
/- Walk of spec.l23Tree. -/
namespace Go.Proofs.YtiaeffpjcinilaaDoor
open Go.RowKit
set_option linter.unusedVariables false

theorem NetV.turned {w w' : World} {A r : Nat} {K : Int} {ao : Option Addr} {cap : Nat} {ts : List (Int × Int)} (h : NetV w A K ao cap ts) (g : Turned r (r + 1) w w') (hA : A ≠ r) (ha : 0 < ts.length → ∀ b, ao = some b → b.block ≠ r) : NetV w' A K ao cap ts := by
  have e := g.block A h.lt (by omega)
  refine ⟨(World.cell?_of_block (a := ⟨A, 0, none⟩) e).trans h.c0, (World.cell?_of_block (a := ⟨A, 1, none⟩) e).trans h.c1, Nat.lt_of_lt_of_le h.lt g.size, fun j hj => ?_⟩
  obtain ⟨b, off, e2, hb, q0, q1⟩ := h.ties j hj
  have hne : b ≠ r := ha (by omega) _ e2
  have e3 := g.block b hb (by omega)
  exact ⟨b, off, e2, Nat.lt_of_lt_of_le hb g.size, (World.cell?_of_block (a := ⟨b, off + j * 2, none⟩) e3).trans q0, (World.cell?_of_block (a := ⟨b, off + j * 2 + 1, none⟩) e3).trans q1⟩
/-- what stands while sides are told -/
structure Sdb (w wr : World) (K : Int) (nv : Value) (XB : Nat) (aoX : Option Addr) (capX : Nat) (vs : List (Int × Int)) (gp op cp : Nat) (ps : List Nat) (g off cap : Nat) (xs : List Nat) : Prop where
  X : Bx w wr K nv
  N : NetV wr XB K aoX capX vs
  P : RowS wr w.heap.size gp op cp ps
  R : RowS wr (w.heap.size + 1) g off cap xs
  gX : XB ≠ g
  gA : 0 < vs.length → ∀ b, aoX = some b → b.block ≠ g
  gP : gp ≠ g
theorem Sdb.next {w wr w' : World} {K : Int} {nv : Value} {XB : Nat} {aoX : Option Addr} {capX : Nat} {vs : List (Int × Int)} {gp op cp : Nat} {ps : List Nat} {g off cap : Nat} {xs : List Nat} (h : Sdb w wr K nv XB aoX capX vs gp op cp ps g off cap xs) (hb : Below wr.heap.size wr w') : Sdb w w' K nv XB aoX capX vs gp op cp ps g off cap xs :=
  ⟨h.X.next hb, h.N.next hb, h.P.next hb, h.R.next hb, h.gX, h.gA, h.gP⟩
theorem Sdb.more {w wr w' : World} {K : Int} {nv : Value} {XB : Nat} {aoX : Option Addr} {capX : Nat} {vs : List (Int × Int)} {gp op cp : Nat} {ps : List Nat} {g off cap g' off' cap' : Nat} {xs ys : List Nat} (h : Sdb w wr K nv XB aoX capX vs gp op cp ps g off cap xs) (hR : RowS w' (w.heap.size + 1) g' off' cap' ys) (hg : g' = g ∨ wr.heap.size ≤ g') (ht : Turned g (g + 1) wr w') : Sdb w w' K nv XB aoX capX vs gp op cp ps g' off' cap' ys := by
  have hgp := h.gP
  have hX := h.gX
  have hPl := h.P.lt
  have hNl := h.N.lt
  refine ⟨h.X.turn ht h.R.lo, h.N.turned ht h.gX h.gA, h.P.turn ht (by omega), hR, ?_, fun h0 b e => ?_, ?_⟩
  · rcases hg with q | q <;> omega
  · rcases hg with q | q
    · rw [q]; exact h.gA h0 b e
    · obtain ⟨b2, off2, e2, hb2, _⟩ := h.N.ties 0 h0
      rw [e] at e2; cases e2
      show b2 ≠ g'
      omega
  · rcases hg with q | q <;> omega

set_option maxHeartbeats 1600000 in
theorem specSides_any (K : Int) (ao : Option Addr) (cap : Nat) (ts : List (Int × Int)) (w : World) (hn : ts.length ≤ 1099511627776) (ht : TiesIn w w.heap.size ao ts) (hok : okB K ts = true) :
    Calls Tryd.prog 44 #[.agg #[.int .i64 K, .slice ao ts.length cap]] w fun e w' => ∃ g off cap', e = .returned (.slice (some ⟨g, off, none⟩) K.toNat cap') ∧ RowS w' w.heap.size g off cap' (sdL K ts) ∧ Below w.heap.size w w' := by
  obtain ⟨i1, hj, hy0, hy1, hy2⟩ := info_parts Tryd.infoInt
  have HI1 : Hid (Tryd.prog.info? 3 = some i1 ∧ i1.zero = some (.int .i64 0) ∧ i1.size = 1 ∧ i1.bytes = 8) := ⟨hj, hy0, hy1, hy2⟩
  have X0 := fun (t u : TypeId) => (Bx.start w K (.slice ao ts.length cap) t).next (below_one _ (.cells #[] u))
  have R0 : ∀ t u : TypeId, RowS ((w.alloc (.cells #[.int .i64 K, .slice ao ts.length cap] t)).alloc (.cells #[] u)) (w.heap.size + 1) (w.heap.size + 1) 0 0 [] := fun t u => by
    have h := RowS.new (w.alloc (.cells #[.int .i64 K, .slice ao ts.length cap] t)) u
    have e : (w.alloc (.cells #[.int .i64 K, .slice ao ts.length cap] t)).heap.size = w.heap.size + 1 := by simp
    rw [e] at h
    exact h
  have HX0 := hideP X0
  have HR0 := hideP R0
  have HT := hideP ht
  have HOK := hideP hok
  clear X0 R0 ht hj hy0 hy1 hy2 hok
  go_enter Tryd.func44, Tryd.ntmps44
  go_wp2
  obtain ⟨w0, hw0⟩ : ∃ w0, w0 = (w.alloc (.cells #[.int .i64 K, .slice ao ts.length cap] 25)).alloc (.cells #[] 3) := ⟨_, rfl⟩
  have hs0 : w0.heap.size = w.heap.size + 2 := by rw [hw0]; simp
  have X1 : Hid (Bx w w0 K (.slice ao ts.length cap)) := by rw [hw0]; exact HX0.out _ _
  have A1 : Hid (RowS w0 (w.heap.size + 1) (w.heap.size + 1) 0 0 []) := by rw [hw0]; exact HR0.out _ _
  have T1 := hideP ((HT.out.below X1.out.B (Nat.le_refl _)).wide X1.out.B.size)
  have T0d := hideP (T1.out.below (Below.refl _ _).drew (Nat.le_refl _))
  have bo := below_one w0.drew (.cells #[.int .i64 0, .slice none 0 0] 25)
  have T0e := hideP ((T0d.out.below bo (Nat.le_refl _)).wide bo.size)
  have HELD : Hid (∀ W, Below w0.heap.size w0 W → W.cell? ⟨w.heap.size, 0, none⟩ = some (.int .i64 K) ∧ W.cell? ⟨w.heap.size, 1, none⟩ = some (.slice ao ts.length cap)) := fun W hb => ⟨(X1.out.next hb).c0, (X1.out.next hb).c1⟩
  have B0 : Hid (Below w0.heap.size w0 w0.drew) := (Below.refl _ _).drew
  have B1 : Hid (Below w0.heap.size w0 (w0.drew.alloc (.cells #[.int .i64 0, .slice none 0 0] 25))) := (Below.refl _ _).drew.alloc (Nat.le_refl _) _
  have HXE : Hid ((w0.drew.alloc (.cells #[.int .i64 0, .slice none 0 0] 25)).heap[w0.heap.size]? = some (Obj.cells #[.int .i64 0, .slice none 0 0] 25 (0, 0))) := World.alloc_heap_new w0.drew _
  have hszE : (w0.drew.alloc (.cells #[.int .i64 0, .slice none 0 0] 25)).heap.size = w0.heap.size + 1 := World.size_alloc _ _
  obtain ⟨vs, hvs⟩ : ∃ vs, vs = treeTs K ts := ⟨_, rfl⟩
  have HVS := hideP hvs
  have nl : w.heap.size < w0.heap.size := X1.out.lt
  have HS0 := hideP hs0
  clear hvs bo HX0 HR0 hs0
  rw [← hw0]
  clear hw0
  apply wp_weakC (J := fun XB ao cap W => TreeSt w0 W XB K ao cap vs)
  case h =>
    go_region_held3 (fun w' => w'.cell? ⟨w.heap.size, 0, none⟩ = some (.int .i64 K) ∧ w'.cell? ⟨w.heap.size, 1, none⟩ = some (.slice ao ts.length cap)) (first | exact HELD.out _ bX.out | exact HELD.out _ (bX.out.alloc bX.out.size _) | exact HELD.out _ ((bX.out.setCell (p := ⟨w0.heap.size, 0, none⟩) (Nat.le_refl _) _).setCell (p := ⟨w0.heap.size, 1, none⟩) (Nat.le_refl _) _) | exact HELD.out _ B1.out | exact HELD.out _ B0.out) (first | (go_at_call 32; refine (specTree_any K ao cap ts _ hn T0d.out).mono ?_; rw [← HVS.out]; rintro e w6 ⟨aoX, capX, rfl, ho6, hb6⟩; have bX : Hid (Below w0.heap.size w0 w6) := hideP (B0.out.trans hb6); have O6 : Hid (OwnN w6 w0.heap.size w6.heap.size aoX vs.length (tcell vs)) := hideP ho6; clear hb6 ho6) | (go_at_call 32; refine (specTree_any K ao cap ts _ hn T0e.out).mono ?_; rw [← HVS.out]; rintro e w6 ⟨aoX, capX, rfl, ho6, hb6⟩; rw [hszE] at ho6 hb6; have bX : Hid (Below w0.heap.size w0 w6) := hideP (B1.out.trans (hb6.mono (Nat.le_succ _))); have O6e : Hid (OwnN w6 (w0.heap.size + 1) w6.heap.size aoX vs.length (tcell vs)) := hideP ho6; have HX6 : Hid (w6.heap[w0.heap.size]? = some (Obj.cells #[.int .i64 0, .slice none 0 0] 25 (0, 0))) := hideP ((hb6.block w0.heap.size (Nat.lt_succ_self _)).trans HXE.out); obtain ⟨xc0, xc1, xf⟩ := two_cells HX6.out; clear hb6 ho6))
    all_goals
      first
      | (have JJ : TreeSt w0 _ w0.heap.size K aoX capX vs := ⟨CutSt.put (K := K) (cap := capX) HX6.out O6e.out bX.out, fun b e => Nat.le_of_succ_le (O6e.out.low b e), Nat.le_refl _⟩
         generalize w0.heap.size = XB at JJ ⊢
         exact ⟨XB, aoX, capX, rfl, JJ⟩)
      | (have JJ : TreeSt w0 (w6.alloc (.cells #[.int .i64 K, .slice aoX vs.length capX] 25)) w6.heap.size K aoX capX vs := ⟨⟨NetV.new _ (O6.out.ties (Nat.le_refl _)), bX.out.alloc bX.out.size _⟩, O6.out.low, bX.out.size⟩
         generalize w6.heap.size = XB at JJ ⊢
         exact ⟨XB, aoX, capX, rfl, JJ⟩)
  intro XB aoX capX W hJ
  obtain ⟨⟨hX, hbW⟩, hlowA, hlowX⟩ := hJ
  have HLA : Hid (∀ b, aoX = some b → b.block ≠ w.heap.size + 1) := fun b e => by have := hlowA b e; have := HS0.out; omega
  have HLX : Hid (XB ≠ w.heap.size + 1) := by have := HS0.out; show XB ≠ w.heap.size + 1; omega
  have XN := hideP hX
  have X2 := hideP (X1.out.next hbW)
  have A2 := hideP (A1.out.next hbW)
  have HVN := hideP (show vs.length ≤ 64 by rw [HVS.out]; exact treeTs_len K ts)
  have T2 := hideP ((HT.out.below X2.out.B (Nat.le_refl _)).wide X2.out.B.size)
  have HW2 : Hid (w.heap.size + 2 ≤ W.heap.size) := by have := hbW.size; have := HS0.out; show w.heap.size + 2 ≤ W.heap.size; omega
  have c0 := X2.out.c0
  have c1 := X2.out.c1
  clear hX hbW hlowA hlowX HELD B0 B1 HXE hszE T0d T0e T1 X1 A1
  clear nl
  go_wp2_with fail
  refine (specParts_any K ao cap ts _ hn T2.out).mono ?_
  rintro e w3 ⟨gp, op, cp, rfl, hRp, hb3⟩
  have hPN : partN K ts = K.toNat := by simp [partN, HOK.out]
  rw [hPN] at hRp ⊢
  obtain ⟨Kn, hKn⟩ : ∃ n : Nat, K = (n : Int) := ⟨K.toNat, by have := (okB_iff.1 HOK.out).1; omega⟩
  have hK8 : Kn ≤ 8 := by have := (okB_iff.1 HOK.out).2.1; omega
  subst hKn
  rw [Int.toNat_natCast] at hRp ⊢
  have S3 : Hid (Sdb w w3 (Kn : Int) (.slice ao ts.length cap) XB aoX capX vs gp op cp ((List.range Kn).map (topN ts)) (w.heap.size + 1) 0 0 []) :=
    ⟨X2.out.next hb3, XN.out.next hb3, hRp.down (by have := HW2.out; omega), A2.out.next hb3, HLX.out, fun _ => HLA.out, by have := hRp.lo; have := HW2.out; omega⟩
  have HVK := hideP (treeTs_ok HOK.out)
  rw [← HVS.out] at HVK
  clear hRp hb3 X2 XN A2 T2 HT c0 c1 hPN
  go_wp2
  go_loopw [3, 6] (fun v i wr => ∃ k g off cap' : Nat, k ≤ Kn ∧ i = .int .i64 (k : Int) ∧ v = .slice (some ⟨g, off, none⟩) k cap' ∧ Sdb w wr (Kn : Int) (.slice ao ts.length cap) XB aoX capX vs gp op cp ((List.range Kn).map (topN ts)) g off cap' ((List.range k).map (sdN vs)))
    (fun _ i _ => Kn - (intOf i).toNat)
  case atStart => exact ⟨0, w.heap.size + 1, 0, 0, Nat.zero_le _, rfl, rfl, S3.out⟩
  case round =>
    clear S3
    obtain ⟨k, g, off, cap', hk, rfl, rfl, hS⟩ := hrel
    have HS := hideP hS
    have c0 := hS.X.c0
    have c1 := hS.X.c1
    by_cases hlt : k < Kn
    · have hk1 : (k : Int) < (Kn : Int) := by omega
      have hk0 : (0 : Int) ≤ (k : Int) := by omega
      have x0 := hS.N.c0
      have x1 := hS.N.c1
      have hpc := hS.P.cells k (by simpa using hlt)
      obtain ⟨y, hy⟩ : ∃ y, y = topN ts k := ⟨_, rfl⟩
      have hyk : y ≤ k := by rw [hy]; exact topN_le ts k
      have hpg : ((List.range Kn).map (topN ts)).getD k 0 = y := by rw [hy]; simp [hlt]
      rw [hpg] at hpc
      have hpc' : wr.cell? ⟨gp, op + k, none⟩ = some (.int .i64 (y : Int)) := hpc
      obtain ⟨hfd, hsd, hl8⟩ := wayTop_side (K := (Kn : Int)) (ts := ts) HOK.out (k := k) (by simpa using hlt)
      rw [← HVS.out, ← hy] at hfd hsd hl8
      have hvn : vs.length ≤ 1099511627776 := by have := HVN.out; omega
      have hFI : ∀ W, TiesIn W W.heap.size aoX vs → Calls Tryd.prog 61 #[.agg #[.int .i64 (Kn : Int), .slice aoX vs.length capX], .int .i64 (y : Int), .int .i64 (k : Int)] W fun e w' => ∃ g cap', e = .returned (.tuple #[.slice (some ⟨g, 0, none⟩) (findB (Kn : Int) vs (y : Int) (k : Int)).length cap', .bool true]) ∧ Below W.heap.size W w' := fun W h =>
        (specFind0_any Kn aoX capX vs y k W hvn h HVK.out (by omega) hlt hfd).mono (fun e w' ⟨g, c, h1, _, h3⟩ => ⟨g, c, h1, h3⟩)
      have HFI := hideP hFI
      obtain ⟨m, hm⟩ : ∃ m, m = (findB (Kn : Int) vs (y : Int) (k : Int)).length := ⟨_, rfl⟩
      rw [← hm] at HFI hsd hl8
      have HSD := hideP hsd
      have hpl : ((List.range k).map (sdN vs)).length = k := by simp
      have hk8 : k ≤ 8 := by omega
      clear hS hpc hpg hy hfd hsd hFI hm hvn hyk
      have SD := hideP (HS.out.next (Below.refl _ _).drew)
      have hXl := HS.out.N.lt
      have hPl := HS.out.P.lt
      clear HS
      go_wp2
      clear c0 c1
      go_region_held3 (fun w' => w'.cell? ⟨XB, 0, none⟩ = some (.int .i64 (Kn : Int)) ∧ w'.cell? ⟨XB, 1, none⟩ = some (.slice aoX vs.length capX) ∧ w'.cell? ⟨gp, op + k, none⟩ = some (.int .i64 (y : Int))) (first | exact ⟨x0, x1, hpc'⟩ | exact ⟨(hb5.cell (p := ⟨XB, 0, none⟩) hXl).trans x0, (hb5.cell (p := ⟨XB, 1, none⟩) hXl).trans x1, (hb5.cell (p := ⟨gp, op + k, none⟩) hPl).trans hpc'⟩) (first | (go_at_call 61; refine (HFI.out _ SD.out.N.ties).mono ?_; rintro e w5 ⟨g5, c5, rfl, hb5⟩))
      have S5 := hideP (SD.out.next hb5)
      clear hb5 HFI SD x0 x1 hpc' hXl hPl
      have hrem : (Int.tmod ((m : Int) + 1) 2) = ((sdN vs k : Nat) : Int) := by rw [← HSD.out]; rfl
      have bo := below_one w5 (.cells #[.int .i64 ((sdN vs k : Nat) : Int)] 3)
      have SB := hideP (S5.out.next bo)
      clear bo S5
      go_wp2_with (at_builtin; refine wpList_append_rowS _ rfl _ _ 27 rfl (w.heap.size + 1) 3 i1 Tryd.underlying27 HI1.out.1 HI1.out.2.1 HI1.out.2.2.1 HI1.out.2.2.2 g off cap' ((List.range k).map (sdN vs)) k hpl rfl SB.out.R w5.heap.size (sdN vs k) rfl ?_ ?_ ?_ ?_)
      · rw [World.cell?_alloc_at _ _ _ _ rfl]; rfl
      · rw [hpl]; omega
      · exact SB.out.X.lt
      intro g4 off4 cap4 w4 hR4 hg4 ht4
      have S4 := hideP (SB.out.more (ys := (List.range (k + 1)).map (sdN vs)) (by rw [List.range_succ, List.map_append]; exact hR4) (by rw [World.size_alloc]; exact hg4) ht4)
      clear hR4 ht4 hg4 SB
      go_wp2
      refine ⟨⟨k + 1, g4, off4, cap4, by omega, by go_num, rfl, S4.out⟩, ?_⟩
      simp [intOf]; omega
    · obtain rfl : k = Kn := by omega
      have F1 := hideP (hS.R.down (Nat.le_succ _))
      have F2 := hideP hS.X.B
      clear hS HS
      go_wp2
      go_ret
      refine ⟨g, off, cap', rfl, ?_, F2.out⟩
      have e : sdL (k : Int) ts = (List.range k).map (sdN vs) := by unfold sdL; rw [HVS.out, Int.toNat_natCast]
      rw [e]; exact F1.out

end Go.Proofs.YtiaeffpjcinilaaDoor

/- Walks of impl.SideOf and spec.SideOf. -/
namespace Go.Proofs.YtiaeffpjcinilaaDoor
open Go.RowKit
set_option linter.unusedVariables false

theorem ownR_row {w : World} {base n : Nat} {v : Value} {p : List Nat} (h : w.ownsRow base 3 1 v n (plist p)) (hl : n = p.length) : ∃ ao cap, v = .slice ao n cap ∧ OwnR w base w.heap.size ao n (pcellN (pn p)) := by
  rcases Nat.eq_zero_or_pos n with h0 | h0
  · subst h0
    rcases h.2 with ⟨e, _⟩ | ⟨g, cap', cur, e, hg, hh, rest⟩
    · exact ⟨none, 0, e, Or.inl ⟨rfl, rfl⟩⟩
    · subst e
      have hlt : g < w.heap.size := (Array.getElem?_eq_some_iff.1 hh).1
      exact ⟨some ⟨g, 0, none⟩, cap', rfl, Or.inr ⟨g, rfl, hg, hlt, fun j hj => absurd hj (by omega), fun j => h.frozenAt j, hlt⟩⟩
  · obtain ⟨g, cap, e, h1, h2⟩ := h.form h0
    subst e
    obtain ⟨o, l1, l2⟩ := row_own h hl h0
    exact ⟨some ⟨g, 0, none⟩, cap, rfl, Or.inr ⟨g, rfl, l1, l2, o⟩⟩
theorem OwnR.down {w : World} {lo lo' hi n : Nat} {ao : Option Addr} {f : Nat → Value} (h : OwnR w lo hi ao n f) (hl : lo' ≤ lo) : OwnR w lo' hi ao n f := by
  rcases h with h | ⟨g, e, h1, h2⟩
  · exact Or.inl h
  · exact Or.inr ⟨g, e, Nat.le_trans hl h1, h2⟩
set_option maxHeartbeats 400000 in
theorem clone_own (g cap : Nat) (p : List Nat) (w : World) (h8 : p.length ≤ 8) (hc : ∀ j, j < p.length → w.cell? ⟨g, j, none⟩ = some (pcellN (pn p) j)) (hg : g < w.heap.size) :
    Calls Tryd.prog 49 #[.slice (some ⟨g, 0, none⟩) p.length cap] w fun e w' => ∃ ao' cap', e = .returned (.slice ao' p.length cap') ∧ OwnR w' w.heap.size w'.heap.size ao' p.length (pcellN (pn p)) ∧ Below w.heap.size w w' := by
  obtain ⟨i0, hi0, hz0, hz1, hz2⟩ := info_parts Tryd.infoInt
  have HI : Hid (Tryd.prog.info? 3 = some i0 ∧ i0.zero = some (.int .i64 0) ∧ i0.size = 1 ∧ i0.bytes = 8) := ⟨hi0, hz0, hz1, hz2⟩
  clear hi0 hz0 hz1 hz2
  have HN : Hid (∀ j u, (plist p)[j]? = some u → (w.alloc (.cells #[] 3)).cell? ((⟨g, 0, none⟩ : Addr).add j) = some u) := by
    intro j u hu
    have hj : j < p.length := by have := (List.getElem?_eq_some_iff.1 hu).1; rwa [plist_len] at this
    rw [plist_at p j hj] at hu
    have hadd : (⟨g, 0, none⟩ : Addr).add j = ⟨g, j, none⟩ := by unfold Addr.add; split <;> simp_all
    rw [hadd, (below_one w _).cell (p := ⟨g, j, none⟩) hg, hc j hj]; exact hu
  have H1 : Hid (∀ u ∈ plist p, u.oneCell' = true) := by
    intro u hu
    obtain ⟨x, _, rfl⟩ := List.mem_map.1 hu
    rfl
  have HL := hideP (plist_len p)
  obtain ⟨m, hm⟩ : ∃ m, m = p.length := ⟨_, rfl⟩
  have HM := hideP hm
  rw [← hm] at h8 HL ⊢
  clear hc hm
  have hnil : ∀ w : World, (binOp .eql 27 (.slice (some ⟨g, 0, none⟩) m cap) (.slice none 0 0)).run Tryd.prog w = .ok (.bool false) w := fun w => Lib.run_eql_slice_nil w _ _ (some ⟨g, 0, none⟩) m cap 0 0 Tryd.underlying27
  go_enter Tryd.func49, Tryd.ntmps49
  go_wp2_with (at_builtin; refine wpList_append_own _ rfl _ _ 27 rfl w.heap.size 3 i0 _ 1 8 Tryd.underlying27 HI.out.1 HI.out.2.1 HI.out.2.2.1 HI.out.2.2.2 rfl (by omega) (.slice (some ⟨w.heap.size, 0, none⟩) 0 0) 0 [] rfl ?_ ⟨g, 0, none⟩ m cap (plist p) rfl ?_ HN.out H1.out ?_ ?_ ?_ ?_)
  · simpa using World.ownsRow_lit w #[] 0 (base := w.heap.size) (e := 3) (size := 1) (Nat.le_refl _) (by simp) rfl
  · rw [HL.out]; omega
  · unfold maxLen; omega
  · omega
  · simp
  intro v' w' hown hgrow _
  have hown' : w'.ownsRow w.heap.size 3 1 v' m (plist p) := by simpa using hown
  obtain ⟨ao', cap', rfl, hO⟩ := ownR_row hown' HM.out
  have HB : Hid (Below w.heap.size w w') := (below_one w _).grown hgrow (by simp) (fun j e => by simp [Value.ownBlock] at e; omega)
  have HO := hideP hO
  clear hown hgrow hown' hO
  go_wp2
  go_ret
  exact ⟨ao', cap', rfl, HO.out, HB.out⟩

/-- sides by the tree, of all eight knots -/
def sd8 (K : Int) (ts : List (Int × Int)) : List Int := (List.range 8).map fun (k : Nat) => ((sdN (treeTs K ts) k : Nat) : Int)
/-- the first tie between two of one side, by the tree -/
def oddS (K : Int) (ts : List (Int × Int)) : Option (Int × Int) := oddT ts (sd8 K ts)
def sideV (K : Int) (ts : List (Int × Int)) : Bool := okB K ts && !(oddS K ts).isSome
def sideL (K : Int) (ts : List (Int × Int)) : List Nat := if sideV K ts = true then sdL K ts else []
theorem sd8_len (K : Int) (ts : List (Int × Int)) : (sd8 K ts).length = 8 := by simp [sd8]
theorem xi_sd8 {K : Int} {ts : List (Int × Int)} {j : Nat} (h : j < 8) : xi (sd8 K ts) j = ((sdN (treeTs K ts) j : Nat) : Int) := by
  unfold xi sd8
  rw [List.getD_eq_getElem?_getD, List.getElem?_map, List.getElem?_range h]; rfl
theorem xi_sdL {K : Int} {ts : List (Int × Int)} {j : Nat} (h : j < K.toNat) : xi ((sdL K ts).map fun (x : Nat) => (x : Int)) j = ((sdN (treeTs K ts) j : Nat) : Int) := by
  unfold xi sdL
  rw [List.getD_eq_getElem?_getD, List.getElem?_map, List.getElem?_map, List.getElem?_range h]; rfl
theorem sdL_len (K : Int) (ts : List (Int × Int)) : (sdL K ts).length = K.toNat := by simp [sdL]
theorem find_same {α : Type} {p q : α → Bool} : ∀ {l : List α}, (∀ x, x ∈ l → p x = q x) → l.find? p = l.find? q
  | [], _ => rfl
  | a :: l, h => by
    rw [List.find?_cons, List.find?_cons, h a (by simp), find_same (fun x hx => h x (by simp [hx]))]
theorem odd_sdL {K : Int} {ts : List (Int × Int)} (h : okB K ts = true) : oddT ts ((sdL K ts).map fun (x : Nat) => (x : Int)) = oddS K ts := by
  unfold oddS oddT
  refine find_same (fun t ht => ?_)
  obtain ⟨k0, k8, hs⟩ := ok_parts h
  obtain ⟨q1, q2, q3⟩ := hs.1 t ht
  unfold sameB
  rw [xi_sdL (by omega), xi_sdL (by omega), xi_sd8 (by omega), xi_sd8 (by omega)]
theorem in01_sdL (K : Int) (ts : List (Int × Int)) : in01 ((sdL K ts).map fun (x : Nat) => (x : Int)) = true := by
  unfold in01
  rw [List.all_eq_true]
  intro x hx
  obtain ⟨y, hy, rfl⟩ := List.mem_map.1 hx
  obtain ⟨k, _, rfl⟩ := List.mem_map.1 hy
  have h2 : sdN (treeTs K ts) k < 2 := Nat.mod_lt _ (by omega)
  have : sdN (treeTs K ts) k = 0 ∨ sdN (treeTs K ts) k = 1 := by omega
  rcases this with e | e <;> rw [e] <;> rfl
theorem side_sdL {K : Int} {ts : List (Int × Int)} (h : okB K ts = true) : sideB K ts ((sdL K ts).map fun (x : Nat) => (x : Int)) = sideV K ts := by
  unfold sideB sideV
  rw [odd_sdL h, in01_sdL, List.length_map, sdL_len]
  have h0 := (okB_iff.1 h).1
  rw [show ((K.toNat : Nat) : Int) = K by omega]
  simp
theorem sideL_yes {K : Int} {ts : List (Int × Int)} (h : sideV K ts = true) : sideL K ts = sdL K ts := if_pos h
theorem sideL_no {K : Int} {ts : List (Int × Int)} (h : sideV K ts = false) : sideL K ts = [] := if_neg (by simp [h])
theorem tree_set {K : Int} {ts : List (Int × Int)} (h : okB K ts = true) : treeM ts ts.length = setN 8 (treeTs K ts) := by
  rw [setN_eight (treeTs_ok h), treeTs_yes h]; exact treeM_set h (Nat.le_refl _)
/-- sides in an array -/
theorem sides_in {w : World} {A : Nat} {K : Int} {ts : List (Int × Int)} (h : OwnI w A 8 (pcellN (sdN (treeTs K ts)))) {B : Nat} (hB : A < B) : IntsIn w B (some ⟨A, 0, none⟩) (sd8 K ts) := by
  intro j hj
  rw [sd8_len] at hj
  refine ⟨A, 0, rfl, hB, ?_⟩
  rw [Nat.zero_add, h.1 j hj, xi_sd8 hj]; rfl
set_option maxHeartbeats 1600000 in
theorem implSideOf_any (K : Int) (ao : Option Addr) (cap : Nat) (ts : List (Int × Int)) (w : World) (hn : ts.length ≤ 1099511627776) (ht : TiesIn w w.heap.size ao ts) (hT : Tab w) :
    Calls Tryd.prog 16 #[.agg #[.int .i64 K, .slice ao ts.length cap]] w fun e w' => ∃ ao' cap', e = .returned (.tuple #[.slice ao' (sideL K ts).length cap', .bool (sideV K ts)]) ∧ OwnR w' w.heap.size w'.heap.size ao' (sideL K ts).length (pcellN (pn (sideL K ts))) ∧ Below w.heap.size w w' := by
  have X0 := fun (t : TypeId) => Bx.start w K (.slice ao ts.length cap) t
  have HX0 := hideP X0
  have HT := hideP ht
  have HTab := hideP hT
  clear X0 ht hT
  go_enter Tryd.func16, Tryd.ntmps16
  go_wp2_with fail
  refine (pairsOf_any K ao cap ts _ hn ((HT.out.below (HX0.out _).B (Nat.le_refl _)).wide (Nat.le_of_lt (HX0.out _).lt))).mono ?_
  rintro e w2 ⟨rfl, hb1⟩
  have X2 := hideP ((HX0.out _).next hb1)
  clear hb1 HX0
  cases hok : okB K ts with
  | false =>
    have hv : sideV K ts = false := by unfold sideV; rw [hok]; rfl
    have HN : Hid (sideL K ts = [] ∧ sideV K ts = false) := hideP ⟨sideL_no hv, hv⟩
    have HB := hideP X2.out.B
    clear hok hv X2
    go_wp2
    go_ret2
    exact ⟨none, 0, by rw [HN.out.1, HN.out.2]; rfl, by rw [HN.out.1]; exact Or.inl ⟨rfl, rfl⟩, HB.out⟩
  | true =>
    have HOK := hideP hok
    have T2 := hideP (HTab.out.below X2.out.B HTab.out.2)
    have HM := hideP (tree_set hok)
    have HUK := hideP (treeTs_ok hok)
    have HTR := hideP (tree_trn hok).eight
    have hK8 := (okB_iff.1 hok).2.1
    have hK0 := (okB_iff.1 hok).1
    clear hok
    obtain ⟨Kn, rfl⟩ : ∃ n : Nat, K = (n : Int) := ⟨K.toNat, by omega⟩
    have hKn8 : Kn ≤ 8 := by omega
    go_wp2_with fail
    refine (treeM_any (Kn : Int) ts _ T2.out HOK.out).mono ?_
    rintro e w3 ⟨rfl, hb3⟩
    have X3 := hideP (X2.out.next hb3)
    have T3 := hideP (T2.out.below hb3 T2.out.2)
    rw [HM.out]
    clear hb3 T2 X2
    go_wp2_with fail
    refine (sidesBy_any (treeTs (Kn : Int) ts) (ok_8 HUK.out) HTR.out _ T3.out).mono ?_
    rintro e w4 ⟨rfl, hb4⟩
    have X4 := hideP (X3.out.next hb4)
    have T4 := hideP (T3.out.below hb4 T3.out.2)
    clear hb4 T3 X3
    have HFO := hideP (fun t' => forest_own w4 (sdN (treeTs (Kn : Int) ts)) t')
    have X5 := hideP (fun o => X4.out.next (below_one w4 o))
    have T5 := hideP (fun o => T4.out.alloc o)
    have HIN := hideP (fun t' => sides_in (HFO.out t') (HFO.out t').2.2)
    have hs8 := sd8_len (Kn : Int) ts
    unfold forestV
    obtain ⟨o, ho⟩ : ∃ o, oddS (Kn : Int) ts = o := ⟨_, rfl⟩
    have HO := hideP ho
    have HV : Hid (sideV (Kn : Int) ts = !o.isSome) := hideP (by unfold sideV; rw [HOK.out, ho]; rfl)
    obtain ⟨xs, hxs⟩ : ∃ xs, xs = sd8 (Kn : Int) ts := ⟨_, rfl⟩
    rw [← hxs] at HIN hs8
    have HXO : Hid (oddT ts xs = o) := hideP (by rw [hxs]; exact ho)
    have HS8 := hideP hs8
    clear hs8 hxs ho
    go_wp2_with fail
    refine (tieWithin_is o (Kn : Int) ts _ 8 8 xs _ HS8.out (T5.out _) HOK.out (HIN.out _) hK8 (by omega) HXO.out).mono ?_
    unfold odV
    rintro e w6 ⟨rfl, hb6⟩
    have O6 := hideP ((HFO.out _).below hb6 (HFO.out _).2.2)
    have X6 := hideP ((X5.out _).next hb6)
    clear hb6
    cases o with
    | some t =>
      have HN : Hid (sideL (Kn : Int) ts = [] ∧ sideV (Kn : Int) ts = false) := hideP ⟨sideL_no HV.out, HV.out⟩
      have HB := hideP (fun o => (X6.out.next (below_one w6 o)).B)
      clear X6 O6 HFO X5 T5 X4 T4 HIN
      go_wp2
      go_ret2
      exact ⟨none, 0, by rw [HN.out.1, HN.out.2]; rfl, by rw [HN.out.1]; exact Or.inl ⟨rfl, rfl⟩, HB.out _⟩
    | none =>
      have HN : Hid (sideL (Kn : Int) ts = sdL (Kn : Int) ts ∧ sideV (Kn : Int) ts = true) := hideP ⟨sideL_yes HV.out, HV.out⟩
      have hX7 := fun o => X6.out.next (below_one w6 o)
      have HX7 := hideP hX7
      have c0 := (hX7 (.cells #[.int .i64 0, .int .i64 0] 39)).c0
      clear X6 HFO X5 T5 X4 T4 HIN hX7
      have B6 := hideP (below_one w6 (.cells #[.int .i64 0, .int .i64 0] 39))
      have O7 := hideP (O6.out.below B6.out O6.out.2.2)
      have HLN : Hid ((sdL (Kn : Int) ts).length = Kn) := hideP (by rw [sdL_len, Int.toNat_natCast])
      have HCL := hideP (fun W (h : OwnI W w4.heap.size 8 (pcellN (sdN (treeTs (Kn : Int) ts)))) => clone_own w4.heap.size 8 (sdL (Kn : Int) ts) W (by rw [HLN.out]; exact hKn8) (fun j hj => by
        rw [HLN.out] at hj
        rw [h.1 j (by omega)]
        show some (Value.int .i64 _) = some (Value.int .i64 _)
        have : pn (sdL (Kn : Int) ts) j = sdN (treeTs (Kn : Int) ts) j := by unfold pn sdL; simp [hj]
        rw [this]) h.2.2)
      rw [HLN.out] at HCL
      clear O6 B6
      go_wp2_with fail
      refine (HCL.out _ O7.out).mono ?_
      rintro e w8 ⟨ao', cap', rfl, hO8, hb8⟩
      have HB := hideP ((HX7.out _).next hb8).B
      have O8 := hideP (hO8.down (HX7.out _).B.size)
      clear hO8 hb8 HX7 O7 c0
      go_wp2
      go_ret2
      exact ⟨ao', cap', by rw [HN.out.1, HN.out.2, HLN.out]; rfl, by rw [HN.out.1, HLN.out]; exact O8.out, HB.out⟩
theorem specSideOk_is (v : Bool) (K : Int) (ao bo : Option Addr) (cap n cap2 : Nat) (ts : List (Int × Int)) (xs : List Int) (w : World) (hl : xs.length = n) (hn : ts.length ≤ 1099511627776) (ht : TiesIn w w.heap.size ao ts) (hxn : n ≤ 1099511627776) (hx : IntsIn w w.heap.size bo xs) (h : sideB K ts xs = v) :
    Calls Tryd.prog 27 #[.agg #[.int .i64 K, .slice ao ts.length cap], .slice bo n cap2] w fun e w' => e = .returned (.bool v) ∧ Below w.heap.size w w' := by
  subst hl; rw [← h]; exact specSideOk_any K ao bo cap cap2 ts xs w hn ht hxn hx
theorem row_ints {w : World} {lo g off cap : Nat} {p : List Nat} (h : RowS w lo g off cap p) : IntsIn w w.heap.size (some ⟨g, off, none⟩) (p.map fun (x : Nat) => (x : Int)) := by
  intro j hj
  rw [List.length_map] at hj
  refine ⟨g, off, rfl, h.lt, ?_⟩
  rw [h.cells j hj]
  unfold xi ncell
  rw [List.getD_eq_getElem?_getD, List.getD_eq_getElem?_getD, List.getElem?_map, List.getElem?_eq_getElem hj]; rfl
set_option maxHeartbeats 1600000 in
theorem specSideOf_any (K : Int) (ao : Option Addr) (cap : Nat) (ts : List (Int × Int)) (w : World) (hn : ts.length ≤ 1099511627776) (ht : TiesIn w w.heap.size ao ts) :
    Calls Tryd.prog 15 #[.agg #[.int .i64 K, .slice ao ts.length cap]] w fun e w' => ∃ g off cap', e = .returned (.tuple #[.slice (some ⟨g, off, none⟩) (sideL K ts).length cap', .bool (sideV K ts)]) ∧ RowS w' w.heap.size g off cap' (sideL K ts) ∧ Below w.heap.size w w' := by
  have X0 := fun (t : TypeId) => Bx.start w K (.slice ao ts.length cap) t
  have HX0 := hideP X0
  have HT := hideP ht
  clear X0 ht
  obtain ⟨v, hv⟩ : ∃ v, okB K ts = v := ⟨_, rfl⟩
  have HOK := hideP hv
  clear hv
  go_enter Tryd.func15, Tryd.ntmps15
  go_wp2_with fail
  refine (specOk_is v K ao cap ts _ hn ((HT.out.below (HX0.out _).B (Nat.le_refl _)).wide (Nat.le_of_lt (HX0.out _).lt)) HOK.out).mono ?_
  rintro e w2 ⟨rfl, hb1⟩
  have X2 := hideP ((HX0.out _).next hb1)
  have c0 := X2.out.c0
  have c1 := X2.out.c1
  clear hb1 HX0
  cases v with
  | false =>
    have hv : sideV K ts = false := by unfold sideV; rw [HOK.out]; rfl
    have HN : Hid (sideL K ts = [] ∧ sideV K ts = false) := hideP ⟨sideL_no hv, hv⟩
    have HB := hideP (fun o => (X2.out.next (below_one w2 o)).B)
    have HR := hideP (fun t => (RowS.new w2 t).down X2.out.B.size)
    clear hv X2
    go_wp2
    go_ret2
    exact ⟨w2.heap.size, 0, 0, by rw [HN.out.1, HN.out.2]; rfl, by rw [HN.out.1]; exact HR.out _, HB.out _⟩
  | true =>
    have T2 := hideP ((HT.out.below X2.out.B (Nat.le_refl _)).wide X2.out.B.size)
    go_wp2_with fail
    refine (specSides_any K ao cap ts _ hn T2.out HOK.out).mono ?_
    rintro e w3 ⟨g, off, cap', rfl, hR, hb3⟩
    have X3 := hideP (X2.out.next hb3)
    have T3 := hideP ((HT.out.below X3.out.B (Nat.le_refl _)).wide X3.out.B.size)
    have R3 := hideP (hR.down X2.out.B.size)
    obtain ⟨n, hnn⟩ : ∃ n, n = K.toNat := ⟨_, rfl⟩
    have hn8 : n ≤ 8 := by have := (okB_iff.1 HOK.out).2.1; omega
    have HLN : Hid ((sdL K ts).length = n) := hideP (by rw [sdL_len, hnn])
    have hml : ((sdL K ts).map fun (x : Nat) => (x : Int)).length = n := by rw [List.length_map]; exact HLN.out
    have HML := hideP hml
    rw [← hnn]
    clear hb3 hR X2 T2 hnn hml c0 c1
    have c0 := X3.out.c0
    have c1 := X3.out.c1
    obtain ⟨v, hv⟩ : ∃ v, sideV K ts = v := ⟨_, rfl⟩
    have HV := hideP hv
    clear hv
    go_wp2_with fail
    refine (specSideOk_is v K ao _ cap n cap' ts _ _ HML.out hn T3.out (by omega) (row_ints R3.out) ((side_sdL HOK.out).trans HV.out)).mono ?_
    rintro e w4 ⟨rfl, hb4⟩
    have X4 := hideP (X3.out.next hb4)
    have R4 := hideP (R3.out.next hb4)
    clear hb4 X3 R3 T3 c0 c1
    cases v with
    | false =>
      have HN : Hid (sideL K ts = []) := hideP (sideL_no HV.out)
      have HB := hideP (fun o => (X4.out.next (below_one w4 o)).B)
      have HR := hideP (fun t => (RowS.new w4 t).down X4.out.B.size)
      clear X4 R4
      go_wp2
      go_ret2
      exact ⟨w4.heap.size, 0, 0, by rw [HN.out, HV.out]; rfl, by rw [HN.out]; exact HR.out _, HB.out _⟩
    | true =>
      have HN : Hid (sideL K ts = sdL K ts) := hideP (sideL_yes HV.out)
      have HB := hideP X4.out.B
      clear X4
      go_wp2
      go_ret2
      exact ⟨g, off, cap', by rw [HN.out, HV.out, HLN.out]; rfl, by rw [HN.out]; exact R4.out, HB.out⟩

end Go.Proofs.YtiaeffpjcinilaaDoor
