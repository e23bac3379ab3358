/- Walk of spec.l23Tree. -/
import Derived.Test.YtiaeffpjcinilaaDoorMathSE
import Derived.Test.YtiaeffpjcinilaaDoorWRingsS
import Derived.Test.YtiaeffpjcinilaaDoorPartWReach2
import Derived.Deep.RegionHeld3
namespace Go.Proofs.YtiaeffpjcinilaaDoor
open Go.RowKit
set_option linter.unusedVariables false

theorem NetV.turned {w w' : World} {A r : Nat} {K : Int} {ao : Option Addr} {cap : Nat} {ts : List (Int × Int)} (h : NetV w A K ao cap ts) (g : Turned r (r + 1) w w') (hA : A ≠ r) (ha : 0 < ts.length → ∀ b, ao = some b → b.block ≠ r) : NetV w' A K ao cap ts := by
  have e := g.block A h.lt (by omega)
  refine ⟨(World.cell?_of_block (a := ⟨A, 0, none⟩) e).trans h.c0, (World.cell?_of_block (a := ⟨A, 1, none⟩) e).trans h.c1, Nat.lt_of_lt_of_le h.lt g.size, fun j hj => ?_⟩
  obtain ⟨b, off, e2, hb, q0, q1⟩ := h.ties j hj
  have hne : b ≠ r := ha (by omega) _ e2
  have e3 := g.block b hb (by omega)
  exact ⟨b, off, e2, Nat.lt_of_lt_of_le hb g.size, (World.cell?_of_block (a := ⟨b, off + j * 2, none⟩) e3).trans q0, (World.cell?_of_block (a := ⟨b, off + j * 2 + 1, none⟩) e3).trans q1⟩
/-- what stands while sides are told -/
structure Sdb (w wr : World) (K : Int) (nv : Value) (XB : Nat) (aoX : Option Addr) (capX : Nat) (vs : List (Int × Int)) (gp op cp : Nat) (ps : List Nat) (g off cap : Nat) (xs : List Nat) : Prop where
  X : Bx w wr K nv
  N : NetV wr XB K aoX capX vs
  P : RowS wr w.heap.size gp op cp ps
  R : RowS wr (w.heap.size + 1) g off cap xs
  gX : XB ≠ g
  gA : 0 < vs.length → ∀ b, aoX = some b → b.block ≠ g
  gP : gp ≠ g
theorem Sdb.next {w wr w' : World} {K : Int} {nv : Value} {XB : Nat} {aoX : Option Addr} {capX : Nat} {vs : List (Int × Int)} {gp op cp : Nat} {ps : List Nat} {g off cap : Nat} {xs : List Nat} (h : Sdb w wr K nv XB aoX capX vs gp op cp ps g off cap xs) (hb : Below wr.heap.size wr w') : Sdb w w' K nv XB aoX capX vs gp op cp ps g off cap xs :=
  ⟨h.X.next hb, h.N.next hb, h.P.next hb, h.R.next hb, h.gX, h.gA, h.gP⟩
theorem Sdb.more {w wr w' : World} {K : Int} {nv : Value} {XB : Nat} {aoX : Option Addr} {capX : Nat} {vs : List (Int × Int)} {gp op cp : Nat} {ps : List Nat} {g off cap g' off' cap' : Nat} {xs ys : List Nat} (h : Sdb w wr K nv XB aoX capX vs gp op cp ps g off cap xs) (hR : RowS w' (w.heap.size + 1) g' off' cap' ys) (hg : g' = g ∨ wr.heap.size ≤ g') (ht : Turned g (g + 1) wr w') : Sdb w w' K nv XB aoX capX vs gp op cp ps g' off' cap' ys := by
  have hgp := h.gP
  have hX := h.gX
  have hPl := h.P.lt
  have hNl := h.N.lt
  refine ⟨h.X.turn ht h.R.lo, h.N.turned ht h.gX h.gA, h.P.turn ht (by omega), hR, ?_, fun h0 b e => ?_, ?_⟩
  · rcases hg with q | q <;> omega
  · rcases hg with q | q
    · rw [q]; exact h.gA h0 b e
    · obtain ⟨b2, off2, e2, hb2, _⟩ := h.N.ties 0 h0
      rw [e] at e2; cases e2
      show b2 ≠ g'
      omega
  · rcases hg with q | q <;> omega

set_option maxHeartbeats 1600000 in
theorem specSides_any (K : Int) (ao : Option Addr) (cap : Nat) (ts : List (Int × Int)) (w : World) (hn : ts.length ≤ 1099511627776) (ht : TiesIn w w.heap.size ao ts) (hok : okB K ts = true) :
    Calls Tryd.prog 44 #[.agg #[.int .i64 K, .slice ao ts.length cap]] w fun e w' => ∃ g off cap', e = .returned (.slice (some ⟨g, off, none⟩) K.toNat cap') ∧ RowS w' w.heap.size g off cap' (sdL K ts) ∧ Below w.heap.size w w' := by
  obtain ⟨i1, hj, hy0, hy1, hy2⟩ := info_parts Tryd.infoInt
  have HI1 : Hid (Tryd.prog.info? 3 = some i1 ∧ i1.zero = some (.int .i64 0) ∧ i1.size = 1 ∧ i1.bytes = 8) := ⟨hj, hy0, hy1, hy2⟩
  have X0 := fun (t u : TypeId) => (Bx.start w K (.slice ao ts.length cap) t).next (below_one _ (.cells #[] u))
  have R0 : ∀ t u : TypeId, RowS ((w.alloc (.cells #[.int .i64 K, .slice ao ts.length cap] t)).alloc (.cells #[] u)) (w.heap.size + 1) (w.heap.size + 1) 0 0 [] := fun t u => by
    have h := RowS.new (w.alloc (.cells #[.int .i64 K, .slice ao ts.length cap] t)) u
    have e : (w.alloc (.cells #[.int .i64 K, .slice ao ts.length cap] t)).heap.size = w.heap.size + 1 := by simp
    rw [e] at h
    exact h
  have HX0 := hideP X0
  have HR0 := hideP R0
  have HT := hideP ht
  have HOK := hideP hok
  clear X0 R0 ht hj hy0 hy1 hy2 hok
  go_enter Tryd.func44, Tryd.ntmps44
  go_wp2
  obtain ⟨w0, hw0⟩ : ∃ w0, w0 = (w.alloc (.cells #[.int .i64 K, .slice ao ts.length cap] 25)).alloc (.cells #[] 3) := ⟨_, rfl⟩
  have hs0 : w0.heap.size = w.heap.size + 2 := by rw [hw0]; simp
  have X1 : Hid (Bx w w0 K (.slice ao ts.length cap)) := by rw [hw0]; exact HX0.out _ _
  have A1 : Hid (RowS w0 (w.heap.size + 1) (w.heap.size + 1) 0 0 []) := by rw [hw0]; exact HR0.out _ _
  have T1 := hideP ((HT.out.below X1.out.B (Nat.le_refl _)).wide X1.out.B.size)
  have T0d := hideP (T1.out.below (Below.refl _ _).drew (Nat.le_refl _))
  have bo := below_one w0.drew (.cells #[.int .i64 0, .slice none 0 0] 25)
  have T0e := hideP ((T0d.out.below bo (Nat.le_refl _)).wide bo.size)
  have HELD : Hid (∀ W, Below w0.heap.size w0 W → W.cell? ⟨w.heap.size, 0, none⟩ = some (.int .i64 K) ∧ W.cell? ⟨w.heap.size, 1, none⟩ = some (.slice ao ts.length cap)) := fun W hb => ⟨(X1.out.next hb).c0, (X1.out.next hb).c1⟩
  have B0 : Hid (Below w0.heap.size w0 w0.drew) := (Below.refl _ _).drew
  have B1 : Hid (Below w0.heap.size w0 (w0.drew.alloc (.cells #[.int .i64 0, .slice none 0 0] 25))) := (Below.refl _ _).drew.alloc (Nat.le_refl _) _
  have HXE : Hid ((w0.drew.alloc (.cells #[.int .i64 0, .slice none 0 0] 25)).heap[w0.heap.size]? = some (Obj.cells #[.int .i64 0, .slice none 0 0] 25 (0, 0))) := World.alloc_heap_new w0.drew _
  have hszE : (w0.drew.alloc (.cells #[.int .i64 0, .slice none 0 0] 25)).heap.size = w0.heap.size + 1 := World.size_alloc _ _
  obtain ⟨vs, hvs⟩ : ∃ vs, vs = treeTs K ts := ⟨_, rfl⟩
  have HVS := hideP hvs
  have nl : w.heap.size < w0.heap.size := X1.out.lt
  have HS0 := hideP hs0
  clear hvs bo HX0 HR0 hs0
  rw [← hw0]
  clear hw0
  apply wp_weakC (J := fun XB ao cap W => TreeSt w0 W XB K ao cap vs)
  case h =>
    go_region_held3 (fun w' => w'.cell? ⟨w.heap.size, 0, none⟩ = some (.int .i64 K) ∧ w'.cell? ⟨w.heap.size, 1, none⟩ = some (.slice ao ts.length cap)) (first | exact HELD.out _ bX.out | exact HELD.out _ (bX.out.alloc bX.out.size _) | exact HELD.out _ ((bX.out.setCell (p := ⟨w0.heap.size, 0, none⟩) (Nat.le_refl _) _).setCell (p := ⟨w0.heap.size, 1, none⟩) (Nat.le_refl _) _) | exact HELD.out _ B1.out | exact HELD.out _ B0.out) (first | (go_at_call 32; refine (specTree_any K ao cap ts _ hn T0d.out).mono ?_; rw [← HVS.out]; rintro e w6 ⟨aoX, capX, rfl, ho6, hb6⟩; have bX : Hid (Below w0.heap.size w0 w6) := hideP (B0.out.trans hb6); have O6 : Hid (OwnN w6 w0.heap.size w6.heap.size aoX vs.length (tcell vs)) := hideP ho6; clear hb6 ho6) | (go_at_call 32; refine (specTree_any K ao cap ts _ hn T0e.out).mono ?_; rw [← HVS.out]; rintro e w6 ⟨aoX, capX, rfl, ho6, hb6⟩; rw [hszE] at ho6 hb6; have bX : Hid (Below w0.heap.size w0 w6) := hideP (B1.out.trans (hb6.mono (Nat.le_succ _))); have O6e : Hid (OwnN w6 (w0.heap.size + 1) w6.heap.size aoX vs.length (tcell vs)) := hideP ho6; have HX6 : Hid (w6.heap[w0.heap.size]? = some (Obj.cells #[.int .i64 0, .slice none 0 0] 25 (0, 0))) := hideP ((hb6.block w0.heap.size (Nat.lt_succ_self _)).trans HXE.out); obtain ⟨xc0, xc1, xf⟩ := two_cells HX6.out; clear hb6 ho6))
    all_goals
      first
      | (have JJ : TreeSt w0 _ w0.heap.size K aoX capX vs := ⟨CutSt.put (K := K) (cap := capX) HX6.out O6e.out bX.out, fun b e => Nat.le_of_succ_le (O6e.out.low b e), Nat.le_refl _⟩
         generalize w0.heap.size = XB at JJ ⊢
         exact ⟨XB, aoX, capX, rfl, JJ⟩)
      | (have JJ : TreeSt w0 (w6.alloc (.cells #[.int .i64 K, .slice aoX vs.length capX] 25)) w6.heap.size K aoX capX vs := ⟨⟨NetV.new _ (O6.out.ties (Nat.le_refl _)), bX.out.alloc bX.out.size _⟩, O6.out.low, bX.out.size⟩
         generalize w6.heap.size = XB at JJ ⊢
         exact ⟨XB, aoX, capX, rfl, JJ⟩)
  intro XB aoX capX W hJ
  obtain ⟨⟨hX, hbW⟩, hlowA, hlowX⟩ := hJ
  have HLA : Hid (∀ b, aoX = some b → b.block ≠ w.heap.size + 1) := fun b e => by have := hlowA b e; have := HS0.out; omega
  have HLX : Hid (XB ≠ w.heap.size + 1) := by have := HS0.out; show XB ≠ w.heap.size + 1; omega
  have XN := hideP hX
  have X2 := hideP (X1.out.next hbW)
  have A2 := hideP (A1.out.next hbW)
  have HVN := hideP (show vs.length ≤ 64 by rw [HVS.out]; exact treeTs_len K ts)
  have T2 := hideP ((HT.out.below X2.out.B (Nat.le_refl _)).wide X2.out.B.size)
  have HW2 : Hid (w.heap.size + 2 ≤ W.heap.size) := by have := hbW.size; have := HS0.out; show w.heap.size + 2 ≤ W.heap.size; omega
  have c0 := X2.out.c0
  have c1 := X2.out.c1
  clear hX hbW hlowA hlowX HELD B0 B1 HXE hszE T0d T0e T1 X1 A1
  clear nl
  go_wp2_with fail
  refine (specParts_any K ao cap ts _ hn T2.out).mono ?_
  rintro e w3 ⟨gp, op, cp, rfl, hRp, hb3⟩
  have hPN : partN K ts = K.toNat := by simp [partN, HOK.out]
  rw [hPN] at hRp ⊢
  obtain ⟨Kn, hKn⟩ : ∃ n : Nat, K = (n : Int) := ⟨K.toNat, by have := (okB_iff.1 HOK.out).1; omega⟩
  have hK8 : Kn ≤ 8 := by have := (okB_iff.1 HOK.out).2.1; omega
  subst hKn
  rw [Int.toNat_natCast] at hRp ⊢
  have S3 : Hid (Sdb w w3 (Kn : Int) (.slice ao ts.length cap) XB aoX capX vs gp op cp ((List.range Kn).map (topN ts)) (w.heap.size + 1) 0 0 []) :=
    ⟨X2.out.next hb3, XN.out.next hb3, hRp.down (by have := HW2.out; omega), A2.out.next hb3, HLX.out, fun _ => HLA.out, by have := hRp.lo; have := HW2.out; omega⟩
  have HVK := hideP (treeTs_ok HOK.out)
  rw [← HVS.out] at HVK
  clear hRp hb3 X2 XN A2 T2 HT c0 c1 hPN
  go_wp2
  go_loopw [3, 6] (fun v i wr => ∃ k g off cap' : Nat, k ≤ Kn ∧ i = .int .i64 (k : Int) ∧ v = .slice (some ⟨g, off, none⟩) k cap' ∧ Sdb w wr (Kn : Int) (.slice ao ts.length cap) XB aoX capX vs gp op cp ((List.range Kn).map (topN ts)) g off cap' ((List.range k).map (sdN vs)))
    (fun _ i _ => Kn - (intOf i).toNat)
  case atStart => exact ⟨0, w.heap.size + 1, 0, 0, Nat.zero_le _, rfl, rfl, S3.out⟩
  case round =>
    clear S3
    obtain ⟨k, g, off, cap', hk, rfl, rfl, hS⟩ := hrel
    have HS := hideP hS
    have c0 := hS.X.c0
    have c1 := hS.X.c1
    by_cases hlt : k < Kn
    · have hk1 : (k : Int) < (Kn : Int) := by omega
      have hk0 : (0 : Int) ≤ (k : Int) := by omega
      have x0 := hS.N.c0
      have x1 := hS.N.c1
      have hpc := hS.P.cells k (by simpa using hlt)
      obtain ⟨y, hy⟩ : ∃ y, y = topN ts k := ⟨_, rfl⟩
      have hyk : y ≤ k := by rw [hy]; exact topN_le ts k
      have hpg : ((List.range Kn).map (topN ts)).getD k 0 = y := by rw [hy]; simp [hlt]
      rw [hpg] at hpc
      have hpc' : wr.cell? ⟨gp, op + k, none⟩ = some (.int .i64 (y : Int)) := hpc
      obtain ⟨hfd, hsd, hl8⟩ := wayTop_side (K := (Kn : Int)) (ts := ts) HOK.out (k := k) (by simpa using hlt)
      rw [← HVS.out, ← hy] at hfd hsd hl8
      have hvn : vs.length ≤ 1099511627776 := by have := HVN.out; omega
      have hFI : ∀ W, TiesIn W W.heap.size aoX vs → Calls Tryd.prog 61 #[.agg #[.int .i64 (Kn : Int), .slice aoX vs.length capX], .int .i64 (y : Int), .int .i64 (k : Int)] W fun e w' => ∃ g cap', e = .returned (.tuple #[.slice (some ⟨g, 0, none⟩) (findB (Kn : Int) vs (y : Int) (k : Int)).length cap', .bool true]) ∧ Below W.heap.size W w' := fun W h =>
        (specFind0_any Kn aoX capX vs y k W hvn h HVK.out (by omega) hlt hfd).mono (fun e w' ⟨g, c, h1, _, h3⟩ => ⟨g, c, h1, h3⟩)
      have HFI := hideP hFI
      obtain ⟨m, hm⟩ : ∃ m, m = (findB (Kn : Int) vs (y : Int) (k : Int)).length := ⟨_, rfl⟩
      rw [← hm] at HFI hsd hl8
      have HSD := hideP hsd
      have hpl : ((List.range k).map (sdN vs)).length = k := by simp
      have hk8 : k ≤ 8 := by omega
      clear hS hpc hpg hy hfd hsd hFI hm hvn hyk
      have SD := hideP (HS.out.next (Below.refl _ _).drew)
      have hXl := HS.out.N.lt
      have hPl := HS.out.P.lt
      clear HS
      go_wp2
      clear c0 c1
      go_region_held3 (fun w' => w'.cell? ⟨XB, 0, none⟩ = some (.int .i64 (Kn : Int)) ∧ w'.cell? ⟨XB, 1, none⟩ = some (.slice aoX vs.length capX) ∧ w'.cell? ⟨gp, op + k, none⟩ = some (.int .i64 (y : Int))) (first | exact ⟨x0, x1, hpc'⟩ | exact ⟨(hb5.cell (p := ⟨XB, 0, none⟩) hXl).trans x0, (hb5.cell (p := ⟨XB, 1, none⟩) hXl).trans x1, (hb5.cell (p := ⟨gp, op + k, none⟩) hPl).trans hpc'⟩) (first | (go_at_call 61; refine (HFI.out _ SD.out.N.ties).mono ?_; rintro e w5 ⟨g5, c5, rfl, hb5⟩))
      have S5 := hideP (SD.out.next hb5)
      clear hb5 HFI SD x0 x1 hpc' hXl hPl
      have hrem : (Int.tmod ((m : Int) + 1) 2) = ((sdN vs k : Nat) : Int) := by rw [← HSD.out]; rfl
      have bo := below_one w5 (.cells #[.int .i64 ((sdN vs k : Nat) : Int)] 3)
      have SB := hideP (S5.out.next bo)
      clear bo S5
      go_wp2_with (at_builtin; refine wpList_append_rowS _ rfl _ _ 27 rfl (w.heap.size + 1) 3 i1 Tryd.underlying27 HI1.out.1 HI1.out.2.1 HI1.out.2.2.1 HI1.out.2.2.2 g off cap' ((List.range k).map (sdN vs)) k hpl rfl SB.out.R w5.heap.size (sdN vs k) rfl ?_ ?_ ?_ ?_)
      · rw [World.cell?_alloc_at _ _ _ _ rfl]; rfl
      · rw [hpl]; omega
      · exact SB.out.X.lt
      intro g4 off4 cap4 w4 hR4 hg4 ht4
      have S4 := hideP (SB.out.more (ys := (List.range (k + 1)).map (sdN vs)) (by rw [List.range_succ, List.map_append]; exact hR4) (by rw [World.size_alloc]; exact hg4) ht4)
      clear hR4 ht4 hg4 SB
      go_wp2
      refine ⟨⟨k + 1, g4, off4, cap4, by omega, by go_num, rfl, S4.out⟩, ?_⟩
      simp [intOf]; omega
    · obtain rfl : k = Kn := by omega
      have F1 := hideP (hS.R.down (Nat.le_succ _))
      have F2 := hideP hS.X.B
      clear hS HS
      go_wp2
      go_ret
      refine ⟨g, off, cap', rfl, ?_, F2.out⟩
      have e : sdL (k : Int) ts = (List.range k).map (sdN vs) := by unfold sdL; rw [HVS.out, Int.toNat_natCast]
      rw [e]; exact F1.out

end Go.Proofs.YtiaeffpjcinilaaDoor
