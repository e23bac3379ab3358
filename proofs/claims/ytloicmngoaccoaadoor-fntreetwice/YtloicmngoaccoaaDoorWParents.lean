/- Walk of impl.parentsOf: of each knot of a tree the one above. -/
import Derived.Test.YtloicmngoaccoaaDoorWHang
import Derived.Test.YtloicmngoaccoaaDoorPartWForest
namespace Go.Proofs.YtloicmngoaccoaaDoor
open Go.RowKit
set_option linter.unusedVariables false

/-- what stands while parents are told: the answer's block, the forest's, and their own -/
structure Pst (us : List (Int × Int)) (w wr : World) (A U k : Nat) : Prop where
  R : OwnI wr w.heap.size 8 zcell
  F : OwnI wr A 8 (pcellN (forest us us.length))
  B : Below w.heap.size w wr
  h : w.heap.size < A
  u : A < U
  g : ∃ g, OwnI wr U 8 (pcellN g) ∧ (∀ v, g v = v ∨ g v = parN 8 us v) ∧ ∀ v, v < 8 → topN us v < k → g v = parN 8 us v
theorem Pst.skip {us : List (Int × Int)} {w wr : World} {A U k : Nat} (h : Pst us w wr A U k) (hk : topN us k ≠ k) : Pst us w wr A U (k + 1) := by
  obtain ⟨g, g1, g2, g3⟩ := h.g
  refine ⟨h.R, h.F, h.B, h.h, h.u, g, g1, g2, fun v hv ht => g3 v hv ?_⟩
  have : topN us v ≠ k := fun e => hk (by rw [← e]; exact topN_top us v)
  omega
theorem Pst.start {us : List (Int × Int)} {w w2 : World} {A : Nat} (h : Fst w w2 A (pcellN (forest us us.length))) (hA : A < w2.heap.size) (t' : TypeId) : Pst us w (w2.alloc (.cells #[.int .i64 0, .int .i64 1, .int .i64 2, .int .i64 3, .int .i64 4, .int .i64 5, .int .i64 6, .int .i64 7] t')) A w2.heap.size 0 := by
  have h3 := h.next (below_one w2 (.cells #[.int .i64 0, .int .i64 1, .int .i64 2, .int .i64 3, .int .i64 4, .int .i64 5, .int .i64 6, .int .i64 7] t'))
  exact ⟨h3.R, h3.F, h3.B, h.h, hA, fun k => k, forest_own w2 (fun k => k) t', fun v => Or.inl rfl, fun v _ h => by omega⟩
theorem last_mem {q : List Nat} (h : 0 < q.length) : lastN q ∈ q := by
  rw [lastN_at h, List.getD_eq_getElem?_getD, List.getElem?_eq_getElem (by omega)]
  exact List.getElem_mem _
theorem Pst.hung {us : List (Int × Int)} (t : Trn 8 us 8) {w wr w' : World} {F U k : Nat} (h : Pst us w wr F U k) (hk : k < 8) {g : Nat → Nat} (hg2 : ∀ v, g v = v ∨ g v = parN 8 us v) (hg3 : ∀ v, v < 8 → topN us v < k → g v = parN 8 us v) (hp : Hp us U g k wr 8 w') : Pst us w w' F U (k + 1) := by
  obtain ⟨g', p1, p2, p3, p4⟩ := hp
  have hu := h.u
  have hh := h.h
  refine ⟨h.R.turn p2 (Or.inl (by omega)), h.F.turn p2 (Or.inl hu), h.B.trans (p2.under (by omega) h.B.size), hh, hu, g', p1, fun v => ?_, fun v hv ht => ?_⟩
  · rcases p3 v with e | e
    · rcases hg2 v with q | q
      · exact Or.inl (e.trans q)
      · exact Or.inr (e.trans q)
    · exact Or.inr e
  · by_cases e : topN us v = k
    · by_cases ev : v = k
      · subst ev
        have hr := (t.root hv e).1
        rcases p3 v with q | q
        · rcases hg2 v with r | r
          · rw [q, r, hr]
          · rw [q, r]
        · exact q
      · refine p4.all t hv ?_ ev
        have R := t.rt hv
        rw [← e, ← R.lst]; exact last_mem R.pos
    · rcases p3 v with q | q
      · rw [q]; exact hg3 v hv (by omega)
      · exact q
set_option maxHeartbeats 1600000 in
theorem parentsOf_any (K : Int) (us : List (Int × Int)) (w : World) (hT : Tab w) (hok : okB K us = true) (t : Trn 8 us 8) :
    Calls Tryd.prog 57 #[.int .u64 ((setN K us : Nat) : Int)] w fun e w' => e = .returned (forestV (parN 8 us)) ∧ Below w.heap.size w w' := by
  have HTab := hideP hT
  have HT := hideP t
  have HE : Hid (∀ x y : Nat, decide (setN K us &&& pbit (x : Int) (y : Int) ≠ 0) = tieNB us x y) := fun x y => by rw [has_set K us _ _ hok, hasB_ok hok]; rfl
  have HS := hideP (setN_lt K us)
  have HB := hideP (set_bits hok)
  obtain ⟨h0, h8, hg⟩ := okB_iff.1 hok
  have HG := hideP hg
  have HSH := hideP (ok_short (okB_iff.1 hok))
  obtain ⟨s, hs⟩ : ∃ s, s = setN K us := ⟨_, rfl⟩
  rw [← hs] at HE HS HB ⊢
  clear hT t hs hok hg
  go_enter Tryd.func57, Tryd.ntmps57
  go_wp2_with fail
  refine (forestOf_any K us s _ (HTab.out.below (below_one _ _) HTab.out.2) h8 HG.out HSH.out HB.out HS.out).mono ?_
  rintro e w1 ⟨rfl, hb1⟩
  have S1 := fun t' => hideP (Fst.laid w w1 (forest us us.length) _ t' hb1)
  have hA : w.heap.size < w1.heap.size := by have := hb1.size; simp at this; omega
  unfold forestV
  clear hb1 HTab
  go_wp2_with fail
  refine (alone_any _).mono ?_
  rintro e w2 ⟨rfl, hb2⟩
  have S2 := hideP ((S1 _).out.next hb2)
  have hU : w1.heap.size < w2.heap.size := by have := hb2.size; simp at this; omega
  have ST := fun t' => hideP (Pst.start S2.out hU t')
  unfold forestV
  clear S1 hb2 S2
  obtain ⟨A, hAe⟩ : ∃ A, A = w1.heap.size := ⟨_, rfl⟩
  obtain ⟨U, hUe⟩ : ∃ U, U = w2.heap.size := ⟨_, rfl⟩
  rw [← hAe] at ST hA hU
  rw [← hUe] at ST hU
  go_wp2
  rw [← hUe, ← hAe]
  clear hUe hAe
  go_loopw [9] (fun i wr => ∃ k : Nat, k ≤ 8 ∧ i = .int .i64 k ∧ Pst us w wr A U k)
    (fun i _ => 8 - (intOf i).toNat)
  case atStart => exact ⟨0, Nat.zero_le _, rfl, (ST _).out⟩
  case round =>
    clear ST
    obtain ⟨k, hk, rfl, hS⟩ := hrel
    by_cases hlt : k < 8
    · have hk8 : (k : Int) < 8 := by omega
      have HSP := hideP hS
      by_cases hr : topN us k = k
      · have hr' : top (forest us us.length) k = k := hr
        obtain ⟨g, g1, g2, g3⟩ := hS.g
        have hgk : g k = parN 8 us k := by
          have := (HT.out.root hlt hr).1
          rcases g2 k with e | e
          · rw [e, this]
          · exact e
        have CL := hideP (hang_any us HT.out s U HS.out HE.out 8 k g wr hlt (by omega) g1 g2 hgk)
        have NX : Hid (∀ w', Hp us U g k wr 8 w' → Pst us w w' A U (k + 1)) := fun w' h => hS.hung HT.out hlt g2 g3 h
        clear hS g1 g2 g3 hgk
        go_wp2_with fail
        refine (least_any A (forest us us.length) k _ HSP.out.F (forest_low us _) hlt).mono ?_
        rintro e w3 ⟨rfl, rfl⟩
        rw [hr']
        clear hr hr'
        go_wp2_with fail
        refine CL.out.mono ?_
        rintro e w4 ⟨rfl, h4⟩
        have F := hideP (NX.out w4 h4)
        clear h4 CL NX HSP
        go_wp2
        exact ⟨⟨k + 1, by omega, by go_num, F.out⟩, by simp [intOf]; omega⟩
      · have hne : (((top (forest us us.length) k : Nat) : Int) == (k : Int)) = false := by
          rw [beq_eq_false_iff_ne]
          have : top (forest us us.length) k ≠ k := hr
          omega
        have F := hideP (hS.skip hr)
        clear hS
        go_wp2_with fail
        refine (least_any A (forest us us.length) k _ HSP.out.F (forest_low us _) hlt).mono ?_
        rintro e w3 ⟨rfl, rfl⟩
        go_wp2
        exact ⟨⟨k + 1, by omega, by go_num, F.out⟩, by simp [intOf]; omega⟩
    · obtain rfl : k = 8 := by omega
      obtain ⟨g, g1, g2, g3⟩ := hS.g
      have HB9 := hideP hS.B
      have d0 : wr.cell? ⟨U, 0, none⟩ = some (.int .i64 ((parN 8 us 0 : Nat) : Int)) := by have := g1.1 0 (by omega); rw [this]; unfold pcellN; rw [g3 0 (by omega) (Nat.lt_of_le_of_lt (topN_le us 0) (by omega))]
      have r0 : wr.cell? ⟨w.heap.size, 0, none⟩ = some (.int .i64 0) := hS.R.1 0 (by omega)
      have g0' := hS.R.2.1 0
      have d1 : wr.cell? ⟨U, 1, none⟩ = some (.int .i64 ((parN 8 us 1 : Nat) : Int)) := by have := g1.1 1 (by omega); rw [this]; unfold pcellN; rw [g3 1 (by omega) (Nat.lt_of_le_of_lt (topN_le us 1) (by omega))]
      have r1 : wr.cell? ⟨w.heap.size, 1, none⟩ = some (.int .i64 0) := hS.R.1 1 (by omega)
      have g1' := hS.R.2.1 1
      have d2 : wr.cell? ⟨U, 2, none⟩ = some (.int .i64 ((parN 8 us 2 : Nat) : Int)) := by have := g1.1 2 (by omega); rw [this]; unfold pcellN; rw [g3 2 (by omega) (Nat.lt_of_le_of_lt (topN_le us 2) (by omega))]
      have r2 : wr.cell? ⟨w.heap.size, 2, none⟩ = some (.int .i64 0) := hS.R.1 2 (by omega)
      have g2' := hS.R.2.1 2
      have d3 : wr.cell? ⟨U, 3, none⟩ = some (.int .i64 ((parN 8 us 3 : Nat) : Int)) := by have := g1.1 3 (by omega); rw [this]; unfold pcellN; rw [g3 3 (by omega) (Nat.lt_of_le_of_lt (topN_le us 3) (by omega))]
      have r3 : wr.cell? ⟨w.heap.size, 3, none⟩ = some (.int .i64 0) := hS.R.1 3 (by omega)
      have g3' := hS.R.2.1 3
      have d4 : wr.cell? ⟨U, 4, none⟩ = some (.int .i64 ((parN 8 us 4 : Nat) : Int)) := by have := g1.1 4 (by omega); rw [this]; unfold pcellN; rw [g3 4 (by omega) (Nat.lt_of_le_of_lt (topN_le us 4) (by omega))]
      have r4 : wr.cell? ⟨w.heap.size, 4, none⟩ = some (.int .i64 0) := hS.R.1 4 (by omega)
      have g4' := hS.R.2.1 4
      have d5 : wr.cell? ⟨U, 5, none⟩ = some (.int .i64 ((parN 8 us 5 : Nat) : Int)) := by have := g1.1 5 (by omega); rw [this]; unfold pcellN; rw [g3 5 (by omega) (Nat.lt_of_le_of_lt (topN_le us 5) (by omega))]
      have r5 : wr.cell? ⟨w.heap.size, 5, none⟩ = some (.int .i64 0) := hS.R.1 5 (by omega)
      have g5' := hS.R.2.1 5
      have d6 : wr.cell? ⟨U, 6, none⟩ = some (.int .i64 ((parN 8 us 6 : Nat) : Int)) := by have := g1.1 6 (by omega); rw [this]; unfold pcellN; rw [g3 6 (by omega) (Nat.lt_of_le_of_lt (topN_le us 6) (by omega))]
      have r6 : wr.cell? ⟨w.heap.size, 6, none⟩ = some (.int .i64 0) := hS.R.1 6 (by omega)
      have g6' := hS.R.2.1 6
      have d7 : wr.cell? ⟨U, 7, none⟩ = some (.int .i64 ((parN 8 us 7 : Nat) : Int)) := by have := g1.1 7 (by omega); rw [this]; unfold pcellN; rw [g3 7 (by omega) (Nat.lt_of_le_of_lt (topN_le us 7) (by omega))]
      have r7 : wr.cell? ⟨w.heap.size, 7, none⟩ = some (.int .i64 0) := hS.R.1 7 (by omega)
      have g7' := hS.R.2.1 7
      obtain ⟨f, hf⟩ : ∃ f, f = parN 8 us := ⟨_, rfl⟩
      have HV : Hid (forestV (parN 8 us) = .agg #[.int .i64 ((f 0 : Nat) : Int), .int .i64 ((f 1 : Nat) : Int), .int .i64 ((f 2 : Nat) : Int), .int .i64 ((f 3 : Nat) : Int), .int .i64 ((f 4 : Nat) : Int), .int .i64 ((f 5 : Nat) : Int), .int .i64 ((f 6 : Nat) : Int), .int .i64 ((f 7 : Nat) : Int)]) := by rw [hf]; exact hideP rfl
      rw [← hf] at d0 d1 d2 d3 d4 d5 d6 d7
      clear hf hS g1 g2 g3 HE HS HT HG HB HSH
      go_wp2
      refine bodyPost_ret (v := .agg #[.int .i64 ((f 0 : Nat) : Int), .int .i64 ((f 1 : Nat) : Int), .int .i64 ((f 2 : Nat) : Int), .int .i64 ((f 3 : Nat) : Int), .int .i64 ((f 4 : Nat) : Int), .int .i64 ((f 5 : Nat) : Int), .int .i64 ((f 6 : Nat) : Int), .int .i64 ((f 7 : Nat) : Int)]) ?_ rfl ⟨by rw [HV.out], ?_⟩
      · simp [results, Tryd.results57, go_sem, r0, r1, r2, r3, r4, r5, r6, r7]
      · exact ((((((((HB9.out.setCell (p := ⟨w.heap.size, 0, none⟩) (Nat.le_refl _) _).setCell (p := ⟨w.heap.size, 1, none⟩) (Nat.le_refl _) _).setCell (p := ⟨w.heap.size, 2, none⟩) (Nat.le_refl _) _).setCell (p := ⟨w.heap.size, 3, none⟩) (Nat.le_refl _) _).setCell (p := ⟨w.heap.size, 4, none⟩) (Nat.le_refl _) _).setCell (p := ⟨w.heap.size, 5, none⟩) (Nat.le_refl _) _).setCell (p := ⟨w.heap.size, 6, none⟩) (Nat.le_refl _) _).setCell (p := ⟨w.heap.size, 7, none⟩) (Nat.le_refl _) _)

end Go.Proofs.YtloicmngoaccoaaDoor
