/- impl.SideOdd answers with room for what it answers. -/
import Derived.Test.YtiaeffpjcinilaaDoorWSideOdd
namespace Go.Proofs.YtiaeffpjcinilaaDoor
open Go.RowKit
set_option linter.unusedVariables false

set_option maxHeartbeats 1600000 in
theorem implSideOdd_cap (K : Int) (ao : Option Addr) (cap : Nat) (ts : List (Int × Int)) (w : World) (hn : ts.length ≤ 1099511627776) (ht : TiesIn w w.heap.size ao ts) (hT : Tab w) :
    Calls Tryd.prog 20 #[.agg #[.int .i64 K, .slice ao ts.length cap]] w fun e w' => ∃ ao' cap', e = .returned (.tuple #[.slice ao' (oddL K ts).length cap', .bool (oddV K ts)]) ∧ OwnR w' w.heap.size w'.heap.size ao' (oddL K ts).length (pcellN (pn (oddL K ts))) ∧ Below w.heap.size w w' ∧ (oddL K ts).length ≤ cap' := by
  have X0 := fun (t : TypeId) => Bx.start w K (.slice ao ts.length cap) t
  have HX0 := hideP X0
  have HT := hideP ht
  have HTab := hideP hT
  clear X0 ht hT
  obtain ⟨K', vs, hok, hset, hoV, hoL⟩ := odd_go K ts
  obtain ⟨q, hq⟩ : ∃ q, q = okB K ts := ⟨_, rfl⟩
  have HQ := hideP hq
  have HSET := hideP hset
  obtain ⟨o, ho⟩ : ∃ o, oddS K' vs = o := ⟨_, rfl⟩
  have HO := hideP ho
  rw [ho] at hoV hoL
  have HOV := hideP hoV
  have HOL := hideP hoL
  obtain ⟨V, hV⟩ : ∃ V, V = oddV K ts := ⟨_, rfl⟩
  obtain ⟨L, hL⟩ : ∃ L, L = oddL K ts := ⟨_, rfl⟩
  rw [← hV] at HOV ⊢
  rw [← hL] at HOL ⊢
  clear hV hL ho
  have HOK := hideP hok
  have HM := hideP (tree_set hok)
  have HUK := hideP (treeTs_ok hok)
  have HTR := hideP (tree_trn hok).eight
  have hK8 := (okB_iff.1 hok).2.1
  have hK0 := (okB_iff.1 hok).1
  have HRS := hideP (fun (t : Int × Int) (ht : t ∈ vs) => rst_of hok ht)
  have HMEM := hideP (fun (t : Int × Int) (h : oddS K' vs = some t) => odd_mem h)
  clear hok hset hoV hoL hq
  go_enter Tryd.func20, Tryd.ntmps20
  go_wp2_with fail
  refine (pairsOf_any K ao cap ts _ hn ((HT.out.below (HX0.out _).B (Nat.le_refl _)).wide (Nat.le_of_lt (HX0.out _).lt))).mono ?_
  rw [HSET.out, ← HQ.out]
  rintro e w2 ⟨rfl, hb1⟩
  have B2 := hideP ((HX0.out _).next hb1).B
  have T2 := hideP (HTab.out.below B2.out HTab.out.2)
  clear hb1 HX0 HT
  go_wp2_with fail
  refine (treeM_any K' vs _ T2.out HOK.out).mono ?_
  rw [HM.out]
  rintro e w3 ⟨rfl, hb3⟩
  have B3 := hideP (B2.out.trans (hb3.mono B2.out.size))
  have T3 := hideP (T2.out.below hb3 T2.out.2)
  clear hb3 T2 B2
  go_wp2_with fail
  refine (sidesBy_any (treeTs K' vs) (ok_8 HUK.out) HTR.out _ T3.out).mono ?_
  rintro e w4 ⟨rfl, hb4⟩
  have B4 := hideP (B3.out.trans (hb4.mono B3.out.size))
  have T4 := hideP (T3.out.below hb4 T3.out.2)
  clear hb4 T3 B3
  have HFO := hideP (fun t' => forest_own w4 (sdN (treeTs K' vs)) t')
  have T5 := hideP (fun o => T4.out.alloc o)
  have HIN := hideP (fun t' => sides_in (HFO.out t') (HFO.out t').2.2)
  have B5 := hideP (fun o => B4.out.trans ((below_one w4 o).mono B4.out.size))
  unfold forestV
  have hs8 := sd8_len K' vs
  obtain ⟨xs, hxs⟩ : ∃ xs, xs = sd8 K' vs := ⟨_, rfl⟩
  rw [← hxs] at HIN hs8
  have HXO : Hid (oddT vs xs = o) := hideP (by rw [hxs]; exact HO.out)
  have HS8 := hideP hs8
  clear hs8 hxs T4 B4
  go_wp2_with fail
  refine (tieWithin_is o K' vs _ 8 8 xs _ HS8.out (T5.out _) HOK.out (HIN.out _) hK8 (by omega) HXO.out).mono ?_
  unfold odV
  rintro e w6 ⟨rfl, hb6⟩
  have B6 := hideP ((B5.out _).trans (hb6.mono (B5.out _).size))
  have T6 := hideP ((T5.out _).below hb6 (T5.out _).2)
  clear hb6 B5 T5 HIN HFO
  cases o with
  | none =>
    have HB := hideP (fun o => B6.out.trans ((below_one w6 o).mono B6.out.size))
    clear B6 T6
    go_wp2
    go_ret2
    exact ⟨none, 0, by rw [HOL.out, HOV.out]; rfl, by rw [HOL.out]; exact Or.inl ⟨rfl, rfl⟩, HB.out _, by rw [HOL.out]; exact Nat.le_refl _⟩
  | some t =>
    obtain ⟨x, y, R⟩ := HRS.out t (HMEM.out t HO.out)
    have e2 := R.eq
    subst e2
    have hx8 : x < 8 := by have := R.lt; have := R.kn; omega
    have hy8 : y < 8 := by have := R.kn; omega
    have hq2 : oddW K' vs (some ((x : Int), (y : Int))) = findB K' (treeTs K' vs) (y : Int) (x : Int) := rfl
    have hw := R.way
    have hs8 := R.same
    have htop := R.top
    rw [hq2] at HOL
    obtain ⟨q2, hqq⟩ : ∃ q2, q2 = findB K' (treeTs K' vs) (y : Int) (x : Int) := ⟨_, rfl⟩
    rw [← hqq] at hw hs8 HOL
    have hq0 := hw.pos
    have hq8 := hw.le
    have WAY : Hid (∀ W A, OwnI W A 8 (pcellN (parN 8 (treeTs K' vs))) → Calls Tryd.prog 55 #[.pointer (some ⟨A, 0, none⟩), .int .i64 (y : Int), .int .i64 (x : Int)] W fun e w' => e = .returned (pathV (cI q2)) ∧ Below W.heap.size W w') := fun W A h => by
      have := wayUp_any (treeTs K' vs) HTR.out A y x W h hy8 hx8 htop
      rw [hs8] at this; exact this
    have HLI := hideP (fun W => list_any q2 W hq0 hq8)
    have T7 := hideP (fun o => T6.out.alloc o)
    have B7 := hideP (fun o => B6.out.trans ((below_one w6 o).mono B6.out.size))
    obtain ⟨m, hm⟩ : ∃ m, m = q2.length := ⟨_, rfl⟩
    rw [← hm] at HLI hq0 hq8
    have HMM := hideP hm
    clear hw hs8 htop hq2 hqq hm R T6 B6 HRS HMEM HM
    go_wp2_with fail
    refine (parentsOf_any 8 (treeTs K' vs) _ (T7.out _) (ok_8 HUK.out) HTR.out).mono ?_
    rintro e w8 ⟨rfl, hb8⟩
    have HPO := hideP (fun t' => forest_own w8 (parN 8 (treeTs K' vs)) t')
    have B8 := hideP ((B7.out _).trans (hb8.mono (B7.out _).size))
    have d0 : w8.cell? ⟨w6.heap.size, 0, none⟩ = some (.int .i64 (x : Int)) := (hb8.cell (p := ⟨w6.heap.size, 0, none⟩) (by simp)).trans (World.cell?_alloc_at _ _ _ _ rfl)
    have d1 : w8.cell? ⟨w6.heap.size, 1, none⟩ = some (.int .i64 (y : Int)) := (hb8.cell (p := ⟨w6.heap.size, 1, none⟩) (by simp)).trans (World.cell?_alloc_at _ _ _ _ rfl)
    have hl8 : w6.heap.size < w8.heap.size := by have := hb8.size; rw [World.size_alloc] at this; omega
    have D0 := fun o => ((below_one w8 o).cell (p := ⟨w6.heap.size, 0, none⟩) hl8).trans d0
    have D1 := fun o => ((below_one w8 o).cell (p := ⟨w6.heap.size, 1, none⟩) hl8).trans d1
    unfold forestV
    clear hb8 T7 B7 d0 d1
    go_wp2_with fail
    refine (WAY.out _ w8.heap.size (HPO.out _)).mono ?_
    rintro e w9 ⟨rfl, hb9⟩
    have B9 := hideP (((B8.out).trans ((below_one w8 _).mono B8.out.size)).trans (hb9.mono (B8.out.trans ((below_one w8 _).mono B8.out.size)).size))
    clear hb9 HPO B8
    go_wp2_with fail
    refine (HLI.out w9).mono ?_
    rintro e w10 ⟨g, c, rfl, ho, hb10⟩
    have HOW := hideP ((row_own ho HMM.out hq0))
    obtain ⟨g6, c6, e6, hR6⟩ := RowS.ofOwn (cap := 0) (xs := q2) ho hq0
    cases e6
    have HCP := hideP hR6.len
    clear hR6
    have B10 := hideP (B9.out.trans (hb10.mono B9.out.size))
    have O10 : Hid (OwnR w10 w.heap.size w10.heap.size (some ⟨g, 0, none⟩) m (pcellN (pn q2))) := hideP (Or.inr ⟨g, rfl, by have h1 := HOW.out.2.1; have h2 := B9.out.size; omega, HOW.out.2.2, HOW.out.1⟩)
    clear ho hb10 B9 HOW
    go_wp2
    go_ret2
    exact ⟨some ⟨_, 0, none⟩, _, by rw [HOL.out, HOV.out, ← HMM.out]; rfl, by rw [HOL.out, ← HMM.out]; exact O10.out, B10.out, by rw [HOL.out]; exact HCP.out⟩

end Go.Proofs.YtiaeffpjcinilaaDoor
