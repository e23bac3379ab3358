/- Walks of impl.WayParts, spec.WayParts. -/
import Derived.Test.YtiaeffpjcinilaaDoorWReach2
namespace Go.Proofs.YtiaeffpjcinilaaDoor
open Go.RowKit
set_option linter.unusedVariables false

def partN (K : Int) (ts : List (Int × Int)) : Nat := if okB K ts = true then K.toNat else 0
def topN (ts : List (Int × Int)) (j : Nat) : Nat := top (forest ts ts.length) j
def tTo (ts : List (Int × Int)) (k j : Nat) : Value := .int .i64 (if j < k then ((topN ts j : Nat) : Int) else 0)
theorem tTo_step (ts : List (Int × Int)) (k j : Nat) : (if j = k then Value.int .i64 ((topN ts k : Nat) : Int) else tTo ts k j) = tTo ts (k + 1) j := by
  unfold tTo
  by_cases h : j = k
  · subst h; rw [if_pos rfl, if_pos (by omega)]
  · rw [if_neg h]
    by_cases h2 : j < k
    · rw [if_pos h2, if_pos (by omega)]
    · rw [if_neg h2, if_neg (by omega)]
theorem topN_le (ts : List (Int × Int)) (k : Nat) : topN ts k ≤ k := top_le (forest_low ts _) k
theorem reach_top (ts : List (Int × Int)) (k : Nat) : reachB ts k (topN ts k) = true := by
  unfold reachB topN; rw [decide_eq_true_eq]; exact top_top (forest_low ts _) k
theorem reach_low (ts : List (Int × Int)) (k j : Nat) (h : j < topN ts k) : reachB ts k j = false := by
  unfold reachB; rw [decide_eq_false_iff_not]
  intro e
  have h1 := top_le (forest_low ts ts.length) j
  unfold topN at h
  omega

set_option maxHeartbeats 1600000 in
theorem implParts_any (K : Int) (ao : Option Addr) (cap : Nat) (ts : List (Int × Int)) (w : World) (hn : ts.length ≤ 1099511627776) (ht : TiesIn w w.heap.size ao ts) (hT : Tab w) :
    Calls Tryd.prog 18 #[.agg #[.int .i64 K, .slice ao ts.length cap]] w fun e w' => ∃ ao' cap', e = .returned (.slice ao' (partN K ts) cap') ∧ OwnR w' w.heap.size w'.heap.size ao' (partN K ts) (pcellN (topN ts)) ∧ Below w.heap.size w w' := by
  have X0 := fun (t : TypeId) => Bx.start w K (.slice ao ts.length cap) t
  have HX0 := hideP X0
  have HT := hideP ht
  have HTab := hideP hT
  clear X0 ht hT
  go_enter Tryd.func18, Tryd.ntmps18
  go_wp2_with fail
  refine (pairsOf_any K ao cap ts _ hn ((HT.out.below (HX0.out _).B (Nat.le_refl _)).wide (Nat.le_of_lt (HX0.out _).lt))).mono ?_
  rintro e w2 ⟨rfl, hb1⟩
  have X2 := hideP ((HX0.out _).next hb1)
  clear hb1
  cases hok : okB K ts
  · have HN : Hid (partN K ts = 0) := by show partN K ts = 0; simp [partN, hok]
    have HB := hideP X2.out.B
    clear hok
    go_wp2
    go_ret
    exact ⟨none, 0, by rw [HN.out]; rfl, by rw [HN.out]; exact Or.inl ⟨rfl, rfl⟩, HB.out⟩
  have HN : Hid (partN K ts = K.toNat) := by show partN K ts = _; simp [partN, hok]
  have hnet := okB_iff.1 hok
  have HOK := hideP hok
  have T2 := hideP (HTab.out.below X2.out.B HTab.out.2)
  clear hok
  go_wp2_with fail
  refine (forestOf_ok K ts _ T2.out HOK.out).mono ?_
  rintro e w3 ⟨rfl, hb3⟩
  have X3 := hideP (X2.out.next hb3)
  clear hb3
  obtain ⟨f, hf⟩ : ∃ f, f = forest ts ts.length := ⟨_, rfl⟩
  have HF := hideP hf
  have HLow : Hid (Low f) := by show Low f; rw [hf]; exact forest_low ts _
  rw [← hf]
  clear hf
  unfold forestV
  have FO := hideP (fun t => forest_own w3 f t)
  obtain ⟨Kn, hKn⟩ : ∃ n : Nat, K = (n : Int) := ⟨K.toNat, by have := hnet.1; omega⟩
  subst hKn
  have hK8 : Kn ≤ 8 := by have := hnet.2.1; omega
  obtain ⟨i0, hi, hz0, hz1, hz2⟩ := info_parts Tryd.infoInt
  have HI : Hid (i0.bytes * Kn ≤ 281474976710656) := by rw [hz2]; show 8 * Kn ≤ _; omega
  have c0 := X3.out.c0
  have cl := X3.out.lt
  clear hnet
  go_wp2_with (at_make; refine wpList_make_full _ rfl _ _ 27 rfl (w3.heap.size + 1) 3 i0 (.int .i64 0) 1 Tryd.underlying27 hi hz0 hz1 .i64 .i64 _ _ Kn rfl rfl ?_ ?_ HI.out ?_ ?_ ?_)
  · rfl
  · rfl
  · unfold maxLen; omega
  · simp
  intro w4 hown hgrow
  have R4 := hideP ((OwnI.made hown []).congr (f' := tTo ts 0) (fun j _ => by simp [icellTo, tTo]))
  have hb4 := (Below.refl _ _).grown hgrow (Nat.le_refl _) (fun k h => by cases h)
  have F4 := hideP ((FO.out _).below hb4 (by simp))
  have X4 := hideP ((X3.out.next (below_one w3 _)).next hb4)
  clear hown hgrow hb4 hi hz0 hz1 hz2 HI c0
  go_wp2
  go_loopw [22] (fun i wr => ∃ k : Nat, k ≤ Kn ∧ i = .int .i64 k ∧ OwnI wr (w3.heap.size + 1) Kn (tTo ts k) ∧ OwnI wr w3.heap.size 8 (pcellN f) ∧ Below w.heap.size w wr)
    (fun i _ => Kn - (intOf i).toNat)
  case atStart => exact ⟨0, Nat.zero_le _, rfl, R4.out, F4.out, X4.out.B⟩
  case round =>
    obtain ⟨k, hk, rfl, hR, hF, hB⟩ := hrel
    by_cases hlt : k < Kn
    · have LA := hideP (least_any w3.heap.size f k wr hF HLow.out (by omega))
      have d0 := hR.1 k hlt
      have e0 := hR.2.1 k
      have hk0 : (0 : Int) ≤ (k : Int) := by omega
      have hk1 : (k : Int) < (Kn : Int) := by omega
      have HRE : Hid (topN ts k = top f k) := by show topN ts k = _; unfold topN; rw [← HF.out]
      obtain ⟨t1, ht1⟩ : ∃ t, t = top f k := ⟨_, rfl⟩
      rw [← ht1] at LA HRE
      clear ht1
      have HO : Hid (OwnI (wr.setCell ⟨w3.heap.size + 1, k, none⟩ (.int .i64 (t1 : Int))) (w3.heap.size + 1) Kn (tTo ts (k + 1))) := (hR.set hlt _).congr (fun j _ => by rw [← HRE.out]; exact tTo_step _ k j)
      have HFo : Hid (OwnI (wr.setCell ⟨w3.heap.size + 1, k, none⟩ (.int .i64 (t1 : Int))) w3.heap.size 8 (pcellN f)) := hF.other (by show w3.heap.size + 1 ≠ w3.heap.size; omega) _
      have HB : Hid (Below w.heap.size w (wr.setCell ⟨w3.heap.size + 1, k, none⟩ (.int .i64 (t1 : Int)))) := hB.setCell (by show w.heap.size ≤ w3.heap.size + 1; omega) _
      clear hR hF hB
      go_wp2_with fail
      refine LA.out.mono ?_
      rintro e w5 ⟨rfl, rfl⟩
      go_wp2
      go_roundw
      case rel => exact ⟨k + 1, by omega, by go_num, HO.out, HFo.out, HB.out⟩
      case measure => simp [intOf]; omega
    · obtain rfl : k = Kn := by omega
      have HA : Hid (OwnR wr w.heap.size wr.heap.size (some ⟨w3.heap.size + 1, 0, none⟩) k (pcellN (topN ts))) :=
        Or.inr ⟨_, rfl, by omega, hR.2.2, hR.congr (fun j hj => by simp [tTo, pcellN, hj])⟩
      clear hR hF
      go_wp2
      go_ret
      refine ⟨some ⟨w3.heap.size + 1, 0, none⟩, k, ?_, ?_, hB⟩
      · rw [HN.out]; rfl
      · rw [HN.out]; exact HA.out


end Go.Proofs.YtiaeffpjcinilaaDoor
