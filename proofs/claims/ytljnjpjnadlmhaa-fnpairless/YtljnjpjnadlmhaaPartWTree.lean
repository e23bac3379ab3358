/- Texts put together: WTree, WTreeS. -/
import Derived.Test.YtljnjpjnadlmhaaPartMathT
import Derived.Test.YtljnjpjnadlmhaaPartWForest
import Derived.Test.YtljnjpjnadlmhaaPartWTies
import Derived.Test.YtljnjpjnadlmhaaPartWReach2
import Derived.Laws.OwnMore
/- Walks of impl.treeOf and impl.TreeOf. -/
namespace Go.Proofs.Ytljnjpjnadlmhaa
open Go.RowKit
set_option linter.unusedVariables false

/-- a forest of the call's own in block A; all that was there is as it was -/
structure Gst (w wr : World) (A : Nat) (c : Nat → Value) : Prop where
  F : OwnI wr A 8 c
  B : Below w.heap.size w wr
  h : w.heap.size ≤ A
theorem Gst.next {w wr w' : World} {A : Nat} {c : Nat → Value} (h : Gst w wr A c) (hb : Below wr.heap.size wr w') : Gst w w' A c :=
  ⟨h.F.below hb h.F.2.2, h.B.trans (hb.mono h.B.size), h.h⟩
theorem Gst.turn {w wr w' : World} {A : Nat} {c c' : Nat → Value} (h : Gst w wr A c) (ht : Turned A (A + 1) wr w') (hF : OwnI w' A 8 c') : Gst w w' A c' :=
  ⟨hF, h.B.trans (ht.under h.h h.B.size), h.h⟩
end Go.Proofs.Ytljnjpjnadlmhaa

/- Walk of spec.TreeOf. -/
namespace Go.Proofs.Ytljnjpjnadlmhaa
open Go.RowKit
set_option linter.unusedVariables false

theorem clist_app (L : List (Int × Int)) (x : Int × Int) : clist (L ++ [x]) (L.length + 1) = clist L L.length ++ [.int .i64 x.1, .int .i64 x.2] := by
  rw [clist_succ, (tA_app L x).1, (tA_app L x).2]
  congr 1
  unfold clist
  apply List.map_congr_left
  intro j hj
  have hj' : j < L.length * 2 := by simpa using hj
  have := tA_pre L x (i := j / 2) (by omega)
  unfold tcell
  rw [this.1, this.2]
theorem own_next {w w' : World} {base : Nat} {e : TypeId} {size : Nat} {v : Value} {n : Nat} {xs : List Value} (h : w.ownsRow base e size v n xs) (hb : Below w.heap.size w w') : w'.ownsRow base e size v n xs := by
  refine h.kept (row := none) ⟨hb.os, hb.tape, hb.output, hb.size, fun k hk _ => hb.block k hk⟩ ?_
  cases v.ownBlock <;> simp
theorem own_ties {w : World} {base cap : Nat} {ao : Option Addr} {us : List (Int × Int)} (h : w.ownsRow base 37 2 (.slice ao us.length cap) us.length (clist us us.length)) : TiesIn w w.heap.size ao us := (OwnN.of_row h).ties (Nat.le_refl _)

set_option maxHeartbeats 1600000 in
theorem specTree_row (K : Int) (ao : Option Addr) (cap : Nat) (ts : List (Int × Int)) (w : World) (hn : ts.length ≤ 1099511627776) (ht : TiesIn w w.heap.size ao ts) :
    Calls Try.prog 36 #[.agg #[.int .i64 K, .slice ao ts.length cap]] w fun e w' => ∃ ao' cap', e = .returned (.slice ao' (treeTs K ts).length cap') ∧ w'.ownsRow w.heap.size 37 2 (.slice ao' (treeTs K ts).length cap') (treeTs K ts).length (clist (treeTs K ts) (treeTs K ts).length) ∧ Below w.heap.size w w' := by
  obtain ⟨i1, hj, hy0, hy1, hy2⟩ := info_parts Try.infoTie
  have HI1 : Hid (Try.prog.info? 37 = some i1 ∧ i1.zero = some (.agg #[.int .i64 0, .int .i64 0]) ∧ i1.size = 2 ∧ i1.bytes = 16) := ⟨hj, hy0, hy1, hy2⟩
  have X0 := fun (t u : TypeId) => (Bx.start w K (.slice ao ts.length cap) t).next (below_one _ (.cells #[] u))
  have R0 : ∀ t : TypeId, ((w.alloc (.cells #[.int .i64 K, .slice ao ts.length cap] t)).alloc (.cells #[] 37)).ownsRow (w.heap.size + 1) 37 2 (.slice (some ⟨w.heap.size + 1, 0, none⟩) 0 0) 0 (clist ([] : List (Int × Int)) 0) := fun t => by
    have h := World.ownsRow_lit (w.alloc (.cells #[.int .i64 K, .slice ao ts.length cap] t)) #[] 0 (base := w.heap.size + 1) (e := 37) (size := 2) (by simp) (by unfold maxLen; omega) (by simp)
    have e : (w.alloc (.cells #[.int .i64 K, .slice ao ts.length cap] t)).heap.size = w.heap.size + 1 := by simp
    rw [e] at h
    exact h
  have HX0 := hideP X0
  have HR0 := hideP R0
  have HT := hideP ht
  clear X0 R0 ht hj hy0 hy1 hy2
  cases hok : okB K ts
  · have HN : Hid (treeTs K ts = []) := treeTs_no hok
    have HOK := hideP hok
    clear hok
    go_enter Try.func36, Try.ntmps36
    go_wp2_with fail
    refine (specOk_is false K ao cap ts _ hn ((HT.out.below (HX0.out _ _).B (Nat.le_refl _)).wide (Nat.le_of_lt (HX0.out _ _).lt)) HOK.out).mono ?_
    rintro e w1 ⟨rfl, hb1⟩
    have X1 := hideP ((HX0.out _ _).next hb1)
    have R1 := hideP (own_base (own_next (HR0.out _) hb1) (Nat.le_succ _))
    clear hb1
    go_wp2
    go_ret
    refine ⟨_, 0, by rw [HN.out]; rfl, ?_, X1.out.B⟩
    rw [HN.out]
    exact R1.out
  have HN : Hid (treeTs K ts = treeTo ts ts.length) := treeTs_yes hok
  have HOK := hideP hok
  have hnet := okB_iff.1 hok
  have hlen := ok_short hnet
  obtain ⟨Kn, hKn⟩ : ∃ n : Nat, K = (n : Int) := ⟨K.toNat, by have := hnet.1; omega⟩
  subst hKn
  have HG := hideP hnet.2.2
  clear hok hnet
  go_enter Try.func36, Try.ntmps36
  go_wp2_with fail
  refine (specOk_is true _ ao cap ts _ hn ((HT.out.below (HX0.out _ _).B (Nat.le_refl _)).wide (Nat.le_of_lt (HX0.out _ _).lt)) HOK.out).mono ?_
  rintro e w1 ⟨rfl, hb1⟩
  have X1 := hideP ((HX0.out _ _).next hb1)
  have R1 := hideP (own_next (HR0.out _) hb1)
  clear hb1 HX0 HR0
  go_wp2
  go_loopw [3, 4] (fun v i wr => ∃ k : Nat, k ≤ ts.length ∧ i = .int .i64 k ∧ wr.ownsRow (w.heap.size + 1) 37 2 v (treeTo ts k).length (clist (treeTo ts k) (treeTo ts k).length) ∧ Bx w wr (Kn : Int) (.slice ao ts.length cap))
    (fun _ i _ => ts.length - (intOf i).toNat)
  case atStart => exact ⟨0, Nat.zero_le _, rfl, R1.out, X1.out⟩
  case round =>
    obtain ⟨k, hk, rfl, hR, hX⟩ := hrel
    have c0 := hX.c0
    have c1 := hX.c1
    by_cases hlt : k < ts.length
    · obtain ⟨bo, co, rfl⟩ := own_slice hR
      have hk1 : (k : Int) < (ts.length : Int) := by omega
      have hk0 : (0 : Int) ≤ (k : Int) := by omega
      obtain ⟨gg, off, rfl, hgw, e0, e1⟩ := (HT.out.below hX.B (Nat.le_refl _)) k hlt
      obtain ⟨q1, q2, q3⟩ := (HG.out k hlt).1
      obtain ⟨a, ha⟩ : ∃ a : Nat, tA ts k = (a : Int) := ⟨(tA ts k).toNat, by omega⟩
      obtain ⟨b, hb'⟩ : ∃ b : Nat, tB ts k = (b : Int) := ⟨(tB ts k).toNat, by omega⟩
      have HU := hideP (treeTo_ok HOK.out (Nat.le_of_lt hlt))
      have HRB : Hid (reachB (treeTo ts k) a b = !takeB ts k) := by
        show reachB (treeTo ts k) a b = !takeB ts k
        unfold reachB takeB joinB
        rw [tree_forest, ha, hb']
        simp only [Int.toNat_natCast]
        by_cases h : top (forest ts k) a = top (forest ts k) b
        · simp [h]
        · simp [h, Ne.symm h]
      have HS : Hid ((tA ts k, tB ts k) = ((a : Int), (b : Int))) := by show (tA ts k, tB ts k) = _; rw [ha, hb']
      have hb8 : b < Kn := by omega
      have ha8 : a < Kn := by omega
      rw [ha] at e0
      rw [hb'] at e1
      obtain ⟨us, hus⟩ : ∃ us, us = treeTo ts k := ⟨_, rfl⟩
      have HUS := hideP hus
      have hul : us.length ≤ 64 := by rw [hus]; have := treeTo_len ts k; omega
      rw [← hus] at HU HRB hR ⊢
      have T1 : Hid (TiesIn wr.drew wr.drew.heap.size bo us) := hideP (own_ties hR)
      have hxl := hX.lt
      have hgwr : gg < wr.heap.size := Nat.lt_of_lt_of_le hgw hX.B.size
      have hX' := hideP hX
      have hR' := hideP hR
      clear hX hR ha hb' q1 q2 q3 hus
      go_wp2
      go_region_held3 (fun w' => w'.cell? ⟨w.heap.size, 0, none⟩ = some (.int .i64 (Kn : Int)) ∧ w'.cell? ⟨w.heap.size, 1, none⟩ = some (.slice (some ⟨gg, off, none⟩) ts.length cap) ∧ w'.cell? ⟨gg, off + k * 2, none⟩ = some (.int .i64 (a : Int))) (first | exact ⟨c0, c1, e0⟩ | exact ⟨(hb2.cell (p := ⟨w.heap.size, 0, none⟩) hxl).trans c0, (hb2.cell (p := ⟨w.heap.size, 1, none⟩) hxl).trans c1, (hb2.cell (p := ⟨gg, off + k * 2, none⟩) hgwr).trans e0⟩) ((go_at_call 60; refine (specReach_ok Kn bo co us a _ (by omega) T1.out HU.out ha8).mono ?_; rintro e w2 ⟨g2, cap2, rfl, hO2, hb2⟩))
      have hb2 : Below wr.heap.size wr w2 := ((Below.refl _ _).drew).trans hb2
      have X2 := hideP (hX'.out.next hb2)
      have R2 := hideP (own_next hR'.out hb2)
      have d2 : w2.cell? ⟨g2, b, none⟩ = some (.bool (!takeB ts k)) := by rw [hO2.1 b hb8]; unfold bcell; rw [HRB.out]
      have e0' := (hb2.cell (p := ⟨gg, off + k * 2, none⟩) hgwr).trans e0
      have e1' := (hb2.cell (p := ⟨gg, off + k * 2 + 1, none⟩) hgwr).trans e1
      have c0' := X2.out.c0
      have c1' := X2.out.c1
      have hb0 : (0 : Int) ≤ (b : Int) := by omega
      have hbK : (b : Int) < (Kn : Int) := by omega
      have hg2 : gg < w2.heap.size := Nat.lt_of_lt_of_le hgwr hb2.size
      clear hb2 c0 c1 hO2 e0 e1 HRB hX' hR' T1
      cases htk : takeB ts k
      · rw [htk] at d2
        have HNO := hideP (treeTo_no htk)
        clear htk
        go_wp2
        go_roundw
        case rel => exact ⟨k + 1, by omega, by go_num, by rw [HNO.out, ← HUS.out]; exact R2.out, X2.out⟩
        case measure => simp [intOf]; omega
      · rw [htk] at d2
        have HYES := hideP (treeTo_yes htk)
        clear htk
        have bo2 := below_one w2 (.cells #[.int .i64 (a : Int), .int .i64 (b : Int)] 37)
        have XB := hideP (X2.out.next bo2)
        have RB := hideP (own_next R2.out bo2)
        have hx2 := X2.out.lt
        clear bo2
        go_wp2_with (at_builtin; refine wpList_append_own _ rfl _ _ 23 rfl (w.heap.size + 1) 37 i1 (.agg #[.int .i64 0, .int .i64 0]) 2 16 Try.underlying23 HI1.out.1 HI1.out.2.1 HI1.out.2.2.1 HI1.out.2.2.2 rfl (by decide) _ _ _ rfl RB.out ⟨_, 0, none⟩ 1 1 [.int .i64 (a : Int), .int .i64 (b : Int)] rfl rfl ?c1 ?c2 ?c3 ?c4 ?c5 ?_)
        case c1 =>
          intro j u hj
          match j, hj with
          | 0, hj => simp at hj; subst hj; simp [Addr.add]
          | 1, hj => simp at hj; subst hj; simp [Addr.add]
        case c2 => intro u hu; simp at hu; rcases hu with rfl | rfl <;> rfl
        case c3 => unfold maxLen; omega
        case c4 => omega
        case c5 => simp; omega
        intro v' w4 hown hgrow _
        have R4 : Hid (w4.ownsRow (w.heap.size + 1) 37 2 v' (treeTo ts (k + 1)).length (clist (treeTo ts (k + 1)) (treeTo ts (k + 1)).length)) := by
          show w4.ownsRow _ _ _ _ _ _
          rw [HYES.out, ← HUS.out, HS.out, List.length_append, List.length_singleton, clist_app]
          exact hown
        have X4 : Hid (Bx w w4 (Kn : Int) (.slice (some ⟨gg, off, none⟩) ts.length cap)) := by
          have hlo := own_ge RB.out
          have hne : ∀ k : Nat, k ≤ w.heap.size → (Value.ownBlock (.slice bo us.length co)) ≠ some k := fun k hk e => by have := hlo k e; omega
          have hB : Below (w.heap.size + 1) (w2.alloc (.cells #[.int .i64 (a : Int), .int .i64 (b : Int)] 37)) w4 :=
            ⟨hgrow.os, hgrow.tape, hgrow.output, hgrow.size, fun k hk => hgrow.block k (by simp; omega) (fun e => hne k (by omega) e.symm)⟩
          exact ⟨(hB.cell (p := ⟨w.heap.size, 0, none⟩) (Nat.lt_succ_self _)).trans XB.out.c0, (hB.cell (p := ⟨w.heap.size, 1, none⟩) (Nat.lt_succ_self _)).trans XB.out.c1, Nat.lt_of_lt_of_le XB.out.lt hB.size, XB.out.B.trans (hB.mono (Nat.le_succ _))⟩
        clear hown hgrow
        go_wp2
        refine ⟨⟨k + 1, by omega, by go_num, R4.out, X4.out⟩, ?_⟩
        simp [intOf]; omega
    · obtain rfl : k = ts.length := by omega
      have HR := hideP (own_base hR (Nat.le_succ _))
      have HB := hideP hX.B
      obtain ⟨bo, co, rfl⟩ := own_slice hR
      clear hR hX
      go_wp2
      go_ret
      refine ⟨bo, co, ?_, ?_, HB.out⟩
      · rw [HN.out]; rfl
      · rw [HN.out]; exact HR.out

theorem specTree_any (K : Int) (ao : Option Addr) (cap : Nat) (ts : List (Int × Int)) (w : World) (hn : ts.length ≤ 1099511627776) (ht : TiesIn w w.heap.size ao ts) :
    Calls Try.prog 36 #[.agg #[.int .i64 K, .slice ao ts.length cap]] w fun e w' => ∃ ao' cap', e = .returned (.slice ao' (treeTs K ts).length cap') ∧ OwnN w' w.heap.size w'.heap.size ao' (treeTs K ts).length (tcell (treeTs K ts)) ∧ Below w.heap.size w w' :=
  (specTree_row K ao cap ts w hn ht).mono fun e w' ⟨ao', cap', he, ho, hb⟩ => ⟨ao', cap', he, OwnN.of_row ho, hb⟩

end Go.Proofs.Ytljnjpjnadlmhaa
