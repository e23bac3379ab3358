/- Texts put together: WFirst, WCutI. -/
import Derived.Test.YtljnjpjnadlmhaaDoorPartWMost
import Derived.Test.YtljnjpjnadlmhaaDoorPartWForest
import Derived.Test.YtljnjpjnadlmhaaDoorPartMathT
import Derived.Test.YtljnjpjnadlmhaaDoorPartMathFU
/- Walks of impl.firstCut and of the closure in impl.FlowCut. -/
namespace Go.Proofs.YtljnjpjnadlmhaaDoor
open Go.RowKit
set_option linter.unusedVariables false

theorem flowV_le8 (ts : List (Int × Int)) {a b : Nat} (ha : a < 8) (hab : a ≠ b) : flowV ts a b ≤ 8 := by
  obtain ⟨F, hF⟩ := (flowN_is (tieNB_turn ts) (a := a) (b := b) ha hab).2.1
  have h2 := hF.few
  have h4 : flowV ts a b = flowN (tieNB ts) a b := rfl
  omega
theorem cutCount_any (K : Int) (L : List (Int × Int)) (hok : okB K L = true) (a b : Nat) (ha : a < 8) (hb : b < 8) (hab : a ≠ b) (Ba Bb : Nat) (W : World) (h0 : W.cell? ⟨Ba, 0, none⟩ = some (.int .i64 (a : Int))) (h1 : W.cell? ⟨Bb, 0, none⟩ = some (.int .i64 (b : Int))) :
    Calls Tryd.prog 26 #[.int .u64 (setN K L : Int), .pointer (some ⟨Ba, 0, none⟩), .pointer (some ⟨Bb, 0, none⟩)] W fun e w' => e = .returned (.int .i64 (flowV L a b)) ∧ Below W.heap.size W w' := by
  have HM := hideP (fun W => mostWays_any (setN K L) a b W (setN_lt K L) ha hb hab)
  have HR : Hid (flowN (stepT (setN K L)) a b = flowV L a b) := hideP (by rw [stepT_set hok]; rfl)
  obtain ⟨s, hs⟩ : ∃ s, s = setN K L := ⟨_, rfl⟩
  rw [← hs] at HM HR ⊢
  clear hs hok ha hb hab
  go_enter Tryd.func26, Tryd.ntmps26
  go_wp2_with (first | (go_at_call 27; refine (HM.out _).mono ?_; rintro e w2 ⟨rfl, hb2⟩))
  go_ret
  exact ⟨by rw [← HR.out]; rfl, hb2⟩
set_option maxHeartbeats 1600000 in
theorem firstCut_any (K : Int) (ts : List (Int × Int)) (hok : okB K ts = true) (a b : Nat) (ha : a < 8) (hb : b < 8) (hab : a ≠ b) (Ba Bb : Nat) (w : World) (hT : Tab w) (hA : Ba < w.heap.size) (hB : Bb < w.heap.size) (h0 : w.cell? ⟨Ba, 0, none⟩ = some (.int .i64 (a : Int))) (h1 : w.cell? ⟨Bb, 0, none⟩ = some (.int .i64 (b : Int))) :
    Calls Tryd.prog 25 #[.int .u64 (setN K ts : Int), .func (.func 26) #[] #[.pointer (some ⟨Ba, 0, none⟩), .pointer (some ⟨Bb, 0, none⟩)]] w fun e w' => e = .returned (.int .u64 ((setN K (cutG a b ts ts) : Nat) : Int)) ∧ Below w.heap.size w w' := by
  have CNT : Hid (∀ W, Below w.heap.size w W → ∀ L, okB K L = true → Calls Tryd.prog 26 #[.int .u64 (setN K L : Int), .pointer (some ⟨Ba, 0, none⟩), .pointer (some ⟨Bb, 0, none⟩)] W fun e w' => e = .returned (.int .i64 (flowV L a b)) ∧ Below W.heap.size W w') := hideP (fun W hb' L hL => cutCount_any K L hL a b ha hb hab Ba Bb W ((hb'.cell (p := ⟨Ba, 0, none⟩) hA).trans h0) ((hb'.cell (p := ⟨Bb, 0, none⟩) hB).trans h1))
  have HTab := hideP hT
  have HOK := hideP hok
  have ONE := hideP (fun i (hi : i < ts.length) => leftI_one hok (a := a) (b := b) ha hab hi)
  have LOK := hideP (fun i => leftI_ok hok a b i)
  have FIN : Hid (bits .andNot .u64 ((setN K ts : Nat) : Int) ((setN K (leftI ts a b ts.length) : Nat) : Int) = ((setN K (cutG a b ts ts) : Nat) : Int)) := hideP (by rw [andNot_nat _ _ (setN_lt K _) (setN_lt K _), leftI_all, cutG_bits hok])
  have HBD := hideP (fun L => (⟨flowV_nonneg L ha hab, flowV_le8 L ha hab⟩ : 0 ≤ flowV L a b ∧ flowV L a b ≤ 8))
  have hn : ts.length ≤ 64 := ok_short (okB_iff.1 hok)
  have LAST := hideP (okB_iff.1 hok).2
  clear hT hok h0 h1 hA hB ha hb hab
  go_enter Tryd.func25, Tryd.ntmps25
  go_wp2_with (first | (go_at_call 26; refine (CNT.out _ (Below.refl _ _) ts HOK.out).mono ?_; rintro e w1 ⟨rfl, hb1⟩; have B1 := hideP hb1; have T1 := hideP (HTab.out.below hb1 HTab.out.2); clear hb1) | fail)
  refine (ties_two' K ts (setN K ts) _ T1.out LAST.out.1 LAST.out.2 (ok_short (okB_iff.1 HOK.out)) (set_bits HOK.out) (setN_lt K ts)).mono ?_
  rintro e w2 ⟨ao, cap, rfl, ho, hb2⟩
  have B2 := hideP (B1.out.trans (hb2.mono B1.out.size))
  have HO := hideP ho
  clear hb2 ho T1
  obtain ⟨lo, hlo⟩ : ∃ lo, lo = w1.heap.size := ⟨_, rfl⟩
  obtain ⟨hi, hhi⟩ : ∃ hi, hi = w2.heap.size := ⟨_, rfl⟩
  rw [← hlo, ← hhi] at HO
  have hi2 : hi ≤ w2.heap.size := by omega
  clear hlo hhi B1
  go_wp2
  go_loopw [5, 6, 17] (fun lv mv iv wr => ∃ i : Nat, i ≤ ts.length ∧ iv = .int .i64 (i : Int) ∧ lv = .int .u64 ((setN K (leftI ts a b i) : Nat) : Int) ∧ mv = .int .i64 (flowV (leftI ts a b i) a b) ∧ OwnN wr lo hi ao ts.length (tcell ts) ∧ hi ≤ wr.heap.size ∧ Below w.heap.size w wr)
    (fun _ _ iv _ => ts.length - (intOf iv).toNat)
  case atStart => exact ⟨0, Nat.zero_le _, rfl, rfl, rfl, HO.out, hi2, B2.out⟩
  case round =>
    obtain ⟨i, hi', rfl, rfl, rfl, hO, hhz, hB⟩ := hrel
    by_cases hlt : i < ts.length
    · obtain ⟨g, off, rfl, hgw, c0, c1⟩ := hO.ties (B := hi) (Nat.le_refl _) i hlt
      have hgt := (ok_parts HOK.out).2.2.1 ts[i] (List.getElem_mem hlt)
      unfold TieOk at hgt
      obtain ⟨L, hL⟩ : ∃ L, L = leftI ts a b i := ⟨_, rfl⟩
      obtain ⟨M, hM⟩ : ∃ M, M = minusT L ts[i] := ⟨_, rfl⟩
      have HLok := hideP (show okB K L = true by rw [hL]; exact LOK.out i)
      have HMok := hideP (show okB K M = true by rw [hM]; exact minus_ok HLok.out _)
      have HST : Hid (strike (setN K L) (pbit (tA ts i) (tB ts i)) = setN K M) := hideP (by rw [tA_get ts i hlt, tB_get ts i hlt, hM]; exact minus_bits HLok.out _ hgt.2.1)
      have HNX : Hid (leftI ts a b (i + 1) = if flowV M a b < flowV L a b then M else L) := hideP (by rw [leftI_succ hlt, ← hL, ← hM])
      have HON : Hid (flowV M a b < flowV L a b → flowV L a b - 1 = flowV M a b) := hideP (fun h => by have := ONE.out i hlt; rw [← hL, ← hM] at this; exact this h)
      obtain ⟨x, hx⟩ : ∃ x, tA ts i = x := ⟨_, rfl⟩
      obtain ⟨y, hy⟩ : ∃ y, tB ts i = y := ⟨_, rfl⟩
      obtain ⟨vl, hvl⟩ : ∃ v, v = flowV L a b := ⟨_, rfl⟩
      obtain ⟨vm, hvm⟩ : ∃ v, v = flowV M a b := ⟨_, rfl⟩
      have CM := hideP (fun W hb => CNT.out W hb M HMok.out)
      have hbl := HBD.out L
      have hbm := HBD.out M
      rw [← hvl] at hbl
      rw [← hvm] at hbm
      have HVL := hideP hvl
      have HVM := hideP hvm
      rw [← hL, ← hvl]
      rw [← hvl, ← hvm] at HON HNX
      rw [← hvm] at CM
      rw [hx, hy] at HST
      rw [hx] at c0
      rw [hy] at c1
      have hk1 : (i : Int) < (ts.length : Int) := by omega
      have hgz : g < wr.heap.size := by omega
      have z3 : wr.heap.size ≤ (wr.alloc (.cells #[.int .i64 x, .int .i64 y] 63)).heap.size := (below_one wr _).size
      have bo1 := below_one wr (.cells #[.int .i64 x, .int .i64 y] 63)
      have B3 := hideP (hB.trans (bo1.mono hB.size))
      have O3 := hideP (hO.next bo1)
      clear hO bo1 hgt hL hM hvl hvm hx hy hB LOK ONE HOK
      go_wp2_with fail
      refine (without_any (setN K L) x y _ (setN_lt K L)).mono ?_
      rw [HST.out]
      rintro e w3 ⟨rfl, rfl⟩
      by_cases hless : vm < vl
      · have HN2 : Hid (leftI ts a b (i + 1) = M) := hideP (by rw [HNX.out, if_pos hless])
        have HV2 : Hid (vl - 1 = vm) := hideP (HON.out hless)
        go_wp2_with (first | (go_at_call 26; refine (CM.out _ B3.out).mono ?_; rintro e w4 ⟨rfl, hb4⟩; have B4 := hideP (B3.out.trans (hb4.mono B3.out.size)); have O4 := hideP (O3.out.next hb4); have z4 := hb4.size; clear hb4))
        go_roundw
        case rel => exact ⟨i + 1, by omega, by go_num, by rw [HN2.out], by have := HV2.out; rw [HN2.out, ← HVM.out]; go_num, O4.out, by omega, B4.out⟩
        case measure => simp [intOf]; omega
      · have HN2 : Hid (leftI ts a b (i + 1) = L) := hideP (by rw [HNX.out, if_neg hless])
        go_wp2_with (first | (go_at_call 26; refine (CM.out _ B3.out).mono ?_; rintro e w4 ⟨rfl, hb4⟩; have B4 := hideP (B3.out.trans (hb4.mono B3.out.size)); have O4 := hideP (O3.out.next hb4); have z4 := hb4.size; clear hb4))
        go_roundw
        case rel => exact ⟨i + 1, by omega, by go_num, by rw [HN2.out], by rw [HN2.out, ← HVL.out], O4.out, by omega, B4.out⟩
        case measure => simp [intOf]; omega
    · obtain rfl : i = ts.length := by omega
      have hfin := FIN.out
      have HB := hideP hB
      clear hO hB
      go_wp2
      go_ret
      exact ⟨rfl, HB.out⟩

end Go.Proofs.YtljnjpjnadlmhaaDoor

/- Walk of impl.FlowCut. -/
namespace Go.Proofs.YtljnjpjnadlmhaaDoor
open Go.RowKit
set_option linter.unusedVariables false

/-- a net in its box, and two knots, each in a box of its own -/
structure Kx (w wr : World) (K : Int) (nv : Value) (a b : Int) : Prop where
  X : Bx w wr K nv
  d0 : wr.cell? ⟨w.heap.size + 1, 0, none⟩ = some (.int .i64 a)
  d1 : wr.cell? ⟨w.heap.size + 1 + 1, 0, none⟩ = some (.int .i64 b)
  lt : w.heap.size + 1 + 1 < wr.heap.size
theorem Kx.next {w wr w' : World} {K : Int} {nv : Value} {a b : Int} (h : Kx w wr K nv a b) (hb : Below wr.heap.size wr w') : Kx w w' K nv a b :=
  ⟨h.X.next hb, (hb.cell (p := ⟨w.heap.size + 1, 0, none⟩) (show w.heap.size + 1 < wr.heap.size from by have := h.lt; omega)).trans h.d0, (hb.cell (p := ⟨w.heap.size + 1 + 1, 0, none⟩) h.lt).trans h.d1, Nat.lt_of_lt_of_le h.lt hb.size⟩
theorem Kx.start (w : World) (K : Int) (nv : Value) (a b : Int) (t u v : TypeId) : Kx w (((w.alloc (.cells #[.int .i64 K, nv] t)).alloc (.cells #[.int .i64 a] u)).alloc (.cells #[.int .i64 b] v)) K nv a b := by
  refine ⟨((Bx.start w K nv t).next (below_one _ _)).next (below_one _ _), ?_, ?_, by simp⟩
  · refine ((below_one ((w.alloc (.cells #[.int .i64 K, nv] t)).alloc (.cells #[.int .i64 a] u)) (.cells #[.int .i64 b] v)).cell (p := ⟨w.heap.size + 1, 0, none⟩) (by simp)).trans ?_
    rw [World.cell?_alloc_at _ _ _ _ (by simp)]; rfl
  · rw [World.cell?_alloc_at _ _ _ _ (by simp)]; rfl
/-- the first of the fewest ties that part two knots -/
noncomputable def cutI (K : Int) (ts : List (Int × Int)) (a b : Int) : List (Int × Int) := if twoB K ts a b = true then cutG a.toNat b.toNat ts ts else []
set_option maxHeartbeats 800000 in
theorem implFlowCut_any (K : Int) (ao : Option Addr) (cap : Nat) (ts : List (Int × Int)) (a b : Int) (w : World) (hn : ts.length ≤ 1099511627776) (ht : TiesIn w w.heap.size ao ts) (hT : Tab w) :
    Calls Tryd.prog 7 #[.agg #[.int .i64 K, .slice ao ts.length cap], .int .i64 a, .int .i64 b] w fun e w' => ∃ ao' cap', e = .returned (.tuple #[.slice ao' (cutI K ts a b).length cap', .bool (twoB K ts a b)]) ∧ OwnN w' w.heap.size w'.heap.size ao' (cutI K ts a b).length (tcell (cutI K ts a b)) ∧ Below w.heap.size w w' := by
  have X0 := fun (t u v : TypeId) => Kx.start w K (.slice ao ts.length cap) a b t u v
  have HX0 := hideP X0
  have HT := hideP ht
  have HTab := hideP hT
  clear ht hT X0
  obtain ⟨p, hp⟩ : ∃ p, p = twoB K ts a b := ⟨_, rfl⟩
  have HP := hideP hp
  rw [← hp]
  clear hp
  go_enter Tryd.func7, Tryd.ntmps7
  go_wp2_with fail
  refine (twoKnots_any K ao cap ts a b _ hn ((HT.out.below (HX0.out _ _ _).X.B (Nat.le_refl _)).wide (Nat.le_of_lt (HX0.out _ _ _).X.lt))).mono ?_
  rw [← HP.out]
  rintro e w2 ⟨rfl, hb1⟩
  have X2 := hideP ((HX0.out _ _ _).next hb1)
  have T2 := hideP (HTab.out.below X2.out.X.B HTab.out.2)
  clear hb1 HX0 HTab HT
  cases p
  · have HR : Hid (cutI K ts a b = []) := hideP (by unfold cutI; rw [← HP.out]; rfl)
    go_wp2
    refine bodyPost_ret (v := .tuple #[.slice none 0 0, .bool false]) (by simp [results, Tryd.results7, go_sem]) rfl ?_
    rw [HR.out]
    exact ⟨none, 0, rfl, Or.inl ⟨rfl, rfl⟩, X2.out.X.B⟩
  · obtain ⟨hok, x, y, rfl, rfl, hx, hy, hxk, hyk, hxy⟩ := knot_nat HP.out.symm
    have HR : Hid (cutI K ts (x : Int) (y : Int) = cutG x y ts ts) := hideP (by unfold cutI; rw [← HP.out, if_pos rfl]; rfl)
    have HOK := hideP hok
    have HC := hideP (fun W hT hA hB h0 h1 => firstCut_any K ts hok x y hx hy hxy (w.heap.size + 1) (w.heap.size + 1 + 1) W hT hA hB h0 h1)
    obtain ⟨us, hus⟩ : ∃ us, us = cutG x y ts ts := ⟨_, rfl⟩
    have HUok := hideP (show okB K us = true by rw [hus]; exact cutG_ok hok x y ts)
    rw [← hus] at HR HC
    clear hok hus
    go_wp2_with (first | (go_at_call 25; refine (HC.out _ T2.out (by have := X2.out.lt; omega) (by have := X2.out.lt; omega) X2.out.d0 X2.out.d1).mono ?_; rintro e w3 ⟨rfl, hb3⟩; have X3 := hideP (X2.out.next hb3); have T3 := hideP (T2.out.below hb3 T2.out.2); clear hb3) | (go_at_call 28; refine (ties_two' K us (setN K us) _ T3.out (okB_iff.1 HUok.out).2.1 (okB_iff.1 HUok.out).2.2 (ok_short (okB_iff.1 HUok.out)) (set_bits HUok.out) (setN_lt K us)).mono ?_; rintro e w4 ⟨ao', cap', rfl, ho, hb4⟩; have X4 := hideP (X3.out.next hb4); have O4 := hideP ho; clear ho hb4))
    refine bodyPost_ret (v := .tuple #[.slice ao' us.length cap', .bool true]) (by simp [results, Tryd.results7, go_sem]) rfl ?_
    rw [HR.out]
    refine ⟨ao', cap', rfl, ?_, X4.out.X.B⟩
    rcases O4.out with h | ⟨g, e, h1, h2, h3⟩
    · exact Or.inl h
    · exact Or.inr ⟨g, e, Nat.le_trans X3.out.X.B.size h1, h2, h3⟩

end Go.Proofs.YtljnjpjnadlmhaaDoor
