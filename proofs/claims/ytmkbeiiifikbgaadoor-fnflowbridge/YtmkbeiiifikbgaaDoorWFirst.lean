/- Walks of impl.firstCut and of the closure in impl.FlowCut. -/
import Derived.Test.YtmkbeiiifikbgaaDoorPartWMost
import Derived.Test.YtmkbeiiifikbgaaDoorPartWTies
import Derived.Test.YtmkbeiiifikbgaaDoorPartWForest
import Derived.Test.YtmkbeiiifikbgaaDoorPartWTree
import Derived.Test.YtmkbeiiifikbgaaDoorMathFV
namespace Go.Proofs.YtmkbeiiifikbgaaDoor
open Go.RowKit
set_option linter.unusedVariables false

theorem flowV_le8 (ts : List (Int × Int)) {a b : Nat} (ha : a < 8) (hab : a ≠ b) : flowV ts a b ≤ 8 := by
  obtain ⟨F, hF⟩ := (flowN_is (tieNB_turn ts) (a := a) (b := b) ha hab).2.1
  have h2 := hF.few
  have h4 : flowV ts a b = flowN (tieNB ts) a b := rfl
  omega
theorem cutCount_any (K : Int) (L : List (Int × Int)) (hok : okB K L = true) (a b : Nat) (ha : a < 8) (hb : b < 8) (hab : a ≠ b) (Ba Bb : Nat) (W : World) (h0 : W.cell? ⟨Ba, 0, none⟩ = some (.int .i64 (a : Int))) (h1 : W.cell? ⟨Bb, 0, none⟩ = some (.int .i64 (b : Int))) :
    Calls Tryd.prog 74 #[.int .u64 (setN K L : Int), .pointer (some ⟨Ba, 0, none⟩), .pointer (some ⟨Bb, 0, none⟩)] W fun e w' => e = .returned (.int .i64 (flowV L a b)) ∧ Below W.heap.size W w' := by
  have HM := hideP (fun W => mostWays_any (setN K L) a b W (setN_lt K L) ha hb hab)
  have HR : Hid (flowN (stepT (setN K L)) a b = flowV L a b) := hideP (by rw [stepT_set hok]; rfl)
  obtain ⟨s, hs⟩ : ∃ s, s = setN K L := ⟨_, rfl⟩
  rw [← hs] at HM HR ⊢
  clear hs hok ha hb hab
  go_enter Tryd.func74, Tryd.ntmps74
  go_wp2_with (first | (go_at_call 57; refine (HM.out _).mono ?_; rintro e w2 ⟨rfl, hb2⟩))
  go_ret
  exact ⟨by rw [← HR.out]; rfl, hb2⟩
set_option maxHeartbeats 1600000 in
theorem firstCut_any (K : Int) (ts : List (Int × Int)) (hok : okB K ts = true) (a b : Nat) (ha : a < 8) (hb : b < 8) (hab : a ≠ b) (Ba Bb : Nat) (w : World) (hT : Tab w) (hA : Ba < w.heap.size) (hB : Bb < w.heap.size) (h0 : w.cell? ⟨Ba, 0, none⟩ = some (.int .i64 (a : Int))) (h1 : w.cell? ⟨Bb, 0, none⟩ = some (.int .i64 (b : Int))) :
    Calls Tryd.prog 73 #[.int .u64 (setN K ts : Int), .func (.func 74) #[] #[.pointer (some ⟨Ba, 0, none⟩), .pointer (some ⟨Bb, 0, none⟩)]] w fun e w' => e = .returned (.int .u64 ((setN K (cutG a b ts ts) : Nat) : Int)) ∧ Below w.heap.size w w' := by
  have CNT : Hid (∀ W, Below w.heap.size w W → ∀ L, okB K L = true → Calls Tryd.prog 74 #[.int .u64 (setN K L : Int), .pointer (some ⟨Ba, 0, none⟩), .pointer (some ⟨Bb, 0, none⟩)] W fun e w' => e = .returned (.int .i64 (flowV L a b)) ∧ Below W.heap.size W w') := hideP (fun W hb' L hL => cutCount_any K L hL a b ha hb hab Ba Bb W ((hb'.cell (p := ⟨Ba, 0, none⟩) hA).trans h0) ((hb'.cell (p := ⟨Bb, 0, none⟩) hB).trans h1))
  have HTab := hideP hT
  have HOK := hideP hok
  have ONE := hideP (fun i (hi : i < ts.length) => leftI_one hok (a := a) (b := b) ha hab hi)
  have LOK := hideP (fun i => leftI_ok hok a b i)
  have FIN : Hid (bits .andNot .u64 ((setN K ts : Nat) : Int) ((setN K (leftI ts a b ts.length) : Nat) : Int) = ((setN K (cutG a b ts ts) : Nat) : Int)) := hideP (by rw [andNot_nat _ _ (setN_lt K _) (setN_lt K _), leftI_all, cutG_bits hok])
  have HBD := hideP (fun L => (⟨flowV_nonneg L ha hab, flowV_le8 L ha hab⟩ : 0 ≤ flowV L a b ∧ flowV L a b ≤ 8))
  have hn : ts.length ≤ 64 := ok_short (okB_iff.1 hok)
  have LAST := hideP (okB_iff.1 hok).2
  clear hT hok h0 h1 hA hB ha hb hab
  go_enter Tryd.func73, Tryd.ntmps73
  go_wp2_with (first | (go_at_call 74; refine (CNT.out _ (Below.refl _ _) ts HOK.out).mono ?_; rintro e w1 ⟨rfl, hb1⟩; have B1 := hideP hb1; have T1 := hideP (HTab.out.below hb1 HTab.out.2); clear hb1) | fail)
  refine (ties_two' K ts (setN K ts) _ T1.out LAST.out.1 LAST.out.2 (ok_short (okB_iff.1 HOK.out)) (set_bits HOK.out) (setN_lt K ts)).mono ?_
  rintro e w2 ⟨ao, cap, rfl, ho, hb2⟩
  have B2 := hideP (B1.out.trans (hb2.mono B1.out.size))
  have HO := hideP ho
  clear hb2 ho T1
  obtain ⟨lo, hlo⟩ : ∃ lo, lo = w1.heap.size := ⟨_, rfl⟩
  obtain ⟨hi, hhi⟩ : ∃ hi, hi = w2.heap.size := ⟨_, rfl⟩
  rw [← hlo, ← hhi] at HO
  have hi2 : hi ≤ w2.heap.size := by omega
  clear hlo hhi B1
  go_wp2
  go_loopw [5, 6, 17] (fun lv mv iv wr => ∃ i : Nat, i ≤ ts.length ∧ iv = .int .i64 (i : Int) ∧ lv = .int .u64 ((setN K (leftI ts a b i) : Nat) : Int) ∧ mv = .int .i64 (flowV (leftI ts a b i) a b) ∧ OwnN wr lo hi ao ts.length (tcell ts) ∧ hi ≤ wr.heap.size ∧ Below w.heap.size w wr)
    (fun _ _ iv _ => ts.length - (intOf iv).toNat)
  case atStart => exact ⟨0, Nat.zero_le _, rfl, rfl, rfl, HO.out, hi2, B2.out⟩
  case round =>
    obtain ⟨i, hi', rfl, rfl, rfl, hO, hhz, hB⟩ := hrel
    by_cases hlt : i < ts.length
    · obtain ⟨g, off, rfl, hgw, c0, c1⟩ := hO.ties (B := hi) (Nat.le_refl _) i hlt
      have hgt := (ok_parts HOK.out).2.2.1 ts[i] (List.getElem_mem hlt)
      unfold TieOk at hgt
      obtain ⟨L, hL⟩ : ∃ L, L = leftI ts a b i := ⟨_, rfl⟩
      obtain ⟨M, hM⟩ : ∃ M, M = minusT L ts[i] := ⟨_, rfl⟩
      have HLok := hideP (show okB K L = true by rw [hL]; exact LOK.out i)
      have HMok := hideP (show okB K M = true by rw [hM]; exact minus_ok HLok.out _)
      have HST : Hid (strike (setN K L) (pbit (tA ts i) (tB ts i)) = setN K M) := hideP (by rw [tA_get ts i hlt, tB_get ts i hlt, hM]; exact minus_bits HLok.out _ hgt.2.1)
      have HNX : Hid (leftI ts a b (i + 1) = if flowV M a b < flowV L a b then M else L) := hideP (by rw [leftI_succ hlt, ← hL, ← hM])
      have HON : Hid (flowV M a b < flowV L a b → flowV L a b - 1 = flowV M a b) := hideP (fun h => by have := ONE.out i hlt; rw [← hL, ← hM] at this; exact this h)
      obtain ⟨x, hx⟩ : ∃ x, tA ts i = x := ⟨_, rfl⟩
      obtain ⟨y, hy⟩ : ∃ y, tB ts i = y := ⟨_, rfl⟩
      obtain ⟨vl, hvl⟩ : ∃ v, v = flowV L a b := ⟨_, rfl⟩
      obtain ⟨vm, hvm⟩ : ∃ v, v = flowV M a b := ⟨_, rfl⟩
      have CM := hideP (fun W hb => CNT.out W hb M HMok.out)
      have hbl := HBD.out L
      have hbm := HBD.out M
      rw [← hvl] at hbl
      rw [← hvm] at hbm
      have HVL := hideP hvl
      have HVM := hideP hvm
      rw [← hL, ← hvl]
      rw [← hvl, ← hvm] at HON HNX
      rw [← hvm] at CM
      rw [hx, hy] at HST
      rw [hx] at c0
      rw [hy] at c1
      have hk1 : (i : Int) < (ts.length : Int) := by omega
      have hgz : g < wr.heap.size := by omega
      have z3 : wr.heap.size ≤ (wr.alloc (.cells #[.int .i64 x, .int .i64 y] 35)).heap.size := (below_one wr _).size
      have bo1 := below_one wr (.cells #[.int .i64 x, .int .i64 y] 35)
      have B3 := hideP (hB.trans (bo1.mono hB.size))
      have O3 := hideP (hO.next bo1)
      clear hO bo1 hgt hL hM hvl hvm hx hy hB LOK ONE HOK
      go_wp2_with fail
      refine (without_any (setN K L) x y _ (setN_lt K L)).mono ?_
      rw [HST.out]
      rintro e w3 ⟨rfl, rfl⟩
      by_cases hless : vm < vl
      · have HN2 : Hid (leftI ts a b (i + 1) = M) := hideP (by rw [HNX.out, if_pos hless])
        have HV2 : Hid (vl - 1 = vm) := hideP (HON.out hless)
        go_wp2_with (first | (go_at_call 74; refine (CM.out _ B3.out).mono ?_; rintro e w4 ⟨rfl, hb4⟩; have B4 := hideP (B3.out.trans (hb4.mono B3.out.size)); have O4 := hideP (O3.out.next hb4); have z4 := hb4.size; clear hb4))
        go_roundw
        case rel => exact ⟨i + 1, by omega, by go_num, by rw [HN2.out], by have := HV2.out; rw [HN2.out, ← HVM.out]; go_num, O4.out, by omega, B4.out⟩
        case measure => simp [intOf]; omega
      · have HN2 : Hid (leftI ts a b (i + 1) = L) := hideP (by rw [HNX.out, if_neg hless])
        go_wp2_with (first | (go_at_call 74; refine (CM.out _ B3.out).mono ?_; rintro e w4 ⟨rfl, hb4⟩; have B4 := hideP (B3.out.trans (hb4.mono B3.out.size)); have O4 := hideP (O3.out.next hb4); have z4 := hb4.size; clear hb4))
        go_roundw
        case rel => exact ⟨i + 1, by omega, by go_num, by rw [HN2.out], by rw [HN2.out, ← HVL.out], O4.out, by omega, B4.out⟩
        case measure => simp [intOf]; omega
    · obtain rfl : i = ts.length := by omega
      have hfin := FIN.out
      have HB := hideP hB
      clear hO hB
      go_wp2
      go_ret
      exact ⟨rfl, HB.out⟩

end Go.Proofs.YtmkbeiiifikbgaaDoor
