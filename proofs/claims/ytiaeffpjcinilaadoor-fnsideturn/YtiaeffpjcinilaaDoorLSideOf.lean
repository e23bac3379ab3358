/- Walk of laws.FnSideOf: it returns true. -/
import Derived.Test.YtiaeffpjcinilaaDoorWDrawSd
import Derived.Test.YtiaeffpjcinilaaDoorPartWLo
import Derived.Test.YtiaeffpjcinilaaDoorPartWTree
import Derived.Test.YtiaeffpjcinilaaDoorMathSG
import Derived.Test.YtiaeffpjcinilaaDoorPartWSideOk
import Derived.Test.YtiaeffpjcinilaaDoorPartWReach2
import Derived.Test.YtiaeffpjcinilaaDoorPartMathX
import Derived.Deep.RegionHeld3
namespace Go.Proofs.YtiaeffpjcinilaaDoor
open Go.RowKit
set_option linter.unusedVariables false

theorem rowV_ints {w : World} {B : Nat} {ao : Option Addr} {n : Nat} {p : List Nat} (h : RowV w B ao n (pcellN (pn p))) (hn : p.length = n) : IntsIn w B ao (p.map fun (x : Nat) => (x : Int)) := by
  intro j hj
  rw [List.length_map, hn] at hj
  obtain ⟨b, off, e, h1, h2⟩ := h j hj
  refine ⟨b, off, e, h1, h2.trans ?_⟩
  have : xi (p.map fun (x : Nat) => (x : Int)) j = (pn p j : Int) := xi_cI p j
  rw [this]; rfl
theorem implSideOk_is (v : Bool) (K : Int) (ao bo : Option Addr) (cap n cap2 : Nat) (ts : List (Int × Int)) (xs : List Int) (w : World) (hl : xs.length = n) (hn : ts.length ≤ 1099511627776) (ht : TiesIn w w.heap.size ao ts) (hxn : n ≤ 1099511627776) (hx : IntsIn w w.heap.size bo xs) (hT : Tab w) (h : sideB K ts xs = v) :
    Calls Tryd.prog 19 #[.agg #[.int .i64 K, .slice ao ts.length cap], .slice bo n cap2] w fun e w' => e = .returned (.bool v) ∧ Below w.heap.size w w' := by
  subst hl; rw [← h]; exact implSideOk_any K ao bo cap cap2 ts xs w hn ht hxn hx hT
theorem sideL_le8 (K : Int) (ts : List (Int × Int)) : (sideL K ts).length ≤ 8 := by
  unfold sideL
  split
  · rename_i h
    rw [sdL_len]
    have := (okB_iff.1 (side_sides h).1).2.1
    omega
  · simp
theorem side_root {K : Int} {ts : List (Int × Int)} (h : okB K ts = true) {k : Nat} (hk : k < K.toNat) (ht : topN ts k = k) : sdN (treeTs K ts) k = 0 := by
  have h8 := (okB_iff.1 h).2.1
  have e : topN (treeTs K ts) k = k := by rw [tree_top h hk]; exact ht
  have := ((tree_trn h).eight.root (v := k) (by omega) e).2
  unfold sdN
  rw [this]
theorem pn_range' (p : List Nat) : (List.range p.length).map (pn p) = p := by
  apply List.ext_getElem
  · simp
  · intro i h1 h2
    simp [pn, h2]
theorem row_seen' {w : World} {lo g off cap : Nat} {p : List Nat} (h : RowS w lo g off cap p) : RowW w lo w.heap.size (some ⟨g, off, none⟩) p.length (pcellN (pn p)) := by
  have h' : RowS w lo g off cap ((List.range p.length).map (pn p)) := by rw [pn_range']; exact h
  exact h'.seen
set_option maxHeartbeats 1600000 in
theorem sideOf_walk (bo : Option Addr) (n cap : Nat) (w : World) (hb : BytesIn w bo n) (hnil : bo = none → n = 0 ∧ cap = 0) (hc : n ≤ cap) (hm : cap ≤ maxLen) (hT : Tab w) :
    Calls Tryd.prog 3 #[.slice bo n cap] w fun e w' => e = .returned (.bool true) ∧ Below w.heap.size w w' := by
  by_cases hl : 1048576 < n
  · have hl' : (1048576 : Int) < (n : Int) := by omega
    have hn' : n ≤ 9223372036854775807 := by unfold maxLen at hm; omega
    go_enter Tryd.func3, Tryd.ntmps3
    go_wp2
    go_ret
    exact ⟨rfl, Below.refl _ _⟩
  have hl' : decide ((1048576 : Int) < (n : Int)) = false := by simp; omega
  go_enter Tryd.func3, Tryd.ntmps3
  go_wp2_with fail
  refine (drawSideOf_any bo n cap _ hb hnil hc hm).mono ?_
  rintro e w1 ⟨K, ao, cap', ts, rfl, D1⟩
  have hn : ts.length ≤ 1099511627776 := by have := D1.short; omega
  have HB1 := hideP D1.bel
  have T1 := hideP (hT.below D1.bel hT.2)
  have hoN := D1.own
  clear D1 hT
  have T1a := hideP (T1.out.below (below_one w1 (.cells #[.int .i64 K, .slice ao ts.length cap'] 25)) T1.out.2)
  have HB1a := hideP (HB1.out.trans ((below_one w1 (.cells #[.int .i64 K, .slice ao ts.length cap'] 25)).mono HB1.out.size))
  have N1a := hideP (NetV.new (K := K) (cap := cap') 25 (hoN.ties (Nat.le_refl _)))
  clear hoN
  obtain ⟨V, hV⟩ : ∃ V, V = sideV K ts := ⟨_, rfl⟩
  obtain ⟨L, hL⟩ : ∃ L, L = sideL K ts := ⟨_, rfl⟩
  have hL8 : L.length ≤ 8 := by rw [hL]; exact sideL_le8 K ts
  obtain ⟨m, hm0⟩ : ∃ m, m = L.length := ⟨_, rfl⟩
  have HM := hideP hm0
  have HV := hideP hV
  have HL := hideP hL
  rw [← hm0] at hL8
  clear hV hL hm0
  have n0 := N1a.out.c0
  have n1 := N1a.out.c1
  go_wp2_with fail
  refine (specSideOf_any K ao cap' ts _ hn N1a.out.ties).mono ?_
  rw [← HV.out, ← HL.out]
  rintro e w2 ⟨gS, oS, cS, rfl, hRS, hb2⟩
  rw [← HM.out]
  have N2 := hideP (N1a.out.next hb2)
  have T2 := hideP (T1a.out.below hb2 T1a.out.2)
  have HB2 := hideP (HB1a.out.trans (hb2.mono HB1a.out.size))
  have S2 := hideP (row_seen' hRS)
  clear hb2 hRS n0 n1 N1a T1a HB1a
  have n0 := N2.out.c0
  have n1 := N2.out.c1
  go_wp2_with fail
  refine (implSideOf_any K ao cap' ts _ hn N2.out.ties T2.out).mono ?_
  rw [← HV.out, ← HL.out]
  rintro e w3 ⟨aoI, cI, rfl, hOI, hb3⟩
  rw [← HM.out]
  have N3 := hideP (N2.out.next hb3)
  have T3 := hideP (T2.out.below hb3 T2.out.2)
  have HB3 := hideP (HB2.out.trans (hb3.mono HB2.out.size))
  have S3 := hideP (S2.out.next hb3)
  have O3 := hideP hOI
  rw [← HM.out] at S3 O3
  clear hb3 hOI n0 n1 N2 T2 HB2 S2
  have n0 := N3.out.c0
  have n1 := N3.out.c1
  have hVV : (V != V) = false := by simp
  go_wp2_with fail
  refine (loInts_same _ _ _ _ m (pn L) _ (by omega) O3.out.inside S3.out.row).mono ?_
  rintro e w4 ⟨rfl, hb4⟩
  have N4 := hideP (N3.out.next hb4)
  have T4 := hideP (T3.out.below hb4 T3.out.2)
  have HB4 := hideP (HB3.out.trans (hb4.mono HB3.out.size))
  have S4 := hideP (S3.out.next hb4)
  have O4 := hideP (O3.out.next hb4)
  clear hb4 n0 n1 N3 T3 HB3 S3 O3 hVV
  have n0 := N4.out.c0
  have n1 := N4.out.c1
  cases V with
  | false =>
    have HLN : Hid (m = 0) := hideP (by rw [HM.out, HL.out, sideL_no HV.out.symm]; rfl)
    clear n0 n1
    go_wp2_with fail
    refine (loInts_same _ _ _ _ m (pn L) _ (by omega) O4.out.inside S4.out.row).mono ?_
    rintro e w5 ⟨rfl, hb5⟩
    have HB5 := hideP (HB4.out.trans (hb5.mono HB4.out.size))
    have hm0 := HLN.out
    clear hb5 N4 T4 HB4 S4 O4 HM
    subst hm0
    go_wp2
    go_ret
    exact ⟨rfl, HB5.out⟩
  | true =>
    obtain ⟨hok, hsb⟩ := side_sides HV.out.symm
    have HOK := hideP hok
    have HLS := hideP (HL.out.trans (sideL_yes HV.out.symm))
    obtain ⟨Kn, hKn⟩ : ∃ n : Nat, K = (n : Int) := ⟨K.toNat, by have := (okB_iff.1 hok).1; omega⟩
    have HKN := hideP hKn
    have hKT : K.toNat = Kn := by omega
    have HMK : Hid (m = Kn) := hideP (by rw [HM.out, HLS.out, sdL_len, hKT])
    have HPN : Hid (partN K ts = Kn) := hideP (by simp [partN, hok, hKT])
    have HSB : Hid (sideB K ts (L.map fun (x : Nat) => (x : Int)) = true) := hideP (by rw [HLS.out]; exact hsb)
    have HZ : Hid (∀ k, k < Kn → topN ts k = k → pn L k = 0) := hideP (fun k hk ht => by
      have e : pn L k = sdN (treeTs K ts) k := by
        rw [HLS.out]
        unfold pn sdL
        rw [hKT]
        simp [hk]
      rw [e]; exact side_root hok (by omega) ht)
    clear hok hsb hKn hKT
    go_wp2_with fail
    refine (implParts_any K ao cap' ts _ hn N4.out.ties T4.out).mono ?_
    rw [HPN.out]
    rintro e w5 ⟨aoP, cP, rfl, hOP, hb5⟩
    have N5 := hideP (N4.out.next hb5)
    have T5 := hideP (T4.out.below hb5 T4.out.2)
    have HB5 := hideP (HB4.out.trans (hb5.mono HB4.out.size))
    have O5 := hideP (O4.out.next hb5)
    have P5 := hideP hOP
    clear hb5 hOP n0 n1 N4 T4 HB4 S4 O4
    go_wp2
    go_loopw [9] (fun iv wr => ∃ k : Nat, k ≤ Kn ∧ iv = .int .i64 (k : Int) ∧ Below w5.heap.size w5 wr) (fun iv _ => Kn - (intOf iv).toNat)
    case atStart => exact ⟨0, Nat.zero_le _, rfl, Below.refl _ _⟩
    case round =>
      obtain ⟨k, hk, rfl, hBr⟩ := hrel
      have HBr := hideP hBr
      have Pr := hideP (P5.out.next hBr)
      have Or := hideP (O5.out.next hBr)
      have Nr := hideP (N5.out.next hBr)
      have Tr := hideP (T5.out.below hBr T5.out.2)
      clear hBr
      by_cases hlt : k < Kn
      · have hk1 : (k : Int) < (Kn : Int) := by omega
        have hk0 : (0 : Int) ≤ (k : Int) := by omega
        have hkm : (k : Int) < (m : Int) := by have := HMK.out; omega
        obtain ⟨gP, rfl, eP⟩ := Pr.out.at hlt
        obtain ⟨gO, rfl, eO⟩ := Or.out.at (j := k) (by have := HMK.out; omega)
        have HZK := hideP (HZ.out k hlt)
        unfold pcellN at eP eO
        obtain ⟨tv, htv⟩ : ∃ tv, tv = topN ts k := ⟨_, rfl⟩
        obtain ⟨sv, hsv⟩ : ∃ sv, sv = pn L k := ⟨_, rfl⟩
        rw [← htv] at eP HZK
        rw [← hsv] at eO HZK
        clear htv hsv Pr Or Nr Tr
        by_cases he : tv = k
        · have hs0 : sv = 0 := HZK.out he
          subst he
          subst hs0
          go_wp2
          exact ⟨⟨tv + 1, by omega, by go_num, HBr.out⟩, by simp [intOf]; omega⟩
        · have heb : ((tv : Int) == (k : Int)) = false := by rw [beq_eq_false_iff_ne]; omega
          go_wp2
          exact ⟨⟨k + 1, by omega, by go_num, HBr.out⟩, by simp [intOf]; omega⟩
      · obtain rfl : k = Kn := by omega
        have n0 := Nr.out.c0
        have n1 := Nr.out.c1
        go_wp2_with fail
        refine (implSideOk_is true K ao _ cap' m cI ts (L.map fun (x : Nat) => (x : Int)) _ (by rw [List.length_map]; exact HM.out.symm) hn Nr.out.ties (by omega) (rowV_ints Or.out.inside HM.out.symm) Tr.out HSB.out).mono ?_
        rintro e w6 ⟨rfl, hb6⟩
        have HB6 := hideP ((HB5.out.trans (HBr.out.mono HB5.out.size)).trans (hb6.mono (HB5.out.trans (HBr.out.mono HB5.out.size)).size))
        clear hb6
        go_wp2
        go_ret
        exact ⟨rfl, HB6.out⟩

end Go.Proofs.YtiaeffpjcinilaaDoor
