/- Walk of spec.FlowOk. -/
import Derived.Test.YtljnjpjnadlmhaaPartMathGA
namespace Go.Proofs.Ytljnjpjnadlmhaa
open Go.RowKit
set_option linter.unusedVariables false

theorem ends_v (v : Bool) (K : Int) (ao bo : Option Addr) (cap cap2 n : Nat) (ts : List (Int × Int)) (xs : List Int) (a b : Int) (w : World) (hl : xs.length = n) (hn : ts.length ≤ 1099511627776) (ht : TiesIn w w.heap.size ao ts) (hxn : n ≤ 1099511627776) (hcap : n ≤ cap2) (hx : IntsIn w w.heap.size bo xs) (h : fromB K ts a b xs = v) :
    Calls Try.prog 33 #[.agg #[.int .i64 K, .slice ao ts.length cap], .int .i64 a, .int .i64 b, .slice bo n cap2] w fun e w' => e = .returned (.bool v) ∧ Below w.heap.size w w' := by
  subst hl; rw [← h]; exact ends_any K ao bo cap cap2 ts xs a b w hn ht hxn hcap hx
set_option maxHeartbeats 3200000 in
theorem specFlowOk_any (K : Int) (ao bo : Option Addr) (cap cap2 : Nat) (ts : List (Int × Int)) (xss : List (List Int)) (a b : Int) (w : World) (hn : ts.length ≤ 1099511627776) (ht : TiesIn w w.heap.size ao ts) (hl : xss.length ≤ 1099511627776) (hx : RowsI w w.heap.size bo xss) :
    Calls Try.prog 9 #[.agg #[.int .i64 K, .slice ao ts.length cap], .int .i64 a, .int .i64 b, .slice bo xss.length cap2] w fun e w' => e = .returned (.bool (flowB K ts a b xss)) ∧ Below w.heap.size w w' := by
  have HT := hideP ht
  have HXR := hideP hx
  clear ht hx
  have X0 := fun (t : TypeId) => Bx.start w K (.slice ao ts.length cap) t
  have HX0 := hideP X0
  clear X0
  obtain ⟨r, hr⟩ : ∃ r, flowB K ts a b xss = r := ⟨_, rfl⟩
  have HR := hideP ((flow_is K ts a b xss).symm.trans hr)
  obtain ⟨m, hm⟩ : ∃ m, xss.length = m := ⟨_, rfl⟩
  have HM := hideP hm
  obtain ⟨va, hva⟩ : ∃ v, (okB K ts && knotB a K) = v := ⟨_, rfl⟩
  obtain ⟨vb, hvb⟩ : ∃ v, (okB K ts && knotB b K) = v := ⟨_, rfl⟩
  have HVA := hideP hva
  have HVB := hideP hvb
  have HTW : Hid (twoB K ts a b = (va && vb && decide (a ≠ b))) := hideP (by
    rw [← hva, ← hvb]; unfold twoB
    cases okB K ts <;> cases knotB a K <;> cases knotB b K <;> rfl)
  rw [hr, hm]
  rw [hm] at hl
  clear hr hm hva hvb
  go_enter Try.func9, Try.ntmps9
  go_wp2_with fail
  refine (l1Knot_v va K ao cap ts a _ hn ((HT.out.below (HX0.out _).B (Nat.le_refl _)).wide (Nat.le_of_lt (HX0.out _).lt)) HVA.out).mono ?_
  rintro e w2 ⟨rfl, hb1⟩
  have X2 := hideP ((HX0.out _).next hb1)
  have c0 := X2.out.c0
  have c1 := X2.out.c1
  clear hb1 HX0
  cases va with
  | false =>
    have HF : Hid (r = false) := hideP (by rw [← HR.out, HTW.out]; rfl)
    have HB := hideP X2.out.B
    clear X2
    go_wp2
    go_ret
    exact ⟨by rw [HF.out]; rfl, HB.out⟩
  | true =>
    go_wp2_with fail
    refine (l1Knot_v vb K ao cap ts b _ hn ((HT.out.below X2.out.B (Nat.le_refl _)).wide X2.out.B.size) HVB.out).mono ?_
    rintro e w3 ⟨rfl, hb3⟩
    have X3 := hideP (X2.out.next hb3)
    clear hb3 c0 c1 X2
    have c0 := X3.out.c0
    have c1 := X3.out.c1
    cases vb with
    | false =>
      have HF : Hid (r = false) := hideP (by rw [← HR.out, HTW.out]; rfl)
      have HB := hideP X3.out.B
      clear X3
      go_wp2
      go_ret
      exact ⟨by rw [HF.out]; rfl, HB.out⟩
    | true =>
      by_cases hab : a = b
      · have habb : (a == b) = true := by simp [hab]
        have HF : Hid (r = false) := hideP (by rw [← HR.out, HTW.out, decide_eq_false (by simp [hab])]; rfl)
        have HB := hideP X3.out.B
        clear X3 hab
        go_wp2
        go_ret
        exact ⟨by rw [HF.out]; rfl, HB.out⟩
      · have habb : (a == b) = false := by simp [hab]
        by_cases h8 : m ≤ 8
        · have h8b : decide ((8 : Int) < (m : Int)) = false := by simp; omega
          have HRR : Hid ((xss.all (fromB K ts a b) && ts.all (fun t => decide (usedN xss t ≤ 1))) = r) := hideP (by rw [← HR.out, HTW.out, HM.out, decide_eq_true hab, decide_eq_true h8]; rfl)
          clear hab HR
          go_wp2
          go_loopw [9] (fun iv wr => ∃ k : Nat, k ≤ m ∧ iv = .int .i64 (k : Int) ∧ (∀ j, j < k → fromB K ts a b (xss.getD j []) = true) ∧ Bx w wr K (.slice ao ts.length cap)) (fun iv _ => m - (intOf iv).toNat)
          case atStart => exact ⟨0, Nat.zero_le _, rfl, fun j hj => by omega, X3.out⟩
          case round =>
            obtain ⟨k, hk, rfl, hpre, hX⟩ := hrel
            have HPR := hideP hpre
            have Xr := hideP hX
            clear hpre hX c0 c1
            have c0 := Xr.out.c0
            have c1 := Xr.out.c1
            by_cases hlt : k < m
            · have hk1 : (k : Int) < (m : Int) := by omega
              have hk0 : (0 : Int) ≤ (k : Int) := by omega
              obtain ⟨g, off, bo2, cap3, rfl, hgw, e00, hc1, hc2, hI⟩ := HXR.out k (by rw [HM.out]; exact hlt)
              have e0 := (Xr.out.B.cell (p := ⟨g, off + k, none⟩) hgw).trans e00
              obtain ⟨xs, hxs⟩ : ∃ xs, xss.getD k [] = xs := ⟨_, rfl⟩
              have HXS := hideP hxs
              rw [hxs] at e0 hc1 hc2 hI
              obtain ⟨l, hl2⟩ : ∃ l, xs.length = l := ⟨_, rfl⟩
              have HL := hideP hl2
              rw [hl2] at e0 hc1 hc2
              obtain ⟨v, hv⟩ : ∃ v, fromB K ts a b xs = v := ⟨_, rfl⟩
              have HV := hideP hv
              have XD := hideP (Xr.out.next (Below.refl _ _).drew)
              have TD := hideP ((HT.out.below XD.out.B (Nat.le_refl _)).wide XD.out.B.size)
              have ID := hideP ((hI.below XD.out.B (Nat.le_refl _)).wide XD.out.B.size)
              have hwl := Xr.out.lt
              have hgr : g < wr.heap.size := Nat.lt_of_lt_of_le hgw Xr.out.B.size
              clear e00 hxs hI hl2 hv
              go_wp2
              go_region_held3 (fun w' => w'.cell? ⟨w.heap.size, 0, none⟩ = some (.int .i64 K) ∧ w'.cell? ⟨w.heap.size, 1, none⟩ = some (.slice ao ts.length cap) ∧ w'.cell? ⟨g, off + k, none⟩ = some (.slice bo2 l cap3)) (first | exact ⟨c0, c1, e0⟩ | exact ⟨(hb7.cell (p := ⟨w.heap.size, 0, none⟩) hwl).trans c0, (hb7.cell (p := ⟨w.heap.size, 1, none⟩) hwl).trans c1, (hb7.cell (p := ⟨g, off + k, none⟩) hgr).trans e0⟩) (first | (go_at_call 33; refine (ends_v v K ao bo2 cap cap3 l ts xs a b _ HL.out hn TD.out hc2 hc1 ID.out HV.out).mono ?_; rintro e w7 ⟨rfl, hb7⟩))
              have X7 := hideP (XD.out.next hb7)
              clear hb7 XD TD ID
              cases v with
              | false =>
                have HF : Hid (r = false) := hideP (by
                  rw [← HRR.out]
                  have : xss.all (fromB K ts a b) = false := by
                    rw [List.all_eq_false]
                    have hkl : k < xss.length := by rw [HM.out]; exact hlt
                    refine ⟨xss[k], List.getElem_mem hkl, ?_⟩
                    have e : xss[k] = xs := by rw [← HXS.out, List.getD_eq_getElem?_getD, List.getElem?_eq_getElem hkl]; rfl
                    rw [e, HV.out]; simp
                  rw [this]; rfl)
                have HB := hideP X7.out.B
                clear X7
                go_wp2
                go_ret
                exact ⟨by rw [HF.out]; rfl, HB.out⟩
              | true =>
                have HP2 : Hid (∀ j, j < k + 1 → fromB K ts a b (xss.getD j []) = true) := hideP (fun j hj => by
                  rcases Nat.lt_or_ge j k with h | h
                  · exact HPR.out j h
                  · obtain rfl : j = k := by omega
                    rw [HXS.out]; exact HV.out)
                go_wp2
                exact ⟨⟨k + 1, by omega, by go_num, HP2.out, X7.out⟩, by simp [intOf]; omega⟩
            · obtain rfl : k = m := by omega
              have HRT : Hid (ts.all (fun t => decide (usedN xss t ≤ 1)) = r) := hideP (by
                rw [← HRR.out]
                have : xss.all (fromB K ts a b) = true := by
                  rw [List.all_eq_true]
                  intro xs hxs
                  obtain ⟨j, hj, e⟩ := List.mem_iff_getElem.1 hxs
                  have := HPR.out j (by rw [HM.out] at hj; exact hj)
                  rw [List.getD_eq_getElem?_getD, List.getElem?_eq_getElem hj] at this
                  rw [← e]; exact this
                rw [this, Bool.true_and])
              clear HPR HRR
              go_wp2
              go_loopw [10] (fun iv wr2 => ∃ i : Nat, i ≤ ts.length ∧ iv = .int .i64 (i : Int) ∧ (∀ j, j < i → usedN xss (tA ts j, tB ts j) ≤ 1) ∧ Bx w wr2 K (.slice ao ts.length cap)) (fun iv _ => ts.length - (intOf iv).toNat)
              case atStart => exact ⟨0, Nat.zero_le _, rfl, fun j hj => by omega, Xr.out⟩
              case round =>
                clear c0 c1 Xr
                obtain ⟨i, hi, rfl, hpre, hX⟩ := hrel
                have HPR := hideP hpre
                have Xr := hideP hX
                clear hpre hX
                have c0 := Xr.out.c0
                have c1 := Xr.out.c1
                by_cases hil : i < ts.length
                · have hi1 : (i : Int) < (ts.length : Int) := by omega
                  have hi0 : (0 : Int) ≤ (i : Int) := by omega
                  obtain ⟨t, ht⟩ : ∃ t, (tA ts i, tB ts i) = t := ⟨_, rfl⟩
                  have HTT := hideP ht
                  obtain ⟨t1, ht1⟩ : ∃ x, tA ts i = x := ⟨_, rfl⟩
                  obtain ⟨t2, ht2⟩ : ∃ x, tB ts i = x := ⟨_, rfl⟩
                  have HT12 : Hid (t = (t1, t2)) := hideP (by rw [← ht, ht1, ht2])
                  have HC1 := hideP ht1
                  have HC2 := hideP ht2
                  clear ht ht1 ht2
                  go_wp2
                  go_loopw [11, 12] (fun uv kv wr3 => ∃ k2 : Nat, k2 ≤ k ∧ kv = .int .i64 (k2 : Int) ∧ uv = .int .i64 ((usedN (xss.take k2) t : Nat) : Int) ∧ Bx w wr3 K (.slice ao ts.length cap)) (fun _ kv _ => k - (intOf kv).toNat)
                  case atStart => exact ⟨0, Nat.zero_le _, rfl, rfl, Xr.out⟩
                  case round =>
                    clear c0 c1 Xr
                    obtain ⟨k2, hk2, rfl, rfl, hX⟩ := hrel
                    have Xr := hideP hX
                    clear hX
                    have c0 := Xr.out.c0
                    have c1 := Xr.out.c1
                    have hul : usedN (xss.take k2) t ≤ k2 := by
                      unfold usedN
                      refine Nat.le_trans (List.length_filter_le _ _) ?_
                      rw [List.length_take]; omega
                    obtain ⟨u, hu⟩ : ∃ u, usedN (xss.take k2) t = u := ⟨_, rfl⟩
                    have HU := hideP hu
                    rw [hu] at hul ⊢
                    clear hu
                    by_cases hlt2 : k2 < k
                    · have hk1 : (k2 : Int) < (k : Int) := by omega
                      have hk0 : (0 : Int) ≤ (k2 : Int) := by omega
                      obtain ⟨g, off, bo2, cap3, rfl, hgw, e00, hc1, hc2, hI⟩ := HXR.out k2 (by rw [HM.out]; exact hlt2)
                      have e0 := (Xr.out.B.cell (p := ⟨g, off + k2, none⟩) hgw).trans e00
                      obtain ⟨xs, hxs⟩ : ∃ xs, xss.getD k2 [] = xs := ⟨_, rfl⟩
                      have HXS := hideP hxs
                      rw [hxs] at e0 hc2 hI
                      obtain ⟨l, hl2⟩ : ∃ l, xs.length = l := ⟨_, rfl⟩
                      have HL := hideP hl2
                      rw [hl2] at e0 hc2
                      obtain ⟨gT, offT, rfl, hgT, d0, d1⟩ := (HT.out.below Xr.out.B (Nat.le_refl _)) i hil
                      rw [HC1.out] at d0
                      rw [HC2.out] at d1
                      obtain ⟨v, hv⟩ : ∃ v, usesB xs t = v := ⟨_, rfl⟩
                      have HV := hideP hv
                      have HNX : Hid (usedN (xss.take (k2 + 1)) t = u + (if v = true then 1 else 0)) := hideP (by
                        have hkl : k2 < xss.length := by rw [HM.out]; exact hlt2
                        have e : xss[k2] = xs := by rw [← hxs, List.getD_eq_getElem?_getD, List.getElem?_eq_getElem hkl]; rfl
                        rw [← HU.out]
                        unfold usedN
                        rw [List.take_add_one, List.getElem?_eq_getElem hkl, List.filter_append, List.length_append, e]
                        cases v <;> simp [hv])
                      have XD := hideP (Xr.out.next (Below.refl _ _).drew)
                      have ID := hideP ((hI.below XD.out.B (Nat.le_refl _)).wide XD.out.B.size)
                      have hwl := Xr.out.lt
                      have hgr : g < wr.heap.size := Nat.lt_of_lt_of_le hgw Xr.out.B.size
                      have hgTl : gT < wr.heap.size := Nat.lt_of_lt_of_le hgT Xr.out.B.size
                      have UV : Hid (∀ W, IntsIn W W.heap.size bo2 xs → Calls Try.prog 34 #[.slice bo2 l cap3, .agg #[.int .i64 t1, .int .i64 t2]] W fun e w' => e = .returned (.bool v) ∧ Below W.heap.size W w') := hideP (fun W h => by
                        have := uses_any bo2 cap3 xs t1 t2 W (by rw [HL.out]; exact hc2) h
                        rw [HL.out, ← HT12.out, HV.out] at this
                        exact this)
                      clear e00 hxs hI hl2 hv hgT hgw
                      go_wp2
                      go_region_held3 (fun w' => w'.cell? ⟨w.heap.size, 0, none⟩ = some (.int .i64 K) ∧ w'.cell? ⟨w.heap.size, 1, none⟩ = some (.slice (some ⟨gT, offT, none⟩) ts.length cap) ∧ w'.cell? ⟨g, off + k2, none⟩ = some (.slice bo2 l cap3) ∧ w'.cell? ⟨gT, offT + i * 2, none⟩ = some (.int .i64 t1) ∧ w'.cell? ⟨gT, offT + i * 2 + 1, none⟩ = some (.int .i64 t2)) (first | exact ⟨c0, c1, e0, d0, d1⟩ | exact ⟨(hb7.cell (p := ⟨w.heap.size, 0, none⟩) hwl).trans c0, (hb7.cell (p := ⟨w.heap.size, 1, none⟩) hwl).trans c1, (hb7.cell (p := ⟨g, off + k2, none⟩) hgr).trans e0, (hb7.cell (p := ⟨gT, offT + i * 2, none⟩) hgTl).trans d0, (hb7.cell (p := ⟨gT, offT + i * 2 + 1, none⟩) hgTl).trans d1⟩) (first | (go_at_call 34; refine (UV.out _ ID.out).mono ?_; rintro e w7 ⟨rfl, hb7⟩))
                      have X7 := hideP (XD.out.next hb7)
                      have hwu : IntKind.i64.wrap ((u : Int) + 1) = (u : Int) + 1 := by rw [IntKind.wrap_i64]; omega
                      clear hb7 XD ID UV
                      cases v with
                      | false =>
                        go_wp2
                        exact ⟨⟨k2 + 1, by omega, by go_num, by rw [HNX.out]; rfl, X7.out⟩, by simp [intOf]; omega⟩
                      | true =>
                        go_wp2
                        exact ⟨⟨k2 + 1, by omega, by go_num, by rw [HNX.out]; rfl, X7.out⟩, by simp [intOf]; omega⟩
                    · obtain rfl : k2 = k := by omega
                      have HU2 : Hid (usedN xss t = u) := hideP (by rw [← HU.out, List.take_of_length_le (by rw [HM.out]; exact Nat.le_refl _)])
                      by_cases hu1 : 1 < u
                      · have hu1' : (1 : Int) < (u : Int) := by omega
                        have HF : Hid (r = false) := hideP (by
                          rw [← HRT.out, List.all_eq_false]
                          refine ⟨ts[i], List.getElem_mem hil, ?_⟩
                          have e : ts[i] = t := by rw [← HTT.out, tA_get ts i hil, tB_get ts i hil]
                          rw [e, HU2.out]; simp; omega)
                        have HB := hideP Xr.out.B
                        clear Xr
                        go_wp2
                        go_ret
                        exact ⟨by rw [HF.out]; rfl, HB.out⟩
                      · have hu1' : decide ((1 : Int) < (u : Int)) = false := by simp; omega
                        have HP2 : Hid (∀ j, j < i + 1 → usedN xss (tA ts j, tB ts j) ≤ 1) := hideP (fun j hj => by
                          rcases Nat.lt_or_ge j i with h | h
                          · exact HPR.out j h
                          · obtain rfl : j = i := by omega
                            rw [HTT.out, HU2.out]; omega)
                        go_wp2
                        exact ⟨⟨i + 1, by omega, by go_num, HP2.out, Xr.out⟩, by simp [intOf]; omega⟩
                · obtain rfl : i = ts.length := by omega
                  have HF : Hid (r = true) := hideP (by
                    rw [← HRT.out, List.all_eq_true]
                    intro t ht
                    obtain ⟨j, hj, e⟩ := List.mem_iff_getElem.1 ht
                    have := HPR.out j hj
                    rw [tA_get ts j hj, tB_get ts j hj] at this
                    rw [← e]; exact decide_eq_true this)
                  have HB := hideP Xr.out.B
                  clear Xr
                  go_wp2
                  go_ret
                  exact ⟨by rw [HF.out]; rfl, HB.out⟩
        · have h8b : decide ((8 : Int) < (m : Int)) = true := by simp; omega
          have HF : Hid (r = false) := hideP (by rw [← HR.out, HTW.out, HM.out, decide_eq_false h8]; simp)
          have HB := hideP X3.out.B
          clear X3 hab
          go_wp2
          go_ret
          exact ⟨by rw [HF.out]; rfl, HB.out⟩

end Go.Proofs.Ytljnjpjnadlmhaa
