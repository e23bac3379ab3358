/- Walk of laws.FnFlowTie: it returns true. -/
import Derived.Test.YtoldljbbjhipnaaDoorLFlowThree
import Derived.Test.YtoldljbbjhipnaaDoorPartWSpecCut
import Derived.Test.YtoldljbbjhipnaaDoorPartMathL
import Derived.Test.YtoldljbbjhipnaaDoorWWayOk2
namespace Go.Proofs.YtoldljbbjhipnaaDoor
open Go.RowKit
set_option linter.unusedVariables false

theorem BytesIn.under {w w' : World} {bo : Option Addr} {n : Nat} (h : BytesIn w bo n) (hb : Below w.heap.size w w') : BytesIn w' bo n := by
  intro i hi
  obtain ⟨b, off, v, e, h1, h2, h3⟩ := h i hi
  exact ⟨b, off, v, e, Nat.lt_of_lt_of_le h1 hb.size, (hb.cell (p := ⟨b, off + i, none⟩) h1).trans h2, h3⟩
theorem tie_flow {K : Int} {ts : List (Int × Int)} {c d a b : Int} (h : addB K ts c d = true) (h2 : twoB K ts a b = true) :
    countI (addK K ts c d) (addTs K ts c d) a b = countI K ts a b ∨ countI (addK K ts c d) (addTs K ts c d) a b = countI K ts a b + 1 := by
  obtain ⟨hok, x, y, rfl, rfl, hx, hy, hxk, hyk, hxy⟩ := knot_nat h2
  have hg := (add_good h).1
  have hK := (add_good h).2.1
  have hm : ∀ s, s ∈ addTs K ts c d ↔ s = tieOf c d ∨ s ∈ ts := fun s => by rw [addTs_yes h]; exact mem_ins _ _ _
  have hok2 : okB K (addTs K ts c d) = true := by
    rw [addTs_yes h]
    exact okB_iff.2 (ok_srt.2 ⟨(okB_iff.1 hok).1, hK, hg⟩)
  have h3 : twoB K (addTs K ts c d) (x : Int) (y : Int) = true := by
    unfold twoB at h2 ⊢
    simp only [Bool.and_eq_true] at h2 ⊢
    exact ⟨⟨⟨hok2, h2.1.1.2⟩, h2.1.2⟩, h2.2⟩
  rw [addK_yes h]
  unfold countI
  rw [if_pos h2, if_pos h3]
  show flowV (addTs K ts c d) x y = flowV ts x y ∨ flowV (addTs K ts c d) x y = flowV ts x y + 1
  have u1 := flowV_up (ts := addTs K ts c d) (us := ts) (fun t ht => (hm t).2 (Or.inr ht)) (a := x) (b := y) hx hxy
  have tk : TieOk K (tieOf c d).1 (tieOf c d).2 := hg.1 _ (by rw [← addTs_yes h]; exact (hm _).2 (Or.inl rfl))
  unfold TieOk at tk
  have u2 := flowV_less (addTs K ts c d) (tieOf c d) (a := x) (b := y) hx hxy (by omega) (by omega) (by omega)
  have u3 := flowV_up (ts := ts) (us := minusT (addTs K ts c d) (tieOf c d)) (fun t ht => by
    have h5 := mem_minus.1 ht
    rcases (hm t).1 h5.1 with e | e
    · exact absurd e h5.2
    · exact e) (a := x) (b := y) hx hxy
  omega
set_option maxHeartbeats 1600000 in
theorem flowTie_walk (bo0 : Option Addr) (n0 cap0 : Nat) (bo1 : Option Addr) (n1 cap1 : Nat) (w : World) (hb : BytesIn w bo0 n0) (hnil : bo0 = none → n0 = 0 ∧ cap0 = 0) (hc : n0 ≤ cap0) (hm : cap0 ≤ maxLen) (hb' : BytesIn w bo1 n1) (hnil' : bo1 = none → n1 = 0 ∧ cap1 = 0) (hc' : n1 ≤ cap1) (hm' : cap1 ≤ maxLen) (hT : Tab w) :
    Calls Tryd.prog 3 #[.slice bo0 n0 cap0, .slice bo1 n1 cap1] w fun e w' => e = .returned (.bool true) ∧ Below w.heap.size w w' := by
  have hn0' : n0 ≤ 9223372036854775807 := by unfold maxLen at hm; omega
  have hn1' : n1 ≤ 9223372036854775807 := by unfold maxLen at hm'; omega
  by_cases hl : 1048576 < n0
  · have hl' : (1048576 : Int) < (n0 : Int) := by omega
    have hl2 : decide (1048576 < (n0 : Int)) = true := by simp; omega
    go_enter Tryd.func3, Tryd.ntmps3
    go_wp2
    go_ret
    exact ⟨rfl, Below.refl _ _⟩
  have hl' : decide ((1048576 : Int) < (n0 : Int)) = false := by simp; omega
  by_cases hk : 1048576 < n1
  · have hk' : (1048576 : Int) < (n1 : Int) := by omega
    have hk2 : decide (1048576 < (n1 : Int)) = true := by simp; omega
    go_enter Tryd.func3, Tryd.ntmps3
    go_wp2
    go_ret
    exact ⟨rfl, Below.refl _ _⟩
  have hk' : decide ((1048576 : Int) < (n1 : Int)) = false := by simp; omega
  go_enter Tryd.func3, Tryd.ntmps3
  go_wp2_with fail
  refine (drawFlowCount_any bo0 n0 cap0 _ hb hnil hc hm).mono ?_
  rintro e w1 ⟨K, ao, cap', ts, a, b, rfl, D1⟩
  have hn : ts.length ≤ 1099511627776 := by have := D1.short; omega
  have HB1 := hideP (D1.bel.trans ((below_one w1 (.cells #[.int .i64 K, .slice ao ts.length cap'] 25)).mono D1.bel.size))
  have N1 := hideP (NetV.new (K := K) (cap := cap') 25 (D1.own.ties (Nat.le_refl _)))
  have T1 := hideP (hT.below HB1.out hT.2)
  have BY := hideP (BytesIn.under hb' HB1.out)
  clear D1
  obtain ⟨V, hV⟩ : ∃ V, countI K ts a b = V := ⟨_, rfl⟩
  have HV := hideP hV
  have hV8 := countI_le8 K ts a b
  rw [hV] at hV8
  clear hV
  go_wp2_with fail
  refine (drawNetAdd_any bo1 n1 cap1 _ BY.out hnil' hc' hm').mono ?_
  rintro e wd ⟨Kd, aod, capd, tsd, c, d, rfl, Dd⟩
  have bod := below_one wd (.cells #[.int .i64 Kd, .slice aod tsd.length capd] 25)
  have Nd := hideP ((N1.out.next Dd.bel).next bod)
  have HBd := hideP ((HB1.out.trans (Dd.bel.mono HB1.out.size)).trans (bod.mono (by have := HB1.out.size; have := Dd.bel.size; omega)))
  have Td := hideP ((T1.out.below Dd.bel T1.out.2).below bod (by have := T1.out.2; have := Dd.bel.size; omega))
  clear bod
  clear Dd N1 HB1 T1 BY hT
  have c0 := Nd.out.c0
  have c1 := Nd.out.c1
  have hvv : (V != V) = false := by simp
  have hve : (V == V) = true := by simp
  go_wp2_with fail
  refine (implFlow_v V K ao cap' ts a b _ hn Nd.out.ties HV.out).mono ?_
  rintro e w2 ⟨rfl, hb2⟩
  have N2 := hideP (Nd.out.next hb2)
  have HB2 := hideP (HBd.out.trans (hb2.mono HBd.out.size))
  have T2 := hideP (Td.out.below hb2 Td.out.2)
  clear hb2 Nd HBd Td c0 c1
  have c0 := N2.out.c0
  have c1 := N2.out.c1
  obtain ⟨us, hus⟩ : ∃ us, us = addTs K ts c d := ⟨_, rfl⟩
  obtain ⟨Vt, hVt⟩ : ∃ Vt, Vt = addB K ts c d := ⟨_, rfl⟩
  obtain ⟨Kx, hKx⟩ : ∃ Kx, Kx = addK K ts c d := ⟨_, rfl⟩
  have HUS := hideP hus
  have HVT := hideP hVt
  have HKX := hideP hKx
  have HUN : Hid (us.length ≤ 1099511627776) := by rw [hus]; have := addTs_len K ts c d; show (addTs K ts c d).length ≤ _; omega
  clear hus hVt hKx
  go_wp2_with fail
  refine (netAdd_all K ao cap' ts c d _ hn N2.out.ties T2.out).mono ?_
  rw [← HUS.out, ← HVT.out, ← HKX.out]
  rintro e w3b ⟨aoX, capX, rfl, hoX, hb3b⟩
  have hsz : (w3b.alloc (.cells #[.int .i64 Kx, .slice aoX us.length capX] 25)).heap.size = w3b.heap.size + 1 := by simp
  have bo4 := below_one w3b (.cells #[.int .i64 Kx, .slice aoX us.length capX] 25)
  have NX := hideP (NetV.new (K := Kx) (cap := capX) 25 (hoX.ties (Nat.le_refl _)))
  have N3 := hideP ((N2.out.next hb3b).next bo4)
  have HB3 := hideP ((HB2.out.trans (hb3b.mono HB2.out.size)).trans (bo4.mono (by have := HB2.out.size; have := hb3b.size; omega)))
  clear N2 HB2 hb3b bo4 hoX c0 c1 T2
  have c0 := N3.out.c0
  have c1 := N3.out.c1
  go_wp2_with fail
  refine (specFlow_v V K ao cap' ts a b _ hn N3.out.ties HV.out).mono ?_
  rintro e w4 ⟨rfl, hb4⟩
  have N4 := hideP (N3.out.next hb4)
  have NX4 := hideP (NX.out.next hb4)
  have HB4 := hideP (HB3.out.trans (hb4.mono HB3.out.size))
  clear hb4 N3 NX HB3 c0 c1
  have c0 := N4.out.c0
  have c1 := N4.out.c1
  by_cases hneg : V < 0
  · go_wp2_with fail
    refine (specFlow_v V K ao cap' ts a b _ hn N4.out.ties HV.out).mono ?_
    rintro e w5 ⟨rfl, hb5⟩
    have HB5 := hideP (HB4.out.trans (hb5.mono HB4.out.size))
    clear hb5
    go_wp2
    go_ret
    exact ⟨rfl, HB5.out⟩
  cases Vt
  · go_wp2_with fail
    refine (specFlow_v V K ao cap' ts a b _ hn N4.out.ties HV.out).mono ?_
    rintro e w5 ⟨rfl, hb5⟩
    have HB5 := hideP (HB4.out.trans (hb5.mono HB4.out.size))
    clear hb5
    go_wp2
    go_ret
    exact ⟨rfl, HB5.out⟩
  · have h2 := countI_neg (K := K) (ts := ts) (a := a) (b := b) (by rw [HV.out]; exact hneg)
    have HTF := hideP (tie_flow HVT.out.symm h2)
    rw [← HUS.out, ← HKX.out, HV.out] at HTF
    obtain ⟨g, hg⟩ : ∃ g, countI Kx us a b = g := ⟨_, rfl⟩
    rw [hg] at HTF
    have HG := hideP hg
    clear hg h2 c0 c1
    have d0 := NX4.out.c0
    have d1 := NX4.out.c1
    have i4 : IntKind.i64.wrap (V + 1) = V + 1 := by rw [IntKind.wrap_i64]; omega
    go_wp2_with fail
    refine (implFlow_v g Kx aoX capX us a b _ HUN.out NX4.out.ties HG.out).mono ?_
    rintro e w5 ⟨rfl, hb5⟩
    have HB5 := hideP (HB4.out.trans (hb5.mono HB4.out.size))
    clear hb5 d0 d1
    rcases HTF.out with e | e
    · subst e
      go_wp2
      go_ret
      exact ⟨rfl, HB5.out⟩
    · have e1 : (g == V) = false := by rw [beq_eq_false_iff_ne]; omega
      have e2 : (g == V + 1) = true := by rw [e]; simp
      go_wp2
      go_ret
      exact ⟨rfl, HB5.out⟩

end Go.Proofs.YtoldljbbjhipnaaDoor
