/- Walk of laws.FnWayMore: it returns true. -/
import Derived.Test.YthhlmnffacifeaaDoorWFound
import Derived.Test.YthhlmnffacifeaaDoorWAlls
import Derived.Test.YthhlmnffacifeaaDoorMathL
import Derived.Test.YthhlmnffacifeaaDoorWWayOk2
namespace Go.Proofs.YthhlmnffacifeaaDoor
open Go.RowKit
set_option linter.unusedVariables false

theorem BytesIn.under {w w' : World} {bo : Option Addr} {n : Nat} (h : BytesIn w bo n) (hb : Below w.heap.size w w') : BytesIn w' bo n := by
  intro i hi
  obtain ⟨b, off, v, e, h1, h2, h3⟩ := h i hi
  exact ⟨b, off, v, e, Nat.lt_of_lt_of_le h1 hb.size, (hb.cell (p := ⟨b, off + i, none⟩) h1).trans h2, h3⟩
theorem added_ties {K : Int} {ts us : List (Int × Int)} {a b : Int} (h : addB K ts a b = true) (hu : us = addTs K ts a b) : ∀ x y, tieNB ts x y = true → tieNB us x y = true := by
  intro x y hxy
  subst hu
  rw [addTs_yes h]
  unfold tieNB at hxy ⊢
  exact tied_mem.2 ((mem_ins _ _ _).2 (Or.inr (tied_mem.1 hxy)))
theorem pw_mono {E E' : Nat → Nat → Bool} (hE : ∀ x y, E x y = true → E' x y = true) {q : List Nat} (h : Pw E q) : Pw E' q := ⟨fun i hi => hE _ _ (h.tie i hi), h.new⟩
set_option maxHeartbeats 1600000 in
theorem wayMore_walk (bo0 : Option Addr) (n0 cap0 : Nat) (bo1 : Option Addr) (n1 cap1 : Nat) (w : World) (hb : BytesIn w bo0 n0) (hnil : bo0 = none → n0 = 0 ∧ cap0 = 0) (hc : n0 ≤ cap0) (hm : cap0 ≤ maxLen) (hb' : BytesIn w bo1 n1) (hnil' : bo1 = none → n1 = 0 ∧ cap1 = 0) (hc' : n1 ≤ cap1) (hm' : cap1 ≤ maxLen) (hT : Tab w) :
    Calls Tryd.prog 4 #[.slice bo0 n0 cap0, .slice bo1 n1 cap1] w fun e w' => e = .returned (.bool true) ∧ Below w.heap.size w w' := by
  have hn0' : n0 ≤ 9223372036854775807 := by unfold maxLen at hm; omega
  have hn1' : n1 ≤ 9223372036854775807 := by unfold maxLen at hm'; omega
  by_cases hl : 1048576 < n0
  · have hl' : (1048576 : Int) < (n0 : Int) := by omega
    have hl2 : decide (1048576 < (n0 : Int)) = true := by simp; omega
    go_enter Tryd.func4, Tryd.ntmps4
    go_wp2
    go_ret
    exact ⟨rfl, Below.refl _ _⟩
  have hl' : decide ((1048576 : Int) < (n0 : Int)) = false := by simp; omega
  by_cases hk : 1048576 < n1
  · have hk' : (1048576 : Int) < (n1 : Int) := by omega
    have hk2 : decide (1048576 < (n1 : Int)) = true := by simp; omega
    go_enter Tryd.func4, Tryd.ntmps4
    go_wp2
    go_ret
    exact ⟨rfl, Below.refl _ _⟩
  have hk' : decide ((1048576 : Int) < (n1 : Int)) = false := by simp; omega
  go_enter Tryd.func4, Tryd.ntmps4
  go_wp2_with fail
  refine (drawWayFind_any bo0 n0 cap0 _ hb hnil hc hm).mono ?_
  rintro e w1 ⟨K, ao, cap', ts, a, b, rfl, D1⟩
  have hn : ts.length ≤ 1099511627776 := by have := D1.short; omega
  have HB1 := hideP (D1.bel.trans ((below_one w1 (.cells #[.int .i64 K, .slice ao ts.length cap'] 25)).mono D1.bel.size))
  have N1 := hideP (NetV.new (K := K) (cap := cap') 25 (D1.own.ties (Nat.le_refl _)))
  have T1 := hideP (hT.below HB1.out hT.2)
  have BY := hideP (BytesIn.under hb' HB1.out)
  clear D1
  obtain ⟨p, hp⟩ : ∃ p, findB K ts a b = p := ⟨_, rfl⟩
  obtain ⟨V, hV⟩ : ∃ V, foundB K ts a b = V := ⟨_, rfl⟩
  have HP := hideP hp
  have HV := hideP hV
  have hp8 : p.length ≤ 8 := by rw [← hp]; exact findB_le K ts a b
  clear hp hV
  go_wp2_with fail
  refine (drawNetAdd_any bo1 n1 cap1 _ BY.out hnil' hc' hm').mono ?_
  rintro e wd ⟨Kd, aod, capd, tsd, c, d, rfl, Dd⟩
  have bod := below_one wd (.cells #[.int .i64 Kd, .slice aod tsd.length capd] 25)
  have Nd := hideP ((N1.out.next Dd.bel).next bod)
  have HBd := hideP ((HB1.out.trans (Dd.bel.mono HB1.out.size)).trans (bod.mono (by have := HB1.out.size; have := Dd.bel.size; omega)))
  have Td := hideP ((T1.out.below Dd.bel T1.out.2).below bod (by have := T1.out.2; have := Dd.bel.size; omega))
  clear bod
  clear Dd N1 HB1 T1 BY hT
  have N1 := Nd
  have HB1 := HBd
  have T1 := Td
  clear Nd HBd Td
  have c0 := N1.out.c0
  have c1 := N1.out.c1
  go_wp2_with fail
  refine (specFind_v V p K ao cap' ts a b _ hn N1.out.ties HP.out HV.out).mono ?_
  rintro e w2 ⟨aoS, capS, rfl, hoS, hb2⟩
  have N2 := hideP (N1.out.next hb2)
  have HB2 := hideP (HB1.out.trans (hb2.mono HB1.out.size))
  have T2 := hideP (T1.out.below hb2 T1.out.2)
  have S2 := hideP hoS
  clear hb2 N1 HB1 hoS c0 c1
  have c0 := N2.out.c0
  have c1 := N2.out.c1
  go_wp2_with fail
  refine (implFind_v V p K ao cap' ts a b _ hn N2.out.ties HP.out HV.out).mono ?_
  rintro e w3 ⟨aoW, capW, rfl, hoW, hb3, hcw⟩
  have N3 := hideP (N2.out.next hb3)
  have HB3 := hideP (HB2.out.trans (hb3.mono HB2.out.size))
  have T3 := hideP (T2.out.below hb3 T2.out.2)
  have S3 := hideP (S2.out.next hb3)
  have W3 := hideP hoW
  clear hb3 N2 HB2 S2 hoW c0 c1
  have c0 := N3.out.c0
  have c1 := N3.out.c1
  obtain ⟨us, hus⟩ : ∃ us, us = addTs K ts c d := ⟨_, rfl⟩
  obtain ⟨Vt, hVt⟩ : ∃ Vt, Vt = addB K ts c d := ⟨_, rfl⟩
  obtain ⟨Kx, hKx⟩ : ∃ Kx, Kx = addK K ts c d := ⟨_, rfl⟩
  have HUS := hideP hus
  have HVT := hideP hVt
  have HKX := hideP hKx
  have HUN : Hid (us.length ≤ 1099511627776) := by rw [hus]; have := addTs_len K ts c d; show (addTs K ts c d).length ≤ _; omega
  clear hus hVt hKx
  go_wp2_with fail
  refine (netAdd_all K ao cap' ts c d _ hn N3.out.ties T3.out).mono ?_
  rw [← HUS.out, ← HVT.out, ← HKX.out]
  rintro e w3b ⟨aoX, capX, rfl, hoX, hb3b⟩
  have hsz : (w3b.alloc (.cells #[.int .i64 Kx, .slice aoX us.length capX] 25)).heap.size = w3b.heap.size + 1 := by simp
  have bo4 := below_one w3b (.cells #[.int .i64 Kx, .slice aoX us.length capX] 25)
  have NX := hideP (NetV.new (K := Kx) (cap := capX) 25 (hoX.ties (Nat.le_refl _)))
  have N3b := hideP ((N3.out.next hb3b).next bo4)
  have HB3b := hideP ((HB3.out.trans (hb3b.mono HB3.out.size)).trans (bo4.mono (by have := HB3.out.size; have := hb3b.size; omega)))
  have S3b := hideP ((S3.out.next hb3b).next bo4)
  have W3b := hideP ((W3.out.next hb3b).next bo4)
  clear N3 HB3 S3 W3 hb3b bo4 hoX c0 c1 T3
  cases V
  · go_wp2_with fail
    refine (loInts_same _ _ _ _ p.length (pn p) _ (by omega) W3b.out.row S3b.out.row).mono ?_
    rintro e w4 ⟨rfl, hb4⟩
    have HB4 := hideP (HB3b.out.trans (hb4.mono HB3b.out.size))
    have S4 := hideP (S3b.out.next hb4)
    have W4 := hideP (W3b.out.next hb4)
    clear hb4
    go_wp2_with fail
    refine (loInts_same _ _ _ _ p.length (pn p) _ (by omega) W4.out.row S4.out.row).mono ?_
    rintro e w5 ⟨rfl, hb5⟩
    have HB5 := hideP (HB4.out.trans (hb5.mono HB4.out.size))
    clear hb5
    go_wp2
    go_ret
    exact ⟨rfl, HB5.out⟩
  · cases Vt
    · go_wp2_with fail
      refine (loInts_same _ _ _ _ p.length (pn p) _ (by omega) W3b.out.row S3b.out.row).mono ?_
      rintro e w4 ⟨rfl, hb4⟩
      have HB4 := hideP (HB3b.out.trans (hb4.mono HB3b.out.size))
      have S4 := hideP (S3b.out.next hb4)
      have W4 := hideP (W3b.out.next hb4)
      clear hb4
      go_wp2_with fail
      refine (loInts_same _ _ _ _ p.length (pn p) _ (by omega) W4.out.row S4.out.row).mono ?_
      rintro e w5 ⟨rfl, hb5⟩
      have HB5 := hideP (HB4.out.trans (hb5.mono HB4.out.size))
      clear hb5
      go_wp2
      go_ret
      exact ⟨rfl, HB5.out⟩
    · have A := added HVT.out.symm
      rw [← HUS.out] at A
      have HKK : Hid (Kx = K) := HKX.out.trans (addK_yes HVT.out.symm)
      have hMO := way_more (us := us) HV.out A.ok (added_ties HVT.out.symm HUS.out)
      obtain ⟨p1, hp1⟩ : ∃ p1, findB K us a b = p1 := ⟨_, rfl⟩
      have hp18 : p1.length ≤ 8 := by rw [← hp1]; exact findB_le K us a b
      have hle : p1.length ≤ p.length := by rw [← hp1, ← HP.out]; exact hMO.2
      have hle' : (p1.length : Int) ≤ (p.length : Int) := by omega
      have HP1 : Hid (findB Kx us a b = p1) := by rw [HKK.out]; exact hideP hp1
      have HV1 : Hid (foundB Kx us a b = true) := by rw [HKK.out]; exact hideP hMO.1
      have hway := ways_way (find_mem HV.out)
      rw [HP.out] at hway
      have HWAY : Hid (wayB Kx us (p.map fun (x : Nat) => (x : Int)) = true) := by
        rw [HKK.out]
        exact hideP (Pw.way A.ok (pw_mono (added_ties HVT.out.symm HUS.out) hway.1) hway.2.2.2.1 (by rw [hway.2.2.1]; exact hway.2.2.2.2.2))
      have hp0 := hway.2.2.2.1
      have hcpw := hcw
      clear A hMO hp1 hway HVT HUS HKX
      go_wp2_with fail
      refine (loInts_same _ _ _ _ p.length (pn p) _ (by omega) W3b.out.row S3b.out.row).mono ?_
      rintro e w4 ⟨rfl, hb4⟩
      have HB4 := hideP (HB3b.out.trans (hb4.mono HB3b.out.size))
      have NX4 := hideP (NX.out.next hb4)
      have W4 := hideP (W3b.out.next hb4)
      clear hb4 NX HB3b W3b S3b
      have x0 := NX4.out.c0
      have x1 := NX4.out.c1
      go_wp2_with fail
      refine (implFind_v true p1 Kx aoX capX us a b _ HUN.out NX4.out.ties HP1.out HV1.out).mono ?_
      rintro e w5 ⟨ao5, cap5, rfl, ho5, hb5, _⟩
      have HB5 := hideP (HB4.out.trans (hb5.mono HB4.out.size))
      have NX5 := hideP (NX4.out.next hb5)
      have W5 := hideP (W4.out.next hb5)
      clear hb5 NX4 HB4 W4 ho5 x0 x1
      have x0 := NX5.out.c0
      have x1 := NX5.out.c1
      have hml : (p.map fun (x : Nat) => (x : Int)).length = p.length := by simp
      have HOK : Hid (∀ w', TiesIn w' w'.heap.size aoX us → IntsIn w' w'.heap.size aoW (p.map fun (x : Nat) => (x : Int)) → Calls Tryd.prog 10 #[.agg #[.int .i64 Kx, .slice aoX us.length capX], .slice aoW p.length capW] w' fun e w'' => e = .returned (.bool true) ∧ Below w'.heap.size w' w'') := fun w' h1 h2 => by
        have := implWayOk_any Kx aoX aoW capX capW us (p.map fun (x : Nat) => (x : Int)) w' HUN.out h1 (by rw [hml]; omega) (by rw [hml]; exact hcpw) h2
        rw [hml, HWAY.out] at this
        exact this
      go_wp2_with fail
      refine (HOK.out _ NX5.out.ties (row_ints W5.out)).mono ?_
      rintro e w6 ⟨rfl, hb6⟩
      have HB6 := hideP (HB5.out.trans (hb6.mono HB5.out.size))
      clear hb6
      go_wp2
      go_ret
      exact ⟨rfl, HB6.out⟩

end Go.Proofs.YthhlmnffacifeaaDoor
