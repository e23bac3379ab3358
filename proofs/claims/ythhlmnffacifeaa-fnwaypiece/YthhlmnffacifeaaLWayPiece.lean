/- Walk of laws.FnWayPiece: it returns true. -/
import Derived.Test.YthhlmnffacifeaaWFound
namespace Go.Proofs.Ythhlmnffacifeaa
open Go.RowKit
set_option linter.unusedVariables false

set_option maxHeartbeats 1600000 in
theorem wayPiece_walk (bo0 : Option Addr) (n0 cap0 : Nat) (bo1 : Option Addr) (n1 cap1 : Nat) (w : World) (hb : BytesIn w bo0 n0) (hnil : bo0 = none → n0 = 0 ∧ cap0 = 0) (hc : n0 ≤ cap0) (hm : cap0 ≤ maxLen) (hb' : BytesIn w bo1 n1) (hnil' : bo1 = none → n1 = 0 ∧ cap1 = 0) (hc' : n1 ≤ cap1) (hm' : cap1 ≤ maxLen) :
    Calls Try.prog 7 #[.slice bo0 n0 cap0, .slice bo1 n1 cap1] w fun e w' => e = .returned (.bool true) ∧ Below w.heap.size w w' := by
  have hn0' : n0 ≤ 9223372036854775807 := by unfold maxLen at hm; omega
  have hn1' : n1 ≤ 9223372036854775807 := by unfold maxLen at hm'; omega
  by_cases hl : 1048576 < n0
  · have hl' : (1048576 : Int) < (n0 : Int) := by omega
    have hl2 : decide (1048576 < (n0 : Int)) = true := by simp; omega
    go_enter Try.func7, Try.ntmps7
    go_wp2
    go_ret
    exact ⟨rfl, Below.refl _ _⟩
  have hl' : decide ((1048576 : Int) < (n0 : Int)) = false := by simp; omega
  by_cases hk : 1048576 < n1
  · have hk' : (1048576 : Int) < (n1 : Int) := by omega
    have hk2 : decide (1048576 < (n1 : Int)) = true := by simp; omega
    go_enter Try.func7, Try.ntmps7
    go_wp2
    go_ret
    exact ⟨rfl, Below.refl _ _⟩
  have hk' : decide ((1048576 : Int) < (n1 : Int)) = false := by simp; omega
  go_enter Try.func7, Try.ntmps7
  go_wp2_with fail
  refine (drawWayFind_any bo0 n0 cap0 _ hb hnil hc hm).mono ?_
  rintro e w1 ⟨K, ao, cap', ts, a, b, rfl, D1⟩
  have hn : ts.length ≤ 1099511627776 := by have := D1.short; omega
  have HB1 := hideP (D1.bel.trans ((below_one w1 (.cells #[.int .i64 K, .slice ao ts.length cap'] 25)).mono D1.bel.size))
  have N1 := hideP (NetV.new (K := K) (cap := cap') 25 (D1.own.ties (Nat.le_refl _)))
  clear D1
  obtain ⟨p, hp⟩ : ∃ p, findB K ts a b = p := ⟨_, rfl⟩
  obtain ⟨V, hV⟩ : ∃ V, foundB K ts a b = V := ⟨_, rfl⟩
  have HP := hideP hp
  have HV := hideP hV
  have hp8 : p.length ≤ 8 := by rw [← hp]; exact findB_le K ts a b
  clear hp hV
  go_wp2_with fail
  refine (specFind_v V p K ao cap' ts a b _ hn N1.out.ties HP.out HV.out).mono ?_
  rintro e w2 ⟨aoS, capS, rfl, hoS, hb2⟩
  have N2 := hideP (N1.out.next hb2)
  have HB2 := hideP (HB1.out.trans (hb2.mono HB1.out.size))
  have S2 := hideP hoS
  clear hb2 N1 HB1 hoS
  have c0 := N2.out.c0
  have c1 := N2.out.c1
  go_wp2_with fail
  refine (implFind_v V p K ao cap' ts a b _ hn N2.out.ties HP.out HV.out).mono ?_
  rintro e w3 ⟨aoW, capW, rfl, hoW, hb3, hcw⟩
  have N3 := hideP (N2.out.next hb3)
  have HB3 := hideP (HB2.out.trans (hb3.mono HB2.out.size))
  have S3 := hideP (S2.out.next hb3)
  have W3 := hideP hoW
  clear hb3 N2 HB2 S2 hoW c0 c1
  cases V
  · go_wp2_with fail
    refine (loInts_same _ _ _ _ p.length (pn p) _ (by omega) W3.out.row S3.out.row).mono ?_
    rintro e w4 ⟨rfl, hb4⟩
    have HB4 := hideP (HB3.out.trans (hb4.mono HB3.out.size))
    have S4 := hideP (S3.out.next hb4)
    have W4 := hideP (W3.out.next hb4)
    clear hb4
    go_wp2_with fail
    refine (loInts_same _ _ _ _ p.length (pn p) _ (by omega) W4.out.row S4.out.row).mono ?_
    rintro e w5 ⟨rfl, hb5⟩
    have HB5 := hideP (HB4.out.trans (hb5.mono HB4.out.size))
    clear hb5
    go_wp2
    go_ret
    exact ⟨rfl, HB5.out⟩
  · go_wp2_with fail
    refine (loInts_same _ _ _ _ p.length (pn p) _ (by omega) W3.out.row S3.out.row).mono ?_
    rintro e w4 ⟨rfl, hb4⟩
    have HB4 := hideP (HB3.out.trans (hb4.mono HB3.out.size))
    have N4 := hideP (N3.out.next hb4)
    have W4 := hideP (W3.out.next hb4)
    clear hb4 N3 HB3 W3 S3
    have c0 := N4.out.c0
    have c1 := N4.out.c1
    obtain ⟨Kn, x, y, NT, rfl, rfl, hx, hy, h8⟩ := found_net HV.out
    have hK := NT.K
    subst hK
    have hp0 : 0 < p.length := by rw [← HP.out]; exact ((NT.found hx hy).1 HV.out).2.1
    obtain ⟨k, hk⟩ : ∃ k, k = n1 % p.length := ⟨_, rfl⟩
    have hkK : k < p.length := by rw [hk]; exact Nat.mod_lt _ (by omega)
    have HT3 := hideP (way_piece HV.out (k := k) (by rw [HP.out]; exact hkK))
    have hmod : (n1 : Int).tmod (p.length : Int) = (k : Int) := by rw [hk]; exact (Int.ofNat_tmod n1 p.length).symm
    have hKne : ((p.length : Int) == 0) = false := by rw [beq_eq_false_iff_ne]; omega
    have hKne2 : (p.length : Int) ≠ 0 := by omega
    have hKm1 : ((p.length : Int) == -1) = false := by rw [beq_eq_false_iff_ne]; omega
    rw [HP.out] at HT3
    obtain ⟨z, hz⟩ : ∃ z, z = p.getD k 0 := ⟨_, rfl⟩
    rw [← hz] at HT3
    have HZ : Hid (z = pn p k) := hideP hz
    obtain ⟨p1, hp1⟩ : ∃ p1, findB (Kn : Int) ts (x : Int) (z : Int) = p1 := ⟨_, rfl⟩
    have HP1 := hideP hp1
    have HV1 := hideP HT3.out.1
    have HV2 := hideP HT3.out.2.1
    have hl1 : p1.length = k + 1 := by rw [← hp1]; exact HT3.out.2.2.1
    have HP2 := hideP HT3.out.2.2.2
    clear hk hp1 HT3 HP HV NT hz
    obtain ⟨aw, offw, rfl, bW, loW⟩ : ∃ aw offw, aoW = some ⟨aw, offw, none⟩ ∧ aw < w4.heap.size ∧ ∀ j, j < p.length → w4.cell? ⟨aw, offw + j, none⟩ = some (.int .i64 (pn p j : Int)) := row_addr W4.out hp0
    have cz : w4.cell? ⟨aw, offw + k, none⟩ = some (.int .i64 (z : Int)) := by rw [HZ.out]; exact loW k hkK
    have hk0 : (0 : Int) ≤ (k : Int) := by omega
    have hk1 : (k : Int) < (p.length : Int) := by omega
    have hN1 : w1.heap.size < w4.heap.size := N4.out.lt
    have T4 := hideP (N4.out.next (Below.refl _ _).drew).ties
    have HLOW := hideP loW
    clear loW
    go_wp2_with fail
    go_region_held3 (fun w' => w'.cell? ⟨w1.heap.size, 0, none⟩ = some (.int .i64 (Kn : Int)) ∧ w'.cell? ⟨w1.heap.size, 1, none⟩ = some (.slice ao ts.length cap') ∧ w'.cell? ⟨aw, offw + k, none⟩ = some (.int .i64 (z : Int))) (first | exact ⟨c0, c1, cz⟩ | exact ⟨(hb5.cell (p := ⟨w1.heap.size, 0, none⟩) hN1).trans c0, (hb5.cell (p := ⟨w1.heap.size, 1, none⟩) hN1).trans c1, (hb5.cell (p := ⟨aw, offw + k, none⟩) bW).trans cz⟩) (first | (go_at_call 11; refine (implFind_v true p1 _ ao cap' ts _ _ _ hn T4.out HP1.out HV1.out).mono ?_; rintro e w5 ⟨ao5, cap5, rfl, ho5, hb5, _⟩))
    have hb45 : Below w4.heap.size w4 w5 := ((Below.refl _ _).drew).trans hb5
    have N5 := hideP (N4.out.next hb45)
    have HB5 := hideP (HB4.out.trans (hb45.mono HB4.out.size))
    have d0 := N5.out.c0
    have d1 := N5.out.c1
    have dz : w5.cell? ⟨aw, offw + k, none⟩ = some (.int .i64 (z : Int)) := (hb45.cell (p := ⟨aw, offw + k, none⟩) bW).trans cz
    have bW5 : aw < w5.heap.size := Nat.lt_of_lt_of_le bW hb45.size
    have HLOW5 : Hid (∀ j, j < p.length → w5.cell? ⟨aw, offw + j, none⟩ = some (.int .i64 (pn p j : Int))) := fun j hj => (hb45.cell (p := ⟨aw, offw + j, none⟩) bW).trans (HLOW.out j hj)
    have hN5 : w1.heap.size < w5.heap.size := N5.out.lt
    have T5 := hideP (N5.out.next (Below.refl _ _).drew).ties
    clear hb5 hb45 ho5 c0 c1 cz bW hN1 T4 HLOW N4 HB4 W4
    go_wp2_with fail
    go_region_held3 (fun w' => w'.cell? ⟨w1.heap.size, 0, none⟩ = some (.int .i64 (Kn : Int)) ∧ w'.cell? ⟨w1.heap.size, 1, none⟩ = some (.slice ao ts.length cap') ∧ w'.cell? ⟨aw, offw + k, none⟩ = some (.int .i64 (z : Int))) (first | exact ⟨d0, d1, dz⟩ | exact ⟨(hb6.cell (p := ⟨w1.heap.size, 0, none⟩) hN5).trans d0, (hb6.cell (p := ⟨w1.heap.size, 1, none⟩) hN5).trans d1, (hb6.cell (p := ⟨aw, offw + k, none⟩) bW5).trans dz⟩) (first | (go_at_call 11; refine (implFind_v true (p.drop k) _ ao cap' ts _ _ _ hn T5.out HP2.out HV2.out).mono ?_; rintro e w6 ⟨ao6, cap6, rfl, ho6, hb6, _⟩))
    have hb56 : Below w5.heap.size w5 w6 := ((Below.refl _ _).drew).trans hb6
    have HB6 := hideP (HB5.out.trans (hb56.mono HB5.out.size))
    have hld : (p.drop k).length = p.length - k := by simp
    have R6 : Hid (RowV w6 w6.heap.size (some ⟨aw, offw + k, none⟩) (p.length - k) (pcellN (pn (p.drop k)))) := fun j hj => ⟨aw, offw + k, rfl, Nat.lt_of_lt_of_le bW5 hb56.size, by
      rw [hb56.cell (p := ⟨aw, offw + k + j, none⟩) bW5, show offw + k + j = offw + (k + j) by omega, HLOW5.out (k + j) (by omega)]
      unfold pcellN pn
      simp [List.getElem?_drop]⟩
    have O6 : Hid (RowV w6 w6.heap.size ao6 (p.length - k) (pcellN (pn (p.drop k)))) := hideP (by rw [← hld]; exact ho6.row)
    have hcapW : p.length ≤ capW := hcw
    have e1 : ((p1.length : Int) == (k : Int) + 1) = true := by simp; omega
    have hl1' : (p1.length : Int) = (k : Int) + 1 := by omega
    clear hb6 hb56 ho6 d0 d1 dz HLOW5 N5 HB5 T5 hN5 hl1
    clear hld
    go_wp2_with fail
    refine (loInts_same _ _ _ _ (p.length - k) (pn (p.drop k)) _ (by omega) O6.out R6.out).mono ?_
    rintro e w7 ⟨rfl, hb7⟩
    have HB7 := hideP (HB6.out.trans (hb7.mono HB6.out.size))
    clear hb7
    go_wp2
    go_ret
    exact ⟨rfl, HB7.out⟩

end Go.Proofs.Ythhlmnffacifeaa
