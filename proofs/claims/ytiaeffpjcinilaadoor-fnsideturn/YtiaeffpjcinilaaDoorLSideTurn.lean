/- Walk of laws.FnSideTurn: it returns true. -/
import Derived.Test.YtiaeffpjcinilaaDoorLSideOf
import Derived.Test.YtiaeffpjcinilaaDoorPartWDrawOdd
namespace Go.Proofs.YtiaeffpjcinilaaDoor
open Go.RowKit
set_option linter.unusedVariables false

theorem rowZ_new (w : World) (t : TypeId) : RowZ (w.alloc (.cells #[] t)) w.heap.size w.heap.size 0 0 [] :=
  ⟨Nat.le_refl _, fun i hi => absurd hi (by simp), fun i hi => absurd hi (by omega), fun i => World.frozen?_alloc_at _ _ _ _ rfl, Nat.le_refl _, by simp⟩
def flip (xs : List Int) : List Int := xs.map (fun x => 1 - x)
theorem xi_flip {xs : List Int} {k : Nat} (h : k < xs.length) : xi (flip xs) k = 1 - xi xs k := by
  unfold xi flip
  rw [List.getD_eq_getElem?_getD, List.getD_eq_getElem?_getD, List.getElem?_map, List.getElem?_eq_getElem h]; rfl
theorem flip_take {xs : List Int} {k : Nat} (h : k < xs.length) : flip (xs.take (k + 1)) = flip (xs.take k) ++ [1 - xi xs k] := by
  have e : xi xs k = xs[k] := by unfold xi; rw [List.getD_eq_getElem?_getD, List.getElem?_eq_getElem h]; rfl
  unfold flip
  rw [List.take_add_one, List.getElem?_eq_getElem h, List.map_append, e]; rfl
/-- sides turned about are sides -/
theorem side_flip {K : Int} {ts : List (Int × Int)} {xs : List Int} (h : sideB K ts xs = true) : sideB K ts (flip xs) = true := by
  have h0 := h
  unfold sideB at h ⊢
  simp only [Bool.and_eq_true, Bool.not_eq_true', decide_eq_true_eq] at h ⊢
  obtain ⟨⟨⟨hok, hl⟩, h01⟩, ho⟩ := h
  obtain ⟨_, hv⟩ := two_of h0
  have hfl : (flip xs).length = xs.length := by simp [flip]
  refine ⟨⟨⟨hok, by rw [hfl]; exact hl⟩, ?_⟩, ?_⟩
  · refine in01_yes (fun j hj => ?_)
    rw [hfl] at hj
    rw [xi_flip hj]
    rcases hv j (by omega) with e | e <;> rw [e] <;> rfl
  · have hno : oddT ts xs = none := by
      cases hq : oddT ts xs with
      | none => rfl
      | some t => rw [hq] at ho; cases ho
    have : oddT ts (flip xs) = none := by
      unfold oddT at hno ⊢
      rw [List.find?_eq_none] at hno ⊢
      intro t ht
      have hn := hno t ht
      obtain ⟨q1, q2, q3⟩ := (ok_parts hok).2.2.1 t ht
      unfold sameB at hn ⊢
      rw [xi_flip (by omega), xi_flip (by omega)]
      intro hh
      apply hn
      rw [beq_iff_eq] at hh ⊢
      omega
    rw [this]; rfl
theorem odd_none {K : Int} {ts : List (Int × Int)} (h : sideV K ts = true) : oddV K ts = false := by
  unfold sideV at h
  unfold oddV
  rw [Bool.and_eq_true] at h
  rw [h.1]
  cases ho : (oddS K ts).isSome with
  | false => rfl
  | true => rw [ho] at h; cases h.2
theorem rowZ_ints {w : World} {lo g off cap : Nat} {xs : List Int} (h : RowZ w lo g off cap xs) : IntsIn w w.heap.size (some ⟨g, off, none⟩) xs := by
  intro j hj
  exact ⟨g, off, rfl, h.lt, h.cells j hj⟩
set_option maxHeartbeats 1600000 in
theorem sideTurn_walk (bo : Option Addr) (n cap : Nat) (w : World) (hb : BytesIn w bo n) (hnil : bo = none → n = 0 ∧ cap = 0) (hc : n ≤ cap) (hm : cap ≤ maxLen) (hT : Tab w) :
    Calls Tryd.prog 6 #[.slice bo n cap] w fun e w' => e = .returned (.bool true) ∧ Below w.heap.size w w' := by
  by_cases hl : 1048576 < n
  · have hl' : (1048576 : Int) < (n : Int) := by omega
    have hn' : n ≤ 9223372036854775807 := by unfold maxLen at hm; omega
    go_enter Tryd.func6, Tryd.ntmps6
    go_wp2
    go_ret
    exact ⟨rfl, Below.refl _ _⟩
  have hl' : decide ((1048576 : Int) < (n : Int)) = false := by simp; omega
  go_enter Tryd.func6, Tryd.ntmps6
  go_wp2_with fail
  refine (drawSideOk_any bo n cap _ hb hnil hc hm).mono ?_
  rintro e w1 ⟨K, ao, cap', ts, aoX, capX, xs, rfl, D1, hX1, hx10⟩
  have hn : ts.length ≤ 1099511627776 := by have := D1.short; omega
  have HB1 := hideP D1.bel
  have T1 := hideP (hT.below D1.bel hT.2)
  have hoN := D1.own
  clear D1 hT
  have bo1 := below_one w1 (.cells #[.int .i64 K, .slice ao ts.length cap'] 25)
  have T1a := hideP (T1.out.below bo1 T1.out.2)
  have HB1a := hideP (HB1.out.trans (bo1.mono HB1.out.size))
  have N1a := hideP (NetV.new (K := K) (cap := cap') 25 (hoN.ties (Nat.le_refl _)))
  have X1a := hideP ((hX1.below bo1 (Nat.le_refl _)).wide bo1.size)
  clear hoN bo1 hX1
  obtain ⟨V, hV⟩ : ∃ V, sideB K ts xs = V := ⟨_, rfl⟩
  obtain ⟨m, hm0⟩ : ∃ m, xs.length = m := ⟨_, rfl⟩
  have HM := hideP hm0
  have HV := hideP hV
  rw [hm0] at hx10 ⊢
  clear hV hm0
  have n0 := N1a.out.c0
  have n1 := N1a.out.c1
  go_wp2_with fail
  refine (implSideOk_is V K ao aoX cap' m capX ts xs _ HM.out hn N1a.out.ties (by omega) X1a.out T1a.out HV.out).mono ?_
  rintro e w2 ⟨rfl, hb2⟩
  have N2 := hideP (N1a.out.next hb2)
  have T2 := hideP (T1a.out.below hb2 T1a.out.2)
  have HB2 := hideP (HB1a.out.trans (hb2.mono HB1a.out.size))
  have X2 := hideP ((X1a.out.below hb2 (Nat.le_refl _)).wide hb2.size)
  clear hb2 n0 n1 N1a T1a HB1a X1a
  have n0 := N2.out.c0
  have n1 := N2.out.c1
  go_wp2_with fail
  refine (specSideOk_is V K ao aoX cap' m capX ts xs _ HM.out hn N2.out.ties (by omega) X2.out HV.out).mono ?_
  rintro e w3 ⟨rfl, hb3⟩
  have N3 := hideP (N2.out.next hb3)
  have T3 := hideP (T2.out.below hb3 T2.out.2)
  have HB3 := hideP (HB2.out.trans (hb3.mono HB2.out.size))
  have X3 := hideP ((X2.out.below hb3 (Nat.le_refl _)).wide hb3.size)
  clear hb3 n0 n1 N2 T2 HB2 X2
  have n0 := N3.out.c0
  have n1 := N3.out.c1
  have hVV : (V != V) = false := by simp
  cases V with
  | false =>
    go_wp2_with fail
    refine (specSideOk_is false K ao aoX cap' m capX ts xs _ HM.out hn N3.out.ties (by omega) X3.out HV.out).mono ?_
    rintro e w4 ⟨rfl, hb4⟩
    have HB4 := hideP (HB3.out.trans (hb4.mono HB3.out.size))
    clear hb4 n0 n1 N3 T3 HB3 X3
    go_wp2
    go_ret
    exact ⟨rfl, HB4.out⟩
  | true =>
    have hsv := side_v HV.out
    have HOV := hideP (odd_none hsv)
    have HFL := hideP (side_flip HV.out)
    have HTK : Hid (∀ k, k < m → flip (xs.take (k + 1)) = flip (xs.take k) ++ [1 - xi xs k]) := hideP (fun k hk => flip_take (by rw [HM.out]; exact hk))
    have HVAL : Hid (∀ k, k < m → xi xs k = 0 ∨ xi xs k = 1) := hideP (fun k hk => (two_of HV.out).2 k (by
      have h := HV.out
      unfold sideB at h
      simp only [Bool.and_eq_true, decide_eq_true_eq] at h
      have := h.1.1.2
      have := HM.out
      omega))
    obtain ⟨i1, hj, hy0, hy1, hy2⟩ := info_parts Tryd.infoInt
    have HI1 : Hid (Tryd.prog.info? 3 = some i1 ∧ i1.zero = some (.int .i64 0) ∧ i1.size = 1 ∧ i1.bytes = 8) := ⟨hj, hy0, hy1, hy2⟩
    clear hj hy0 hy1 hy2 hsv hVV
    have R0 := hideP (rowZ_new w3 3)
    have B0 := hideP (below_one w3 (.cells #[] 3))
    go_wp2
    go_loopw [6, 7] (fun sv iv wr => ∃ k g off cap2 : Nat, k ≤ m ∧ iv = .int .i64 (k : Int) ∧ sv = .slice (some ⟨g, off, none⟩) k cap2 ∧ RowZ wr w3.heap.size g off cap2 (flip (xs.take k)) ∧ Below w3.heap.size w3 wr) (fun _ iv _ => m - (intOf iv).toNat)
    case atStart => exact ⟨0, w3.heap.size, 0, 0, Nat.zero_le _, rfl, rfl, R0.out, B0.out⟩
    case round =>
      clear R0 B0 n0 n1
      obtain ⟨k, g, off, cap2, hk, rfl, rfl, hR, hB⟩ := hrel
      have HR := hideP hR
      have HBr := hideP hB
      have Xr := hideP ((X3.out.below hB (Nat.le_refl _)).wide hB.size)
      have Nr := hideP (N3.out.next hB)
      have Tr := hideP (T3.out.below hB T3.out.2)
      clear hR hB
      have hkl : (flip (xs.take k)).length = k := by unfold flip; rw [List.length_map, List.length_take, HM.out]; omega
      by_cases hlt : k < m
      · have hk1 : (k : Int) < (m : Int) := by omega
        have hk0 : (0 : Int) ≤ (k : Int) := by omega
        obtain ⟨gX, oX, rfl, hgX, eC⟩ := Xr.out k (by rw [HM.out]; exact hlt)
        have hval := HVAL.out k hlt
        have hnx := HTK.out k hlt
        obtain ⟨b, hb⟩ : ∃ b, b = xi xs k := ⟨_, rfl⟩
        rw [← hb] at eC hval hnx
        have hwr : IntKind.i64.wrap (1 - b) = 1 - b := by rw [IntKind.wrap_i64]; omega
        have HNX := hideP hnx
        have bo := below_one wr (.cells #[.int .i64 (1 - b)] 3)
        have RB := hideP (HR.out.next bo)
        have BB := hideP (HBr.out.trans (bo.mono HBr.out.size))
        have HKL := hideP hkl
        clear hb hval hnx bo HR HBr Xr Nr Tr hkl
        go_wp2_with (at_builtin; refine wpList_append_rowZ _ rfl _ _ 27 rfl w3.heap.size 3 i1 Tryd.underlying27 HI1.out.1 HI1.out.2.1 HI1.out.2.2.1 HI1.out.2.2.2 g off cap2 (flip (xs.take k)) k HKL.out rfl RB.out wr.heap.size (1 - b) rfl ?_ ?_ ?_ ?_)
        · rw [World.cell?_alloc_at _ _ _ _ rfl]; rfl
        · rw [HKL.out]; omega
        · exact BB.out.size
        intro g4 off4 cap4 w4 hR4 hg4 ht4
        have R4 : Hid (RowZ w4 w3.heap.size g4 off4 cap4 (flip (xs.take (k + 1)))) := hideP (by rw [HNX.out]; exact hR4)
        have B4 := hideP (BB.out.trans (ht4.under RB.out.lo BB.out.size))
        clear hR4 hg4 ht4 RB BB
        go_wp2
        go_roundw
        case rel => exact ⟨k + 1, g4, off4, cap4, by omega, by go_num, rfl, R4.out, B4.out⟩
        case measure => (simp [intOf] <;> omega)
      · obtain rfl : k = m := by omega
        have hfx : flip (xs.take k) = flip xs := by rw [List.take_of_length_le (by rw [HM.out]; exact Nat.le_refl _)]
        have HRF : Hid (RowZ wr w3.heap.size g off cap2 (flip xs)) := hideP (by rw [← hfx]; exact HR.out)
        have HB4 := hideP (HB3.out.trans (HBr.out.mono HB3.out.size))
        have HFLN : Hid ((flip xs).length = k) := hideP (by unfold flip; rw [List.length_map]; exact HM.out)
        have n0 := Nr.out.c0
        have n1 := Nr.out.c1
        clear hfx HR Xr hkl
        go_wp2_with fail
        refine (implSideOdd_any K ao cap' ts _ hn Nr.out.ties Tr.out).mono ?_
        rw [HOV.out]
        rintro e w5 ⟨aoO, cO, rfl, _, hb5⟩
        have N5 := hideP (Nr.out.next hb5)
        have T5 := hideP (Tr.out.below hb5 Tr.out.2)
        have HB5 := hideP (HB4.out.trans (hb5.mono HB4.out.size))
        have R5 := hideP (HRF.out.next hb5)
        clear hb5 n0 n1 Nr Tr HB4 HRF HBr
        have n0 := N5.out.c0
        have n1 := N5.out.c1
        go_wp2_with fail
        refine (implSideOk_is true K ao _ cap' k cap2 ts (flip xs) _ HFLN.out hn N5.out.ties (by omega) (rowZ_ints R5.out) T5.out HFL.out).mono ?_
        rintro e w6 ⟨rfl, hb6⟩
        have HB6 := hideP (HB5.out.trans (hb6.mono HB5.out.size))
        clear hb6
        go_wp2
        go_ret
        exact ⟨rfl, HB6.out⟩

end Go.Proofs.YtiaeffpjcinilaaDoor
