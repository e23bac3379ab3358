/- Walk of spec.l71Half. -/
import Derived.Test.YtiaeffpjcinilaaDoorPartWCopy
namespace Go.Proofs.YtiaeffpjcinilaaDoor
open Go.RowKit
set_option linter.unusedVariables false

set_option maxHeartbeats 3200000 in
theorem l71Half_any (R : Nat) (bo : Option Addr) (bn bcap p : Nat) (w : World) (h : Rdr w R bo bn bcap p) (hp : p ≤ 990000) :
    Calls Tryd.prog 42 #[.pointer (some ⟨R, 0, none⟩)] w fun e w' => ∃ K ao cap us, e = .returned (.agg #[.int .i64 K, .slice ao us.length cap]) ∧ AnyNet w w' R bo bn bcap p 70 K ao us := by
  have hR := h.lt
  go_enter Tryd.func42, Tryd.ntmps42
  go_wp2_with fail
  refine (pick_any R bo bn bcap p 3 _ (h.next (below_one w _)) (by omega)).mono ?_
  rintro e w1 ⟨z, rfl, z0, z1, rd1, tr1⟩
  have C1 := hideP ((Cel.new w 0 (.slice none 0 0) 25).turn tr1 hR)
  have T1 := hideP ((turned_one (R := R) w _).trans tr1)
  have hw1 := tr1.size
  simp at hw1
  have r0 := C1.out.c0
  have r1 := C1.out.c1
  have g0 := C1.out.f0
  have g1 := C1.out.f1
  clear tr1 z1
  by_cases hz : z = 0
  · have hzb : (z == 0) = true := by simp [hz]
    clear hz
    go_wp2_with fail
    refine (l71Any_any R bo bn bcap (p + 1) _ rd1 (by omega)).mono ?_
    rintro e w2 ⟨K, ao, cap, us, rfl, ⟨⟨p2, hp2, rd2⟩, tr2, ho2, k0, k9, l66⟩⟩
    have C2 := hideP (C1.out.turn tr2 hR)
    have F := hideP (fun u0 u1 => AnyNet.fin (p := p) (q := 70) hR ⟨p2, by omega, rd2⟩ (T1.out.trans tr2) (ho2.down hw1) ⟨k0, k9⟩ l66 u0 u1)
    clear r0 r1 g0 g1
    have r0 := C2.out.c0
    have r1 := C2.out.c1
    have g0 := C2.out.f0
    have g1 := C2.out.f1
    clear rd2 tr2 ho2 rd1
    go_wp2
    refine bodyPost_ret (v := .agg #[.int .i64 K, .slice ao us.length cap]) ?_ rfl ⟨K, ao, cap, us, rfl, F.out _ _⟩
    simp [results, Tryd.results42, go_sem, r0, r1]
  · have hzb : (z == 0) = false := by simp [hz]
    clear hz z0
    go_wp2_with fail
    refine (pick_any R bo bn bcap (p + 1) 7 _ rd1 (by omega)).mono ?_
    rintro e w2 ⟨v, rfl, v0, v1, rd2, tr2⟩
    have C2 := hideP (C1.out.turn tr2 hR)
    have T2 := hideP (T1.out.trans tr2)
    have v1' := v1 (by omega)
    have s2 : w.heap.size + 1 ≤ w2.heap.size := Nat.le_trans hw1 tr2.size
    obtain ⟨K0, hK0⟩ : ∃ K0, K0 = 2 + v := ⟨_, rfl⟩
    have hwr : IntKind.i64.wrap (2 + v) = K0 := by rw [IntKind.wrap_i64]; omega
    have D2 : DI w (w2.alloc (.cells #[.int .i64 K0, .slice none 0 0] 25)) R w2.heap.size bo bn bcap (p + 1 + 1) K0 none 0 [] := by
      refine ⟨by simp, by simp, by simp, by simp, Or.inl ⟨rfl, rfl⟩, rd2.next (below_one _ _), T2.out.trans (Turned.of_below (below_one _ _)), hR, by omega, by simp, ?_, ?_, ?_, ?_, ⟨by omega, by omega⟩, by simp⟩
      · rw [World.cell?_alloc_past _ _ _ (by show w.heap.size < _; omega)]; exact C2.out.c0
      · rw [World.cell?_alloc_past _ _ _ (by show w.heap.size < _; omega)]; exact C2.out.c1
      · rw [World.frozen?_alloc_past _ _ _ (by show w.heap.size < _; omega)]; exact C2.out.f0
      · rw [World.frozen?_alloc_past _ _ _ (by show w.heap.size < _; omega)]; exact C2.out.f1
    have HD2 := hideP D2
    have hK2 : 2 ≤ K0 := by omega
    have hK8 : K0 ≤ 8 := by omega
    clear D2 r0 r1 g0 g1 rd2 tr2 v1 rd1 C1 T1
    go_wp2_with fail
    rw [← hK0]
    refine (pick_any R bo bn bcap (p + 1 + 1) 12 _ HD2.out.rd (by omega)).mono ?_
    rintro e w3 ⟨u, rfl, u0, u1, rd3, tr3⟩
    have D3 := hideP (HD2.out.turn tr3 rd3)
    have u1' := u1 (by omega)
    obtain ⟨u', rfl⟩ := Int.eq_ofNat_of_zero_le u0
    obtain ⟨A, hA⟩ : ∃ A, A = w2.heap.size := ⟨_, rfl⟩
    rw [← hA] at D3 ⊢
    have hu3 : IntKind.i64.wrap (3 + (u' : Int)) = ((3 + u' : Nat) : Int) := by rw [IntKind.wrap_i64]; omega
    clear HD2 tr3 rd3 u1 hA C2 T2 hwr hK0
    go_wp2
    go_loopw [4] (fun j wr => ∃ (j' q : Nat) (ao : Option Addr) (cap : Nat) (us : List (Int × Int)), j' ≤ 14 ∧ j = .int .i64 (j' : Int) ∧ q + 2 * j' ≤ p + 31 ∧ DI w wr R A bo bn bcap q K0 ao cap us) (fun j _ => (intOf j).toNat)
    case atStart => exact ⟨3 + u', p + 1 + 1 + 1, _, _, _, by omega, by rw [show ((3 + u' : Nat) : Int) = 3 + (u' : Int) by omega], by omega, D3.out⟩
    case round =>
      clear D3
      obtain ⟨j, q, ao, cap, us, hj14, rfl, hq, D⟩ := hrel
      have a0 := D.a0
      have a1 := D.a1
      have hlen : us.length ≤ 1099511627776 := by have := D.len; omega
      have HD := hideP D
      clear D
      by_cases hj0 : 0 < j
      · have hj0' : (0 : Int) < (j : Int) := by omega
        go_wp2_with fail
        refine (pick_any R bo bn bcap q K0 _ HD.out.rd (by omega)).mono ?_
        rintro e w5 ⟨x, rfl, x0, x1, rd5, tr5⟩
        have D5 := hideP (HD.out.turn tr5 rd5)
        have x1' := x1 (by omega)
        clear HD tr5 rd5 x1 a0 a1
        have a0 := D5.out.a0
        have a1 := D5.out.a1
        go_wp2_with fail
        refine (pick_any R bo bn bcap (q + 1) K0 _ D5.out.rd (by omega)).mono ?_
        rintro e w6 ⟨y, rfl, y0, y1, rd6, tr6⟩
        have D6 := hideP (D5.out.turn tr6 rd6)
        have y1' := y1 (by omega)
        clear D5 tr6 rd6 y1 a0 a1
        have a0 := D6.out.a0
        have a1 := D6.out.a1
        go_wp2_with fail
        refine (specAdd_all K0 ao cap us x y _ hlen (D6.out.own.ties (Nat.le_refl _))).mono ?_
        rintro e w8 ⟨ao', cap', rfl, ho8, hb8⟩
        have D8 := hideP (D6.out.next hb8)
        have lt6 := D6.out.lt
        clear D6 a0 a1
        have D9 := D8.out.next (below_one w8 (.cells #[.int .i64 (addK K0 us x y), .slice ao' (addTs K0 us x y).length cap'] 25))
        have ho9 : OwnN (w8.alloc (.cells #[.int .i64 (addK K0 us x y), .slice ao' (addTs K0 us x y).length cap'] 25)) (A + 1) (w8.alloc (.cells #[.int .i64 (addK K0 us x y), .slice ao' (addTs K0 us x y).length cap'] 25)).heap.size ao' (addTs K0 us x y).length (tcell (addTs K0 us x y)) :=
          ((ho8.next (below_one _ _)).up (by simp)).down (by omega)
        have DS := hideP (D9.put cap' ho9 (addK_in ⟨by omega, hK8⟩ us x y) (addTs_len K0 us x y))
        have HKK : Hid (addB K0 us x y = true → addK K0 us x y = K0) := hideP (fun h => by simp [addK, h])
        have HD9 := hideP D9
        have a0 := D9.a0
        have a1 := D9.a1
        have f0 := D9.f0
        have f1 := D9.f1
        obtain ⟨K9, hK9⟩ : ∃ K9, K9 = addK K0 us x y := ⟨_, rfl⟩
        obtain ⟨us9, hus9⟩ : ∃ us9, us9 = addTs K0 us x y := ⟨_, rfl⟩
        rw [← hK9, ← hus9] at DS HD9 a0 a1 f0 f1 ⊢
        rw [← hK9] at HKK
        clear D9 ho9 D8 ho8 hb8 hK9 hus9
        cases hadd : addB K0 us x y with
        | false =>
          clear DS hadd
          go_wp2
          go_roundw
          case rel => exact ⟨j - 1, _, _, _, _, by omega, by go_num, by omega, HD9.out⟩
          case measure => simp [intOf]; omega
        | true =>
          have e9 : K0 = K9 := (HKK.out hadd).symm
          subst e9
          clear hadd HKK
          go_wp2
          all_goals
            go_roundw
            case rel => first | exact ⟨j - 1, _, _, _, _, by omega, by go_num, by omega, DS.out⟩ | exact ⟨j - 1, _, _, _, _, by omega, by go_num, by omega, HD9.out⟩
            case measure => simp [intOf]; omega
      · have hjz : j = 0 := by omega
        subst hjz
        have hb : Hid (AnyNet w ((wr.setCell ⟨w.heap.size, 0, none⟩ (.int .i64 K0)).setCell ⟨w.heap.size, 1, none⟩ (.slice ao us.length cap)) R bo bn bcap p 70 K0 ao us) := hideP (by
          obtain ⟨⟨p', hp', hr⟩, h2, h3, h4, h5, h6⟩ := HD.out.finish (p := p) (by omega)
          exact ⟨⟨p', by omega, hr⟩, h2, h3, by omega, by omega, by omega⟩)
        have r0 := HD.out.r0
        have r1 := HD.out.r1
        have g0 := HD.out.g0
        have g1 := HD.out.g1
        have hwr : w.heap.size < wr.heap.size := by have := HD.out.lt; have := HD.out.wa; omega
        clear HD
        go_wp2
        refine bodyPost_ret (v := .agg #[.int .i64 K0, .slice ao us.length cap]) ?_ rfl ⟨K0, ao, cap, us, rfl, hb.out⟩
        simp [results, Tryd.results42, go_sem, r0, r1]

end Go.Proofs.YtiaeffpjcinilaaDoor
