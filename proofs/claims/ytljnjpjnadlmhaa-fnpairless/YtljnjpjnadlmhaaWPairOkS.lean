/- Walk of spec.PairOk. -/
import Derived.Test.YtljnjpjnadlmhaaWPairOk
import Derived.Test.YtljnjpjnadlmhaaPartWReach
import Derived.Test.YtljnjpjnadlmhaaPartWRows
namespace Go.Proofs.Ytljnjpjnadlmhaa
open Go.RowKit
set_option linter.unusedVariables false

theorem l1Has_v (v : Bool) (K : Int) (ao : Option Addr) (cap : Nat) (ts : List (Int × Int)) (a b : Int) (w : World) (hn : ts.length ≤ 1099511627776) (ht : TiesIn w w.heap.size ao ts) (h : tiedB ts (min a b) (max a b) = v) :
    Calls Try.prog 41 #[.agg #[.int .i64 K, .slice ao ts.length cap], .int .i64 a, .int .i64 b] w fun e w' => e = .returned (.bool v) ∧ Below w.heap.size w w' := by
  rw [← h]; exact l1Has_any K ao cap ts a b w hn ht
set_option maxHeartbeats 1600000 in
theorem specPairOk_any (K : Int) (ao bo : Option Addr) (cap cap2 : Nat) (ts us : List (Int × Int)) (w : World) (hn : ts.length ≤ 1099511627776) (ht : TiesIn w w.heap.size ao ts) (hn2 : us.length ≤ 1099511627776) (hu : TiesIn w w.heap.size bo us) :
    Calls Try.prog 13 #[.agg #[.int .i64 K, .slice ao ts.length cap], .slice bo us.length cap2] w fun e w' => e = .returned (.bool (pairB K ts us)) ∧ Below w.heap.size w w' := by
  obtain ⟨i0, hi, hz0, hz1, hz2⟩ := info_parts Try.infoBool
  have X0 := fun (t : TypeId) => Bx.start w K (.slice ao ts.length cap) t
  have HX0 := hideP X0
  have HT := hideP ht
  have HU := hideP hu
  clear X0 ht hu
  cases hok : okB K ts
  · have HV : Hid (pairB K ts us = false) := by show pairB K ts us = false; simp [pairB, hok]
    have HOK := hideP hok
    clear hok
    go_enter Try.func13, Try.ntmps13
    go_wp2_with fail
    refine (specOk_is false K ao cap ts _ hn ((HT.out.below (HX0.out _).B (Nat.le_refl _)).wide (Nat.le_of_lt (HX0.out _).lt)) HOK.out).mono ?_
    rintro e w1 ⟨rfl, hb1⟩
    have X1 := hideP ((HX0.out _).next hb1)
    clear hb1
    go_wp2
    go_ret
    exact ⟨by rw [HV.out]; rfl, X1.out.B⟩
  have HOK := hideP hok
  have hnet := okB_iff.1 hok
  go_enter Try.func13, Try.ntmps13
  go_wp2_with fail
  refine (specOk_is true K ao cap ts _ hn ((HT.out.below (HX0.out _).B (Nat.le_refl _)).wide (Nat.le_of_lt (HX0.out _).lt)) HOK.out).mono ?_
  rintro e w1 ⟨rfl, hb1⟩
  have X1 := hideP ((HX0.out _).next hb1)
  have d0 := X1.out.c0
  have d1 := X1.out.c1
  clear hb1 HX0
  cases hus : okB K us
  · have HV : Hid (pairB K ts us = false) := by show pairB K ts us = false; simp [pairB, hus]
    have HUS := hideP hus
    clear hok hus hnet
    go_wp2_with fail
    refine (specOk_is false K bo cap2 us _ hn2 ((HU.out.below X1.out.B (Nat.le_refl _)).wide (Nat.le_of_lt X1.out.lt)) HUS.out).mono ?_
    rintro e w2 ⟨rfl, hb2⟩
    have X2 := hideP (X1.out.next hb2)
    clear hb2
    go_wp2
    go_ret
    exact ⟨by rw [HV.out]; rfl, X2.out.B⟩
  have HUS := hideP hus
  have HG := hideP (okB_iff.1 hus).2.2
  have hul := ok_short (okB_iff.1 hus)
  have HS : Hid ((∀ i, i < us.length → tiedB ts (tA us i) (tB us i) = true ∧ loneAt us i = true) → pairB K ts us = true) := by
    intro h
    have : us.all (fun t => tiedB ts t.1 t.2) = true := by
      rw [List.all_eq_true]
      intro t ht
      obtain ⟨i, hi, rfl⟩ := List.mem_iff_getElem.1 ht
      have := (h i hi).1
      rw [tA_get us i hi, tB_get us i hi] at this
      exact this
    rw [pairB, hok, hus, this, loneB_iff.2 (fun i hi => (h i hi).2)]
    rfl
  have HN : Hid (∀ i, i < us.length → (tiedB ts (tA us i) (tB us i) = false ∨ loneAt us i = false) → pairB K ts us = false) := by
    intro i hi h
    rcases h with h | h
    · have : us.all (fun t => tiedB ts t.1 t.2) = false := by
        rw [← Bool.not_eq_true, List.all_eq_true]
        intro hh
        have := hh us[i] (List.getElem_mem _)
        rw [← tA_get us i hi, ← tB_get us i hi, h] at this
        exact Bool.noConfusion this
      rw [pairB, this]
      simp
    · rw [pairB, lone_bad hi h]; simp
  obtain ⟨Kn, hKn⟩ : ∃ n : Nat, K = (n : Int) := ⟨K.toNat, by have := hnet.1; omega⟩
  subst hKn
  have hK8 : Kn ≤ 8 := by have := hnet.2.1; omega
  have HI : Hid (i0.bytes * Kn ≤ 281474976710656) := by rw [hz2]; show 1 * Kn ≤ _; omega
  clear hok hus hnet
  go_wp2_with fail
  refine (specOk_is true (Kn : Int) bo cap2 us _ hn2 ((HU.out.below X1.out.B (Nat.le_refl _)).wide (Nat.le_of_lt X1.out.lt)) HUS.out).mono ?_
  rintro e w2 ⟨rfl, hb2⟩
  have X2 := hideP (X1.out.next hb2)
  have c0 := X2.out.c0
  have c1 := X2.out.c1
  clear hb2 X1 d0 d1
  go_wp2_with (at_make; refine wpList_make_full _ rfl _ _ 76 rfl w2.heap.size 4 i0 (.bool false) 1 Try.underlying76 hi hz0 hz1 .i64 .i64 _ _ Kn rfl rfl ?_ ?_ HI.out ?_ ?_ ?_)
  · rfl
  · rfl
  · unfold maxLen; omega
  · exact Nat.le_refl _
  intro w3 hown hgrow
  have O3 := hideP (OwnI.madeB hown)
  have hb3 : Below w2.heap.size w2 w3 := (Below.refl _ _).grown hgrow (Nat.le_refl _) (fun k h => by cases h)
  have X3 := hideP (X2.out.next hb3)
  have hG : w.heap.size < w2.heap.size := X2.out.lt
  clear hown hgrow hb3 hi hz0 hz1 hz2 HI c0 c1 X2
  obtain ⟨G, hGG⟩ : ∃ G, G = w2.heap.size := ⟨_, rfl⟩
  rw [← hGG] at O3 hG ⊢
  clear hGG
  go_wp2
  go_loopw [6] (fun i wr => ∃ k : Nat, k ≤ us.length ∧ i = .int .i64 k ∧ (∀ j, j < k → tiedB ts (tA us j) (tB us j) = true ∧ loneAt us j = true) ∧ OwnI wr G Kn (bcell (touchB (us.take k))) ∧ Bx w wr (Kn : Int) (.slice ao ts.length cap))
    (fun i _ => us.length - (intOf i).toNat)
  case atStart => exact ⟨0, Nat.zero_le _, rfl, fun j hj => by omega, O3.out, X3.out⟩
  case round =>
    clear O3 X3
    obtain ⟨k, hk, rfl, hall, hO, hX⟩ := hrel
    by_cases hlt : k < us.length
    · obtain ⟨b, off, rfl, hbw, e0, e1⟩ := (HU.out.below hX.B (Nat.le_refl _)) k hlt
      obtain ⟨q1, q2, q3⟩ := (HG.out k hlt).1
      have hk0 : (0 : Int) ≤ (k : Int) := by omega
      have hk1 : (k : Int) < (us.length : Int) := by omega
      obtain ⟨x, hx⟩ : ∃ x : Nat, tA us k = (x : Int) := ⟨(tA us k).toNat, by omega⟩
      obtain ⟨y, hy⟩ : ∃ y : Nat, tB us k = (y : Int) := ⟨(tB us k).toNat, by omega⟩
      have HL : Hid (loneAt us k = (!touchB (us.take k) x && !touchB (us.take k) y)) := by show _ = _; unfold loneAt; rw [hx, hy]; rfl
      have HTS : Hid (touchB (us.take (k + 1)) = mark (mark (touchB (us.take k)) x) y) := by
        show _ = _
        rw [touch_snoc hlt ⟨q1, q2, by omega⟩, hx, hy]; rfl
      rw [hx] at e0 q1 q2
      rw [hy] at e1 q2 q3
      have hxy : x < y := by omega
      have hyK : y < Kn := by omega
      have hxK : x < Kn := by omega
      have hx0 : (0 : Int) ≤ (x : Int) := by omega
      have hy0 : (0 : Int) ≤ (y : Int) := by omega
      have hx1 : (x : Int) < (Kn : Int) := by omega
      have hy1 : (y : Int) < (Kn : Int) := by omega
      obtain ⟨r, hr⟩ : ∃ r, tiedB ts (tA us k) (tB us k) = r := ⟨_, rfl⟩
      have HR : Hid (tiedB ts (min (x : Int) (y : Int)) (max (x : Int) (y : Int)) = r) := by
        show _ = r
        rw [show min (x : Int) (y : Int) = (x : Int) by omega, show max (x : Int) (y : Int) = (y : Int) by omega, ← hx, ← hy]; exact hr
      have HRK := hideP hr
      have bo1 := below_one wr (.cells #[.int .i64 (x : Int), .int .i64 (y : Int)] 37)
      have HX := hideP (hX.next bo1)
      have HO := hideP (hO.below bo1 hO.2.2)
      have HGW := hideP hO.2.2
      have HALL := hideP hall
      have c0 := HX.out.c0
      have c1 := HX.out.c1
      have t0 : (wr.alloc (.cells #[.int .i64 (x : Int), .int .i64 (y : Int)] 37)).cell? ⟨wr.heap.size, 0, none⟩ = some (.int .i64 (x : Int)) := (World.cell?_alloc_at _ _ _ _ rfl).trans rfl
      have t1 : (wr.alloc (.cells #[.int .i64 (x : Int), .int .i64 (y : Int)] 37)).cell? ⟨wr.heap.size, 1, none⟩ = some (.int .i64 (y : Int)) := (World.cell?_alloc_at _ _ _ _ rfl).trans rfl
      clear hX hall hO hx hy hr q1 q2 q3
      cases r
      · have HNN := hideP (HN.out k hlt (Or.inl HRK.out))
        go_wp2_with fail
        refine (l1Has_v false (Kn : Int) ao cap ts _ _ _ hn ((HT.out.below HX.out.B (Nat.le_refl _)).wide HX.out.B.size) HR.out).mono ?_
        rintro e w5 ⟨rfl, hb5⟩
        have X5 := hideP (HX.out.next hb5)
        clear hb5 c0 c1 t0 t1
        go_wp2
        go_ret
        exact ⟨by rw [HNN.out]; rfl, X5.out.B⟩
      · go_wp2_with fail
        refine (l1Has_v true (Kn : Int) ao cap ts _ _ _ hn ((HT.out.below HX.out.B (Nat.le_refl _)).wide HX.out.B.size) HR.out).mono ?_
        rintro e w5 ⟨rfl, hb5⟩
        have X5 := hideP (HX.out.next hb5)
        have O5 := hideP (HO.out.below hb5 HO.out.2.2)
        have s0 := (hb5.cell (p := ⟨wr.heap.size, 0, none⟩) (by simp)).trans t0
        have s1 := (hb5.cell (p := ⟨wr.heap.size, 1, none⟩) (by simp)).trans t1
        obtain ⟨M, hM⟩ : ∃ M, M = touchB (us.take k) := ⟨_, rfl⟩
        rw [← hM] at O5 HL HTS
        have m0 : w5.cell? ⟨G, x, none⟩ = some (.bool (M x)) := O5.out.1 x hxK
        have m1 : w5.cell? ⟨G, y, none⟩ = some (.bool (M y)) := O5.out.1 y hyK
        have z0 := O5.out.2.1 x
        have z1 := O5.out.2.1 y
        clear hb5 c0 c1 t0 t1 HX HO hM
        cases h1 : M x
        · rw [h1] at m0
          cases h2 : M y
          · rw [h2] at m1
            have HA : Hid (∀ j, j < k + 1 → tiedB ts (tA us j) (tB us j) = true ∧ loneAt us j = true) := fun j hj => by
              by_cases e : j = k
              · subst e; exact ⟨HRK.out, by rw [HL.out, h1, h2]; rfl⟩
              · exact HALL.out j (by omega)
            have O6 : Hid (OwnI ((w5.setCell ⟨G, x, none⟩ (.bool true)).setCell ⟨G, y, none⟩ (.bool true)) G Kn (bcell (touchB (us.take (k + 1))))) := by
              show OwnI _ _ _ _
              rw [HTS.out]
              exact (((O5.out.set hxK _).congr (fun j _ => mark_cells M x j)).set hyK _).congr (fun j _ => mark_cells _ y j)
            have tu : Turned G (G + 1) w5 ((w5.setCell ⟨G, x, none⟩ (.bool true)).setCell ⟨G, y, none⟩ (.bool true)) := ⟨rfl, rfl, rfl, by simp [World.setCell], fun j _ hj => (Below.heap_setCell _ _ _ _ (by show j ≠ G; omega)).trans (Below.heap_setCell _ _ _ _ (by show j ≠ G; omega))⟩
            have X6 := hideP (X5.out.turn tu hG)
            have hGW := HGW.out
            have s1' : (w5.setCell ⟨G, x, none⟩ (.bool true)).cell? ⟨wr.heap.size, 1, none⟩ = some (.int .i64 (y : Int)) := (World.cell?_setCell_other _ _ _ _ (by simp <;> omega)).trans s1
            have m1' : (w5.setCell ⟨G, x, none⟩ (.bool true)).cell? ⟨G, y, none⟩ = some (.bool false) := (World.cell?_setCell_other _ _ _ _ (by simp <;> omega)).trans m1
            have z1' : (w5.setCell ⟨G, x, none⟩ (.bool true)).frozen? ⟨G, y, none⟩ = false := by rw [World.frozen?_setCell]; exact z1
            clear h1 h2 tu O5 X5 HALL HRK
            go_wp2
            go_roundw
            case rel => exact ⟨k + 1, by omega, by go_num, HA.out, O6.out, X6.out⟩
            case measure => simp [intOf]; omega
          · rw [h2] at m1
            have HNN := hideP (HN.out k hlt (Or.inr (by rw [HL.out, h1, h2]; rfl)))
            clear h1 h2
            go_wp2
            go_ret
            exact ⟨by rw [HNN.out]; rfl, X5.out.B⟩
        · rw [h1] at m0
          have HNN := hideP (HN.out k hlt (Or.inr (by rw [HL.out, h1]; rfl)))
          clear h1
          go_wp2
          go_ret
          exact ⟨by rw [HNN.out]; rfl, X5.out.B⟩
    · obtain rfl : k = us.length := by omega
      have HV := hideP (HS.out hall)
      clear hall
      go_wp2
      go_ret
      exact ⟨by rw [HV.out]; rfl, hX.B⟩

end Go.Proofs.Ytljnjpjnadlmhaa
