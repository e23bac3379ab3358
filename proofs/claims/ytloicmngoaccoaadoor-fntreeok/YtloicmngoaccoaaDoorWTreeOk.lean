/- Walks of impl.TreeOk and what it calls. -/
import Derived.Test.YtloicmngoaccoaaDoorMathTk
import Derived.Test.YtloicmngoaccoaaDoorWTree
import Derived.Test.YtloicmngoaccoaaDoorPartWCount
import Derived.Laws.BitsAllLaws
import Derived.Deep.RegionHeld3
namespace Go.Proofs.YtloicmngoaccoaaDoor
open Go.RowKit
set_option linter.unusedVariables false

theorem strike_nat (p q : Nat) (hp : p < 2 ^ 64) (hq : q < 2 ^ 64) : bits .andNot .u64 (p : Int) (q : Int) = ((strike p q : Nat) : Int) := by
  have : (2 : Nat) ^ 64 = 18446744073709551616 := by decide
  exact u64_andNot_nat p q (by omega) (by omega)
set_option maxHeartbeats 400000 in
theorem hasAll_v (v : Bool) (p q : Nat) (w : World) (hp : p < 2 ^ 64) (hq : q < 2 ^ 64) (h : decide (strike q p = 0) = v) :
    Calls Tryd.prog 47 #[.int .u64 (p : Int), .int .u64 (q : Int)] w fun e w' => e = .returned (.bool v) ∧ w' = w := by
  have ha := strike_nat q p hq hp
  have HV : Hid ((((strike q p : Nat) : Int) == 0) = v) := by
    show (((strike q p : Nat) : Int) == 0) = v
    rw [← h]
    by_cases e : strike q p = 0
    · rw [decide_eq_true e, e]; rfl
    · rw [decide_eq_false e]; simp; exact e
  clear hp hq h
  obtain ⟨s, hs⟩ : ∃ s, s = strike q p := ⟨_, rfl⟩
  rw [← hs] at ha HV
  clear hs
  go_enter Tryd.func47, Tryd.ntmps47
  go_wp2
  go_ret
  exact ⟨congrArg (fun b => Ending.returned (Value.bool b)) HV.out, rfl⟩
def eqTo (f g : Nat → Nat) (n : Nat) : Bool := (List.range n).all fun j => decide (f j = g j)
theorem eqTo_iff {f g : Nat → Nat} {n : Nat} : eqTo f g n = true ↔ ∀ j, j < n → f j = g j := by simp [eqTo]
theorem eqTo_bad {f g : Nat → Nat} {n j : Nat} (hj : j < n) (h : f j ≠ g j) : eqTo f g n = false := by
  rw [← Bool.not_eq_true, eqTo_iff]; exact fun e => h (e j hj)
set_option maxHeartbeats 400000 in
theorem equalInts_any (a1 a2 : Option Addr) (cap1 cap2 n : Nat) (f g : Nat → Nat) (w : World) (hn : n ≤ 1000) (h1 : RowV w w.heap.size a1 n (pcellN f)) (h2 : RowV w w.heap.size a2 n (pcellN g)) :
    Calls Tryd.prog 49 #[.slice a1 n cap1, .slice a2 n cap2] w fun e w' => e = .returned (.bool (eqTo f g n)) ∧ Below w.heap.size w w' := by
  go_enter Tryd.func49, Tryd.ntmps49
  go_wp2
  go_loopw [13] (fun i wr => ∃ k : Nat, k ≤ n ∧ i = .int .i64 k ∧ (∀ j, j < k → f j = g j) ∧ Below w.heap.size w wr)
    (fun i _ => n - (intOf i).toNat)
  case atStart => exact ⟨0, Nat.zero_le _, rfl, fun j hj => by omega, Below.refl _ _⟩
  case round =>
    obtain ⟨k, hk, rfl, hall, hbel⟩ := hrel
    by_cases hlt : k < n
    · obtain ⟨b, off, rfl, hbw, c0⟩ := h1 k hlt
      obtain ⟨b2, off2, rfl, hbw2, e0⟩ := h2 k hlt
      have c0' : wr.cell? ⟨b, off + k, none⟩ = some (.int .i64 (f k : Int)) := (hbel.cell (p := ⟨b, off + k, none⟩) hbw).trans c0
      have e0' : wr.cell? ⟨b2, off2 + k, none⟩ = some (.int .i64 (g k : Int)) := (hbel.cell (p := ⟨b2, off2 + k, none⟩) hbw2).trans e0
      have hk0 : (0 : Int) ≤ (k : Int) := by omega
      have hk1 : (k : Int) < (n : Int) := by omega
      clear c0 e0 h1 h2
      by_cases he : f k = g k
      · have HN : Hid (∀ j, j < k + 1 → f j = g j) := fun j hj => by
          by_cases hjk : j = k
          · subst hjk; exact he
          · exact hall j (by omega)
        rw [← he] at e0'
        obtain ⟨x, hx⟩ : ∃ x, x = f k := ⟨_, rfl⟩
        rw [← hx] at c0' e0'
        clear he hall hx
        go_wp2
        go_region
        go_wp2
        go_roundw
        case rel => exact ⟨k + 1, by omega, by go_num, HN.out, hbel.drew⟩
        case measure => simp [intOf]; omega
      · have HN := hideP (eqTo_bad hlt he)
        obtain ⟨x, hx⟩ : ∃ x, x = f k := ⟨_, rfl⟩
        obtain ⟨y, hy⟩ : ∃ y, y = g k := ⟨_, rfl⟩
        rw [← hx] at c0' he
        rw [← hy] at e0' he
        have hne : ((x : Int) == (y : Int)) = false := by simp; omega
        have hne2 : ((x : Int) != (y : Int)) = true := by simp; omega
        clear he hall hx hy
        go_wp2
        go_region
        go_wp2
        go_ret
        exact ⟨by rw [HN.out]; rfl, hbel.drew⟩
    · obtain rfl : k = n := by omega
      have HN := hideP (eqTo_iff.2 hall)
      clear hall h1 h2
      go_wp2
      go_ret
      exact ⟨by rw [HN.out]; rfl, hbel⟩

/-- a net in its box, ties of the same knots in another one -/
structure Hx (w wr : World) (K : Int) (nv hv : Value) : Prop where
  X : Bx w wr K nv
  d0 : wr.cell? ⟨w.heap.size + 1, 0, none⟩ = some (.int .i64 K)
  d1 : wr.cell? ⟨w.heap.size + 1, 1, none⟩ = some hv
  lt : w.heap.size + 1 < wr.heap.size
theorem Hx.next {w wr w' : World} {K : Int} {nv hv : Value} (h : Hx w wr K nv hv) (hb : Below wr.heap.size wr w') : Hx w w' K nv hv :=
  ⟨h.X.next hb, (hb.cell (p := ⟨w.heap.size + 1, 0, none⟩) h.lt).trans h.d0, (hb.cell (p := ⟨w.heap.size + 1, 1, none⟩) h.lt).trans h.d1, Nat.lt_of_lt_of_le h.lt hb.size⟩
theorem Hx.start (w : World) (K : Int) (nv hv : Value) (t u : TypeId) : Hx w ((w.alloc (.cells #[.int .i64 K, nv] t)).alloc (.cells #[.int .i64 K, hv] u)) K nv hv := by
  refine ⟨(Bx.start w K nv t).next (below_one _ _), ?_, ?_, by simp⟩
  · rw [World.cell?_alloc_at _ _ _ _ (by simp)]; rfl
  · rw [World.cell?_alloc_at _ _ _ _ (by simp)]; rfl
set_option maxHeartbeats 1600000 in
theorem implTreeOk_any (K : Int) (ao bo : Option Addr) (cap cap2 : Nat) (ts us : List (Int × Int)) (w : World) (hn : ts.length ≤ 1099511627776) (ht : TiesIn w w.heap.size ao ts) (hn2 : us.length ≤ 1099511627776) (hu : TiesIn w w.heap.size bo us) (hT : Tab w) :
    Calls Tryd.prog 11 #[.agg #[.int .i64 K, .slice ao ts.length cap], .slice bo us.length cap2] w fun e w' => e = .returned (.bool (treeOkB K ts us)) ∧ Below w.heap.size w w' := by
  have X0 := fun (t u : TypeId) => Hx.start w K (.slice ao ts.length cap) (.slice bo us.length cap2) t u
  have HX0 := hideP X0
  have HT := hideP ht
  have HU := hideP hu
  have HTab := hideP hT
  clear X0 ht hT hu
  go_enter Tryd.func11, Tryd.ntmps11
  go_wp2_with fail
  refine (pairsOf_any K ao cap ts _ hn ((HT.out.below (HX0.out _ _).X.B (Nat.le_refl _)).wide (Nat.le_of_lt (HX0.out _ _).X.lt))).mono ?_
  rintro e w2 ⟨rfl, hb1⟩
  have X2 := hideP ((HX0.out _ _).next hb1)
  have d0 := X2.out.d0
  have d1 := X2.out.d1
  clear hb1 HX0
  go_wp2_with fail
  refine (pairsOf_any K bo cap2 us _ hn2 ((HU.out.below X2.out.X.B (Nat.le_refl _)).wide (Nat.le_of_lt X2.out.X.lt))).mono ?_
  rintro e w3 ⟨rfl, hb3⟩
  have X3 := hideP (X2.out.next hb3)
  have HB := hideP X3.out.X.B
  clear d0 d1 hb3 X2
  cases hok : okB K ts
  · have HV : Hid (treeOkB K ts us = false) := by show treeOkB K ts us = false; simp [treeOkB, hok]
    clear hok
    go_wp2
    go_ret
    exact ⟨by rw [HV.out]; rfl, HB.out⟩
  cases hus : okB K us
  · have HV : Hid (treeOkB K ts us = false) := by show treeOkB K ts us = false; simp [treeOkB, hus]
    clear hok hus
    go_wp2
    go_ret
    exact ⟨by rw [HV.out]; rfl, HB.out⟩
  have HOK := hideP hok
  have HUS := hideP hus
  have hnet := okB_iff.1 hok
  cases hal : decide (strike (setN K us) (setN K ts) = 0)
  · have HV : Hid (treeOkB K ts us = false) := by
      show treeOkB K ts us = false
      have : us.all (fun t => tiedB ts t.1 t.2) = false := by
        rw [← Bool.not_eq_true, sub_iff]
        exact fun h => (of_decide_eq_false hal) ((strike_sub hok hus).2 h)
      simp [treeOkB, this]
    have HAL := hideP hal
    clear hok hus hal hnet
    go_wp2_with fail
    refine (hasAll_v false (setN K ts) (setN K us) _ (setN_lt _ _) (setN_lt _ _) HAL.out).mono ?_
    rintro e w4 ⟨rfl, rfl⟩
    go_wp2
    go_ret
    exact ⟨by rw [HV.out]; rfl, HB.out⟩
  have HAL := hideP hal
  have hsub := (strike_sub hok hus).1 (of_decide_eq_true hal)
  have hall := sub_iff.2 hsub
  have HE := hideP (treeOk_eq hok hus hsub)
  have HV : Hid (treeOkB K ts us = (decide (treeM us us.length = setN K us) && eqTo (topN us) (topN ts) K.toNat)) := by
    show treeOkB K ts us = _
    rw [treeOkB, hok, hus, hall, Bool.eq_iff_iff]
    simp only [Bool.true_and, Bool.and_eq_true, decide_eq_true_eq, eqTo_iff]
    exact HE.out.symm
  have HPU : Hid (partN K us = K.toNat) := by show partN K us = K.toNat; simp [partN, hus]
  have HPT : Hid (partN K ts = K.toNat) := by show partN K ts = K.toNat; simp [partN, hok]
  have hK8 : K.toNat ≤ 1000 := by have := hnet.2.1; omega
  have T3 := hideP (HTab.out.below X3.out.X.B HTab.out.2)
  clear hok hus hal hnet hsub hall HE
  go_wp2_with fail
  refine (hasAll_v true (setN K ts) (setN K us) _ (setN_lt _ _) (setN_lt _ _) HAL.out).mono ?_
  rintro e w4 ⟨rfl, rfl⟩
  have X4 : Hid (Hx w w4.drew K (.slice ao ts.length cap) (.slice bo us.length cap2)) := X3.out.next ((Below.refl _ _).drew)
  have T4 : Hid (Tab w4.drew) := T3.out.below (B := w4.heap.size) ((Below.refl _ _).drew) T3.out.2
  have d0 := X4.out.d0
  have d1 := X4.out.d1
  have c0 := X4.out.X.c0
  have c1 := X4.out.X.c1
  by_cases hM : treeM us us.length = setN K us
  · have HM := hideP hM
    rw [decide_eq_true hM, Bool.true_and] at HV
    clear hM X3 T3 HB
    go_wp2
    go_region_held3 (fun w' => w'.cell? ⟨w.heap.size, 0, none⟩ = some (.int .i64 K) ∧ w'.cell? ⟨w.heap.size, 1, none⟩ = some (.slice ao ts.length cap) ∧ w'.cell? ⟨w.heap.size + 1, 0, none⟩ = some (.int .i64 K) ∧ w'.cell? ⟨w.heap.size + 1, 1, none⟩ = some (.slice bo us.length cap2)) (first | exact ⟨X8.out.X.c0, X8.out.X.c1, X8.out.d0, X8.out.d1⟩ | exact ⟨X7.out.X.c0, X7.out.X.c1, X7.out.d0, X7.out.d1⟩ | exact ⟨X6.out.X.c0, X6.out.X.c1, X6.out.d0, X6.out.d1⟩ | exact ⟨X5.out.X.c0, X5.out.X.c1, X5.out.d0, X5.out.d1⟩ | exact ⟨c0, c1, d0, d1⟩) (first | (go_at_call 48; refine (treeM_any K us _ T4.out HUS.out).mono ?_; rw [HM.out]; rintro e w5 ⟨rfl, hb5⟩; have X5 := hideP (X4.out.next hb5); have T5 := hideP (T4.out.below hb5 T4.out.2)) | (go_at_call 14; refine (implParts_any K ao cap ts _ hn ((HT.out.below X6.out.X.B (Nat.le_refl _)).wide (Nat.le_of_lt X6.out.X.lt)) T6.out).mono ?_; rw [HPT.out]; rintro e w7 ⟨ao7, cap7, rfl, ho7, hb7⟩; have X7 := hideP (X6.out.next hb7); have O7 := hideP ho7; have P7 := hideP (O6.out.next hb7)) | (go_at_call 14; refine (implParts_any K bo cap2 us _ hn2 ((HU.out.below X5.out.X.B (Nat.le_refl _)).wide (Nat.le_of_lt X5.out.X.lt)) T5.out).mono ?_; rw [HPU.out]; rintro e w6 ⟨ao6, cap6, rfl, ho6, hb6⟩; have X6 := hideP (X5.out.next hb6); have T6 := hideP (T5.out.below hb6 T5.out.2); have O6 := hideP ho6) | (go_at_call 49; refine (equalInts_any ao6 ao7 cap6 cap7 K.toNat (topN us) (topN ts) _ hK8 P7.out.inside O7.out.inside).mono ?_; rintro e w8 ⟨rfl, hb8⟩; have X8 := hideP (X7.out.next hb8)))
    go_wp2
    go_ret
    exact ⟨by rw [HV.out]; rfl, X8.out.X.B⟩
  · have hne : (((treeM us us.length : Nat) : Int) == ((setN K us : Nat) : Int)) = false := by rw [beq_eq_false_iff_ne]; omega
    rw [decide_eq_false hM, Bool.false_and] at HV
    have hnm : Nonempty (Cls (Below w4.heap.size w4)) := ⟨⟨w4, Below.refl _ _⟩⟩
    have CALLS : Hid (∀ u : Cls (Below w4.heap.size w4), Calls Tryd.prog 48 #[.int .u64 ((setN K us : Nat) : Int)] u.w fun e w'' => e = .returned (.int .u64 ((treeM us us.length : Nat) : Int)) ∧ ∃ u2 : Cls (Below w4.heap.size w4), w'' = u2.w) := by
      intro u
      refine Calls.cls (D := Below w4.heap.size w4) ?_
      exact (treeM_any K us _ (T3.out.below u.ok T3.out.2) HUS.out).mono fun e w2 ⟨he, hb2⟩ => ⟨he, u.ok.trans (hb2.mono u.ok.size)⟩
    obtain ⟨tm, htm⟩ : ∃ tm, tm = treeM us us.length := ⟨_, rfl⟩
    rw [← htm] at CALLS hne
    obtain ⟨su, hsu⟩ : ∃ su, su = setN K us := ⟨_, rfl⟩
    rw [← hsu] at CALLS hne ⊢
    clear hM X3 T3 X4 T4 c0 c1 d0 d1 htm hsu
    go_wp2
    refine wp_region_cls (Below w4.heap.size w4) (by kernel_rfl) (by kernel_rfl) (Below.refl _ _).drew ?_
    repeat (go_big_quiet_step (first | (go_at_call 48; refine CALLS.out _)))
    refine wpQuiet_nil ?_
    intro wz hw'
    have hz : Below w4.heap.size w4 wz := by obtain ⟨u, e⟩ := hw'; rw [e]; exact u.ok
    clear hw'
    have HBZ := hideP (HB.out.trans (hz.mono HB.out.size))
    clear hz
    go_wp2
    go_ret
    exact ⟨by rw [HV.out]; rfl, HBZ.out⟩

end Go.Proofs.YtloicmngoaccoaaDoor
