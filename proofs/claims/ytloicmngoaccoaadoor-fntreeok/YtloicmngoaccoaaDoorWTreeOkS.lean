/- Walk of spec.TreeOk. -/
import Derived.Test.YtloicmngoaccoaaDoorMathTk
import Derived.Test.YtloicmngoaccoaaDoorWHas
import Derived.Test.YtloicmngoaccoaaDoorWQuiet
import Derived.Test.YtloicmngoaccoaaDoorWTreeOk
namespace Go.Proofs.YtloicmngoaccoaaDoor
open Go.RowKit
set_option linter.unusedVariables false

theorem specHas_v (v : Bool) (K : Int) (ao : Option Addr) (cap : Nat) (ts : List (Int × Int)) (a b : Int) (w : World) (hn : ts.length ≤ 1099511627776) (ht : TiesIn w w.heap.size ao ts) (h : hasB K ts a b = v) :
    Calls Tryd.prog 50 #[.agg #[.int .i64 K, .slice ao ts.length cap], .int .i64 a, .int .i64 b] w fun e w' => e = .returned (.bool v) ∧ Below w.heap.size w w' := by
  rw [← h]; exact specHas_any K ao cap ts a b w hn ht
set_option maxHeartbeats 1600000 in
theorem specTreeOk_any (K : Int) (ao bo : Option Addr) (cap cap2 : Nat) (ts us : List (Int × Int)) (w : World) (hn : ts.length ≤ 1099511627776) (ht : TiesIn w w.heap.size ao ts) (hn2 : us.length ≤ 1099511627776) (hu : TiesIn w w.heap.size bo us) :
    Calls Tryd.prog 12 #[.agg #[.int .i64 K, .slice ao ts.length cap], .slice bo us.length cap2] w fun e w' => e = .returned (.bool (treeOkB K ts us)) ∧ Below w.heap.size w w' := by
  have X0 := fun (t u : TypeId) => Hx.start w K (.slice ao ts.length cap) (.slice bo us.length cap2) t u
  have HX0 := hideP X0
  have HT := hideP ht
  have HU := hideP hu
  clear X0 ht hu
  cases hok : okB K ts
  · have HV : Hid (treeOkB K ts us = false) := by show treeOkB K ts us = false; simp [treeOkB, hok]
    have HOK := hideP hok
    clear hok
    go_enter Tryd.func12, Tryd.ntmps12
    go_wp2_with fail
    refine (specOk_is false K ao cap ts _ hn ((HT.out.below (HX0.out _ _).X.B (Nat.le_refl _)).wide (Nat.le_of_lt (HX0.out _ _).X.lt)) HOK.out).mono ?_
    rintro e w1 ⟨rfl, hb1⟩
    have X1 := hideP ((HX0.out _ _).next hb1)
    clear hb1
    go_wp2
    go_ret
    exact ⟨by rw [HV.out]; rfl, X1.out.X.B⟩
  have HOK := hideP hok
  have hnet := okB_iff.1 hok
  go_enter Tryd.func12, Tryd.ntmps12
  go_wp2_with fail
  refine (specOk_is true K ao cap ts _ hn ((HT.out.below (HX0.out _ _).X.B (Nat.le_refl _)).wide (Nat.le_of_lt (HX0.out _ _).X.lt)) HOK.out).mono ?_
  rintro e w1 ⟨rfl, hb1⟩
  have X1 := hideP ((HX0.out _ _).next hb1)
  have d0 := X1.out.d0
  have d1 := X1.out.d1
  clear hb1 HX0
  cases hus : okB K us
  · have HV : Hid (treeOkB K ts us = false) := by show treeOkB K ts us = false; simp [treeOkB, hus]
    have HUS := hideP hus
    clear hok hus hnet
    go_wp2_with fail
    refine (specOk_is false K bo cap2 us _ hn2 ((HU.out.below X1.out.X.B (Nat.le_refl _)).wide (Nat.le_of_lt X1.out.X.lt)) HUS.out).mono ?_
    rintro e w2 ⟨rfl, hb2⟩
    have X2 := hideP (X1.out.next hb2)
    clear hb2
    go_wp2
    go_ret
    exact ⟨by rw [HV.out]; rfl, X2.out.X.B⟩
  have HUS := hideP hus
  have HG := hideP (okB_iff.1 hus).2.2
  have hul := ok_short (okB_iff.1 hus)
  have HS : Hid ((∀ i, i < us.length → tiedB ts (tA us i) (tB us i) = true) → treeOkB K ts us = (decide (cnt us K.toNat = cnt ts K.toNat) && decide (us.length + cnt ts K.toNat = K.toNat))) := by
    intro h
    have : us.all (fun t => tiedB ts t.1 t.2) = true := by
      rw [List.all_eq_true]
      intro t ht
      obtain ⟨i, hi, rfl⟩ := List.mem_iff_getElem.1 ht
      have := h i hi
      rw [tA_get us i hi, tB_get us i hi] at this
      exact this
    rw [treeOkB, hok, hus, this]
    rfl
  have HN : Hid (∀ i, i < us.length → tiedB ts (tA us i) (tB us i) = false → treeOkB K ts us = false) := by
    intro i hi h
    have : us.all (fun t => tiedB ts t.1 t.2) = false := by
      rw [← Bool.not_eq_true, List.all_eq_true]
      intro hh
      have := hh us[i] (List.getElem_mem _)
      rw [← tA_get us i hi, ← tB_get us i hi, h] at this
      exact Bool.noConfusion this
    rw [treeOkB, this]
    simp
  obtain ⟨Kn, hKn⟩ : ∃ n : Nat, K = (n : Int) := ⟨K.toNat, by have := hnet.1; omega⟩
  subst hKn
  have hK8 : Kn ≤ 8 := by have := hnet.2.1; omega
  clear hok hus hnet
  go_wp2_with fail
  refine (specOk_is true (Kn : Int) bo cap2 us _ hn2 ((HU.out.below X1.out.X.B (Nat.le_refl _)).wide (Nat.le_of_lt X1.out.X.lt)) HUS.out).mono ?_
  rintro e w2 ⟨rfl, hb2⟩
  have X2 := hideP (X1.out.next hb2)
  clear hb2 X1 d0 d1
  go_wp2
  go_loopw [6] (fun i wr => ∃ k : Nat, k ≤ us.length ∧ i = .int .i64 k ∧ (∀ j, j < k → tiedB ts (tA us j) (tB us j) = true) ∧ Hx w wr (Kn : Int) (.slice ao ts.length cap) (.slice bo us.length cap2))
    (fun i _ => us.length - (intOf i).toNat)
  case atStart => exact ⟨0, Nat.zero_le _, rfl, fun j hj => by omega, X2.out⟩
  case round =>
    obtain ⟨k, hk, rfl, hall, hX⟩ := hrel
    by_cases hlt : k < us.length
    · obtain ⟨b, off, rfl, hbw, e0, e1⟩ := (HU.out.below hX.X.B (Nat.le_refl _)) k hlt
      obtain ⟨q1, q2, q3⟩ := (HG.out k hlt).1
      have hk0 : (0 : Int) ≤ (k : Int) := by omega
      have hk1 : (k : Int) < (us.length : Int) := by omega
      obtain ⟨r, hr⟩ : ∃ r, r = tiedB ts (tA us k) (tB us k) := ⟨_, rfl⟩
      have HR : Hid (hasB (Kn : Int) ts (tA us k) (tB us k) = r) := by
        show hasB _ _ _ _ = r
        rw [hasB_ok HOK.out, hr, show min (tA us k) (tB us k) = tA us k by omega, show max (tA us k) (tB us k) = tB us k by omega]
      have HRK : Hid (r = tiedB ts (tA us k) (tB us k)) := hr
      obtain ⟨x, hx⟩ : ∃ x, x = tA us k := ⟨_, rfl⟩
      obtain ⟨y, hy⟩ : ∃ y, y = tB us k := ⟨_, rfl⟩
      rw [← hx] at e0 HR
      rw [← hy] at e1 HR
      have hne : Nonempty (Cls (Below wr.heap.size wr)) := ⟨⟨wr, Below.refl _ _⟩⟩
      have hbz : b < wr.heap.size := Nat.lt_of_lt_of_le hbw hX.X.B.size
      have p0 : ∀ u : Cls (Below wr.heap.size wr), u.w.cell? ⟨w.heap.size, 0, none⟩ = some (.int .i64 (Kn : Int)) := fun u => (u.ok.cell (p := ⟨w.heap.size, 0, none⟩) hX.X.lt).trans hX.X.c0
      have p1 : ∀ u : Cls (Below wr.heap.size wr), u.w.cell? ⟨w.heap.size, 1, none⟩ = some (.slice ao ts.length cap) := fun u => (u.ok.cell (p := ⟨w.heap.size, 1, none⟩) hX.X.lt).trans hX.X.c1
      have p2 : ∀ u : Cls (Below wr.heap.size wr), u.w.cell? ⟨b, off + k * 2, none⟩ = some (.int .i64 x) := fun u => (u.ok.cell (p := ⟨b, off + k * 2, none⟩) hbz).trans e0
      have p3 : ∀ u : Cls (Below wr.heap.size wr), u.w.cell? ⟨b, off + k * 2 + 1, none⟩ = some (.int .i64 y) := fun u => (u.ok.cell (p := ⟨b, off + k * 2 + 1, none⟩) hbz).trans e1
      have CALLS : Hid (∀ u : Cls (Below wr.heap.size wr), Calls Tryd.prog 50 #[.agg #[.int .i64 (Kn : Int), .slice ao ts.length cap], .int .i64 x, .int .i64 y] u.w fun e w'' => e = .returned (.bool r) ∧ ∃ u2 : Cls (Below wr.heap.size wr), w'' = u2.w) := by
        intro u
        refine Calls.cls (D := Below wr.heap.size wr) ?_
        exact (specHas_v r (Kn : Int) ao cap ts x y _ hn ((HT.out.below (C := w.heap.size) (hX.X.B.trans (u.ok.mono hX.X.B.size)) (Nat.le_refl _)).wide (Nat.le_trans hX.X.B.size u.ok.size)) HR.out).mono fun e w2 ⟨he, hb2⟩ => ⟨he, u.ok.trans (hb2.mono u.ok.size)⟩
      have HX := hideP hX
      have HALL := hideP hall
      clear hX hall e0 e1 q1 q2 q3 hx hy hr HR
      cases r
      · go_wp2
        refine wp_region_cls (Below wr.heap.size wr) (by kernel_rfl) (by kernel_rfl) (Below.refl _ _).drew ?_
        repeat (go_big_quiet_step (first | (go_at_call 50; refine CALLS.out _)))
        refine wpQuiet_nil ?_
        intro wz hw'
        have hz : Below wr.heap.size wr wz := by obtain ⟨u, e⟩ := hw'; rw [e]; exact u.ok
        clear hw'
        have XZ := hideP (HX.out.next hz)
        clear hz p0 p1 p2 p3 CALLS hne
        go_wp2
        go_ret
        exact ⟨by rw [HN.out k hlt HRK.out.symm]; rfl, XZ.out.X.B⟩
      · go_wp2
        refine wp_region_cls (Below wr.heap.size wr) (by kernel_rfl) (by kernel_rfl) (Below.refl _ _).drew ?_
        repeat (go_big_quiet_step (first | (go_at_call 50; refine CALLS.out _)))
        refine wpQuiet_nil ?_
        intro wz hw'
        have hz : Below wr.heap.size wr wz := by obtain ⟨u, e⟩ := hw'; rw [e]; exact u.ok
        clear hw'
        have XZ := hideP (HX.out.next hz)
        have HNX : Hid (∀ j, j < k + 1 → tiedB ts (tA us j) (tB us j) = true) := fun j hj => by
          by_cases hjk : j = k
          · subst hjk; exact HRK.out.symm
          · exact HALL.out j (by omega)
        clear hz p0 p1 p2 p3 CALLS hne
        go_wp2
        go_roundw
        case rel => exact ⟨k + 1, by omega, by go_num, HNX.out, XZ.out⟩
        case measure => simp [intOf]; omega
    · obtain rfl : k = us.length := by omega
      have hne : Nonempty (Cls (Below wr.heap.size wr)) := ⟨⟨wr, Below.refl _ _⟩⟩
      have p0 : ∀ u : Cls (Below wr.heap.size wr), u.w.cell? ⟨w.heap.size, 0, none⟩ = some (.int .i64 (Kn : Int)) := fun u => (u.ok.cell (p := ⟨w.heap.size, 0, none⟩) hX.X.lt).trans hX.X.c0
      have p1 : ∀ u : Cls (Below wr.heap.size wr), u.w.cell? ⟨w.heap.size, 1, none⟩ = some (.slice ao ts.length cap) := fun u => (u.ok.cell (p := ⟨w.heap.size, 1, none⟩) hX.X.lt).trans hX.X.c1
      have p2 : ∀ u : Cls (Below wr.heap.size wr), u.w.cell? ⟨w.heap.size + 1, 0, none⟩ = some (.int .i64 (Kn : Int)) := fun u => (u.ok.cell (p := ⟨w.heap.size + 1, 0, none⟩) hX.lt).trans hX.d0
      have p3 : ∀ u : Cls (Below wr.heap.size wr), u.w.cell? ⟨w.heap.size + 1, 1, none⟩ = some (.slice bo us.length cap2) := fun u => (u.ok.cell (p := ⟨w.heap.size + 1, 1, none⟩) hX.lt).trans hX.d1
      obtain ⟨CV, hCV⟩ : ∃ f : List (Int × Int) → Int, f = countV (Kn : Int) := ⟨_, rfl⟩
      have hBu : Hid (∀ u : Cls (Below wr.heap.size wr), Below w.heap.size w u.w) := fun u => hX.X.B.trans (u.ok.mono hX.X.B.size)
      have hzu : Hid (∀ u : Cls (Below wr.heap.size wr), w.heap.size ≤ u.w.heap.size) := fun u => (hBu.out u).size
      have CALLS : Hid (∀ (u : Cls (Below wr.heap.size wr)) (ao' : Option Addr) (cap' : Nat) (ts' : List (Int × Int)), ((ao' = bo ∧ ts' = us) ∨ (ao' = ao ∧ ts' = ts)) → Calls Tryd.prog 51 #[.agg #[.int .i64 (Kn : Int), .slice ao' ts'.length cap']] u.w fun e w'' => e = .returned (.int .i64 (CV ts')) ∧ ∃ u2 : Cls (Below wr.heap.size wr), w'' = u2.w) := by
        intro u ao' cap' ts' h
        refine Calls.cls (D := Below wr.heap.size wr) ?_
        rw [hCV]
        rcases h with ⟨rfl, rfl⟩ | ⟨rfl, rfl⟩
        · exact (specCount_any (Kn : Int) ao' cap' ts' _ hn2 ((HU.out.below (C := w.heap.size) (hBu.out u) (Nat.le_refl _)).wide (hzu.out u))).mono fun e w2 ⟨he, hb2⟩ => ⟨he, u.ok.trans (hb2.mono u.ok.size)⟩
        · exact (specCount_any (Kn : Int) ao' cap' ts' _ hn ((HT.out.below (C := w.heap.size) (hBu.out u) (Nat.le_refl _)).wide (hzu.out u))).mono fun e w2 ⟨he, hb2⟩ => ⟨he, u.ok.trans (hb2.mono u.ok.size)⟩
      have cu : CV us = ((cnt us Kn : Nat) : Int) := by rw [hCV]; simp [countV, HUS.out]
      have ct : CV ts = ((cnt ts Kn : Nat) : Int) := by rw [hCV]; simp [countV, HOK.out]
      have lu := cnt_le us Kn
      have lt := cnt_le ts Kn
      have HX := hideP hX
      obtain ⟨c1, hc1⟩ : ∃ c, c = cnt us Kn := ⟨_, rfl⟩
      obtain ⟨c2, hc2⟩ : ∃ c, c = cnt ts Kn := ⟨_, rfl⟩
      have HV : Hid (treeOkB (Kn : Int) ts us = (decide (c1 = c2) && decide (us.length + c2 = Kn))) := by
        subst hc1
        subst hc2
        exact HS.out hall
      rw [← hc1] at cu lu
      rw [← hc2] at ct lt
      clear hX hall hCV hBu hzu hc1 hc2
      have tailp : ∀ wz, (∃ u : Cls (Below wr.heap.size wr), wz = u.w) → Hid (Below w.heap.size w wz) := fun wz ⟨u, e⟩ => by
        rw [e]; exact HX.out.X.B.trans (u.ok.mono HX.out.X.B.size)
      by_cases h1 : c1 = c2
      · subst h1
        rw [decide_eq_true rfl, Bool.true_and] at HV
        by_cases h2 : us.length + c1 = Kn
        · have h3 : (us.length : Int) = (Kn : Int) - (c1 : Int) := by omega
          rw [decide_eq_true h2] at HV
          clear h2
          go_wp2
          refine wp_region_cls (Below wr.heap.size wr) (by kernel_rfl) (by kernel_rfl) (Below.refl _ _).drew ?_
          repeat (go_big_quiet_step (first | (go_at_call 51; refine CALLS.out _ _ _ _ ?_; first | exact Or.inl ⟨rfl, rfl⟩ | exact Or.inr ⟨rfl, rfl⟩)))
          refine wpQuiet_nil ?_
          intro wz hw'
          have HBZ := tailp wz hw'
          clear hw' tailp
          go_wp2
          go_ret
          exact ⟨by rw [HV.out]; rfl, HBZ.out⟩
        · have h3 : ((us.length : Int) == (Kn : Int) - (c1 : Int)) = false := by rw [beq_eq_false_iff_ne]; omega
          rw [decide_eq_false h2] at HV
          clear h2
          go_wp2
          refine wp_region_cls (Below wr.heap.size wr) (by kernel_rfl) (by kernel_rfl) (Below.refl _ _).drew ?_
          repeat (go_big_quiet_step (first | (go_at_call 51; refine CALLS.out _ _ _ _ ?_; first | exact Or.inl ⟨rfl, rfl⟩ | exact Or.inr ⟨rfl, rfl⟩)))
          refine wpQuiet_nil ?_
          intro wz hw'
          have HBZ := tailp wz hw'
          clear hw' tailp
          go_wp2
          go_ret
          exact ⟨by rw [HV.out]; rfl, HBZ.out⟩
      · have h3 : ((c1 : Int) == (c2 : Int)) = false := by rw [beq_eq_false_iff_ne]; omega
        rw [decide_eq_false h1, Bool.false_and] at HV
        clear h1
        go_wp2
        refine wp_region_cls (Below wr.heap.size wr) (by kernel_rfl) (by kernel_rfl) (Below.refl _ _).drew ?_
        repeat (go_big_quiet_step (first | (go_at_call 51; refine CALLS.out _ _ _ _ ?_; first | exact Or.inl ⟨rfl, rfl⟩ | exact Or.inr ⟨rfl, rfl⟩)))
        refine wpQuiet_nil ?_
        intro wz hw'
        have HBZ := tailp wz hw'
        clear hw' tailp
        go_wp2
        go_ret
        exact ⟨by rw [HV.out]; rfl, HBZ.out⟩

end Go.Proofs.YtloicmngoaccoaaDoor
