/- Walk of laws.FnSideOnly: it returns true. -/
import Derived.Test.YtiaeffpjcinilaaDoorLSideOf
import Derived.Test.YtiaeffpjcinilaaDoorPartWDrawOdd
import Derived.Test.YtiaeffpjcinilaaDoorPartWReach
namespace Go.Proofs.YtiaeffpjcinilaaDoor
open Go.RowKit
set_option linter.unusedVariables false

/-- in each part the sides are those that are told, or turned about -/
theorem side_only {K : Int} {ts : List (Int × Int)} {xs : List Int} (h : sideB K ts xs = true) {k : Nat} (hk : k < K.toNat) : (pn (sideL K ts) k = 0 ∨ pn (sideL K ts) k = 1) ∧ pn (sideL K ts) (topN ts k) = 0 ∧ (xi xs k = 0 ∨ xi xs k = 1) ∧ (xi xs (topN ts k) = 0 ∨ xi xs (topN ts k) = 1) ∧ (xi xs k = xi xs (topN ts k) ↔ pn (sideL K ts) k = 0) := by
  have hV := side_v h
  obtain ⟨hok, _⟩ := side_sides hV
  obtain ⟨hc, hv⟩ := two_of h
  have hK8 := (okB_iff.1 hok).2.1
  have hle := topN_le ts k
  have hL : ∀ j, j < K.toNat → pn (sideL K ts) j = sdN (treeTs K ts) j := fun j hj => by
    rw [sideL_yes hV]; unfold pn sdL; simp [hj]
  have T := (tree_trn hok).eight
  have h2 := T.two' (hc.less (fun x y e => tree_in hok e)) (v := k) (by omega)
  rw [tree_top hok hk] at h2
  have e2 : ((xi xs k == 1) == (xi xs (topN ts k) == 1)) = decide (sdN (treeTs K ts) k = 0) := h2
  rw [hL k hk, hL (topN ts k) (by omega)]
  have va := hv k hk
  have vb := hv (topN ts k) (by omega)
  refine ⟨sd_two _ _, side_root hok (by omega) (topN_top ts k), va, vb, ?_⟩
  rcases sd_two (treeTs K ts) k with e0 | e0 <;> rw [e0] at e2 ⊢ <;> rcases va with ea | ea <;> rcases vb with eb | eb <;> rw [ea, eb] at e2 ⊢ <;> simp at e2 ⊢
set_option maxHeartbeats 1600000 in
theorem sideOnly_walk (bo : Option Addr) (n cap : Nat) (w : World) (hb : BytesIn w bo n) (hnil : bo = none → n = 0 ∧ cap = 0) (hc : n ≤ cap) (hm : cap ≤ maxLen) (hT : Tab w) :
    Calls Tryd.prog 7 #[.slice bo n cap] w fun e w' => e = .returned (.bool true) ∧ Below w.heap.size w w' := by
  by_cases hl : 1048576 < n
  · have hl' : (1048576 : Int) < (n : Int) := by omega
    have hn' : n ≤ 9223372036854775807 := by unfold maxLen at hm; omega
    go_enter Tryd.func7, Tryd.ntmps7
    go_wp2
    go_ret
    exact ⟨rfl, Below.refl _ _⟩
  have hl' : decide ((1048576 : Int) < (n : Int)) = false := by simp; omega
  go_enter Tryd.func7, Tryd.ntmps7
  go_wp2_with fail
  refine (drawSideOk_any bo n cap _ hb hnil hc hm).mono ?_
  rintro e w1 ⟨K, ao, cap', ts, aoX, capX, xs, rfl, D1, hX1, hx10⟩
  have hn : ts.length ≤ 1099511627776 := by have := D1.short; omega
  have HB1 := hideP D1.bel
  have T1 := hideP (hT.below D1.bel hT.2)
  have hoN := D1.own
  clear D1 hT
  have bo1 := below_one w1 (.cells #[.int .i64 K, .slice ao ts.length cap'] 25)
  have T1a := hideP (T1.out.below bo1 T1.out.2)
  have HB1a := hideP (HB1.out.trans (bo1.mono HB1.out.size))
  have N1a := hideP (NetV.new (K := K) (cap := cap') 25 (hoN.ties (Nat.le_refl _)))
  have X1a := hideP ((hX1.below bo1 (Nat.le_refl _)).wide bo1.size)
  clear hoN bo1 hX1
  obtain ⟨V, hV⟩ : ∃ V, sideB K ts xs = V := ⟨_, rfl⟩
  obtain ⟨m, hm0⟩ : ∃ m, xs.length = m := ⟨_, rfl⟩
  have HM := hideP hm0
  have HV := hideP hV
  rw [hm0] at hx10 ⊢
  clear hV hm0
  have n0 := N1a.out.c0
  have n1 := N1a.out.c1
  go_wp2_with fail
  refine (implSideOk_is V K ao aoX cap' m capX ts xs _ HM.out hn N1a.out.ties (by omega) X1a.out T1a.out HV.out).mono ?_
  rintro e w2 ⟨rfl, hb2⟩
  have N2 := hideP (N1a.out.next hb2)
  have T2 := hideP (T1a.out.below hb2 T1a.out.2)
  have HB2 := hideP (HB1a.out.trans (hb2.mono HB1a.out.size))
  have X2 := hideP ((X1a.out.below hb2 (Nat.le_refl _)).wide hb2.size)
  clear hb2 n0 n1 N1a T1a HB1a X1a
  have n0 := N2.out.c0
  have n1 := N2.out.c1
  go_wp2_with fail
  refine (specSideOk_is V K ao aoX cap' m capX ts xs _ HM.out hn N2.out.ties (by omega) X2.out HV.out).mono ?_
  rintro e w3 ⟨rfl, hb3⟩
  have N3 := hideP (N2.out.next hb3)
  have T3 := hideP (T2.out.below hb3 T2.out.2)
  have HB3 := hideP (HB2.out.trans (hb3.mono HB2.out.size))
  have X3 := hideP ((X2.out.below hb3 (Nat.le_refl _)).wide hb3.size)
  clear hb3 n0 n1 N2 T2 HB2 X2
  have n0 := N3.out.c0
  have n1 := N3.out.c1
  have hVV : (V != V) = false := by simp
  cases V with
  | false =>
    go_wp2_with fail
    refine (specSideOk_is false K ao aoX cap' m capX ts xs _ HM.out hn N3.out.ties (by omega) X3.out HV.out).mono ?_
    rintro e w4 ⟨rfl, hb4⟩
    have HB4 := hideP (HB3.out.trans (hb4.mono HB3.out.size))
    clear hb4 n0 n1 N3 T3 HB3 X3
    go_wp2
    go_ret
    exact ⟨rfl, HB4.out⟩
  | true =>
    have hsv := side_v HV.out
    have HSV := hideP hsv
    obtain ⟨hok, _⟩ := side_sides hsv
    have HON := hideP (fun (k : Nat) (hk : k < K.toNat) => side_only HV.out hk)
    obtain ⟨Kn, hKn⟩ : ∃ n : Nat, K = (n : Int) := ⟨K.toNat, by have := (okB_iff.1 hok).1; omega⟩
    have hK8 : Kn ≤ 8 := by have := (okB_iff.1 hok).2.1; omega
    subst hKn
    rw [Int.toNat_natCast] at HON
    have HLK : Hid ((sideL (Kn : Int) ts).length = Kn) := hideP (by rw [sideL_yes hsv, sdL_len, Int.toNat_natCast])
    have HMK : Hid (m = Kn) := hideP (by
      have h := HV.out
      unfold sideB at h
      simp only [Bool.and_eq_true, decide_eq_true_eq] at h
      have := h.1.1.2
      have := HM.out
      omega)
    have HPN : Hid (partN (Kn : Int) ts = Kn) := hideP (by simp [partN, hok])
    clear hsv hok
    go_wp2_with fail
    refine (implSideOf_any (Kn : Int) ao cap' ts _ hn N3.out.ties T3.out).mono ?_
    rw [HSV.out, HLK.out]
    rintro e w4 ⟨aoI, cI, rfl, hOI, hb4⟩
    have N4 := hideP (N3.out.next hb4)
    have T4 := hideP (T3.out.below hb4 T3.out.2)
    have HB4 := hideP (HB3.out.trans (hb4.mono HB3.out.size))
    have X4 := hideP ((X3.out.below hb4 (Nat.le_refl _)).wide hb4.size)
    have O4 := hideP hOI
    clear hb4 hOI n0 n1 N3 T3 HB3 X3
    have n0 := N4.out.c0
    have n1 := N4.out.c1
    go_wp2_with fail
    refine (implParts_any (Kn : Int) ao cap' ts _ hn N4.out.ties T4.out).mono ?_
    rw [HPN.out]
    rintro e w5 ⟨aoP, cP, rfl, hOP, hb5⟩
    have HB5 := hideP (HB4.out.trans (hb5.mono HB4.out.size))
    have X5 := hideP ((X4.out.below hb5 (Nat.le_refl _)).wide hb5.size)
    have O5 := hideP (O4.out.next hb5)
    have P5 := hideP hOP
    have hmk : m = Kn := HMK.out
    subst hmk
    clear hb5 hOP n0 n1 N4 T4 HB4 X4 O4
    go_wp2
    go_loopw [9] (fun iv wr => ∃ k : Nat, k ≤ m ∧ iv = .int .i64 (k : Int) ∧ Below w5.heap.size w5 wr) (fun iv _ => m - (intOf iv).toNat)
    case atStart => exact ⟨0, Nat.zero_le _, rfl, Below.refl _ _⟩
    case round =>
      obtain ⟨k, hk, rfl, hBr⟩ := hrel
      have HBr := hideP hBr
      have Pr := hideP (P5.out.next hBr)
      have Or := hideP (O5.out.next hBr)
      have Xr := hideP ((X5.out.below hBr (Nat.le_refl _)).wide hBr.size)
      clear hBr
      by_cases hlt : k < m
      · have hk1 : (k : Int) < (m : Int) := by omega
        have hk0 : (0 : Int) ≤ (k : Int) := by omega
        obtain ⟨f1, f2, f3, f4, f5⟩ := HON.out k hlt
        have hple := topN_le ts k
        obtain ⟨gP, rfl, eP⟩ := Pr.out.at hlt
        obtain ⟨tv, htv⟩ : ∃ tv, tv = topN ts k := ⟨_, rfl⟩
        rw [← htv] at f2 f4 f5 hple
        obtain ⟨gO, rfl, eA⟩ := Or.out.at (j := k) hlt
        obtain ⟨gO2, eg, eB⟩ := Or.out.at (j := tv) (by omega)
        cases eg
        obtain ⟨gX, oX, rfl, hgX, eC⟩ := Xr.out k (by rw [HM.out]; exact hlt)
        obtain ⟨gX2, oX2, eg2, _, eD⟩ := Xr.out tv (by rw [HM.out]; omega)
        cases eg2
        unfold pcellN at eP eA eB
        rw [← htv] at eP
        rw [f2] at eB
        obtain ⟨a, ha⟩ : ∃ a, a = pn (sideL (m : Int) ts) k := ⟨_, rfl⟩
        obtain ⟨b, hb⟩ : ∃ b, b = xi xs k := ⟨_, rfl⟩
        obtain ⟨c, hc⟩ : ∃ c, c = xi xs tv := ⟨_, rfl⟩
        rw [← ha] at f1 f5 eA
        rw [← hb] at f3 f5 eC
        rw [← hc] at f4 f5 eD
        have hgP : gP < wr.heap.size := by
          rcases Pr.out with ⟨h0, _⟩ | ⟨g9, e9, h1, h2, h3⟩
          · omega
          · cases e9; exact h3.2.2
        have hgO : gO < wr.heap.size := by
          rcases Or.out with ⟨h0, _⟩ | ⟨g9, e9, h1, h2, h3⟩
          · omega
          · cases e9; exact h3.2.2
        have ht1 : (tv : Int) < (m : Int) := by omega
        have ht0 : (0 : Int) ≤ (tv : Int) := by omega
        have hne : Nonempty (Cls (Below wr.heap.size wr)) := ⟨⟨wr, Below.refl _ _⟩⟩
        have q1 : ∀ u : Cls (Below wr.heap.size wr), u.w.cell? ⟨gP, k, none⟩ = some (.int .i64 (tv : Int)) := fun u => (u.ok.cell (p := ⟨gP, k, none⟩) hgP).trans eP
        have q2 : ∀ u : Cls (Below wr.heap.size wr), u.w.cell? ⟨gO, k, none⟩ = some (.int .i64 (a : Int)) := fun u => (u.ok.cell (p := ⟨gO, k, none⟩) hgO).trans eA
        have q3 : ∀ u : Cls (Below wr.heap.size wr), u.w.cell? ⟨gO, tv, none⟩ = some (.int .i64 ((0 : Nat) : Int)) := fun u => (u.ok.cell (p := ⟨gO, tv, none⟩) hgO).trans eB
        have q4 : ∀ u : Cls (Below wr.heap.size wr), u.w.cell? ⟨gX, oX + k, none⟩ = some (.int .i64 b) := fun u => (u.ok.cell (p := ⟨gX, oX + k, none⟩) hgX).trans eC
        have q5 : ∀ u : Cls (Below wr.heap.size wr), u.w.cell? ⟨gX, oX + tv, none⟩ = some (.int .i64 c) := fun u => (u.ok.cell (p := ⟨gX, oX + tv, none⟩) hgX).trans eD
        have hcase : (a = 0 ∧ b = 0 ∧ c = 0) ∨ (a = 0 ∧ b = 1 ∧ c = 1) ∨ (a = 1 ∧ b = 0 ∧ c = 1) ∨ (a = 1 ∧ b = 1 ∧ c = 0) := by omega
        clear eP eA eB eC eD ha hb hc f1 f2 f3 f4 f5 hgP hgO hgX Pr Or Xr htv hple
        rcases hcase with ⟨rfl, rfl, rfl⟩ | ⟨rfl, rfl, rfl⟩ | ⟨rfl, rfl, rfl⟩ | ⟨rfl, rfl, rfl⟩
        all_goals
          go_wp2
          refine wp_region_cls (Below wr.heap.size wr) (by kernel_rfl) (by kernel_rfl) (Below.refl _ _).drew ?_
          repeat (go_big_quiet_step (fail))
          refine wpQuiet_nil ?_
          intro wq hw'
          have hq : Below wr.heap.size wr wq := by obtain ⟨u, e⟩ := hw'; rw [e]; exact u.ok
          have HNQ := hideP (HBr.out.trans (hq.mono HBr.out.size))
          clear hw' hq q1 q2 q3 q4 q5 hne
          go_wp2
          exact ⟨⟨k + 1, by omega, by go_num, HNQ.out⟩, by simp [intOf]; omega⟩
      · obtain rfl : k = m := by omega
        have HB9 := hideP (HB5.out.trans (HBr.out.mono HB5.out.size))
        clear Pr Or Xr
        go_wp2
        go_ret
        exact ⟨rfl, HB9.out⟩

end Go.Proofs.YtiaeffpjcinilaaDoor
