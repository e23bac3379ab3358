/- Walk of laws.FnSideOdd: it returns true. -/
import Derived.Test.YtiaeffpjcinilaaDoorLSideEven
import Derived.Test.YtiaeffpjcinilaaDoorLExactSideOdd
import Derived.Test.YtiaeffpjcinilaaDoorWDrawOdd
import Derived.Test.YtiaeffpjcinilaaDoorPartWSideOdd
import Derived.Test.YtiaeffpjcinilaaDoorWAllU
namespace Go.Proofs.YtiaeffpjcinilaaDoor
open Go.RowKit
set_option linter.unusedVariables false

/-- two knots that a tie of a tree ties are of both sides -/
theorem Trn.apart {us : List (Int × Int)} (t : Trn 8 us 8) {x y : Nat} (h : tieNB us x y = true) : sdN us x ≠ sdN us y := by
  unfold sdN
  rcases t.tie h with ⟨_, e, _⟩ | ⟨_, e, _⟩ <;> rw [e] <;> omega
/-- an odd ring is one -/
theorem odd_ring {K : Int} {ts : List (Int × Int)} (h : okB K ts = true) {t : Int × Int} (ho : oddS K ts = some t) : ∃ x y : Nat, Rng K ts x y (oddW K ts (some t)) ∧ (oddW K ts (some t)).length % 2 = 1 := by
  have m1 := odd_mem ho
  obtain ⟨x, y, R⟩ := rst_of h m1
  have e := R.eq
  have hw := R.way
  have hK8 := (okB_iff.1 h).2.1
  have hlt := R.lt
  have hkn := R.kn
  subst e
  have T := (tree_trn h).eight
  have hsame0 : sameB (sd8 K ts) ((x : Int), (y : Int)) = true := List.find?_some (show ts.find? (sameB (sd8 K ts)) = some ((x : Int), (y : Int)) from ho)
  have hsame : (xi (sd8 K ts) x == xi (sd8 K ts) y) = true := hsame0
  rw [xi_sd8 (by omega), xi_sd8 (by omega), beq_iff_eq] at hsame
  have hs : sdN (treeTs K ts) x = sdN (treeTs K ts) y := by omega
  have hout : tieNB (treeTs K ts) y x = false := by
    rw [← Bool.not_eq_true]
    intro hh
    exact T.apart hh hs.symm
  have m2 : ((x : Int), (y : Int)) ∉ treeTs K ts := by
    intro hm
    rw [← Bool.not_eq_true, tieNB_mem, (tieOf_lt hlt).1] at hout
    exact hout hm
  have hW : oddW K ts (some ((x : Int), (y : Int))) = findB K (treeTs K ts) (y : Int) (x : Int) := rfl
  rw [hW]
  obtain ⟨q, hq⟩ : ∃ q, q = findB K (treeTs K ts) (y : Int) (x : Int) := ⟨_, rfl⟩
  rw [← hq] at hw ⊢
  have hf := hw.fst
  have hl := hw.lst
  have h0 := hw.pos
  rw [lastN_at hw.pos] at hl
  have hc : Two (treeTs K ts) (fun k => sdN (treeTs K ts) k == 1) := fun a b hab he => by
    have hne := T.apart hab
    have ha := sd_two (treeTs K ts) a
    have hb := sd_two (treeTs K ts) b
    have he' : (sdN (treeTs K ts) a == 1) = (sdN (treeTs K ts) b == 1) := he
    rcases ha with ea | ea <;> rcases hb with eb | eb <;> rw [ea, eb] at he' hne <;> simp at he' hne
  have hp := Pw.two hc hw.pw (q.length - 1) (by omega)
  rw [hl, hf] at hp
  have hp' : ((sdN (treeTs K ts) x == 1) == (sdN (treeTs K ts) y == 1)) = decide ((q.length - 1) % 2 = 0) := hp
  rw [hs] at hp'
  simp at hp'
  have hodd : q.length % 2 = 1 := by omega
  have h1 : q.length ≠ 1 := fun e => by
    rw [e] at hl
    rw [hf] at hl; omega
  refine ⟨x, y, ⟨hlt, hkn, m1, m2, hw.pw, hf, hl, by omega, hw.le⟩, hodd⟩
theorem netHas_s (v : Bool) (K : Int) (ao : Option Addr) (cap : Nat) (ts : List (Int × Int)) (a b : Int) (w : World) (hn : ts.length ≤ 1099511627776) (ht : TiesIn w w.heap.size ao ts) (h : hasB K ts a b = v) :
    Calls Tryd.prog 25 #[.agg #[.int .i64 K, .slice ao ts.length cap], .int .i64 a, .int .i64 b] w fun e w' => e = .returned (.bool v) ∧ Below w.heap.size w w' := by
  rw [← h]; exact netHas_any K ao cap ts a b w hn ht
set_option maxHeartbeats 1600000 in
theorem sideOdd_walk (bo : Option Addr) (n cap : Nat) (w : World) (hb : BytesIn w bo n) (hnil : bo = none → n = 0 ∧ cap = 0) (hc : n ≤ cap) (hm : cap ≤ maxLen) (hT : Tab w) :
    Calls Tryd.prog 5 #[.slice bo n cap] w fun e w' => e = .returned (.bool true) ∧ Below w.heap.size w w' := by
  by_cases hl : 1048576 < n
  · have hl' : (1048576 : Int) < (n : Int) := by omega
    have hn' : n ≤ 9223372036854775807 := by unfold maxLen at hm; omega
    go_enter Tryd.func5, Tryd.ntmps5
    go_wp2
    go_ret
    exact ⟨rfl, Below.refl _ _⟩
  have hl' : decide ((1048576 : Int) < (n : Int)) = false := by simp; omega
  go_enter Tryd.func5, Tryd.ntmps5
  go_wp2_with fail
  refine (drawSideOdd_any bo n cap _ hb hnil hc hm).mono ?_
  rintro e w1 ⟨K, ao, cap', ts, rfl, D1⟩
  have hn : ts.length ≤ 1099511627776 := by have := D1.short; omega
  have HB1 := hideP D1.bel
  have T1 := hideP (hT.below D1.bel hT.2)
  have hoN := D1.own
  clear D1 hT
  have T1a := hideP (T1.out.below (below_one w1 (.cells #[.int .i64 K, .slice ao ts.length cap'] 25)) T1.out.2)
  have HB1a := hideP (HB1.out.trans ((below_one w1 (.cells #[.int .i64 K, .slice ao ts.length cap'] 25)).mono HB1.out.size))
  have N1a := hideP (NetV.new (K := K) (cap := cap') 25 (hoN.ties (Nat.le_refl _)))
  clear hoN
  obtain ⟨V, hV⟩ : ∃ V, V = oddV K ts := ⟨_, rfl⟩
  obtain ⟨L, hL⟩ : ∃ L, L = oddL K ts := ⟨_, rfl⟩
  have hL8 : L.length ≤ 8 := by rw [hL]; exact oddL_le K ts
  obtain ⟨m, hm0⟩ : ∃ m, m = L.length := ⟨_, rfl⟩
  have HM := hideP hm0
  have HV := hideP hV
  have HL := hideP hL
  rw [← hm0] at hL8
  clear hV hL hm0
  have n0 := N1a.out.c0
  have n1 := N1a.out.c1
  go_wp2_with fail
  refine (specSideOdd_any K ao cap' ts _ hn N1a.out.ties).mono ?_
  rw [← HV.out, ← HL.out]
  rintro e w2 ⟨gS, oS, cS, rfl, hRS, hb2⟩
  rw [← HM.out]
  have N2 := hideP (N1a.out.next hb2)
  have T2 := hideP (T1a.out.below hb2 T1a.out.2)
  have HB2 := hideP (HB1a.out.trans (hb2.mono HB1a.out.size))
  have S2 := hideP (row_seen' hRS)
  clear hb2 hRS n0 n1 N1a T1a HB1a
  have n0 := N2.out.c0
  have n1 := N2.out.c1
  go_wp2_with fail
  refine (implSideOdd_cap K ao cap' ts _ hn N2.out.ties T2.out).mono ?_
  rw [← HV.out, ← HL.out]
  rintro e w3 ⟨aoI, cI, rfl, hOI, hb3, hcI⟩
  rw [← HM.out]
  have N3 := hideP (N2.out.next hb3)
  have T3 := hideP (T2.out.below hb3 T2.out.2)
  have HB3 := hideP (HB2.out.trans (hb3.mono HB2.out.size))
  have S3 := hideP (S2.out.next hb3)
  have O3 := hideP hOI
  rw [← HM.out] at S3 O3 hcI
  clear hb3 hOI n0 n1 N2 T2 HB2 S2
  have n0 := N3.out.c0
  have n1 := N3.out.c1
  have hVV : (V != V) = false := by simp
  go_wp2_with fail
  refine (loInts_same _ _ _ _ m (pn L) _ (by omega) O3.out.inside S3.out.row).mono ?_
  rintro e w4 ⟨rfl, hb4⟩
  have N4 := hideP (N3.out.next hb4)
  have T4 := hideP (T3.out.below hb4 T3.out.2)
  have HB4 := hideP (HB3.out.trans (hb4.mono HB3.out.size))
  have S4 := hideP (S3.out.next hb4)
  have O4 := hideP (O3.out.next hb4)
  clear hb4 n0 n1 N3 T3 HB3 S3 O3 hVV
  have n0 := N4.out.c0
  have n1 := N4.out.c1
  cases V with
  | false =>
    have HLN : Hid (m = 0) := hideP (by
      rw [HM.out, HL.out]
      cases hk : okB K ts with
      | false => rw [(oddV_no hk).2]; rfl
      | true =>
        obtain ⟨e1, e2⟩ := oddV_yes hk
        rw [e1] at HV
        have := HV.out
        cases ho : oddS K ts with
        | none => rw [e2, ho]; rfl
        | some t => rw [ho] at this; cases this)
    have hm0 := HLN.out
    have HB5 := hideP HB4.out
    clear N4 T4 HB4 S4 O4 HM n0 n1 hcI
    subst hm0
    go_wp2
    go_ret
    exact ⟨rfl, HB5.out⟩
  | true =>
    have hok : okB K ts = true := by
      cases hk : okB K ts with
      | false => have := HV.out; rw [(oddV_no hk).1] at this; cases this
      | true => rfl
    obtain ⟨e1, e2⟩ := oddV_yes hok
    obtain ⟨tt, ho⟩ : ∃ t, oddS K ts = some t := by
      cases ho : oddS K ts with
      | none => have := HV.out; rw [e1, ho] at this; cases this
      | some t => exact ⟨t, rfl⟩
    have hLW : L = oddW K ts (some tt) := by rw [HL.out, e2, ho]
    obtain ⟨x, y, R, hodd⟩ := odd_ring hok ho
    rw [← hLW] at R hodd
    have HWAY := hideP (R.way hok)
    have HAS : Hid (hasB K ts (y : Int) (x : Int) = true) := hideP (by rw [hasB_ok hok]; exact R.close)
    have h3 := R.len
    have hf := R.fst
    have hl := R.lst
    rw [← HM.out] at h3 hl hodd
    obtain ⟨t, rfl⟩ : ∃ t, m = t + 1 := ⟨m - 1, by omega⟩
    rw [Nat.add_sub_cancel] at hl
    obtain ⟨g, rfl, eY⟩ := O4.out.at (j := 0) (by omega)
    obtain ⟨g2, eg, eX⟩ := O4.out.at (j := t) (by omega)
    cases eg
    have hgl : g < w4.heap.size := by
      rcases O4.out with ⟨h0, _⟩ | ⟨g9, e9, h1, h2, h3⟩
      · omega
      · cases e9; exact h3.2.2
    have eY' : w4.cell? ⟨g, 0, none⟩ = some (.int .i64 (y : Int)) := by rw [eY]; unfold pcellN pn; rw [hf]
    have eX' : w4.cell? ⟨g, t, none⟩ = some (.int .i64 (x : Int)) := by rw [eX]; unfold pcellN pn; rw [hl]
    have nl := N4.out.lt
    have hne : Nonempty (Cls (Below w4.heap.size w4)) := ⟨⟨w4, Below.refl _ _⟩⟩
    have q0 : ∀ u : Cls (Below w4.heap.size w4), u.w.cell? ⟨w1.heap.size, 0, none⟩ = some (.int .i64 K) := fun u => (u.ok.cell (p := ⟨w1.heap.size, 0, none⟩) nl).trans n0
    have q1 : ∀ u : Cls (Below w4.heap.size w4), u.w.cell? ⟨w1.heap.size, 1, none⟩ = some (.slice ao ts.length cap') := fun u => (u.ok.cell (p := ⟨w1.heap.size, 1, none⟩) nl).trans n1
    have q3 : ∀ u : Cls (Below w4.heap.size w4), u.w.cell? ⟨g, 0, none⟩ = some (.int .i64 (y : Int)) := fun u => (u.ok.cell (p := ⟨g, 0, none⟩) hgl).trans eY'
    have q4 : ∀ u : Cls (Below w4.heap.size w4), u.w.cell? ⟨g, t, none⟩ = some (.int .i64 (x : Int)) := fun u => (u.ok.cell (p := ⟨g, t, none⟩) hgl).trans eX'
    have CW : Hid (∀ u : Cls (Below w4.heap.size w4), Calls Tryd.prog 24 #[.agg #[.int .i64 K, .slice ao ts.length cap'], .slice (some ⟨g, 0, none⟩) (t + 1) cI] u.w fun e w'' => e = .returned (.bool true) ∧ ∃ u2 : Cls (Below w4.heap.size w4), w'' = u2.w) := fun u => by
      have hr := ((O4.out.inside.next (B := w4.heap.size) u.ok)).wide u.ok.size
      rw [HM.out] at hr
      have := implWayOk_q K ao _ cap' cI ts L u.w hn (N4.out.next u.ok).ties (by rw [← HM.out]; omega) (by rw [← HM.out]; exact hcI) hr HWAY.out
      rw [← HM.out] at this
      exact Calls.cls (D := Below w4.heap.size w4) (this.mono fun e w2 ⟨he, hb2⟩ => ⟨he, u.ok.trans (hb2.mono u.ok.size)⟩)
    have CN : Hid (∀ u : Cls (Below w4.heap.size w4), Calls Tryd.prog 25 #[.agg #[.int .i64 K, .slice ao ts.length cap'], .int .i64 (y : Int), .int .i64 (x : Int)] u.w fun e w'' => e = .returned (.bool true) ∧ ∃ u2 : Cls (Below w4.heap.size w4), w'' = u2.w) := fun u =>
      Calls.cls (D := Below w4.heap.size w4) ((netHas_s true K ao cap' ts (y : Int) (x : Int) u.w hn (N4.out.next u.ok).ties HAS.out).mono fun e w2 ⟨he, hb2⟩ => ⟨he, u.ok.trans (hb2.mono u.ok.size)⟩)
    have h3' : (3 : Int) ≤ ((t + 1 : Nat) : Int) := by omega
    have h3'' : (3 : Int) ≤ (t : Int) + 1 := by omega
    have hod1 : (((t : Int) + 1) % 2 == 1) = true := by simp; omega
    clear eY eX eY' eX' hf hl hgl R ho e1 e2 hLW hok hodd n0 n1 nl h3
    go_wp2
    refine wp_region_cls (Below w4.heap.size w4) (by kernel_rfl) (by kernel_rfl) (Below.refl _ _).drew ?_
    repeat (go_big_quiet_step (first | (go_at_call 24; refine CW.out _) | (go_at_call 25; refine CN.out _)))
    refine wpQuiet_nil ?_
    intro wq hw'
    have hz : Below w4.heap.size w4 wq := by obtain ⟨u, e⟩ := hw'; rw [e]; exact u.ok
    have HB6 := hideP (HB4.out.trans (hz.mono HB4.out.size))
    clear hw' q0 q1 q3 q4 hne CW CN hz
    go_wp2
    go_ret
    exact ⟨rfl, HB6.out⟩

end Go.Proofs.YtiaeffpjcinilaaDoor
