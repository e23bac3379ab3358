/- Walk of laws.FnSideEven: it returns true. -/
import Derived.Test.YtiaeffpjcinilaaDoorLSideOf
import Derived.Test.YtiaeffpjcinilaaDoorWFindI
import Derived.Test.YtiaeffpjcinilaaDoorPartWReach
namespace Go.Proofs.YtiaeffpjcinilaaDoor
open Go.RowKit
set_option linter.unusedVariables false

theorem Pw.two {ts : List (Int × Int)} {c : Nat → Bool} (hc : Two ts c) {p : List Nat} (hp : Pw (tieNB ts) p) : ∀ i, i < p.length → (c (p.getD i 0) == c (p.getD 0 0)) = decide (i % 2 = 0) := by
  intro i
  induction i with
  | zero => intro _; simp
  | succ i ih =>
    intro hi
    have h1 := ih (by omega)
    have h2 := hc _ _ (hp.tie i hi)
    generalize c (p.getD i 0) = x at *
    generalize c (p.getD (i + 1) 0) = y at *
    generalize c (p.getD 0 0) = z at *
    rcases Nat.mod_two_eq_zero_or_one i with e | e
    · rw [e] at h1
      rw [show (i + 1) % 2 = 1 by omega]
      cases x <;> cases y <;> cases z <;> simp_all
    · rw [e] at h1
      rw [show (i + 1) % 2 = 0 by omega]
      cases x <;> cases y <;> cases z <;> simp_all
/-- between two of one side each way has an even number of ties -/
theorem way_even {K : Int} {ts : List (Int × Int)} (hV : sideV K ts = true) {Kn a b : Nat} (hK : K = (Kn : Int)) (ha : a < Kn) (hb : b < Kn) (hf : foundB K ts (a : Int) (b : Int) = true) : (findB K ts (a : Int) (b : Int)).length % 2 = 1 ↔ pn (sideL K ts) a = pn (sideL K ts) b := by
  obtain ⟨hok, hsb⟩ := side_sides hV
  obtain ⟨hc, hv⟩ := two_of hsb
  have hx : ∀ k, k < Kn → xi ((sdL K ts).map fun (x : Nat) => (x : Int)) k = (pn (sideL K ts) k : Int) := fun k hk => by
    rw [sideL_yes hV]; exact xi_cI _ k
  obtain ⟨h1, h2, h3, h4, _, _⟩ := ways_way (find_mem hf)
  have h5 := Pw.two hc h1 ((findB K ts (a : Int) (b : Int)).length - 1) (by omega)
  have hl : (findB K ts (a : Int) (b : Int)).getD ((findB K ts (a : Int) (b : Int)).length - 1) 0 = b := by
    rw [lastN_at h4] at h2; omega
  have h0 : (findB K ts (a : Int) (b : Int)).getD 0 0 = a := by omega
  rw [hl, h0] at h5
  have e5 : ((xi ((sdL K ts).map fun (x : Nat) => (x : Int)) b == 1) == (xi ((sdL K ts).map fun (x : Nat) => (x : Int)) a == 1)) = decide (((findB K ts (a : Int) (b : Int)).length - 1) % 2 = 0) := h5
  have va := hv a (by omega)
  have vb := hv b (by omega)
  rw [hx a ha] at e5 va
  rw [hx b hb] at e5 vb
  have va' : pn (sideL K ts) a = 0 ∨ pn (sideL K ts) a = 1 := by omega
  have vb' : pn (sideL K ts) b = 0 ∨ pn (sideL K ts) b = 1 := by omega
  rcases va' with ea | ea <;> rcases vb' with eb | eb <;> rw [ea, eb] at e5 ⊢ <;> simp at e5 ⊢ <;> omega
set_option maxHeartbeats 1600000 in
theorem sideEven_walk (bo : Option Addr) (n cap : Nat) (w : World) (hb : BytesIn w bo n) (hnil : bo = none → n = 0 ∧ cap = 0) (hc : n ≤ cap) (hm : cap ≤ maxLen) (hT : Tab w) :
    Calls Tryd.prog 10 #[.slice bo n cap] w fun e w' => e = .returned (.bool true) ∧ Below w.heap.size w w' := by
  by_cases hl : 1048576 < n
  · have hl' : (1048576 : Int) < (n : Int) := by omega
    have hn' : n ≤ 9223372036854775807 := by unfold maxLen at hm; omega
    go_enter Tryd.func10, Tryd.ntmps10
    go_wp2
    go_ret
    exact ⟨rfl, Below.refl _ _⟩
  have hl' : decide ((1048576 : Int) < (n : Int)) = false := by simp; omega
  go_enter Tryd.func10, Tryd.ntmps10
  go_wp2_with fail
  refine (drawSideOf_any bo n cap _ hb hnil hc hm).mono ?_
  rintro e w1 ⟨K, ao, cap', ts, rfl, D1⟩
  have hn : ts.length ≤ 1099511627776 := by have := D1.short; omega
  have HB1 := hideP D1.bel
  have T1 := hideP (hT.below D1.bel hT.2)
  have hoN := D1.own
  clear D1 hT
  have T1a := hideP (T1.out.below (below_one w1 (.cells #[.int .i64 K, .slice ao ts.length cap'] 25)) T1.out.2)
  have HB1a := hideP (HB1.out.trans ((below_one w1 (.cells #[.int .i64 K, .slice ao ts.length cap'] 25)).mono HB1.out.size))
  have N1a := hideP (NetV.new (K := K) (cap := cap') 25 (hoN.ties (Nat.le_refl _)))
  clear hoN
  obtain ⟨V, hV⟩ : ∃ V, V = sideV K ts := ⟨_, rfl⟩
  obtain ⟨L, hL⟩ : ∃ L, L = sideL K ts := ⟨_, rfl⟩
  have hL8 : L.length ≤ 8 := by rw [hL]; exact sideL_le8 K ts
  obtain ⟨m, hm0⟩ : ∃ m, m = L.length := ⟨_, rfl⟩
  have HM := hideP hm0
  have HV := hideP hV
  have HL := hideP hL
  rw [← hm0] at hL8
  clear hV hL hm0
  have n0 := N1a.out.c0
  have n1 := N1a.out.c1
  go_wp2_with fail
  refine (implSideOf_any K ao cap' ts _ hn N1a.out.ties T1a.out).mono ?_
  rw [← HV.out, ← HL.out]
  rintro e w2 ⟨aoI, cI, rfl, hOI, hb2⟩
  rw [← HM.out] at hOI ⊢
  have N2 := hideP (N1a.out.next hb2)
  have T2 := hideP (T1a.out.below hb2 T1a.out.2)
  have HB2 := hideP (HB1a.out.trans (hb2.mono HB1a.out.size))
  have O2 := hideP hOI
  clear hb2 hOI n0 n1 N1a T1a HB1a
  have n0 := N2.out.c0
  have n1 := N2.out.c1
  go_wp2_with fail
  refine (specSideOf_any K ao cap' ts _ hn N2.out.ties).mono ?_
  rw [← HV.out, ← HL.out]
  rintro e w3 ⟨gS, oS, cS, rfl, hRS, hb3⟩
  have S3 := hideP (row_seen' hRS)
  rw [← HM.out] at S3 ⊢
  have N3 := hideP (N2.out.next hb3)
  have T3 := hideP (T2.out.below hb3 T2.out.2)
  have HB3 := hideP (HB2.out.trans (hb3.mono HB2.out.size))
  have O3 := hideP (O2.out.next hb3)
  clear hb3 hRS n0 n1 N2 T2 HB2 O2
  have n0 := N3.out.c0
  have n1 := N3.out.c1
  have hVV : (V != V) = false := by simp
  have hVE : (V == V) = true := by simp
  go_wp2_with fail
  refine (loInts_same _ _ _ _ m (pn L) _ (by omega) O3.out.inside S3.out.row).mono ?_
  rintro e w4 ⟨rfl, hb4⟩
  have N4 := hideP (N3.out.next hb4)
  have T4 := hideP (T3.out.below hb4 T3.out.2)
  have HB4 := hideP (HB3.out.trans (hb4.mono HB3.out.size))
  have S4 := hideP (S3.out.next hb4)
  have O4 := hideP (O3.out.next hb4)
  clear hb4 n0 n1 N3 T3 HB3 S3 O3 hVV
  have n0 := N4.out.c0
  have n1 := N4.out.c1
  cases V with
  | false =>
    clear n0 n1
    go_wp2_with fail
    refine (loInts_same _ _ _ _ m (pn L) _ (by omega) O4.out.inside S4.out.row).mono ?_
    rintro e w5 ⟨rfl, hb5⟩
    have HB5 := hideP (HB4.out.trans (hb5.mono HB4.out.size))
    clear hb5 N4 T4 HB4 S4 O4 HM
    go_wp2
    go_ret
    exact ⟨rfl, HB5.out⟩
  | true =>
    obtain ⟨hok, _⟩ := side_sides HV.out.symm
    have HOK := hideP hok
    have HLS := hideP (HL.out.trans (sideL_yes HV.out.symm))
    obtain ⟨Kn, hKn⟩ : ∃ n : Nat, K = (n : Int) := ⟨K.toNat, by have := (okB_iff.1 hok).1; omega⟩
    have hK8 : Kn ≤ 8 := by have := (okB_iff.1 hok).2.1; omega
    subst hKn
    have HMK : Hid (m = Kn) := hideP (by rw [HM.out, HLS.out, sdL_len, Int.toNat_natCast])
    have HEV := hideP (fun (a b : Nat) (ha : a < Kn) (hb : b < Kn) hf => way_even HV.out.symm rfl ha hb hf)
    rw [← HL.out] at HEV
    clear hok
    go_wp2
    go_loopw [8] (fun iv wr => ∃ a : Nat, a ≤ Kn ∧ iv = .int .i64 (a : Int) ∧ Below w4.heap.size w4 wr) (fun iv _ => Kn - (intOf iv).toNat)
    case atStart => exact ⟨0, Nat.zero_le _, rfl, Below.refl _ _⟩
    case round =>
      clear n0 n1
      obtain ⟨a, ha, rfl, hBr⟩ := hrel
      have n0 := (N4.out.next hBr).c0
      have n1 := (N4.out.next hBr).c1
      have HBr := hideP hBr
      clear hBr
      by_cases hlt : a < Kn
      · have ha1 : (a : Int) < (Kn : Int) := by omega
        go_wp2
        go_loopw [9] (fun iv wr2 => ∃ b : Nat, b ≤ a ∧ iv = .int .i64 (b : Int) ∧ Below w4.heap.size w4 wr2) (fun iv _ => a - (intOf iv).toNat)
        case atStart => exact ⟨0, Nat.zero_le _, rfl, HBr.out⟩
        case round =>
          clear n0 n1
          obtain ⟨b, hbl, rfl, hBr2⟩ := hrel
          have n0 := (N4.out.next hBr2).c0
          have n1 := (N4.out.next hBr2).c1
          have HBr2 := hideP hBr2
          clear hBr2
          by_cases hlt2 : b < a
          · have hb1 : (b : Int) < (a : Int) := by omega
            have HE := hideP (HEV.out a b hlt (by omega))
            have hkm : (a : Int) < (m : Int) := by have := HMK.out; omega
            have hkm2 : (b : Int) < (m : Int) := by omega
            have NR := hideP (N4.out.next HBr2.out)
            have OR := hideP (O4.out.next HBr2.out)
            obtain ⟨N, hN⟩ : ∃ N, N = (findB (Kn : Int) ts (a : Int) (b : Int)).length := ⟨_, rfl⟩
            obtain ⟨F, hF⟩ : ∃ F, F = foundB (Kn : Int) ts (a : Int) (b : Int) := ⟨_, rfl⟩
            have HNN := hideP hN
            have HFF := hideP hF
            rw [← hN, ← hF] at HE
            clear hN hF
            go_wp2_with fail
            refine (implFind_any (Kn : Int) ao cap' ts (a : Int) (b : Int) _ hn NR.out.ties).mono ?_
            rw [← HNN.out, ← HFF.out]
            rintro e w6 ⟨aoF, cF, rfl, _, hb6, _⟩
            have HB6 := hideP (HBr2.out.trans (hb6.mono HBr2.out.size))
            have O6 := hideP (OR.out.next hb6)
            clear hb6 n0 n1 NR OR
            cases F with
            | false =>
              go_wp2
              have hne : Nonempty (Cls (Below w6.heap.size w6)) := ⟨⟨w6, Below.refl _ _⟩⟩
              refine wp_region_cls (Below w6.heap.size w6) (by kernel_rfl) (by kernel_rfl) (Below.refl _ _).drew ?_
              repeat (go_big_quiet_step (fail))
              refine wpQuiet_nil ?_
              intro wq hw'
              have hq : Below w6.heap.size w6 wq := by obtain ⟨u, e⟩ := hw'; rw [e]; exact u.ok
              clear hw'
              have HNQ := hideP (HB6.out.trans (hq.mono HB6.out.size))
              clear hq
              go_wp2
              exact ⟨⟨b + 1, by omega, by go_num, HNQ.out⟩, by simp [intOf]; omega⟩
            | true =>
              obtain ⟨gO, rfl, eO⟩ := O6.out.at (j := a) (by omega)
              obtain ⟨gO2, eg, eO2⟩ := O6.out.at (j := b) (by omega)
              cases eg
              unfold pcellN at eO eO2
              obtain ⟨sa, hsa⟩ : ∃ sa, sa = pn L a := ⟨_, rfl⟩
              obtain ⟨sb, hsb⟩ : ∃ sb, sb = pn L b := ⟨_, rfl⟩
              have hE := HE.out rfl
              rw [← hsa] at eO hE
              rw [← hsb] at eO2 hE
              have hE2 : (N % 2 = 1 ∧ sa = sb) ∨ (N % 2 = 0 ∧ sa ≠ sb) := by omega
              clear hsa hsb HE hE
              have hne : Nonempty (Cls (Below w6.heap.size w6)) := ⟨⟨w6, Below.refl _ _⟩⟩
              have hlo : gO < w6.heap.size := by
                rcases O6.out with ⟨h0, _⟩ | ⟨g9, e9, h1, h2, h3⟩
                · omega
                · cases e9; exact h3.2.2
              have q3 : ∀ u : Cls (Below w6.heap.size w6), u.w.cell? ⟨gO, a, none⟩ = some (.int .i64 (sa : Int)) := fun u => (u.ok.cell (p := ⟨gO, a, none⟩) hlo).trans eO
              have q4 : ∀ u : Cls (Below w6.heap.size w6), u.w.cell? ⟨gO, b, none⟩ = some (.int .i64 (sb : Int)) := fun u => (u.ok.cell (p := ⟨gO, b, none⟩) hlo).trans eO2
              have ha0 : (0 : Int) ≤ (a : Int) := by omega
              have hb0 : (0 : Int) ≤ (b : Int) := by omega
              clear eO eO2 hlo
              rcases hE2 with ⟨p1, p2⟩ | ⟨p1, p2⟩
              · subst p2
                have p1' : ((N : Int) % 2 == 1) = true := by simp; omega
                clear p1
                go_wp2
                refine wp_region_cls (Below w6.heap.size w6) (by kernel_rfl) (by kernel_rfl) (Below.refl _ _).drew ?_
                repeat (go_big_quiet_step (fail))
                refine wpQuiet_nil ?_
                intro wq hw'
                have hq : Below w6.heap.size w6 wq := by obtain ⟨u, e⟩ := hw'; rw [e]; exact u.ok
                clear hw'
                have HNQ := hideP (HB6.out.trans (hq.mono HB6.out.size))
                clear hq
                go_wp2
                exact ⟨⟨b + 1, by omega, by go_num, HNQ.out⟩, by simp [intOf]; omega⟩
              · have p1' : ((N : Int) % 2 == 1) = false := by simp; omega
                have p2' : ((sa : Int) == (sb : Int)) = false := by rw [beq_eq_false_iff_ne]; omega
                clear p1 p2
                go_wp2
                refine wp_region_cls (Below w6.heap.size w6) (by kernel_rfl) (by kernel_rfl) (Below.refl _ _).drew ?_
                repeat (go_big_quiet_step (fail))
                refine wpQuiet_nil ?_
                intro wq hw'
                have hq : Below w6.heap.size w6 wq := by obtain ⟨u, e⟩ := hw'; rw [e]; exact u.ok
                clear hw'
                have HNQ := hideP (HB6.out.trans (hq.mono HB6.out.size))
                clear hq
                go_wp2
                exact ⟨⟨b + 1, by omega, by go_num, HNQ.out⟩, by simp [intOf]; omega⟩
          · obtain rfl : b = a := by omega
            go_wp2
            exact ⟨⟨b + 1, by omega, by go_num, HBr2.out⟩, by simp [intOf]; omega⟩
      · obtain rfl : a = Kn := by omega
        have HB9 := hideP (HB4.out.trans (HBr.out.mono HB4.out.size))
        go_wp2
        go_ret
        exact ⟨rfl, HB9.out⟩

end Go.Proofs.YtiaeffpjcinilaaDoor
