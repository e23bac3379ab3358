/- Walk of laws.FnFlowWeak: it returns true. -/
import Derived.Test.YtoldljbbjhipnaaLFlowThree
import Derived.Test.YtoldljbbjhipnaaWFlowW
namespace Go.Proofs.Ytoldljbbjhipnaa
open Go.RowKit
set_option linter.unusedVariables false

theorem leastJ_le (ts : List (Int × Int)) : ∀ J i, i ≤ J → leastJ ts J ≤ flowV ts 0 (i + 1) := by
  intro J
  induction J with
  | zero => intro i hi; obtain rfl : i = 0 := by omega
            exact Int.le_refl _
  | succ J ih =>
    intro i hi
    show min (leastJ ts J) (flowV ts 0 (J + 2)) ≤ _
    by_cases e : i = J + 1
    · subst e; show min (leastJ ts J) (flowV ts 0 (J + 2)) ≤ flowV ts 0 (J + 2); omega
    · have := ih i (by omega); omega
theorem leastJ_is (ts : List (Int × Int)) : ∀ J, ∃ i, i ≤ J ∧ leastJ ts J = flowV ts 0 (i + 1) := by
  intro J
  induction J with
  | zero => exact ⟨0, Nat.le_refl _, rfl⟩
  | succ J ih =>
    obtain ⟨i, h1, h2⟩ := ih
    by_cases e : flowV ts 0 (J + 2) < leastJ ts J
    · exact ⟨J + 1, Nat.le_refl _, by show min (leastJ ts J) (flowV ts 0 (J + 2)) = flowV ts 0 (J + 2); omega⟩
    · exact ⟨i, by omega, by show min (leastJ ts J) (flowV ts 0 (J + 2)) = _; omega⟩
theorem weak_le {ts : List (Int × Int)} {Kn a b : Nat} (hK : Kn ≤ 8) (hba : b < a) (ha : a < Kn) : leastJ ts (Kn - 2) ≤ flowV ts a b := by
  have l1 : ∀ k, 1 ≤ k → k < Kn → leastJ ts (Kn - 2) ≤ flowV ts 0 k := fun k h1 h2 => by
    have := leastJ_le ts (Kn - 2) (k - 1) (by omega)
    rwa [show k - 1 + 1 = k by omega] at this
  have t : ∀ k, 1 ≤ k → k < Kn → flowV ts k 0 = flowV ts 0 k := fun k h1 h2 => flowV_turn ts (by omega) (by omega) (by omega)
  by_cases e : b = 0
  · rw [e, t a (by omega) ha]; exact l1 a (by omega) ha
  · rcases flow_three (tieNB_turn ts) (a := a) (b := b) (k := 0) (by omega) (by omega) (by omega) (by omega) (by omega) (by omega) with h | h
    · have h1 : flowV ts a 0 ≤ flowV ts a b := h
      rw [t a (by omega) ha] at h1
      exact Int.le_trans (l1 a (by omega) ha) h1
    · have h1 : flowV ts 0 b ≤ flowV ts a b := h
      exact Int.le_trans (l1 b (by omega) (by omega)) h1
theorem weak_is {ts : List (Int × Int)} {Kn : Nat} (hK : Kn ≤ 8) (h2 : 2 ≤ Kn) : ∃ k, 1 ≤ k ∧ k < Kn ∧ flowV ts k 0 = leastJ ts (Kn - 2) := by
  obtain ⟨i, h1, h3⟩ := leastJ_is ts (Kn - 2)
  exact ⟨i + 1, by omega, by omega, by rw [h3]; exact flowV_turn ts (by omega) (by omega) (by omega)⟩
theorem countI_two {Kn : Nat} {ts : List (Int × Int)} (h : okB (Kn : Int) ts = true) {a b : Nat} (ha : a < Kn) (hb : b < Kn) (hab : a ≠ b) : countI (Kn : Int) ts (a : Int) (b : Int) = flowV ts a b := by
  unfold countI twoB knotB
  rw [h, if_pos]
  · rfl
  · simp only [Bool.true_and, Bool.and_eq_true, decide_eq_true_eq]
    omega
theorem weakI_le8 (K : Int) (ts : List (Int × Int)) : -1 ≤ weakI K ts ∧ weakI K ts ≤ 8 := by
  unfold weakI
  split
  · rename_i h
    rw [Bool.and_eq_true, decide_eq_true_eq] at h
    have hK := (okB_iff.1 h.1).2.1
    obtain ⟨i, h1, h2⟩ := leastJ_is ts (K.toNat - 2)
    have e0 := flowV_nonneg ts (a := 0) (b := i + 1) (by omega) (by omega)
    obtain ⟨F, hF⟩ := (flowN_is (tieNB_turn ts) (a := 0) (b := i + 1) (by omega) (by omega)).2.1
    have e1 := hF.few
    have e2 : flowV ts 0 (i + 1) = flowN (tieNB ts) 0 (i + 1) := rfl
    omega
  · omega
theorem weakI_neg {K : Int} {ts : List (Int × Int)} (h : ¬ weakI K ts < 0) : okB K ts = true ∧ 2 ≤ K := by
  unfold weakI at h
  by_cases e : (okB K ts && decide (2 ≤ K)) = true
  · rw [Bool.and_eq_true, decide_eq_true_eq] at e; exact e
  · rw [if_neg e] at h; omega
theorem implWeak_v (v : Int) (K : Int) (ao : Option Addr) (cap : Nat) (ts : List (Int × Int)) (w : World) (hn : ts.length ≤ 1099511627776) (ht : TiesIn w w.heap.size ao ts) (h : weakI K ts = v) :
    Calls Try.prog 9 #[.agg #[.int .i64 K, .slice ao ts.length cap]] w fun e w' => e = .returned (.int .i64 v) ∧ Below w.heap.size w w' := by
  rw [← h]; exact implFlowWeak_any K ao cap ts w hn ht
theorem specWeak_v (v : Int) (K : Int) (ao : Option Addr) (cap : Nat) (ts : List (Int × Int)) (w : World) (hn : ts.length ≤ 1099511627776) (ht : TiesIn w w.heap.size ao ts) (h : weakI K ts = v) :
    Calls Try.prog 10 #[.agg #[.int .i64 K, .slice ao ts.length cap]] w fun e w' => e = .returned (.int .i64 v) ∧ Below w.heap.size w w' := by
  rw [← h]; exact specFlowWeak_any K ao cap ts w hn ht
set_option maxHeartbeats 1600000 in
theorem flowWeak_walk (bo0 : Option Addr) (n0 cap0 : Nat) (w : World) (hb : BytesIn w bo0 n0) (hnil : bo0 = none → n0 = 0 ∧ cap0 = 0) (hc : n0 ≤ cap0) (hm : cap0 ≤ maxLen) :
    Calls Try.prog 4 #[.slice bo0 n0 cap0] w fun e w' => e = .returned (.bool true) ∧ Below w.heap.size w w' := by
  have hn0' : n0 ≤ 9223372036854775807 := by unfold maxLen at hm; omega
  by_cases hl : 1048576 < n0
  · have hl' : (1048576 : Int) < (n0 : Int) := by omega
    have hl2 : decide (1048576 < (n0 : Int)) = true := by simp; omega
    go_enter Try.func4, Try.ntmps4
    go_wp2
    go_ret
    exact ⟨rfl, Below.refl _ _⟩
  have hl' : decide ((1048576 : Int) < (n0 : Int)) = false := by simp; omega
  go_enter Try.func4, Try.ntmps4
  go_wp2_with fail
  refine (drawFlowWeak_any bo0 n0 cap0 _ hb hnil hc hm).mono ?_
  rintro e w1 ⟨K, ao, cap', ts, rfl, D1⟩
  have hn : ts.length ≤ 1099511627776 := by have := D1.short; omega
  have HB1 := hideP (D1.bel.trans ((below_one w1 (.cells #[.int .i64 K, .slice ao ts.length cap'] 25)).mono D1.bel.size))
  have N1 := hideP (NetV.new (K := K) (cap := cap') 25 (D1.own.ties (Nat.le_refl _)))
  clear D1
  obtain ⟨V, hV⟩ : ∃ V, weakI K ts = V := ⟨_, rfl⟩
  have HV := hideP hV
  have hV8 := weakI_le8 K ts
  rw [hV] at hV8
  clear hV
  go_wp2_with fail
  refine (implWeak_v V K ao cap' ts _ hn N1.out.ties HV.out).mono ?_
  rintro e w2 ⟨rfl, hb2⟩
  have N2 := hideP (N1.out.next hb2)
  have HB2 := hideP (HB1.out.trans (hb2.mono HB1.out.size))
  clear hb2 N1 HB1
  have c0 := N2.out.c0
  have c1 := N2.out.c1
  have hvv : (V != V) = false := by simp
  have hve : (V == V) = true := by simp
  by_cases hneg : V < 0
  · go_wp2_with fail
    refine (specWeak_v V K ao cap' ts _ hn N2.out.ties HV.out).mono ?_
    rintro e w3 ⟨rfl, hb3⟩
    have N3 := hideP (N2.out.next hb3)
    have HB3 := hideP (HB2.out.trans (hb3.mono HB2.out.size))
    clear hb3 N2 HB2 c0 c1
    have c0 := N3.out.c0
    have c1 := N3.out.c1
    go_wp2_with fail
    refine (specWeak_v V K ao cap' ts _ hn N3.out.ties HV.out).mono ?_
    rintro e w4 ⟨rfl, hb4⟩
    have HB4 := hideP (HB3.out.trans (hb4.mono HB3.out.size))
    clear hb4
    go_wp2
    go_ret
    exact ⟨rfl, HB4.out⟩
  · obtain ⟨hok, h2⟩ := weakI_neg (K := K) (ts := ts) (by rw [HV.out]; exact hneg)
    obtain ⟨Kn, rfl⟩ : ∃ n : Nat, K = (n : Int) := ⟨K.toNat, by omega⟩
    have hK8 : Kn ≤ 8 := by have := (okB_iff.1 hok).2.1; omega
    have hK2 : 2 ≤ Kn := by omega
    have HVJ : Hid (V = leastJ ts (Kn - 2)) := hideP (by rw [← HV.out]; unfold weakI; rw [hok, if_pos (by simp; omega)]; simp)
    have HOK := hideP hok
    obtain ⟨k0, hk1, hk2, hk3⟩ := weak_is (ts := ts) hK8 hK2
    have HK3 : Hid (flowV ts k0 0 = V) := hideP (by rw [hk3, ← HVJ.out])
    clear hok hk3 h2
    go_wp2_with fail
    refine (specWeak_v V _ ao cap' ts _ hn N2.out.ties HV.out).mono ?_
    rintro e w3 ⟨rfl, hb3⟩
    have N3 := hideP (N2.out.next hb3)
    have HB3 := hideP (HB2.out.trans (hb3.mono HB2.out.size))
    clear hb3 N2 HB2 c0 c1
    have c0 := N3.out.c0
    go_wp2
    clear c0
    go_loopw [5, 6] (fun sv av wr => ∃ (a : Nat) (s : Bool), a ≤ Kn ∧ av = .int .i64 (a : Int) ∧ sv = .bool s ∧ (k0 < a → s = true) ∧ NetV wr w1.heap.size (Kn : Int) ao cap' ts ∧ Below w.heap.size w wr)
      (fun _ av _ => Kn - (intOf av).toNat)
    case atStart => exact ⟨0, false, Nat.zero_le _, rfl, rfl, fun h => by omega, N3.out, HB3.out⟩
    case round =>
      clear N3 HB3
      obtain ⟨a, s, ha, rfl, rfl, hs, hN, hB⟩ := hrel
      have HN := hideP hN
      have HB := hideP hB
      have c0 := hN.c0
      clear hN hB
      by_cases hlt : a < Kn
      · have hla : (a : Int) < (Kn : Int) := by omega
        go_wp2
        clear c0
        go_loopw [5, 7] (fun sv bv wr => ∃ (b : Nat) (s : Bool), b ≤ a ∧ bv = .int .i64 (b : Int) ∧ sv = .bool s ∧ (k0 < a → s = true) ∧ (k0 = a → 0 < b → s = true) ∧ NetV wr w1.heap.size (Kn : Int) ao cap' ts ∧ Below w.heap.size w wr)
          (fun _ bv _ => a - (intOf bv).toNat)
        case atStart => exact ⟨0, s, Nat.zero_le _, rfl, rfl, hs, fun _ h => by omega, HN.out, HB.out⟩
        case round =>
          clear HN HB hs
          obtain ⟨b, s, hba, rfl, rfl, hs, hs2, hN, hB⟩ := hrel
          have HN := hideP hN
          have HB := hideP hB
          have c0 := hN.c0
          have c1 := hN.c1
          clear hN hB
          by_cases hlb : b < a
          · have hlb' : (b : Int) < (a : Int) := by omega
            obtain ⟨f, hf⟩ : ∃ f, countI (Kn : Int) ts (a : Int) (b : Int) = f := ⟨_, rfl⟩
            have hfV : V ≤ f := by rw [← hf, countI_two HOK.out hlt (by omega) (by omega), HVJ.out]; exact weak_le hK8 hlb hlt
            have HF := hideP hf
            have hfV2 : ¬ f < V := by omega
            have hs3 : Hid (k0 = a → 0 < b + 1 → (s || (f == V)) = true) := hideP (fun e _ => by
              by_cases e0 : b = 0
              · have : f = V := by rw [← HF.out, countI_two HOK.out hlt (by omega) (by omega), e0, ← e]; exact HK3.out
                rw [this]; simp
              · rw [hs2 e (by omega)]; rfl)
            have hs4 : Hid (k0 < a → (s || (f == V)) = true) := hideP (fun e => by rw [hs e]; rfl)
            clear hf hs hs2
            go_wp2_with fail
            refine (implFlow_v f _ ao cap' ts _ _ _ hn HN.out.ties HF.out).mono ?_
            rintro e w5 ⟨rfl, hb5⟩
            have N5 := hideP (HN.out.next hb5)
            have HB5 := hideP (HB.out.trans (hb5.mono HB.out.size))
            clear hb5 HN HB c0 c1
            cases s
            · go_wp2
              go_roundw
              case rel => exact ⟨b + 1, (f == V), by omega, by go_num, by simp, by simpa using hs4.out, by simpa using hs3.out, N5.out, HB5.out⟩
              case measure => simp [intOf]; omega
            · go_wp2
              go_roundw
              case rel => exact ⟨b + 1, true, by omega, by go_num, by simp, fun _ => rfl, fun _ _ => rfl, N5.out, HB5.out⟩
              case measure => simp [intOf]; omega
          · obtain rfl : b = a := by omega
            have hs5 : Hid (k0 < b + 1 → s = true) := hideP (fun e => by
              by_cases e1 : k0 = b
              · exact hs2 e1 (by omega)
              · exact hs (by omega))
            clear hs hs2
            go_wp2
            go_roundw
            case rel => exact ⟨b + 1, s, by omega, by go_num, rfl, hs5.out, HN.out, HB.out⟩
            case measure => simp [intOf]; omega
      · obtain rfl : a = Kn := by omega
        have hst := hs hk2
        subst hst
        go_wp2
        go_ret
        exact ⟨rfl, HB.out⟩

end Go.Proofs.Ytoldljbbjhipnaa
