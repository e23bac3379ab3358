/- Walk of laws.FnWayFind: it returns true. -/
import Derived.Test.YthhlmnffacifeaaDoorWFound
import Derived.Test.YthhlmnffacifeaaDoorPartWReach2
import Derived.Test.YthhlmnffacifeaaDoorWWayOk2
namespace Go.Proofs.YthhlmnffacifeaaDoor
open Go.RowKit
set_option linter.unusedVariables false

theorem found_nil {K : Int} {ts : List (Int × Int)} {a b : Int} (h : foundB K ts a b = false) : findB K ts a b = [] := by
  unfold foundB at h
  unfold findB
  cases e : waysB K ts a b with
  | nil => rfl
  | cons q qs => rw [e] at h; cases h
theorem lp_cn {K : Int} {ts : List (Int × Int)} (hok : NetOk K ts) {b : Nat} : ∀ {d x}, Lp (tieNB ts) b d x → Cn (Tied ts ts.length) x b := by
  intro d
  induction d with
  | zero => intro x h; obtain rfl : x = b := h; exact Cn.refl _
  | succ d ih =>
    rintro x ⟨y, hy, h⟩
    have h1 : Cn (Tied ts ts.length) x y := by
      rcases (tieNB_iff hok).1 hy with q | q
      · exact (Cn.refl _).fwd q
      · exact (Cn.refl _).bwd q
    exact h1.trans (ih h)
theorem cn_lp {K : Int} {ts : List (Int × Int)} (hok : NetOk K ts) {a b : Nat} (h : Cn (Tied ts ts.length) a b) : ∃ d, Lp (tieNB ts) b d a := by
  induction h with
  | refl => exact ⟨0, rfl⟩
  | fwd _ e ih => obtain ⟨d, hd⟩ := ih; exact ⟨d + 1, hd.snoc ((tieNB_iff hok).2 (Or.inl e))⟩
  | bwd _ e ih => obtain ⟨d, hd⟩ := ih; exact ⟨d + 1, hd.snoc ((tieNB_iff hok).2 (Or.inr e))⟩
theorem reach_lp {K : Int} {ts : List (Int × Int)} (hok : NetOk K ts) {x y d : Nat} (h : Lp (tieNB ts) y d x) : reachB ts (x : Int).toNat y = true := by
  unfold reachB
  rw [decide_eq_true_eq, Int.toNat_natCast]
  exact (forest_cn ts ts.length y x).2 (lp_cn hok h).symm
theorem found_reach_no {K : Int} {ts : List (Int × Int)} {a b : Int} (h : foundB K ts a b = false) : (okB K ts && knotB a K) = true → ∀ y : Nat, (y : Int) < K → b = (y : Int) → reachB ts a.toNat y = false := by
  intro hc y hy hb
  simp only [Bool.and_eq_true, knotB, decide_eq_true_eq] at hc
  obtain ⟨hok, h0, h1⟩ := hc
  have N : Nt K ts K.toNat := ⟨hok, by omega⟩
  obtain ⟨x, rfl⟩ : ∃ x : Nat, a = (x : Int) := ⟨a.toNat, by omega⟩
  subst hb
  rw [← Bool.not_eq_true]
  intro hr
  unfold reachB at hr
  rw [decide_eq_true_eq, Int.toNat_natCast] at hr
  obtain ⟨d, hd⟩ := cn_lp N.net ((forest_cn ts ts.length x y).1 hr.symm)
  exact (N.found (a := x) (b := y) (by omega) (by omega)).2 h d hd
theorem last_at {p : List Nat} (h0 : 0 < p.length) : p.getD (p.length - 1) 0 = lastN p := by
  obtain ⟨q, z, rfl⟩ : ∃ q z, p = q ++ [z] := ⟨p.dropLast, p.getLast (by intro e; simp [e] at h0), (List.dropLast_concat_getLast _).symm⟩
  rw [lastN_snoc]; simp
set_option maxHeartbeats 1600000 in
theorem wayFind_walk (bo0 : Option Addr) (n0 cap0 : Nat) (w : World) (hb : BytesIn w bo0 n0) (hnil : bo0 = none → n0 = 0 ∧ cap0 = 0) (hc : n0 ≤ cap0) (hm : cap0 ≤ maxLen) (hT : Tab w) :
    Calls Tryd.prog 3 #[.slice bo0 n0 cap0] w fun e w' => e = .returned (.bool true) ∧ Below w.heap.size w w' := by
  by_cases hl : 1048576 < n0
  · have hl' : (1048576 : Int) < (n0 : Int) := by omega
    have hn' : n0 ≤ 9223372036854775807 := by unfold maxLen at hm; omega
    go_enter Tryd.func3, Tryd.ntmps3
    go_wp2
    go_ret
    exact ⟨rfl, Below.refl _ _⟩
  have hl' : decide ((1048576 : Int) < (n0 : Int)) = false := by simp; omega
  go_enter Tryd.func3, Tryd.ntmps3
  go_wp2_with fail
  refine (drawWayFind_any bo0 n0 cap0 _ hb hnil hc hm).mono ?_
  rintro e w1 ⟨K, ao, cap', ts, a, b, rfl, D1⟩
  have hn : ts.length ≤ 1099511627776 := by have := D1.short; omega
  have HB1 := hideP (D1.bel.trans ((below_one w1 (.cells #[.int .i64 K, .slice ao ts.length cap'] 25)).mono D1.bel.size))
  have N1 := hideP (NetV.new (K := K) (cap := cap') 25 (D1.own.ties (Nat.le_refl _)))
  have T1 := hideP (hT.below HB1.out hT.2)
  clear D1
  obtain ⟨p, hp⟩ : ∃ p, findB K ts a b = p := ⟨_, rfl⟩
  obtain ⟨V, hV⟩ : ∃ V, foundB K ts a b = V := ⟨_, rfl⟩
  have HP := hideP hp
  have HV := hideP hV
  have hp8 : p.length ≤ 8 := by rw [← hp]; exact findB_le K ts a b
  clear hp hV
  clear hT
  go_wp2_with fail
  refine (specFind_v V p K ao cap' ts a b _ hn N1.out.ties HP.out HV.out).mono ?_
  rintro e w2 ⟨aoS, capS, rfl, hoS, hb2⟩
  have N2 := hideP (N1.out.next hb2)
  have HB2 := hideP (HB1.out.trans (hb2.mono HB1.out.size))
  have T2 := hideP (T1.out.below hb2 T1.out.2)
  have S2 := hideP hoS
  clear hb2 N1 HB1 hoS
  have c0 := N2.out.c0
  have c1 := N2.out.c1
  go_wp2_with fail
  refine (implFind_v V p K ao cap' ts a b _ hn N2.out.ties HP.out HV.out).mono ?_
  rintro e w3 ⟨aoW, capW, rfl, hoW, hb3, hcw⟩
  have N3 := hideP (N2.out.next hb3)
  have HB3 := hideP (HB2.out.trans (hb3.mono HB2.out.size))
  have T3 := hideP (T2.out.below hb3 T2.out.2)
  have S3 := hideP (S2.out.next hb3)
  have W3 := hideP hoW
  clear hb3 N2 HB2 S2 hoW c0 c1
  have HRE := hideP (fun (w' : World) h1 h2 => implReach_any K ao cap' ts a w' hn h1 h2)
  cases V
  · have hp0 : p = [] := by rw [← HP.out]; exact found_nil HV.out
    subst hp0
    have HNO := hideP (found_reach_no HV.out)
    clear HP HV
    go_wp2_with fail
    refine (loInts_same _ _ _ _ ([] : List Nat).length (pn []) _ (by simp) W3.out.row S3.out.row).mono ?_
    rintro e w4 ⟨rfl, hb4⟩
    have HB4 := hideP (HB3.out.trans (hb4.mono HB3.out.size))
    have N4 := hideP (N3.out.next hb4)
    have T4 := hideP (T3.out.below hb4 T3.out.2)
    clear hb4 N3 HB3 W3 S3 T3
    have c0 := N4.out.c0
    have c1 := N4.out.c1
    cases hc2 : (okB K ts && knotB a K)
    · have HRN : Hid (reachN K ts a = 0) := by show reachN K ts a = 0; simp [reachN, hc2]
      clear hc2 HNO
      go_wp2_with fail
      refine (HRE.out _ N4.out.ties T4.out).mono ?_
      rw [HRN.out]
      rintro e w5 ⟨aoR, capR, rfl, hoR, hb5⟩
      have HB5 := hideP (HB4.out.trans (hb5.mono HB4.out.size))
      clear hb5 hoR
      go_wp2
      go_ret
      exact ⟨rfl, HB5.out⟩
    · obtain ⟨Kn, hKn, hK0⟩ : ∃ Kn : Nat, K = (Kn : Int) ∧ 0 < Kn := by
        simp only [Bool.and_eq_true, knotB, decide_eq_true_eq] at hc2
        exact ⟨K.toNat, by omega, by omega⟩
      subst hKn
      have HRN : Hid (reachN (Kn : Int) ts a = Kn) := by show reachN (Kn : Int) ts a = Kn; simp [reachN, hc2]
      have hK8 : Kn ≤ 8 := by simp only [Bool.and_eq_true] at hc2; have := (okB_iff.1 hc2.1).2.1; omega
      have HC2 := hideP hc2
      have hKne : ((Kn : Int) == 0) = false := by rw [beq_eq_false_iff_ne]; omega
      clear hc2
      go_wp2_with fail
      refine (HRE.out _ N4.out.ties T4.out).mono ?_
      rw [HRN.out]
      rintro e w5 ⟨aoR, capR, rfl, hoR, hb5⟩
      have HB5 := hideP (HB4.out.trans (hb5.mono HB4.out.size))
      clear hb5
      by_cases hb0 : b < 0
      · have hb0' : decide (b < 0) = true := by simp; omega
        clear hoR HNO
        go_wp2
        go_ret
        exact ⟨rfl, HB5.out⟩
      · by_cases hbK : (Kn : Int) ≤ b
        · have hb0' : decide (b < 0) = false := by simp; omega
          have hbK' : decide ((Kn : Int) ≤ b) = true := by simp; omega
          clear hoR HNO
          go_wp2
          go_ret
          exact ⟨rfl, HB5.out⟩
        · obtain ⟨y, rfl⟩ : ∃ y : Nat, b = (y : Int) := ⟨b.toNat, by omega⟩
          have hyK : y < Kn := by omega
          obtain ⟨g, rfl, _, _, ow⟩ : ∃ g, aoR = some ⟨g, 0, none⟩ ∧ w4.heap.size ≤ g ∧ g < w5.heap.size ∧ OwnI w5 g Kn (bcell (reachB ts a.toNat)) := by
            rcases hoR with ⟨h1, _⟩ | h1
            · omega
            · exact h1
          have hr : reachB ts a.toNat y = false := HNO.out HC2.out y (by omega) rfl
          have cy : w5.cell? ⟨g, y, none⟩ = some (.bool false) := by rw [ow.1 y hyK, bcell, hr]
          have hy0 : ¬ ((y : Int) < 0) := by omega
          have hy1 : ¬ ((Kn : Int) ≤ (y : Int)) := by omega
          have hy2 : decide ((y : Int) < 0) = false := decide_eq_false hy0
          have hy3 : decide ((Kn : Int) ≤ (y : Int)) = false := decide_eq_false hy1
          have hy4 : (0 : Int) ≤ (y : Int) := by omega
          have hy5 : (y : Int) < (Kn : Int) := by omega
          clear hoR HNO hr ow hb0 hbK
          go_wp2
          go_ret
          exact ⟨rfl, HB5.out⟩
  · obtain ⟨Kn, x, y, NT, rfl, rfl, hx, hy, h8⟩ := found_net HV.out
    have hK := NT.K
    subst hK
    have hway := ways_way (find_mem HV.out)
    rw [HP.out] at hway
    have hp0 := hway.2.2.2.1
    have HWAY : Hid (wayB (Kn : Int) ts (p.map fun (x : Nat) => (x : Int)) = true) := Pw.way NT.ok hway.1 hp0 (by rw [hway.2.2.1]; exact hway.2.2.2.2.2)
    have HF0 : Hid (pn p 0 = x) := by have := hway.2.2.1; show p.getD 0 0 = x; omega
    have HFL : Hid (pn p (p.length - 1) = y) := by have h1 := hway.2.1; have h2 := last_at hp0; show p.getD (p.length - 1) 0 = y; rw [h2]; omega
    have HRN : Hid (reachN (Kn : Int) ts (x : Int) = Kn) := by
      show reachN (Kn : Int) ts (x : Int) = Kn
      have : (okB (Kn : Int) ts && knotB (x : Int) (Kn : Int)) = true := by rw [NT.ok]; simp [knotB]; omega
      simp [reachN, this]
    have HRB : Hid (reachB ts (x : Int).toNat y = true) := by
      have := (NT.find_iff hx hy).1 HV.out
      obtain ⟨d, hd⟩ := this
      exact reach_lp NT.net hd
    have hml : (p.map fun (x : Nat) => (x : Int)).length = p.length := by simp
    have hcpw := hcw
    clear hway HP HV NT
    go_wp2_with fail
    refine (loInts_same _ _ _ _ p.length (pn p) _ (by omega) W3.out.row S3.out.row).mono ?_
    rintro e w4 ⟨rfl, hb4⟩
    have HB4 := hideP (HB3.out.trans (hb4.mono HB3.out.size))
    have N4 := hideP (N3.out.next hb4)
    have W4 := hideP (W3.out.next hb4)
    have T4 := hideP (T3.out.below hb4 T3.out.2)
    clear hb4 N3 HB3 W3 S3 T3
    have c0 := N4.out.c0
    have c1 := N4.out.c1
    go_wp2_with fail
    refine (HRE.out _ N4.out.ties T4.out).mono ?_
    rw [HRN.out]
    rintro e w5 ⟨aoR, capR, rfl, hoR, hb5⟩
    have HB5 := hideP (HB4.out.trans (hb5.mono HB4.out.size))
    have N5 := hideP (N4.out.next hb5)
    have W5 := hideP (W4.out.next hb5)
    obtain ⟨g, rfl, _, hgl, ow⟩ : ∃ g, aoR = some ⟨g, 0, none⟩ ∧ w4.heap.size ≤ g ∧ g < w5.heap.size ∧ OwnI w5 g Kn (bcell (reachB ts (x : Int).toNat)) := by
      rcases hoR with ⟨h1, _⟩ | h1
      · omega
      · exact h1
    have cR : w5.cell? ⟨g, y, none⟩ = some (.bool true) := by rw [ow.1 y hy, bcell, HRB.out]
    clear hb5 N4 HB4 W4 T4 c0 c1 hoR ow
    have c0 := N5.out.c0
    have c1 := N5.out.c1
    have HOK : Hid (∀ w', TiesIn w' w'.heap.size ao ts → IntsIn w' w'.heap.size aoW (p.map fun (x : Nat) => (x : Int)) → Calls Tryd.prog 10 #[.agg #[.int .i64 (Kn : Int), .slice ao ts.length cap'], .slice aoW p.length capW] w' fun e w'' => e = .returned (.bool true) ∧ Below w'.heap.size w' w'') := fun w' h1 h2 => by
      have := implWayOk_any (Kn : Int) ao aoW cap' capW ts (p.map fun (x : Nat) => (x : Int)) w' hn h1 (by rw [hml]; omega) (by rw [hml]; exact hcpw) h2
      rw [hml, HWAY.out] at this
      exact this
    go_wp2_with fail
    refine (HOK.out _ N5.out.ties (row_ints W5.out)).mono ?_
    rintro e w6 ⟨rfl, hb6⟩
    have HB6 := hideP (HB5.out.trans (hb6.mono HB5.out.size))
    have W6 := hideP (W5.out.next hb6)
    have cR6 : w6.cell? ⟨g, y, none⟩ = some (.bool true) := (hb6.cell (p := ⟨g, y, none⟩) hgl).trans cR
    obtain ⟨aw, offw, rfl, bW, loW⟩ := row_addr W6.out hp0
    have k0 : w6.cell? ⟨aw, offw, none⟩ = some (.int .i64 (x : Int)) := by have := loW 0 hp0; rw [HF0.out] at this; exact this
    have kL : w6.cell? ⟨aw, offw + (p.length - 1), none⟩ = some (.int .i64 (y : Int)) := by have := loW (p.length - 1) (by omega); rw [HFL.out] at this; exact this
    have q0 : (0 : Int) < (p.length : Int) := by omega
    have q1 : (0 : Int) ≤ (p.length : Int) - 1 := by omega
    have q2 : (p.length : Int) - 1 < (p.length : Int) := by omega
    have q3 : ((p.length : Int) - 1).toNat = p.length - 1 := by omega
    have hy4 : (0 : Int) ≤ (y : Int) := by omega
    have hy5 : (y : Int) < (Kn : Int) := by omega
    clear hb6 N5 HB5 W5 W6 loW c0 c1 cR HOK hml
    go_wp2
    go_ret
    exact ⟨rfl, HB6.out⟩

end Go.Proofs.YthhlmnffacifeaaDoor
