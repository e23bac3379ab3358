/- laws.loAhead where it answers yes; laws.loRows over two that are the same. -/
import Derived.Test.YthhlmnffacifeaaWAllV
import Derived.Test.YthhlmnffacifeaaMathU
import Derived.Deep.RegionHeld3
namespace Go.Proofs.Ythhlmnffacifeaa
open Go.RowKit
set_option linter.unusedVariables false

theorem loRows_same (a1 a2 : Option Addr) (cap1 cap2 : Nat) (ps : List (List Nat)) (w : World) (h20 : ps.length ≤ 20000000) (h8 : ∀ i, i < ps.length → (ps.getD i []).length ≤ 8) (h1 : AllV w a1 ps) (h2 : AllV w a2 ps) :
    Calls Try.prog 17 #[.slice a1 ps.length cap1, .slice a2 ps.length cap2] w fun e w' => e = .returned (.bool true) ∧ Below w.heap.size w w' := by
  have H1 := hideP h1
  have H2 := hideP h2
  have H8 := hideP h8
  obtain ⟨n, hn⟩ : ∃ n, n = ps.length := ⟨_, rfl⟩
  have HN := hideP hn
  rw [← hn] at h20 ⊢
  clear h1 h2 h8 hn
  go_enter Try.func17, Try.ntmps17
  go_wp2
  go_loopw [5] (fun i wr => ∃ k : Nat, k ≤ n ∧ i = .int .i64 k ∧ AllV wr a1 ps ∧ AllV wr a2 ps ∧ Below w.heap.size w wr) (fun i _ => n - (intOf i).toNat)
  case atStart => exact ⟨0, Nat.zero_le _, rfl, H1.out, H2.out, Below.refl _ _⟩
  case round =>
    clear H1 H2
    obtain ⟨k, hk, rfl, hA, hB, hbr⟩ := hrel
    have HA := hideP hA
    have HB := hideP hB
    have HBR := hideP hbr
    clear hA hB hbr
    by_cases hlt : k < n
    · have hk' : k < ps.length := by have := HN.out; omega
      obtain ⟨g1, o1, r1, k1, rfl, l1, d1, e1⟩ := HA.out.at' k hk'
      obtain ⟨g2, o2, r2, k2, rfl, l2, d2, e2⟩ := HB.out.at' k hk'
      obtain ⟨q, hq⟩ : ∃ q, q = ps.getD k [] := ⟨_, rfl⟩
      have hq8 : q.length ≤ 8 := by rw [hq]; exact H8.out k hk'
      rw [← hq] at d1 d2 e1 e2
      have R1 := hideP e1
      have R2 := hideP e2
      have hk0 : (0 : Int) ≤ (k : Int) := by omega
      have hk1 : (k : Int) < (n : Int) := by omega
      clear e1 e2 hk' hq
      have HAd := hideP (HA.out.next (Below.refl _ _).drew)
      have HBd := hideP (HB.out.next (Below.refl _ _).drew)
      have R1d := hideP (R1.out.next (Below.refl _ _).drew)
      have R2d := hideP (R2.out.next (Below.refl _ _).drew)
      have HBRd := hideP HBR.out.drew
      clear HA HB R1 R2 HBR
      go_wp2
      go_region_held3 (fun w' => w'.cell? ⟨g1, o1 + k, none⟩ = some (.slice (some ⟨r1, 0, none⟩) q.length k1) ∧ w'.cell? ⟨g2, o2 + k, none⟩ = some (.slice (some ⟨r2, 0, none⟩) q.length k2)) (first | exact ⟨d16, d26⟩ | exact ⟨d1, d2⟩) (first | (go_at_call 12; refine (loInts_any true _ _ _ _ q q _ (by omega) (by omega) R1d.out R2d.out (by simp)).mono ?_; rintro e w6 ⟨rfl, hb6⟩; have A6 := hideP (HAd.out.next hb6); have B6 := hideP (HBd.out.next hb6); have HB6 := hideP (HBRd.out.trans (hb6.mono HBRd.out.size)); have d16 : w6.cell? ⟨g1, o1 + k, none⟩ = some (.slice (some ⟨r1, 0, none⟩) q.length k1) := ((hb6.cell (p := ⟨g1, o1 + k, none⟩) l1).trans d1); have d26 : w6.cell? ⟨g2, o2 + k, none⟩ = some (.slice (some ⟨r2, 0, none⟩) q.length k2) := ((hb6.cell (p := ⟨g2, o2 + k, none⟩) l2).trans d2); clear hb6))
      go_wp2
      go_roundw
      case rel => exact ⟨k + 1, by omega, by go_num, A6.out, B6.out, HB6.out⟩
      case measure => simp [intOf]; omega
    · obtain rfl : k = n := by omega
      go_wp2
      go_ret
      exact ⟨rfl, HBR.out⟩

theorem loAhead_yes (a1 a2 : Option Addr) (cap1 cap2 : Nat) (p q : List Nat) (w : World) (h8 : p.length ≤ 1000) (h9 : q.length ≤ 1000) (h1 : RowV w w.heap.size a1 p.length (pcellN (pn p))) (h2 : RowV w w.heap.size a2 q.length (pcellN (pn q))) (hv : aheadB p q = true) :
    Calls Try.prog 14 #[.slice a1 p.length cap1, .slice a2 q.length cap2] w fun e w' => e = .returned (.bool true) ∧ Below w.heap.size w w' := by
  by_cases hl : p.length = q.length
  · obtain ⟨n, hnn⟩ : ∃ n, n = p.length := ⟨_, rfl⟩
    have hq : q.length = n := by omega
    have HV : Hid (∀ k, k < n → SameTo p q k → pn p k ≠ pn q k → pn p k < pn q k) := fun k hk hs hne => by
      unfold aheadB at hv
      rw [if_pos hl, lex_at (by omega) (by omega) hs hne] at hv
      simpa using hv
    have HE : Hid (¬ SameTo p q n) := fun h => by
      have e := same_all hl (by rw [← hnn]; exact h)
      unfold aheadB at hv
      rw [if_pos hl, e, lexB_self] at hv
      cases hv
    rw [hq] at h2 h9 ⊢
    rw [← hnn] at h1 h8 ⊢
    have HR1 := hideP h1
    have HR2 := hideP h2
    clear hl hq h1 h2 hv hnn
    go_enter Try.func14, Try.ntmps14
    go_wp2
    go_loopw [5] (fun i wr => ∃ k : Nat, k ≤ n ∧ i = .int .i64 k ∧ SameTo p q k ∧ Below w.heap.size w wr) (fun i _ => n - (intOf i).toNat)
    case atStart => exact ⟨0, Nat.zero_le _, rfl, fun j hj => absurd hj (by omega), by repeat (first | exact Below.refl _ _ | apply Below.drew)⟩
    case round =>
      obtain ⟨k, hk, rfl, hs, hbr⟩ := hrel
      have HS := hideP hs
      have HBR := hideP hbr
      by_cases hlt : k < n
      · obtain ⟨g1, o1, rfl, l1, d1⟩ := HR1.out k hlt
        obtain ⟨g2, o2, rfl, l2, d2⟩ := HR2.out k hlt
        have e1 : wr.cell? ⟨g1, o1 + k, none⟩ = some (.int .i64 (pn p k : Int)) := (hbr.cell (p := ⟨g1, o1 + k, none⟩) l1).trans d1
        have e2 : wr.cell? ⟨g2, o2 + k, none⟩ = some (.int .i64 (pn q k : Int)) := (hbr.cell (p := ⟨g2, o2 + k, none⟩) l2).trans d2
        have hk0 : (0 : Int) ≤ (k : Int) := by omega
        have hk1 : (k : Int) < (n : Int) := by omega
        clear hs hbr d1 d2 l1 l2
        by_cases he : pn p k = pn q k
        · have HS2 : Hid (SameTo p q (k + 1)) := fun j hj => by
            by_cases e : j = k
            · subst e; exact he
            · exact HS.out j (by omega)
          rw [he] at e1
          obtain ⟨z, hz⟩ : ∃ z, z = pn q k := ⟨_, rfl⟩
          rw [← hz] at e1 e2
          clear he hz
          go_wp2
          go_region
          go_wp2
          go_roundw
          case rel => exact ⟨k + 1, by omega, by go_num, HS2.out, by repeat (first | exact HBR.out | apply Below.drew)⟩
          case measure => simp [intOf]; omega
        · have hne : ((pn p k : Int) == (pn q k : Int)) = false := by rw [beq_eq_false_iff_ne]; omega
          have hge := HV.out k hlt HS.out he
          have hd : decide ((pn p k : Int) < (pn q k : Int)) = true := decide_eq_true (by omega)
          clear he hge
          obtain ⟨x, hx⟩ : ∃ x, x = pn p k := ⟨_, rfl⟩
          obtain ⟨z, hz⟩ : ∃ z, z = pn q k := ⟨_, rfl⟩
          rw [← hx, ← hz] at hne hd
          rw [← hx] at e1
          rw [← hz] at e2
          clear hx hz
          have HD : Hid (decide (x < z) = true) := decide_eq_true (by simpa using hd)
          go_wp2
          go_region
          go_wp2
          go_region
          go_wp2
          go_ret
          exact ⟨by show Ending.returned (Value.bool (decide (x < z))) = _; rw [HD.out], by repeat (first | exact HBR.out | apply Below.drew)⟩
      · obtain rfl : k = n := by omega
        exact absurd HS.out HE.out
  · have hne : ((p.length : Int) == (q.length : Int)) = false := by rw [beq_eq_false_iff_ne]; omega
    have hd : decide ((p.length : Int) < (q.length : Int)) = true := by
      unfold aheadB at hv
      rw [if_neg hl] at hv
      have : p.length < q.length := by simpa using hv
      exact decide_eq_true (by omega)
    clear hl hv h1 h2
    obtain ⟨n, hnn⟩ : ∃ n, n = p.length := ⟨_, rfl⟩
    obtain ⟨m, hmm⟩ : ∃ m, m = q.length := ⟨_, rfl⟩
    rw [← hnn, ← hmm] at hne hd
    rw [← hnn, ← hmm]
    rw [← hnn] at h8
    rw [← hmm] at h9
    clear hnn hmm
    have HD : Hid (decide (n < m) = true) := decide_eq_true (by simpa using hd)
    go_enter Try.func14, Try.ntmps14
    go_wp2
    go_ret
    exact ⟨by show Ending.returned (Value.bool (decide (n < m))) = _; rw [HD.out], Below.refl _ _⟩

end Go.Proofs.Ythhlmnffacifeaa
