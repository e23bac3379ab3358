/- Nets in variables of a law; walks of laws.loTies, loNet, loHas, loTie. -/
import Derived.Test.YtloicmngoaccoaaDoorPartWLeaf
import Derived.Test.YtloicmngoaccoaaDoorPartMath
import Derived.Test.YtloicmngoaccoaaDoorWQuiet
import Derived.BigRegion
namespace Go.Proofs.YtloicmngoaccoaaDoor
open Go.RowKit
set_option linter.unusedVariables false

/-- a net in a variable: its two cells, its ties -/
structure NetV (w : World) (A : Nat) (K : Int) (ao : Option Addr) (cap : Nat) (ts : List (Int × Int)) : Prop where
  c0 : w.cell? ⟨A, 0, none⟩ = some (.int .i64 K)
  c1 : w.cell? ⟨A, 1, none⟩ = some (.slice ao ts.length cap)
  lt : A < w.heap.size
  ties : TiesIn w w.heap.size ao ts
theorem NetV.next {w w' : World} {A : Nat} {K : Int} {ao : Option Addr} {cap : Nat} {ts : List (Int × Int)} (h : NetV w A K ao cap ts) (hb : Below w.heap.size w w') : NetV w' A K ao cap ts :=
  ⟨(hb.cell (p := ⟨A, 0, none⟩) h.lt).trans h.c0, (hb.cell (p := ⟨A, 1, none⟩) h.lt).trans h.c1, Nat.lt_of_lt_of_le h.lt hb.size, (h.ties.below hb (Nat.le_refl _)).wide hb.size⟩
theorem NetV.new {w : World} {K : Int} {ao : Option Addr} {cap : Nat} {ts : List (Int × Int)} (t : TypeId) (h : TiesIn w w.heap.size ao ts) : NetV (w.alloc (.cells #[.int .i64 K, .slice ao ts.length cap] t)) w.heap.size K ao cap ts :=
  ⟨by simp, by simp, by simp, (h.below (below_one _ _) (Nat.le_refl _)).wide (by simp)⟩

set_option maxHeartbeats 400000 in
theorem loTies_same (a1 a2 : Option Addr) (cap1 cap2 : Nat) (ts : List (Int × Int)) (w : World) (hn : ts.length ≤ 1099511627776) (h1 : TiesIn w w.heap.size a1 ts) (h2 : TiesIn w w.heap.size a2 ts) :
    Calls Tryd.prog 29 #[.slice a1 ts.length cap1, .slice a2 ts.length cap2] w fun e w' => e = .returned (.bool true) ∧ Below w.heap.size w w' := by
  obtain ⟨n, hnn⟩ : ∃ n, n = ts.length := ⟨_, rfl⟩
  have HN : Hid (n = ts.length) := hnn
  rw [← hnn] at hn ⊢
  clear hnn
  go_enter Tryd.func29, Tryd.ntmps29
  go_wp2
  go_loopw [5] (fun i wr => ∃ k : Nat, k ≤ n ∧ i = .int .i64 k ∧ Below w.heap.size w wr)
    (fun i _ => n - (intOf i).toNat)
  case atStart => exact ⟨0, Nat.zero_le _, rfl, Below.refl _ _⟩
  case round =>
    obtain ⟨k, hk, rfl, hbel⟩ := hrel
    by_cases hlt : k < n
    · obtain ⟨b, off, rfl, hbw, c0, c1⟩ := h1 k (by rw [← HN.out]; exact hlt)
      obtain ⟨b2, off2, rfl, hbw2, e0, e1⟩ := h2 k (by rw [← HN.out]; exact hlt)
      have c0' : wr.cell? ⟨b, off + k * 2, none⟩ = some (.int .i64 (tA ts k)) := (hbel.cell (p := ⟨b, off + k * 2, none⟩) hbw).trans c0
      have c1' : wr.cell? ⟨b, off + k * 2 + 1, none⟩ = some (.int .i64 (tB ts k)) := (hbel.cell (p := ⟨b, off + k * 2 + 1, none⟩) hbw).trans c1
      have e0' : wr.cell? ⟨b2, off2 + k * 2, none⟩ = some (.int .i64 (tA ts k)) := (hbel.cell (p := ⟨b2, off2 + k * 2, none⟩) hbw2).trans e0
      have e1' : wr.cell? ⟨b2, off2 + k * 2 + 1, none⟩ = some (.int .i64 (tB ts k)) := (hbel.cell (p := ⟨b2, off2 + k * 2 + 1, none⟩) hbw2).trans e1
      obtain ⟨x, hx⟩ : ∃ x, x = tA ts k := ⟨_, rfl⟩
      obtain ⟨y, hy⟩ : ∃ y, y = tB ts k := ⟨_, rfl⟩
      rw [← hx] at c0' e0'; rw [← hy] at c1' e1'
      have hk0 : (0 : Int) ≤ (k : Int) := by omega
      have hk1 : (k : Int) < (n : Int) := by omega
      clear c0 c1 e0 e1 hx hy h1 h2
      go_wp2
      go_region
      go_wp2
      go_roundw
      case rel => exact ⟨k + 1, by omega, by go_num, hbel.drew⟩
      case measure => simp [intOf]; omega
    · have hkn : k = n := by omega
      subst hkn
      go_wp2
      go_ret
      exact ⟨rfl, hbel⟩


set_option maxHeartbeats 400000 in
theorem loHas_any (ao : Option Addr) (cap : Nat) (ts : List (Int × Int)) (a b : Int) (w : World) (hn : ts.length ≤ 1099511627776) (ht : TiesIn w w.heap.size ao ts) :
    Calls Tryd.prog 27 #[.slice ao ts.length cap, .agg #[.int .i64 a, .int .i64 b]] w fun e w' => e = .returned (.bool (tiedB ts a b)) ∧ Below w.heap.size w w' := by
  obtain ⟨n, hnn⟩ : ∃ n, n = ts.length := ⟨_, rfl⟩
  have HN : Hid (n = ts.length) := hnn
  rw [← hnn] at hn ⊢
  clear hnn
  go_enter Tryd.func27, Tryd.ntmps27
  go_wp2
  go_loopw [5] (fun i wr => ∃ k : Nat, k ≤ n ∧ i = .int .i64 k ∧ (∀ i, i < k → ¬ (tA ts i = a ∧ tB ts i = b)) ∧ Below (w.heap.size + 1) (w.alloc (.cells #[.int .i64 a, .int .i64 b] 35)) wr)
    (fun i _ => n - (intOf i).toNat)
  case atStart => exact ⟨0, Nat.zero_le _, rfl, fun i hi => absurd hi (by omega), Below.refl _ _⟩
  case round =>
    obtain ⟨k, hk, rfl, hno, hnx⟩ := hrel
    have HB : Hid (Below w.heap.size w wr) := (below_one _ _).trans (hnx.mono (by omega))
    by_cases hlt : k < n
    · have hkl : k < ts.length := by rw [← HN.out]; exact hlt
      obtain ⟨bb, off, rfl, hbw, c0, c1⟩ := ht k hkl
      have c0' : wr.cell? ⟨bb, off + k * 2, none⟩ = some (.int .i64 (tA ts k)) := (hnx.cell (p := ⟨bb, off + k * 2, none⟩) (by simp; omega)).trans ((World.cell?_alloc_past _ _ _ hbw).trans c0)
      have c1' : wr.cell? ⟨bb, off + k * 2 + 1, none⟩ = some (.int .i64 (tB ts k)) := (hnx.cell (p := ⟨bb, off + k * 2 + 1, none⟩) (by simp; omega)).trans ((World.cell?_alloc_past _ _ _ hbw).trans c1)
      have d0 : wr.cell? ⟨w.heap.size, 0, none⟩ = some (.int .i64 a) := (hnx.cell (p := ⟨w.heap.size, 0, none⟩) (by simp)).trans (by simp)
      have d1 : wr.cell? ⟨w.heap.size, 1, none⟩ = some (.int .i64 b) := (hnx.cell (p := ⟨w.heap.size, 1, none⟩) (by simp)).trans (by simp)
      obtain ⟨x, hx⟩ : ∃ x, x = tA ts k := ⟨_, rfl⟩
      obtain ⟨y, hy⟩ : ∃ y, y = tB ts k := ⟨_, rfl⟩
      rw [← hx] at c0'; rw [← hy] at c1'
      have HX : Hid (x = tA ts k ∧ y = tB ts k) := ⟨hx, hy⟩
      have hk0 : (0 : Int) ≤ (k : Int) := by omega
      have hk1 : (k : Int) < (n : Int) := by omega
      have HNX : Hid (Below (w.heap.size + 1) (w.alloc (.cells #[.int .i64 a, .int .i64 b] 35)) wr) := hnx
      clear c0 c1 hx hy ht hnx
      by_cases hxy : x = a ∧ y = b
      · obtain ⟨rfl, rfl⟩ := hxy
        have HR : Hid (tiedB ts x y = true) := tiedB_iff.2 ⟨k, hkl, HX.out.1.symm, HX.out.2.symm⟩
        clear hno
        go_wp2
        go_region
        go_wp2
        go_ret
        exact ⟨by rw [HR.out]; rfl, HB.out.drew⟩
      · have HR : Hid (∀ i, i < k + 1 → ¬ (tA ts i = a ∧ tB ts i = b)) := by
          intro i hi
          by_cases hik : i = k
          · subst hik; rw [← HX.out.1, ← HX.out.2]; exact hxy
          · exact hno i (by omega)
        have hor : x ≠ a ∨ y ≠ b := by
          by_cases hxa : x = a
          · exact Or.inr (fun e => hxy ⟨hxa, e⟩)
          · exact Or.inl hxa
        clear hno hxy
        rcases hor with hne | hne
        · have hne' : (x == a) = false := by simp [hne]
          go_wp2
          go_region
          go_wp2
          go_roundw
          case rel => exact ⟨k + 1, by omega, by go_num, HR.out, HNX.out.drew⟩
          case measure => simp [intOf]; omega
        · have hne' : (y == b) = false := by simp [hne]
          go_wp2
          go_region
          go_wp2
          go_roundw
          case rel => exact ⟨k + 1, by omega, by go_num, HR.out, HNX.out.drew⟩
          case measure => simp [intOf]; omega
    · have hkn : k = n := by omega
      subst hkn
      have HR : Hid (tiedB ts a b = false) := by
        rw [← Bool.not_eq_true, tiedB_iff]
        rintro ⟨i, hi, h⟩
        exact hno i (by rw [HN.out]; exact hi) h
      clear hno
      go_wp2
      go_ret
      exact ⟨by rw [HR.out]; rfl, HB.out⟩
set_option maxHeartbeats 400000 in
theorem loTie_any (a b : Int) (w : World) :
    Calls Tryd.prog 25 #[.int .i64 a, .int .i64 b] w fun e w' => e = .returned (.agg #[.int .i64 (min a b), .int .i64 (max a b)]) ∧ Below w.heap.size w w' := by
  by_cases h : a < b
  · have e1 : min a b = a := by omega
    have e2 : max a b = b := by omega
    rw [e1, e2]
    clear e1 e2
    go_enter Tryd.func25, Tryd.ntmps25
    go_wp2
    refine bodyPost_ret (v := .agg #[.int .i64 a, .int .i64 b]) (by simp [results, Tryd.results25, go_sem]) rfl ⟨rfl, ?_⟩
    first | exact below_one _ _ | exact below_two _ _ _ | exact below_three _ _ _ _
  · have e1 : min a b = b := by omega
    have e2 : max a b = a := by omega
    rw [e1, e2]
    clear e1 e2
    go_enter Tryd.func25, Tryd.ntmps25
    go_wp2
    refine bodyPost_ret (v := .agg #[.int .i64 b, .int .i64 a]) (by simp [results, Tryd.results25, go_sem]) rfl ⟨rfl, ?_⟩
    first | exact below_one _ _ | exact below_two _ _ _ | exact below_three _ _ _ _

end Go.Proofs.YtloicmngoaccoaaDoor
