/- Walks of pairBit at every pair, has, impl.NetHas, l1Tie, l1Has, spec.NetHas. -/
import Derived.Test.YtljnjpjnadlmhaaWSpecOk
import Derived.Test.YtljnjpjnadlmhaaMath
namespace Go.Proofs.Ytljnjpjnadlmhaa
open Go.RowKit
set_option linter.unusedVariables false

theorem pbit_yes {a b : Int} (h0 : 0 ≤ min a b) (h1 : min a b < max a b) (h2 : max a b < 8) : pbit a b = pb (min a b) (max a b) := by
  unfold pbit; rw [if_neg (by omega)]
theorem pbit_no {a b : Int} (h : min a b < 0 ∨ min a b = max a b ∨ 8 ≤ max a b) : pbit a b = 0 := by
  unfold pbit; rw [if_pos h]

set_option maxHeartbeats 400000 in
theorem pairBit_any (a b : Int) (w : World) :
    Calls Try.prog 61 #[.int .i64 a, .int .i64 b] w fun e w' => e = .returned (.int .u64 ((pbit a b : Nat) : Int)) ∧ w' = w := by
  obtain ⟨lo, hlo⟩ : ∃ lo, lo = min a b := ⟨_, rfl⟩
  obtain ⟨hi, hhi⟩ : ∃ hi, hi = max a b := ⟨_, rfl⟩
  by_cases hb : lo < 0 ∨ lo = hi ∨ 8 ≤ hi
  · have HZ : Hid (pbit a b = 0) := pbit_no (by rw [← hlo, ← hhi]; exact hb)
    go_enter Try.func61, Try.ntmps61
    go_wp2
    all_goals (go_ret; exact ⟨by rw [HZ.out]; rfl, rfl⟩)
  · by_cases hab : a < b
    · have e1 : min a b = a := by omega
      have e2 : max a b = b := by omega
      have HP : Hid (pbit a b = pb a b) := by
        have := pbit_yes (a := a) (b := b) (by omega) (by omega) (by omega)
        rw [e1, e2] at this; exact this
      rw [HP.out]
      exact pairBit_yes a b w (by omega) hab (by omega)
    · have hba : b < a := by omega
      have e1 : min a b = b := by omega
      have e2 : max a b = a := by omega
      have HP : Hid (pbit a b = pb b a) := by
        have := pbit_yes (a := a) (b := b) (by omega) (by omega) (by omega)
        rw [e1, e2] at this; exact this
      have h0 : 0 ≤ b := by omega
      have h8 : a < 8 := by omega
      rw [HP.out]
      clear hlo hhi hb e1 e2 hab
      go_enter Try.func61, Try.ntmps61
      go_wp2
      · exfalso
        have h : (b < 0 ∨ (b == a) = true) ∨ 8 ≤ a := by assumption
        simp at h; omega
      · go_ret
        exact ⟨ret_int (wrap_pow b a h0 hba h8), rfl⟩

theorem and_nat (p q : Nat) (hp : p < 2 ^ 64) (hq : q < 2 ^ 64) : bits .and .u64 (p : Int) (q : Int) = ((p &&& q : Nat) : Int) :=
  bits_and_u64_nat p q (by simpa using hp) (by simpa using hq)

set_option maxHeartbeats 400000 in
theorem has_any (p : Nat) (a b : Int) (w : World) (hp : p < 2 ^ 64) :
    Calls Try.prog 71 #[.int .u64 (p : Int), .int .i64 a, .int .i64 b] w fun e w' => e = .returned (.bool (decide (p &&& pbit a b ≠ 0))) ∧ w' = w := by
  have hand := and_nat p (pbit a b) hp (pbit_lt a b)
  have HD : decide (p &&& pbit a b ≠ 0) = (((p &&& pbit a b : Nat) : Int) != 0) := by
    by_cases h : p &&& pbit a b = 0
    · simp [h]
    · have : ((p &&& pbit a b : Nat) : Int) ≠ 0 := by omega
      rw [bne_iff_ne.2 this]; simp [h]
  rw [HD]
  clear hp HD
  go_enter Try.func71, Try.ntmps71
  go_wp2_with fail
  refine (pairBit_any a b _).mono ?_
  rintro e w' ⟨rfl, rfl⟩
  go_wp2
  go_ret
  exact ⟨rfl, rfl⟩

set_option maxHeartbeats 400000 in
theorem l1Tie_any (a b : Int) (w : World) :
    Calls Try.prog 57 #[.int .i64 a, .int .i64 b] w fun e w' => e = .returned (.agg #[.int .i64 (min a b), .int .i64 (max a b)]) ∧ w' = w.alloc (.cells #[.int .i64 (min a b), .int .i64 (max a b)] 37) := by
  by_cases h : a < b
  · have e1 : min a b = a := by omega
    have e2 : max a b = b := by omega
    rw [e1, e2]
    clear e1 e2
    go_enter Try.func57, Try.ntmps57
    go_wp2
    refine bodyPost_ret (v := .agg #[.int .i64 a, .int .i64 b]) (by simp [results, Try.results57, go_sem]) rfl ⟨rfl, rfl⟩
  · have e1 : min a b = b := by omega
    have e2 : max a b = a := by omega
    rw [e1, e2]
    clear e1 e2
    go_enter Try.func57, Try.ntmps57
    go_wp2
    refine bodyPost_ret (v := .agg #[.int .i64 b, .int .i64 a]) (by simp [results, Try.results57, go_sem]) rfl ⟨rfl, rfl⟩

theorem cell_oned (w : World) (o : Obj) (b i : Nat) (h : b < w.heap.size) : ((w.alloc o).drew).cell? ⟨b, i, none⟩ = w.cell? ⟨b, i, none⟩ := World.cell?_alloc_past _ _ _ h

set_option maxHeartbeats 800000 in
theorem l1Has_any (K : Int) (ao : Option Addr) (cap : Nat) (ts : List (Int × Int)) (a b : Int) (w : World) (hn : ts.length ≤ 1099511627776) (ht : TiesIn w w.heap.size ao ts) :
    Calls Try.prog 41 #[.agg #[.int .i64 K, .slice ao ts.length cap], .int .i64 a, .int .i64 b] w fun e w' => e = .returned (.bool (tiedB ts (min a b) (max a b))) ∧ Below w.heap.size w w' := by
  obtain ⟨n, hnn⟩ : ∃ n, n = ts.length := ⟨_, rfl⟩
  have HN : Hid (n = ts.length) := hnn
  rw [← hnn] at hn ⊢
  clear hnn
  go_enter Try.func41, Try.ntmps41
  go_wp2
  go_loopw [7] (fun i wr => ∃ k : Nat, k ≤ n ∧ i = .int .i64 k ∧ (∀ i, i < k → samePair ts a b i = false) ∧ Below (w.heap.size + 1) (w.alloc (.cells #[.int .i64 K, .slice ao n cap] 25)) wr)
    (fun i _ => n - (intOf i).toNat)
  case atStart => exact ⟨0, Nat.zero_le _, rfl, fun i hi => absurd hi (by omega), Below.refl _ _⟩
  case round =>
    obtain ⟨k, hk, rfl, hno, hnx⟩ := hrel
    have hz : w.heap.size < wr.heap.size := by have := hnx.size; simp at this; omega
    have k1 : wr.cell? ⟨w.heap.size, 1, none⟩ = some (.slice ao n cap) := (hnx.cell (p := ⟨w.heap.size, 1, none⟩) (by simp)).trans (by simp)
    have hbel : Below w.heap.size w wr := (below_one _ _).trans (hnx.mono (by omega))
    by_cases hlt : k < n
    · have hz1 : w.heap.size < wr.heap.size + 1 := by omega
      have hkl : k < ts.length := by rw [← HN.out]; exact hlt
      obtain ⟨bb, off, rfl, hbw, c0, c1⟩ := ht k hkl
      have c0' : wr.cell? ⟨bb, off + k * 2, none⟩ = some (.int .i64 (tA ts k)) := (hnx.cell (p := ⟨bb, off + k * 2, none⟩) (by simp; omega)).trans ((World.cell?_alloc_past _ _ _ hbw).trans c0)
      have c1' : wr.cell? ⟨bb, off + k * 2 + 1, none⟩ = some (.int .i64 (tB ts k)) := (hnx.cell (p := ⟨bb, off + k * 2 + 1, none⟩) (by simp; omega)).trans ((World.cell?_alloc_past _ _ _ hbw).trans c1)
      obtain ⟨x, hx⟩ : ∃ x, x = tA ts k := ⟨_, rfl⟩
      obtain ⟨y, hy⟩ : ∃ y, y = tB ts k := ⟨_, rfl⟩
      obtain ⟨lo, hlo⟩ : ∃ lo, lo = min a b := ⟨_, rfl⟩
      obtain ⟨hi, hhi⟩ : ∃ hi, hi = max a b := ⟨_, rfl⟩
      rw [← hx] at c0'; rw [← hy] at c1'
      have hT := fun w => l1Tie_any a b w
      rw [← hlo, ← hhi] at hT
      have HT : Hid (∀ w, Calls Try.prog 57 #[.int .i64 a, .int .i64 b] w fun e w' => e = .returned (.agg #[.int .i64 lo, .int .i64 hi]) ∧ w' = w.alloc (.cells #[.int .i64 lo, .int .i64 hi] 37)) := hT
      have hS : samePair ts a b k = (decide (x = lo) && decide (y = hi)) := by rw [hx, hy, hlo, hhi]; rfl
      have hbz : bb < wr.heap.size := Nat.lt_of_lt_of_le (by omega) hbel.size
      have hk0 : (0 : Int) ≤ (k : Int) := by omega
      have hk1 : (k : Int) < (n : Int) := by omega
      clear c0 c1 hx hy ht hT
      have HS : Hid (samePair ts a b k = (decide (x = lo) && decide (y = hi))) := hS
      have HNO : Hid (∀ i, i < k → samePair ts a b i = false) := hno
      clear hS hno hlo hhi
      by_cases hx : x = lo ∧ y = hi
      · have HO : Hid (tiedB ts (min a b) (max a b) = true) := tied_at hkl (by rw [HS.out]; simp [hx])
        have hx1 : (x == lo) = true := by simp [hx.1]
        have hx2 : (y == hi) = true := by simp [hx.2]
        clear hx
        go_wp2
        go_region_held3 (fun w' => w'.cell? ⟨bb, off + k * 2, none⟩ = some (.int .i64 x) ∧ w'.cell? ⟨bb, off + k * 2 + 1, none⟩ = some (.int .i64 y) ∧ w'.cell? ⟨w.heap.size, 1, none⟩ = some (.slice (some ⟨bb, off, none⟩) n cap)) (first | (go_keep; done) | exact ⟨(cell_oned _ _ _ _ hbz).trans c0', (cell_oned _ _ _ _ hbz).trans c1', (cell_oned _ _ _ _ hz).trans k1⟩) (first | (go_at_call 57; refine (HT.out _).mono ?_; rintro e w' ⟨rfl, rfl⟩))
        go_wp2
        go_ret
        exact ⟨by rw [HO.out]; rfl, (hbel.alloc hbel.size _).drew⟩
      · have HP : Hid (∀ i, i < k + 1 → samePair ts a b i = false) := by
          intro i hi
          by_cases hik : i = k
          · subst hik; rw [HS.out]; simp; omega
          · exact HNO.out i (by omega)
        by_cases h1 : x = lo
        · have hx1 : (x == lo) = true := by simp [h1]
          have hx2 : (y == hi) = false := by simp; omega
          clear hx h1
          go_wp2
          go_region_held3 (fun w' => w'.cell? ⟨bb, off + k * 2, none⟩ = some (.int .i64 x) ∧ w'.cell? ⟨bb, off + k * 2 + 1, none⟩ = some (.int .i64 y) ∧ w'.cell? ⟨w.heap.size, 1, none⟩ = some (.slice (some ⟨bb, off, none⟩) n cap)) (first | (go_keep; done) | exact ⟨(cell_oned _ _ _ _ hbz).trans c0', (cell_oned _ _ _ _ hbz).trans c1', (cell_oned _ _ _ _ hz).trans k1⟩) (first | (go_at_call 57; refine (HT.out _).mono ?_; rintro e w' ⟨rfl, rfl⟩))
          go_wp2
          go_roundw
          case rel => exact ⟨k + 1, by omega, by go_num, HP.out, (hnx.alloc (by omega) _).drew⟩
          case measure => simp [intOf]; omega
        · have hx1 : (x == lo) = false := by simp [h1]
          clear hx h1
          go_wp2
          go_region_held3 (fun w' => w'.cell? ⟨bb, off + k * 2, none⟩ = some (.int .i64 x) ∧ w'.cell? ⟨bb, off + k * 2 + 1, none⟩ = some (.int .i64 y) ∧ w'.cell? ⟨w.heap.size, 1, none⟩ = some (.slice (some ⟨bb, off, none⟩) n cap)) (first | (go_keep; done) | exact ⟨(cell_oned _ _ _ _ hbz).trans c0', (cell_oned _ _ _ _ hbz).trans c1', (cell_oned _ _ _ _ hz).trans k1⟩) (first | (go_at_call 57; refine (HT.out _).mono ?_; rintro e w' ⟨rfl, rfl⟩))
          go_wp2
          go_roundw
          case rel => exact ⟨k + 1, by omega, by go_num, HP.out, (hnx.alloc (by omega) _).drew⟩
          case measure => simp [intOf]; omega
    · have hkn : k = n := by omega
      subst hkn
      have HO : Hid (tiedB ts (min a b) (max a b) = false) := tied_none (by rw [← HN.out]; exact hno)
      clear hno
      go_wp2
      go_ret
      exact ⟨by rw [HO.out]; rfl, hbel⟩

set_option maxHeartbeats 400000 in
theorem specHas_any (K : Int) (ao : Option Addr) (cap : Nat) (ts : List (Int × Int)) (a b : Int) (w : World) (hn : ts.length ≤ 1099511627776) (ht : TiesIn w w.heap.size ao ts) :
    Calls Try.prog 67 #[.agg #[.int .i64 K, .slice ao ts.length cap], .int .i64 a, .int .i64 b] w fun e w' => e = .returned (.bool (hasB K ts a b)) ∧ Below w.heap.size w w' := by
  have ht1 : TiesIn (w.alloc (.cells #[.int .i64 K, .slice ao ts.length cap] 25)) (w.heap.size + 1) ao ts := (ht.below (below_one _ _) (Nat.le_refl _)).wide (by omega)
  go_enter Try.func67, Try.ntmps67
  go_wp2_with fail
  refine (specOk_any K ao cap ts _ hn (by simpa using ht1)).mono ?_
  rintro e w1 ⟨rfl, hb⟩
  have hb' : Below (w.heap.size + 1) (w.alloc (.cells #[.int .i64 K, .slice ao ts.length cap] 25)) w1 := by simpa using hb
  have hbb : Below w.heap.size w w1 := (below_one _ _).trans (hb'.mono (by omega))
  have c0 : w1.cell? ⟨w.heap.size, 0, none⟩ = some (.int .i64 K) := (hb'.cell (p := ⟨w.heap.size, 0, none⟩) (by simp)).trans (by simp)
  have c1 : w1.cell? ⟨w.heap.size, 1, none⟩ = some (.slice ao ts.length cap) := (hb'.cell (p := ⟨w.heap.size, 1, none⟩) (by simp)).trans (by simp)
  have t1 : TiesIn w1 w1.heap.size ao ts := (ht.below hbb (Nat.le_refl _)).wide hbb.size
  clear hb hb' ht1
  cases hok : okB K ts
  · have HH : Hid (hasB K ts a b = false) := hasB_no hok
    clear hok
    go_wp2
    go_ret
    exact ⟨by rw [HH.out]; rfl, hbb⟩
  · have HH : Hid (hasB K ts a b = tiedB ts (min a b) (max a b)) := hasB_ok hok
    clear hok
    go_wp2_with fail
    refine (l1Has_any K ao cap ts a b _ hn t1).mono ?_
    rintro e w2 ⟨rfl, hb2⟩
    rw [← HH.out]
    go_wp2
    go_ret
    exact ⟨rfl, hbb.trans (hb2.mono hbb.size)⟩

end Go.Proofs.Ytljnjpjnadlmhaa
