/- Texts put together: WSpecOk, WHas, WBase. -/
import Derived.Test.YtljnjpjnadlmhaaPartWLeaf
import Derived.Deep.RegionHeld3
import Derived.Test.YtljnjpjnadlmhaaMath
/- Walk of spec.NetOk. -/
namespace Go.Proofs.Ytljnjpjnadlmhaa
open Go.RowKit
set_option linter.unusedVariables false

theorem cell_three (w : World) (o p q : Obj) (b i : Nat) (h : b < w.heap.size) : ((((w.alloc o).alloc p).alloc q).drew).cell? ⟨b, i, none⟩ = w.cell? ⟨b, i, none⟩ := by
  show (((w.alloc o).alloc p).alloc q).cell? ⟨b, i, none⟩ = _
  rw [World.cell?_alloc_past _ _ _ (by simp; omega), World.cell?_alloc_past _ _ _ (by simp; omega), World.cell?_alloc_past _ _ _ h]

theorem new_three0 (w : World) (u v : Value) (t : TypeId) (p q : Obj) : ((((w.alloc (.cells #[u, v] t)).alloc p).alloc q).drew).cell? ⟨w.heap.size, 0, none⟩ = some u := by
  show (((w.alloc (.cells #[u, v] t)).alloc p).alloc q).cell? ⟨w.heap.size, 0, none⟩ = _
  rw [World.cell?_alloc_past _ _ _ (by simp; omega), World.cell?_alloc_past _ _ _ (by simp)]; simp
theorem new_three1 (w : World) (u v : Value) (t : TypeId) (p q : Obj) : ((((w.alloc (.cells #[u, v] t)).alloc p).alloc q).drew).cell? ⟨w.heap.size, 1, none⟩ = some v := by
  show (((w.alloc (.cells #[u, v] t)).alloc p).alloc q).cell? ⟨w.heap.size, 1, none⟩ = _
  rw [World.cell?_alloc_past _ _ _ (by simp; omega), World.cell?_alloc_past _ _ _ (by simp)]; simp

set_option maxHeartbeats 800000 in
theorem specOk_any (K : Int) (ao : Option Addr) (cap : Nat) (ts : List (Int × Int)) (w : World) (hn : ts.length ≤ 1099511627776) (ht : TiesIn w w.heap.size ao ts) :
    Calls Try.prog 40 #[.agg #[.int .i64 K, .slice ao ts.length cap]] w fun e w' => e = .returned (.bool (okB K ts)) ∧ Below w.heap.size w w' := by
  by_cases hK : K < 0 ∨ 8 < K
  · have hno := not_ok_knots (ts := ts) hK
    rw [hno]
    have hK' : K < 0 ∨ 8 < K := hK
    clear hno hK
    go_enter Try.func40, Try.ntmps40
    go_wp2_with fail
    refine (in_no K 0 8 _ hK').mono ?_
    rintro e w1 ⟨rfl, rfl⟩
    go_wp2
    go_ret
    exact ⟨rfl, below_one _ _⟩
  · have hK0 : 0 ≤ K := by omega
    have hK8 : K ≤ 8 := by omega
    clear hK
    obtain ⟨n, hnn⟩ : ∃ n, n = ts.length := ⟨_, rfl⟩
    have HN : Hid (n = ts.length) := hnn
    rw [← hnn] at hn ⊢
    clear hnn
    by_cases hlong : 64 < n
    · have HO : Hid (okB K ts = false) := not_ok_long (by rw [← HN.out]; exact hlong)
      have hl : (64 : Int) < (n : Int) := by omega
      go_enter Try.func40, Try.ntmps40
      go_wp2_with fail
      refine (in_yes K 0 8 _ hK0 hK8).mono ?_
      rintro e w1 ⟨rfl, rfl⟩
      go_wp2
      go_ret
      exact ⟨by rw [HO.out]; rfl, below_one _ _⟩
    · have hl : (n : Int) ≤ 64 := by omega
      have d3 : decide ((64 : Int) < (n : Int)) = false := by simp; omega
      clear hlong
      go_enter Try.func40, Try.ntmps40
      go_wp2_with fail
      refine (in_yes K 0 8 _ hK0 hK8).mono ?_
      rintro e w1 ⟨rfl, rfl⟩
      go_wp2
      go_loopw [3] (fun i wr => ∃ k : Nat, k ≤ n ∧ i = .int .i64 k ∧ GoodTo K ts k ∧ Below (w.heap.size + 1) (w.alloc (.cells #[.int .i64 K, .slice ao n cap] 25)) wr)
        (fun i _ => n - (intOf i).toNat)
      case atStart => exact ⟨0, Nat.zero_le _, rfl, fun i hi => absurd hi (by omega), Below.refl _ _⟩
      case round =>
        obtain ⟨k, hk, rfl, hgood, hnx⟩ := hrel
        have hz : w.heap.size < wr.heap.size := by have := hnx.size; simp at this; omega
        have k0 : wr.cell? ⟨w.heap.size, 0, none⟩ = some (.int .i64 K) := (hnx.cell (p := ⟨w.heap.size, 0, none⟩) (by simp)).trans (by simp)
        have k1 : wr.cell? ⟨w.heap.size, 1, none⟩ = some (.slice ao n cap) := (hnx.cell (p := ⟨w.heap.size, 1, none⟩) (by simp)).trans (by simp)
        have hbel : Below w.heap.size w wr := (below_one _ _).trans (hnx.mono (by omega))
        by_cases hlt : k < n
        · have hz1 : w.heap.size < wr.heap.size + 1 := by omega
          have hkl : k < ts.length := by rw [← HN.out]; exact hlt
          obtain ⟨b, off, rfl, hbw, c0, c1⟩ := ht k hkl
          have c0' : wr.cell? ⟨b, off + k * 2, none⟩ = some (.int .i64 (tA ts k)) := (hnx.cell (p := ⟨b, off + k * 2, none⟩) (by simp; omega)).trans ((World.cell?_alloc_past _ _ _ hbw).trans c0)
          have c1' : wr.cell? ⟨b, off + k * 2 + 1, none⟩ = some (.int .i64 (tB ts k)) := (hnx.cell (p := ⟨b, off + k * 2 + 1, none⟩) (by simp; omega)).trans ((World.cell?_alloc_past _ _ _ hbw).trans c1)
          obtain ⟨x, hx⟩ : ∃ x, x = tA ts k := ⟨_, rfl⟩
          obtain ⟨y, hy⟩ : ∃ y, y = tB ts k := ⟨_, rfl⟩
          rw [← hx] at c0'; rw [← hy] at c1'
          clear c0 c1
          have HB : ¬ TieOk K x y → Hid (okB K ts = false) := fun h => not_ok_tie hkl (by rw [← hx, ← hy]; exact h)
          have HX : Hid (x = tA ts k ∧ y = tB ts k) := ⟨hx, hy⟩
          clear hx hy
          have hx8 : x ≤ 9223372036854775806 ∨ K - 1 < x := by omega
          by_cases h1 : 0 ≤ x ∧ x ≤ K - 1
          · have e1 : inB x 0 (K - 1) = true := by simp [inB, h1]
            have hx7 : x ≤ 7 := by omega
            have hx0 : 0 ≤ x := h1.1
            by_cases h2 : x + 1 ≤ y ∧ y ≤ K - 1
            · have e2 : inB y (x + 1) (K - 1) = true := by simp [inB, h2]
              have hgt : TieOk K x y := ⟨h1.1, by omega, by omega⟩
              by_cases hk0 : k = 0
              · have HG : Hid (GoodTo K ts (k + 1)) := good_snoc hgood ⟨by rw [← HX.out.1, ← HX.out.2]; exact hgt, fun h => absurd h (by omega)⟩
                have dk : decide ((0 : Int) < (k : Int)) = false := by simp; omega
                have dk2 : decide (0 < k) = false := by simp; omega
                clear HB ht hgood h1 h2 hgt hx8 hk0
                go_wp2
                go_quiet ((go_at_call 55; exact Calls.quiet_of_same (in_any _ _ _ _)))
                go_wp2
                go_roundw
                case rel => exact ⟨k + 1, by omega, by go_num, HG.out, below_drewN (hnx.alloc (by omega) _) _⟩
                case measure => simp [intOf]; omega
              · obtain ⟨j, rfl⟩ : ∃ j, k = j + 1 := ⟨k - 1, by omega⟩
                have dk : decide ((0 : Int) < (j : Int) + 1) = true := decide_eq_true (by omega)
                have hkp : (0 : Int) < (j : Int) + 1 := by omega
                obtain ⟨b', off', hbo, hbw', p0, p1⟩ := ht j (by omega)
                simp only [Option.some.injEq, Addr.mk.injEq, and_true] at hbo
                obtain ⟨rfl, rfl⟩ := hbo
                have p0' : wr.cell? ⟨b, off + j * 2, none⟩ = some (.int .i64 (tA ts j)) := (hnx.cell (p := ⟨b, off + j * 2, none⟩) (by simp; omega)).trans ((World.cell?_alloc_past _ _ _ hbw).trans p0)
                have p1' : wr.cell? ⟨b, off + j * 2 + 1, none⟩ = some (.int .i64 (tB ts j)) := (hnx.cell (p := ⟨b, off + j * 2 + 1, none⟩) (by simp; omega)).trans ((World.cell?_alloc_past _ _ _ hbw).trans p1)
                obtain ⟨px, hpx⟩ : ∃ px, px = tA ts j := ⟨_, rfl⟩
                obtain ⟨py, hpy⟩ : ∃ py, py = tB ts j := ⟨_, rfl⟩
                rw [← hpx] at p0'; rw [← hpy] at p1'
                have hL : GoodAt K ts (j + 1) ↔ lessB px py x y = true := by
                  constructor
                  · intro g; have := g.2 (by omega); rw [hpx, hpy, HX.out.1, HX.out.2]; exact this
                  · intro g; rw [hpx, hpy, HX.out.1, HX.out.2] at g; exact ⟨by rw [← HX.out.1, ← HX.out.2]; exact hgt, fun _ => g⟩
                have hbz : b < wr.heap.size := by omega
                have hbz1 : b < wr.heap.size + 1 := by omega
                have hbz2 : b < wr.heap.size + 1 + 1 := by omega
                have hz2 : w.heap.size < wr.heap.size + 1 + 1 := by omega
                clear p0 p1 hpx hpy HB ht h1 h2 hgt hx8 hk0 hbw'
                have hs : wr.heap.size < wr.heap.size + 1 := by omega
                have eK : IntKind.i64.wrap (K - 1) = K - 1 := by rw [IntKind.wrap_i64]; omega
                have eX : IntKind.i64.wrap (x + 1) = x + 1 := by rw [IntKind.wrap_i64]; omega
                have ek : IntKind.i64.wrap ((j : Int) + 1 - 1) = (j : Int) := by rw [IntKind.wrap_i64]; omega
                have ek' : IntKind.i64.wrap (j : Int) = (j : Int) := by rw [IntKind.wrap_i64]; omega
                have eb2 : (j : Int) < (n : Int) := by omega
                have eb3 : j < n := by omega
                by_cases hga : lessB px py x y = true
                · have HG : Hid (GoodTo K ts (j + 1 + 1)) := good_snoc hgood (hL.2 hga)
                  clear hL hgood
                  go_wp2
                  go_region_held3 (fun w' => w'.cell? ⟨wr.heap.size, 0, none⟩ = some (.int .i64 x) ∧ w'.cell? ⟨wr.heap.size, 1, none⟩ = some (.int .i64 y) ∧ w'.cell? ⟨w.heap.size, 0, none⟩ = some (.int .i64 K) ∧ w'.cell? ⟨w.heap.size, 1, none⟩ = some (.slice (some ⟨b, off, none⟩) n cap) ∧ w'.cell? ⟨b, off + j * 2, none⟩ = some (.int .i64 px) ∧ w'.cell? ⟨b, off + j * 2 + 1, none⟩ = some (.int .i64 py)) (first | (go_keep; done) | exact ⟨new_three0 _ _ _ _ _ _, new_three1 _ _ _ _ _ _, (cell_three _ _ _ _ _ _ hz).trans k0, (cell_three _ _ _ _ _ _ hz).trans k1, (cell_three _ _ _ _ _ _ hbz).trans p0', (cell_three _ _ _ _ _ _ hbz).trans p1'⟩) (first | (go_at_call 55; refine (in_is true _ _ _ _ ?_).mono ?_; (first | (rw [eX, eK]; exact e2) | (rw [eK]; exact e1) | exact e1 | exact e2); rintro e w' ⟨rfl, rfl⟩) | (go_at_call 64; refine (less_is true _ _ _ _ _ hga).mono ?_; rintro e w' ⟨rfl, rfl⟩))
                  go_wp2
                  go_roundw
                  case rel => exact ⟨j + 1 + 1, by omega, by go_num, HG.out, (((hnx.alloc (by omega) _).alloc (by simp; omega) _).alloc (by simp; omega) _).drew⟩
                  case measure => simp [intOf]; omega
                · have hga' : lessB px py x y = false := by simpa using hga
                  have HO : Hid (okB K ts = false) := not_ok_at hkl (fun g => hga (hL.1 g))
                  clear hL hgood hga
                  go_wp2
                  go_region_held3 (fun w' => w'.cell? ⟨wr.heap.size, 0, none⟩ = some (.int .i64 x) ∧ w'.cell? ⟨wr.heap.size, 1, none⟩ = some (.int .i64 y) ∧ w'.cell? ⟨w.heap.size, 0, none⟩ = some (.int .i64 K) ∧ w'.cell? ⟨w.heap.size, 1, none⟩ = some (.slice (some ⟨b, off, none⟩) n cap) ∧ w'.cell? ⟨b, off + j * 2, none⟩ = some (.int .i64 px) ∧ w'.cell? ⟨b, off + j * 2 + 1, none⟩ = some (.int .i64 py)) (first | (go_keep; done) | exact ⟨new_three0 _ _ _ _ _ _, new_three1 _ _ _ _ _ _, (cell_three _ _ _ _ _ _ hz).trans k0, (cell_three _ _ _ _ _ _ hz).trans k1, (cell_three _ _ _ _ _ _ hbz).trans p0', (cell_three _ _ _ _ _ _ hbz).trans p1'⟩) (first | (go_at_call 55; refine (in_is true _ _ _ _ ?_).mono ?_; (first | (rw [eX, eK]; exact e2) | (rw [eK]; exact e1) | exact e1 | exact e2); rintro e w' ⟨rfl, rfl⟩) | (go_at_call 64; refine (less_is false _ _ _ _ _ hga').mono ?_; rintro e w' ⟨rfl, rfl⟩))
                  go_wp2
                  go_ret
                  exact ⟨by rw [HO.out]; rfl, (((hbel.alloc hbel.size _).alloc (by simp; omega) _).alloc (by simp; omega) _).drew⟩
            · have e2 : inB y (x + 1) (K - 1) = false := by simp [inB]; omega
              have HO := HB (fun h => by obtain ⟨a, b, c⟩ := h; omega)
              clear HB ht hgood h1 h2 hx8
              go_wp2
              go_quiet ((go_at_call 55; exact Calls.quiet_of_same (in_any _ _ _ _)))
              go_wp2
              go_ret
              exact ⟨by rw [HO.out]; rfl, below_drewN (hbel.alloc hbel.size _) _⟩
          · have HO := HB (fun h => by obtain ⟨a, b, c⟩ := h; omega)
            have e1 : inB x 0 (K - 1) = false := by simp [inB]; omega
            clear HB h1 ht hgood hx8
            go_wp2
            go_quiet ((go_at_call 55; exact Calls.quiet_of_same (in_any _ _ _ _)))
            go_wp2
            go_ret
            exact ⟨by rw [HO.out]; rfl, below_drewN (hbel.alloc hbel.size _) _⟩
        · have hkn : k = n := by omega
          subst hkn
          have HO : Hid (okB K ts = true) := ok_end hK0 hK8 (by rw [← HN.out]; exact hgood)
          go_wp2
          go_ret
          exact ⟨by rw [HO.out]; rfl, hbel⟩
set_option maxHeartbeats 400000 in
theorem l1Knot_at (K : Int) (ao : Option Addr) (cap : Nat) (ts : List (Int × Int)) (k : Int) (w : World) (hn : ts.length ≤ 1099511627776) (ht : TiesIn w w.heap.size ao ts) :
    Calls Try.prog 32 #[.agg #[.int .i64 K, .slice ao ts.length cap], .int .i64 k] w fun e w' => e = .returned (.bool (okB K ts && knotB k K)) ∧ Below w.heap.size w w' := by
  have ht1 : TiesIn (w.alloc (.cells #[.int .i64 K, .slice ao ts.length cap] 25)) (w.heap.size + 1) ao ts := (ht.below (below_one _ _) (Nat.le_refl _)).wide (by omega)
  go_enter Try.func32, Try.ntmps32
  go_wp2_with fail
  refine (specOk_any K ao cap ts _ hn (by simpa using ht1)).mono ?_
  rintro e w1 ⟨rfl, hb⟩
  have hb' : Below (w.heap.size + 1) (w.alloc (.cells #[.int .i64 K, .slice ao ts.length cap] 25)) w1 := by simpa using hb
  have hbb : Below w.heap.size w w1 := (below_one _ _).trans (hb'.mono (by omega))
  have c0 : w1.cell? ⟨w.heap.size, 0, none⟩ = some (.int .i64 K) := (hb'.cell (p := ⟨w.heap.size, 0, none⟩) (by simp)).trans (by simp)
  clear hb hb' ht1
  cases hok : okB K ts
  · have HH : Hid ((okB K ts && knotB k K) = false) := by rw [hok]; rfl
    clear hok
    go_wp2
    go_ret
    exact ⟨by rw [HH.out]; rfl, hbb⟩
  · obtain ⟨hK0, hK8, _⟩ := okB_iff.1 hok
    have HE : Hid ((okB K ts && knotB k K) = inB k 0 (K - 1)) := by
      show (okB K ts && knotB k K) = inB k 0 (K - 1)
      rw [hok, Bool.true_and, knotB, inB]
      congr 1
      by_cases h : k < K
      · rw [decide_eq_true h, decide_eq_true (by omega)]
      · rw [decide_eq_false h, decide_eq_false (by omega)]
    clear hok
    go_wp2_with fail
    refine (in_any k 0 (K - 1) _).mono ?_
    rintro e w2 ⟨rfl, rfl⟩
    go_wp2
    go_ret
    exact ⟨by rw [HE.out]; rfl, hbb⟩
theorem l1Knot_v (v : Bool) (K : Int) (ao : Option Addr) (cap : Nat) (ts : List (Int × Int)) (k : Int) (w : World) (hn : ts.length ≤ 1099511627776) (ht : TiesIn w w.heap.size ao ts) (h : (okB K ts && knotB k K) = v) :
    Calls Try.prog 32 #[.agg #[.int .i64 K, .slice ao ts.length cap], .int .i64 k] w fun e w' => e = .returned (.bool v) ∧ Below w.heap.size w w' := by
  rw [← h]; exact l1Knot_at K ao cap ts k w hn ht

end Go.Proofs.Ytljnjpjnadlmhaa

/- Walks of pairBit at every pair, has, impl.NetHas, l1Tie, l1Has, spec.NetHas. -/
namespace Go.Proofs.Ytljnjpjnadlmhaa
open Go.RowKit
set_option linter.unusedVariables false

theorem pbit_yes {a b : Int} (h0 : 0 ≤ min a b) (h1 : min a b < max a b) (h2 : max a b < 8) : pbit a b = pb (min a b) (max a b) := by
  unfold pbit; rw [if_neg (by omega)]
theorem pbit_no {a b : Int} (h : min a b < 0 ∨ min a b = max a b ∨ 8 ≤ max a b) : pbit a b = 0 := by
  unfold pbit; rw [if_pos h]

set_option maxHeartbeats 400000 in
theorem pairBit_any (a b : Int) (w : World) :
    Calls Try.prog 61 #[.int .i64 a, .int .i64 b] w fun e w' => e = .returned (.int .u64 ((pbit a b : Nat) : Int)) ∧ w' = w := by
  obtain ⟨lo, hlo⟩ : ∃ lo, lo = min a b := ⟨_, rfl⟩
  obtain ⟨hi, hhi⟩ : ∃ hi, hi = max a b := ⟨_, rfl⟩
  by_cases hb : lo < 0 ∨ lo = hi ∨ 8 ≤ hi
  · have HZ : Hid (pbit a b = 0) := pbit_no (by rw [← hlo, ← hhi]; exact hb)
    go_enter Try.func61, Try.ntmps61
    go_wp2
    all_goals (go_ret; exact ⟨by rw [HZ.out]; rfl, rfl⟩)
  · by_cases hab : a < b
    · have e1 : min a b = a := by omega
      have e2 : max a b = b := by omega
      have HP : Hid (pbit a b = pb a b) := by
        have := pbit_yes (a := a) (b := b) (by omega) (by omega) (by omega)
        rw [e1, e2] at this; exact this
      rw [HP.out]
      exact pairBit_yes a b w (by omega) hab (by omega)
    · have hba : b < a := by omega
      have e1 : min a b = b := by omega
      have e2 : max a b = a := by omega
      have HP : Hid (pbit a b = pb b a) := by
        have := pbit_yes (a := a) (b := b) (by omega) (by omega) (by omega)
        rw [e1, e2] at this; exact this
      have h0 : 0 ≤ b := by omega
      have h8 : a < 8 := by omega
      rw [HP.out]
      clear hlo hhi hb e1 e2 hab
      go_enter Try.func61, Try.ntmps61
      go_wp2
      · exfalso
        have h : (b < 0 ∨ (b == a) = true) ∨ 8 ≤ a := by assumption
        simp at h; omega
      · go_ret
        exact ⟨ret_int (wrap_pow b a h0 hba h8), rfl⟩

theorem and_nat (p q : Nat) (hp : p < 2 ^ 64) (hq : q < 2 ^ 64) : bits .and .u64 (p : Int) (q : Int) = ((p &&& q : Nat) : Int) :=
  bits_and_u64_nat p q (by simpa using hp) (by simpa using hq)

set_option maxHeartbeats 400000 in
theorem has_any (p : Nat) (a b : Int) (w : World) (hp : p < 2 ^ 64) :
    Calls Try.prog 71 #[.int .u64 (p : Int), .int .i64 a, .int .i64 b] w fun e w' => e = .returned (.bool (decide (p &&& pbit a b ≠ 0))) ∧ w' = w := by
  have hand := and_nat p (pbit a b) hp (pbit_lt a b)
  have HD : decide (p &&& pbit a b ≠ 0) = (((p &&& pbit a b : Nat) : Int) != 0) := by
    by_cases h : p &&& pbit a b = 0
    · simp [h]
    · have : ((p &&& pbit a b : Nat) : Int) ≠ 0 := by omega
      rw [bne_iff_ne.2 this]; simp [h]
  rw [HD]
  clear hp HD
  go_enter Try.func71, Try.ntmps71
  go_wp2_with fail
  refine (pairBit_any a b _).mono ?_
  rintro e w' ⟨rfl, rfl⟩
  go_wp2
  go_ret
  exact ⟨rfl, rfl⟩

set_option maxHeartbeats 400000 in
theorem l1Tie_any (a b : Int) (w : World) :
    Calls Try.prog 57 #[.int .i64 a, .int .i64 b] w fun e w' => e = .returned (.agg #[.int .i64 (min a b), .int .i64 (max a b)]) ∧ w' = w.alloc (.cells #[.int .i64 (min a b), .int .i64 (max a b)] 37) := by
  by_cases h : a < b
  · have e1 : min a b = a := by omega
    have e2 : max a b = b := by omega
    rw [e1, e2]
    clear e1 e2
    go_enter Try.func57, Try.ntmps57
    go_wp2
    refine bodyPost_ret (v := .agg #[.int .i64 a, .int .i64 b]) (by simp [results, Try.results57, go_sem]) rfl ⟨rfl, rfl⟩
  · have e1 : min a b = b := by omega
    have e2 : max a b = a := by omega
    rw [e1, e2]
    clear e1 e2
    go_enter Try.func57, Try.ntmps57
    go_wp2
    refine bodyPost_ret (v := .agg #[.int .i64 b, .int .i64 a]) (by simp [results, Try.results57, go_sem]) rfl ⟨rfl, rfl⟩

theorem cell_oned (w : World) (o : Obj) (b i : Nat) (h : b < w.heap.size) : ((w.alloc o).drew).cell? ⟨b, i, none⟩ = w.cell? ⟨b, i, none⟩ := World.cell?_alloc_past _ _ _ h

set_option maxHeartbeats 800000 in
theorem l1Has_any (K : Int) (ao : Option Addr) (cap : Nat) (ts : List (Int × Int)) (a b : Int) (w : World) (hn : ts.length ≤ 1099511627776) (ht : TiesIn w w.heap.size ao ts) :
    Calls Try.prog 41 #[.agg #[.int .i64 K, .slice ao ts.length cap], .int .i64 a, .int .i64 b] w fun e w' => e = .returned (.bool (tiedB ts (min a b) (max a b))) ∧ Below w.heap.size w w' := by
  obtain ⟨n, hnn⟩ : ∃ n, n = ts.length := ⟨_, rfl⟩
  have HN : Hid (n = ts.length) := hnn
  rw [← hnn] at hn ⊢
  clear hnn
  go_enter Try.func41, Try.ntmps41
  go_wp2
  go_loopw [7] (fun i wr => ∃ k : Nat, k ≤ n ∧ i = .int .i64 k ∧ (∀ i, i < k → samePair ts a b i = false) ∧ Below (w.heap.size + 1) (w.alloc (.cells #[.int .i64 K, .slice ao n cap] 25)) wr)
    (fun i _ => n - (intOf i).toNat)
  case atStart => exact ⟨0, Nat.zero_le _, rfl, fun i hi => absurd hi (by omega), Below.refl _ _⟩
  case round =>
    obtain ⟨k, hk, rfl, hno, hnx⟩ := hrel
    have hz : w.heap.size < wr.heap.size := by have := hnx.size; simp at this; omega
    have k1 : wr.cell? ⟨w.heap.size, 1, none⟩ = some (.slice ao n cap) := (hnx.cell (p := ⟨w.heap.size, 1, none⟩) (by simp)).trans (by simp)
    have hbel : Below w.heap.size w wr := (below_one _ _).trans (hnx.mono (by omega))
    by_cases hlt : k < n
    · have hz1 : w.heap.size < wr.heap.size + 1 := by omega
      have hkl : k < ts.length := by rw [← HN.out]; exact hlt
      obtain ⟨bb, off, rfl, hbw, c0, c1⟩ := ht k hkl
      have c0' : wr.cell? ⟨bb, off + k * 2, none⟩ = some (.int .i64 (tA ts k)) := (hnx.cell (p := ⟨bb, off + k * 2, none⟩) (by simp; omega)).trans ((World.cell?_alloc_past _ _ _ hbw).trans c0)
      have c1' : wr.cell? ⟨bb, off + k * 2 + 1, none⟩ = some (.int .i64 (tB ts k)) := (hnx.cell (p := ⟨bb, off + k * 2 + 1, none⟩) (by simp; omega)).trans ((World.cell?_alloc_past _ _ _ hbw).trans c1)
      obtain ⟨x, hx⟩ : ∃ x, x = tA ts k := ⟨_, rfl⟩
      obtain ⟨y, hy⟩ : ∃ y, y = tB ts k := ⟨_, rfl⟩
      obtain ⟨lo, hlo⟩ : ∃ lo, lo = min a b := ⟨_, rfl⟩
      obtain ⟨hi, hhi⟩ : ∃ hi, hi = max a b := ⟨_, rfl⟩
      rw [← hx] at c0'; rw [← hy] at c1'
      have hT := fun w => l1Tie_any a b w
      rw [← hlo, ← hhi] at hT
      have HT : Hid (∀ w, Calls Try.prog 57 #[.int .i64 a, .int .i64 b] w fun e w' => e = .returned (.agg #[.int .i64 lo, .int .i64 hi]) ∧ w' = w.alloc (.cells #[.int .i64 lo, .int .i64 hi] 37)) := hT
      have hS : samePair ts a b k = (decide (x = lo) && decide (y = hi)) := by rw [hx, hy, hlo, hhi]; rfl
      have hbz : bb < wr.heap.size := Nat.lt_of_lt_of_le (by omega) hbel.size
      have hk0 : (0 : Int) ≤ (k : Int) := by omega
      have hk1 : (k : Int) < (n : Int) := by omega
      clear c0 c1 hx hy ht hT
      have HS : Hid (samePair ts a b k = (decide (x = lo) && decide (y = hi))) := hS
      have HNO : Hid (∀ i, i < k → samePair ts a b i = false) := hno
      clear hS hno hlo hhi
      by_cases hx : x = lo ∧ y = hi
      · have HO : Hid (tiedB ts (min a b) (max a b) = true) := tied_at hkl (by rw [HS.out]; simp [hx])
        have hx1 : (x == lo) = true := by simp [hx.1]
        have hx2 : (y == hi) = true := by simp [hx.2]
        clear hx
        go_wp2
        go_region_held3 (fun w' => w'.cell? ⟨bb, off + k * 2, none⟩ = some (.int .i64 x) ∧ w'.cell? ⟨bb, off + k * 2 + 1, none⟩ = some (.int .i64 y) ∧ w'.cell? ⟨w.heap.size, 1, none⟩ = some (.slice (some ⟨bb, off, none⟩) n cap)) (first | (go_keep; done) | exact ⟨(cell_oned _ _ _ _ hbz).trans c0', (cell_oned _ _ _ _ hbz).trans c1', (cell_oned _ _ _ _ hz).trans k1⟩) (first | (go_at_call 57; refine (HT.out _).mono ?_; rintro e w' ⟨rfl, rfl⟩))
        go_wp2
        go_ret
        exact ⟨by rw [HO.out]; rfl, (hbel.alloc hbel.size _).drew⟩
      · have HP : Hid (∀ i, i < k + 1 → samePair ts a b i = false) := by
          intro i hi
          by_cases hik : i = k
          · subst hik; rw [HS.out]; simp; omega
          · exact HNO.out i (by omega)
        by_cases h1 : x = lo
        · have hx1 : (x == lo) = true := by simp [h1]
          have hx2 : (y == hi) = false := by simp; omega
          clear hx h1
          go_wp2
          go_region_held3 (fun w' => w'.cell? ⟨bb, off + k * 2, none⟩ = some (.int .i64 x) ∧ w'.cell? ⟨bb, off + k * 2 + 1, none⟩ = some (.int .i64 y) ∧ w'.cell? ⟨w.heap.size, 1, none⟩ = some (.slice (some ⟨bb, off, none⟩) n cap)) (first | (go_keep; done) | exact ⟨(cell_oned _ _ _ _ hbz).trans c0', (cell_oned _ _ _ _ hbz).trans c1', (cell_oned _ _ _ _ hz).trans k1⟩) (first | (go_at_call 57; refine (HT.out _).mono ?_; rintro e w' ⟨rfl, rfl⟩))
          go_wp2
          go_roundw
          case rel => exact ⟨k + 1, by omega, by go_num, HP.out, (hnx.alloc (by omega) _).drew⟩
          case measure => simp [intOf]; omega
        · have hx1 : (x == lo) = false := by simp [h1]
          clear hx h1
          go_wp2
          go_region_held3 (fun w' => w'.cell? ⟨bb, off + k * 2, none⟩ = some (.int .i64 x) ∧ w'.cell? ⟨bb, off + k * 2 + 1, none⟩ = some (.int .i64 y) ∧ w'.cell? ⟨w.heap.size, 1, none⟩ = some (.slice (some ⟨bb, off, none⟩) n cap)) (first | (go_keep; done) | exact ⟨(cell_oned _ _ _ _ hbz).trans c0', (cell_oned _ _ _ _ hbz).trans c1', (cell_oned _ _ _ _ hz).trans k1⟩) (first | (go_at_call 57; refine (HT.out _).mono ?_; rintro e w' ⟨rfl, rfl⟩))
          go_wp2
          go_roundw
          case rel => exact ⟨k + 1, by omega, by go_num, HP.out, (hnx.alloc (by omega) _).drew⟩
          case measure => simp [intOf]; omega
    · have hkn : k = n := by omega
      subst hkn
      have HO : Hid (tiedB ts (min a b) (max a b) = false) := tied_none (by rw [← HN.out]; exact hno)
      clear hno
      go_wp2
      go_ret
      exact ⟨by rw [HO.out]; rfl, hbel⟩

set_option maxHeartbeats 400000 in
theorem specHas_any (K : Int) (ao : Option Addr) (cap : Nat) (ts : List (Int × Int)) (a b : Int) (w : World) (hn : ts.length ≤ 1099511627776) (ht : TiesIn w w.heap.size ao ts) :
    Calls Try.prog 67 #[.agg #[.int .i64 K, .slice ao ts.length cap], .int .i64 a, .int .i64 b] w fun e w' => e = .returned (.bool (hasB K ts a b)) ∧ Below w.heap.size w w' := by
  have ht1 : TiesIn (w.alloc (.cells #[.int .i64 K, .slice ao ts.length cap] 25)) (w.heap.size + 1) ao ts := (ht.below (below_one _ _) (Nat.le_refl _)).wide (by omega)
  go_enter Try.func67, Try.ntmps67
  go_wp2_with fail
  refine (specOk_any K ao cap ts _ hn (by simpa using ht1)).mono ?_
  rintro e w1 ⟨rfl, hb⟩
  have hb' : Below (w.heap.size + 1) (w.alloc (.cells #[.int .i64 K, .slice ao ts.length cap] 25)) w1 := by simpa using hb
  have hbb : Below w.heap.size w w1 := (below_one _ _).trans (hb'.mono (by omega))
  have c0 : w1.cell? ⟨w.heap.size, 0, none⟩ = some (.int .i64 K) := (hb'.cell (p := ⟨w.heap.size, 0, none⟩) (by simp)).trans (by simp)
  have c1 : w1.cell? ⟨w.heap.size, 1, none⟩ = some (.slice ao ts.length cap) := (hb'.cell (p := ⟨w.heap.size, 1, none⟩) (by simp)).trans (by simp)
  have t1 : TiesIn w1 w1.heap.size ao ts := (ht.below hbb (Nat.le_refl _)).wide hbb.size
  clear hb hb' ht1
  cases hok : okB K ts
  · have HH : Hid (hasB K ts a b = false) := hasB_no hok
    clear hok
    go_wp2
    go_ret
    exact ⟨by rw [HH.out]; rfl, hbb⟩
  · have HH : Hid (hasB K ts a b = tiedB ts (min a b) (max a b)) := hasB_ok hok
    clear hok
    go_wp2_with fail
    refine (l1Has_any K ao cap ts a b _ hn t1).mono ?_
    rintro e w2 ⟨rfl, hb2⟩
    rw [← HH.out]
    go_wp2
    go_ret
    exact ⟨rfl, hbb.trans (hb2.mono hbb.size)⟩

end Go.Proofs.Ytljnjpjnadlmhaa

/- Which ties may be tied; boxes of nets; hasKnot and has by their answers. -/
namespace Go.Proofs.Ytljnjpjnadlmhaa
open Go.RowKit
set_option linter.unusedVariables false

def addB (K : Int) (ts : List (Int × Int)) (a b : Int) : Bool := okB K ts && knotB a K && knotB b K && decide (a ≠ b) && !(hasB K ts a b)
theorem addB_yes {K : Int} {ts : List (Int × Int)} {a b : Int} (h : addB K ts a b = true) : okB K ts = true ∧ 0 ≤ a ∧ a < K ∧ 0 ≤ b ∧ b < K ∧ a ≠ b ∧ hasB K ts a b = false := by
  simp only [addB, knotB, Bool.and_eq_true, decide_eq_true_eq, Bool.not_eq_true'] at h
  obtain ⟨⟨⟨⟨h1, h2, h3⟩, h4, h5⟩, h6⟩, h7⟩ := h
  exact ⟨h1, h2, h3, h4, h5, h6, h7⟩
theorem addB_no {K : Int} {ts : List (Int × Int)} {a b : Int} (h : addB K ts a b = false) :
    okB K ts = false ∨ (okB K ts = true ∧ ((a < 0 ∨ K ≤ a) ∨ (0 ≤ a ∧ a < K ∧ ((b < 0 ∨ K ≤ b) ∨ (0 ≤ b ∧ b < K ∧ (a = b ∨ (a ≠ b ∧ hasB K ts a b = true))))))) := by
  cases hok : okB K ts
  · exact Or.inl rfl
  · refine Or.inr ⟨rfl, ?_⟩
    by_cases h1 : 0 ≤ a ∧ a < K
    · refine Or.inr ⟨h1.1, h1.2, ?_⟩
      by_cases h2 : 0 ≤ b ∧ b < K
      · refine Or.inr ⟨h2.1, h2.2, ?_⟩
        by_cases h3 : a = b
        · exact Or.inl h3
        · refine Or.inr ⟨h3, ?_⟩
          simp only [addB, hok, knotB, h1, h2] at h
          simp at h
          exact h h3
      · exact Or.inl (by omega)
    · exact Or.inl (by omega)
theorem has_is (v : Bool) (K : Int) (ts : List (Int × Int)) (a b : Int) (w : World) (hok : okB K ts = true) (h : hasB K ts a b = v) :
    Calls Try.prog 71 #[.int .u64 ((setN K ts : Nat) : Int), .int .i64 a, .int .i64 b] w fun e w' => e = .returned (.bool v) ∧ w' = w := by
  rw [← h, ← has_set K ts a b hok]; exact has_any (setN K ts) a b w (setN_lt K ts)
/-- the net's own cells behind the calls that only make memory -/
theorem box_cells {w w1 : World} {K : Int} {v : Value} {o : Obj} {t : TypeId} (hb : Below (w.heap.size + 1 + 1) ((w.alloc (.cells #[.int .i64 K, v] t)).alloc o) w1) :
    w1.cell? ⟨w.heap.size, 0, none⟩ = some (.int .i64 K) ∧ w1.cell? ⟨w.heap.size, 1, none⟩ = some v := by
  constructor
  · rw [hb.cell (p := ⟨w.heap.size, 0, none⟩) (by simp; omega), World.cell?_alloc_past _ _ _ (by simp)]; simp
  · rw [hb.cell (p := ⟨w.heap.size, 1, none⟩) (by simp; omega), World.cell?_alloc_past _ _ _ (by simp)]; simp
theorem res_cells {w w1 : World} {u v : Value} {o : Obj} {t : TypeId} (hb : Below (w.heap.size + 1 + 1) ((w.alloc o).alloc (.cells #[u, v] t)) w1) :
    w1.cell? ⟨w.heap.size + 1, 0, none⟩ = some u ∧ w1.cell? ⟨w.heap.size + 1, 1, none⟩ = some v ∧ w1.frozen? ⟨w.heap.size + 1, 0, none⟩ = false ∧ w1.frozen? ⟨w.heap.size + 1, 1, none⟩ = false := by
  have c := fun i => World.cell?_alloc_at (w := w.alloc o) #[u, v] t (w.heap.size + 1) i (by simp)
  have f := fun i => World.frozen?_alloc_at (w := w.alloc o) #[u, v] t (w.heap.size + 1) i (by simp)
  refine ⟨?_, ?_, ?_, ?_⟩
  · rw [hb.cell (p := ⟨w.heap.size + 1, 0, none⟩) (by simp), c]; rfl
  · rw [hb.cell (p := ⟨w.heap.size + 1, 1, none⟩) (by simp), c]; rfl
  · rw [hb.frozen (p := ⟨w.heap.size + 1, 0, none⟩) (by simp), f]
  · rw [hb.frozen (p := ⟨w.heap.size + 1, 1, none⟩) (by simp), f]
theorem hasKnot_b (r : Bool) (K : Int) (v : Value) (k : Int) (w : World) (h : knotB k K = r) :
    Calls Try.prog 51 #[.agg #[.int .i64 K, v], .int .i64 k] w fun e w' => e = .returned (.bool r) ∧ Below w.heap.size w w' := by
  rw [← h]
  refine (hasKnot_any K v k w).mono ?_
  rintro e w' ⟨rfl, rfl⟩
  exact ⟨rfl, below_one _ _⟩
theorem knot_yes {k K : Int} (h0 : 0 ≤ k) (h1 : k < K) : knotB k K = true := by simp [knotB, h0, h1]
theorem knot_no {k K : Int} (h : k < 0 ∨ K ≤ k) : knotB k K = false := by simp [knotB]; omega
/-- the box of a net that came in, and the cell of the net that goes out, behind calls that only make memory -/
structure Boxes (w w1 : World) (K : Int) (v : Value) : Prop where
  c0 : w1.cell? ⟨w.heap.size, 0, none⟩ = some (.int .i64 K)
  c1 : w1.cell? ⟨w.heap.size, 1, none⟩ = some v
  r0 : w1.cell? ⟨w.heap.size + 1, 0, none⟩ = some (.int .i64 0)
  r1 : w1.cell? ⟨w.heap.size + 1, 1, none⟩ = some (.slice none 0 0)
  f0 : w1.frozen? ⟨w.heap.size + 1, 0, none⟩ = false
  f1 : w1.frozen? ⟨w.heap.size + 1, 1, none⟩ = false
  hz : w.heap.size + 1 < w1.heap.size
  bel : Below w.heap.size w w1
theorem Boxes.start {w w1 : World} {K : Int} {v : Value} {t t' : TypeId} (hb : Below ((w.alloc (.cells #[.int .i64 K, v] t)).alloc (.cells #[.int .i64 0, .slice none 0 0] t')).heap.size ((w.alloc (.cells #[.int .i64 K, v] t)).alloc (.cells #[.int .i64 0, .slice none 0 0] t')) w1) : Boxes w w1 K v := by
  have hb' : Below (w.heap.size + 1 + 1) ((w.alloc (.cells #[.int .i64 K, v] t)).alloc (.cells #[.int .i64 0, .slice none 0 0] t')) w1 := by simpa using hb
  obtain ⟨c0, c1⟩ := box_cells hb'
  obtain ⟨r0, r1, f0, f1⟩ := res_cells hb'
  exact ⟨c0, c1, r0, r1, f0, f1, by have := hb'.size; simp at this; omega, (below_two _ _ _).trans (hb'.mono (by omega))⟩
theorem Boxes.next {w w1 w2 : World} {K : Int} {v : Value} (h : Boxes w w1 K v) (hb : Below w1.heap.size w1 w2) : Boxes w w2 K v := by
  have z := h.hz
  exact ⟨(hb.cell (p := ⟨w.heap.size, 0, none⟩) (by simp; omega)).trans h.c0, (hb.cell (p := ⟨w.heap.size, 1, none⟩) (by simp; omega)).trans h.c1,
    (hb.cell (p := ⟨w.heap.size + 1, 0, none⟩) z).trans h.r0, (hb.cell (p := ⟨w.heap.size + 1, 1, none⟩) z).trans h.r1,
    (hb.frozen (p := ⟨w.heap.size + 1, 0, none⟩) z).trans h.f0, (hb.frozen (p := ⟨w.heap.size + 1, 1, none⟩) z).trans h.f1,
    Nat.lt_of_lt_of_le z hb.size, h.bel.trans (hb.mono h.bel.size)⟩
theorem ok_parts {K : Int} {ts : List (Int × Int)} (h : okB K ts = true) : 0 ≤ K ∧ K ≤ 8 ∧ Srt K ts := ok_srt.1 (okB_iff.1 h)
/-- the tie of two knots, as the net has it -/
def tieOf (a b : Int) : Int × Int := (min a b, max a b)
theorem add_good {K : Int} {ts : List (Int × Int)} {a b : Int} (h : addB K ts a b = true) : Srt K (ins (tieOf a b) ts) ∧ K ≤ 8 ∧ BitsOf (setN K ts ||| pbit a b) (ins (tieOf a b) ts) := by
  obtain ⟨hok, a0, a1, b0, b1, hab, hno⟩ := addB_yes h
  obtain ⟨k0, k8, hs⟩ := ok_parts hok
  have ht : TieOk K (tieOf a b).1 (tieOf a b).2 := by unfold tieOf TieOk; dsimp only; omega
  rw [hasB_ok hok] at hno
  have hn : tieOf a b ∉ ts := fun hm => by
    have := tied_mem.2 hm
    rw [hno] at this; simp at this
  refine ⟨srt_ins k8 ht hs hn, k8, ?_⟩
  rw [setN_yes hok, pbit_yes (by omega) (by omega) (by omega)]
  exact bits_ins (mask_bitsOf ts) (tieOf a b)
theorem or_lt (p q : Nat) (hp : p < 2 ^ 64) (hq : q < 2 ^ 64) : p ||| q < 2 ^ 64 := Nat.or_lt_two_pow hp hq

end Go.Proofs.Ytljnjpjnadlmhaa
