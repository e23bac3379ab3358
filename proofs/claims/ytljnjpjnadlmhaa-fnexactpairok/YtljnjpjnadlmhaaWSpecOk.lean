/- Walk of spec.NetOk. -/
import Derived.Test.YtljnjpjnadlmhaaWOk
import Derived.Deep.RegionHeld3
namespace Go.Proofs.Ytljnjpjnadlmhaa
open Go.RowKit
set_option linter.unusedVariables false

theorem cell_three (w : World) (o p q : Obj) (b i : Nat) (h : b < w.heap.size) : ((((w.alloc o).alloc p).alloc q).drew).cell? ⟨b, i, none⟩ = w.cell? ⟨b, i, none⟩ := by
  show (((w.alloc o).alloc p).alloc q).cell? ⟨b, i, none⟩ = _
  rw [World.cell?_alloc_past _ _ _ (by simp; omega), World.cell?_alloc_past _ _ _ (by simp; omega), World.cell?_alloc_past _ _ _ h]

theorem new_three0 (w : World) (u v : Value) (t : TypeId) (p q : Obj) : ((((w.alloc (.cells #[u, v] t)).alloc p).alloc q).drew).cell? ⟨w.heap.size, 0, none⟩ = some u := by
  show (((w.alloc (.cells #[u, v] t)).alloc p).alloc q).cell? ⟨w.heap.size, 0, none⟩ = _
  rw [World.cell?_alloc_past _ _ _ (by simp; omega), World.cell?_alloc_past _ _ _ (by simp)]; simp
theorem new_three1 (w : World) (u v : Value) (t : TypeId) (p q : Obj) : ((((w.alloc (.cells #[u, v] t)).alloc p).alloc q).drew).cell? ⟨w.heap.size, 1, none⟩ = some v := by
  show (((w.alloc (.cells #[u, v] t)).alloc p).alloc q).cell? ⟨w.heap.size, 1, none⟩ = _
  rw [World.cell?_alloc_past _ _ _ (by simp; omega), World.cell?_alloc_past _ _ _ (by simp)]; simp

set_option maxHeartbeats 800000 in
theorem specOk_any (K : Int) (ao : Option Addr) (cap : Nat) (ts : List (Int × Int)) (w : World) (hn : ts.length ≤ 1099511627776) (ht : TiesIn w w.heap.size ao ts) :
    Calls Try.prog 40 #[.agg #[.int .i64 K, .slice ao ts.length cap]] w fun e w' => e = .returned (.bool (okB K ts)) ∧ Below w.heap.size w w' := by
  by_cases hK : K < 0 ∨ 8 < K
  · have hno := not_ok_knots (ts := ts) hK
    rw [hno]
    have hK' : K < 0 ∨ 8 < K := hK
    clear hno hK
    go_enter Try.func40, Try.ntmps40
    go_wp2_with fail
    refine (in_no K 0 8 _ hK').mono ?_
    rintro e w1 ⟨rfl, rfl⟩
    go_wp2
    go_ret
    exact ⟨rfl, below_one _ _⟩
  · have hK0 : 0 ≤ K := by omega
    have hK8 : K ≤ 8 := by omega
    clear hK
    obtain ⟨n, hnn⟩ : ∃ n, n = ts.length := ⟨_, rfl⟩
    have HN : Hid (n = ts.length) := hnn
    rw [← hnn] at hn ⊢
    clear hnn
    by_cases hlong : 64 < n
    · have HO : Hid (okB K ts = false) := not_ok_long (by rw [← HN.out]; exact hlong)
      have hl : (64 : Int) < (n : Int) := by omega
      go_enter Try.func40, Try.ntmps40
      go_wp2_with fail
      refine (in_yes K 0 8 _ hK0 hK8).mono ?_
      rintro e w1 ⟨rfl, rfl⟩
      go_wp2
      go_ret
      exact ⟨by rw [HO.out]; rfl, below_one _ _⟩
    · have hl : (n : Int) ≤ 64 := by omega
      have d3 : decide ((64 : Int) < (n : Int)) = false := by simp; omega
      clear hlong
      go_enter Try.func40, Try.ntmps40
      go_wp2_with fail
      refine (in_yes K 0 8 _ hK0 hK8).mono ?_
      rintro e w1 ⟨rfl, rfl⟩
      go_wp2
      go_loopw [3] (fun i wr => ∃ k : Nat, k ≤ n ∧ i = .int .i64 k ∧ GoodTo K ts k ∧ Below (w.heap.size + 1) (w.alloc (.cells #[.int .i64 K, .slice ao n cap] 25)) wr)
        (fun i _ => n - (intOf i).toNat)
      case atStart => exact ⟨0, Nat.zero_le _, rfl, fun i hi => absurd hi (by omega), Below.refl _ _⟩
      case round =>
        obtain ⟨k, hk, rfl, hgood, hnx⟩ := hrel
        have hz : w.heap.size < wr.heap.size := by have := hnx.size; simp at this; omega
        have k0 : wr.cell? ⟨w.heap.size, 0, none⟩ = some (.int .i64 K) := (hnx.cell (p := ⟨w.heap.size, 0, none⟩) (by simp)).trans (by simp)
        have k1 : wr.cell? ⟨w.heap.size, 1, none⟩ = some (.slice ao n cap) := (hnx.cell (p := ⟨w.heap.size, 1, none⟩) (by simp)).trans (by simp)
        have hbel : Below w.heap.size w wr := (below_one _ _).trans (hnx.mono (by omega))
        by_cases hlt : k < n
        · have hz1 : w.heap.size < wr.heap.size + 1 := by omega
          have hkl : k < ts.length := by rw [← HN.out]; exact hlt
          obtain ⟨b, off, rfl, hbw, c0, c1⟩ := ht k hkl
          have c0' : wr.cell? ⟨b, off + k * 2, none⟩ = some (.int .i64 (tA ts k)) := (hnx.cell (p := ⟨b, off + k * 2, none⟩) (by simp; omega)).trans ((World.cell?_alloc_past _ _ _ hbw).trans c0)
          have c1' : wr.cell? ⟨b, off + k * 2 + 1, none⟩ = some (.int .i64 (tB ts k)) := (hnx.cell (p := ⟨b, off + k * 2 + 1, none⟩) (by simp; omega)).trans ((World.cell?_alloc_past _ _ _ hbw).trans c1)
          obtain ⟨x, hx⟩ : ∃ x, x = tA ts k := ⟨_, rfl⟩
          obtain ⟨y, hy⟩ : ∃ y, y = tB ts k := ⟨_, rfl⟩
          rw [← hx] at c0'; rw [← hy] at c1'
          clear c0 c1
          have HB : ¬ TieOk K x y → Hid (okB K ts = false) := fun h => not_ok_tie hkl (by rw [← hx, ← hy]; exact h)
          have HX : Hid (x = tA ts k ∧ y = tB ts k) := ⟨hx, hy⟩
          clear hx hy
          have hx8 : x ≤ 9223372036854775806 ∨ K - 1 < x := by omega
          by_cases h1 : 0 ≤ x ∧ x ≤ K - 1
          · have e1 : inB x 0 (K - 1) = true := by simp [inB, h1]
            have hx7 : x ≤ 7 := by omega
            have hx0 : 0 ≤ x := h1.1
            by_cases h2 : x + 1 ≤ y ∧ y ≤ K - 1
            · have e2 : inB y (x + 1) (K - 1) = true := by simp [inB, h2]
              have hgt : TieOk K x y := ⟨h1.1, by omega, by omega⟩
              by_cases hk0 : k = 0
              · have HG : Hid (GoodTo K ts (k + 1)) := good_snoc hgood ⟨by rw [← HX.out.1, ← HX.out.2]; exact hgt, fun h => absurd h (by omega)⟩
                have dk : decide ((0 : Int) < (k : Int)) = false := by simp; omega
                have dk2 : decide (0 < k) = false := by simp; omega
                clear HB ht hgood h1 h2 hgt hx8 hk0
                go_wp2
                go_quiet ((go_at_call 55; exact Calls.quiet_of_same (in_any _ _ _ _)))
                go_wp2
                go_roundw
                case rel => exact ⟨k + 1, by omega, by go_num, HG.out, below_drewN (hnx.alloc (by omega) _) _⟩
                case measure => simp [intOf]; omega
              · obtain ⟨j, rfl⟩ : ∃ j, k = j + 1 := ⟨k - 1, by omega⟩
                have dk : decide ((0 : Int) < (j : Int) + 1) = true := decide_eq_true (by omega)
                have hkp : (0 : Int) < (j : Int) + 1 := by omega
                obtain ⟨b', off', hbo, hbw', p0, p1⟩ := ht j (by omega)
                simp only [Option.some.injEq, Addr.mk.injEq, and_true] at hbo
                obtain ⟨rfl, rfl⟩ := hbo
                have p0' : wr.cell? ⟨b, off + j * 2, none⟩ = some (.int .i64 (tA ts j)) := (hnx.cell (p := ⟨b, off + j * 2, none⟩) (by simp; omega)).trans ((World.cell?_alloc_past _ _ _ hbw).trans p0)
                have p1' : wr.cell? ⟨b, off + j * 2 + 1, none⟩ = some (.int .i64 (tB ts j)) := (hnx.cell (p := ⟨b, off + j * 2 + 1, none⟩) (by simp; omega)).trans ((World.cell?_alloc_past _ _ _ hbw).trans p1)
                obtain ⟨px, hpx⟩ : ∃ px, px = tA ts j := ⟨_, rfl⟩
                obtain ⟨py, hpy⟩ : ∃ py, py = tB ts j := ⟨_, rfl⟩
                rw [← hpx] at p0'; rw [← hpy] at p1'
                have hL : GoodAt K ts (j + 1) ↔ lessB px py x y = true := by
                  constructor
                  · intro g; have := g.2 (by omega); rw [hpx, hpy, HX.out.1, HX.out.2]; exact this
                  · intro g; rw [hpx, hpy, HX.out.1, HX.out.2] at g; exact ⟨by rw [← HX.out.1, ← HX.out.2]; exact hgt, fun _ => g⟩
                have hbz : b < wr.heap.size := by omega
                have hbz1 : b < wr.heap.size + 1 := by omega
                have hbz2 : b < wr.heap.size + 1 + 1 := by omega
                have hz2 : w.heap.size < wr.heap.size + 1 + 1 := by omega
                clear p0 p1 hpx hpy HB ht h1 h2 hgt hx8 hk0 hbw'
                have hs : wr.heap.size < wr.heap.size + 1 := by omega
                have eK : IntKind.i64.wrap (K - 1) = K - 1 := by rw [IntKind.wrap_i64]; omega
                have eX : IntKind.i64.wrap (x + 1) = x + 1 := by rw [IntKind.wrap_i64]; omega
                have ek : IntKind.i64.wrap ((j : Int) + 1 - 1) = (j : Int) := by rw [IntKind.wrap_i64]; omega
                have ek' : IntKind.i64.wrap (j : Int) = (j : Int) := by rw [IntKind.wrap_i64]; omega
                have eb2 : (j : Int) < (n : Int) := by omega
                have eb3 : j < n := by omega
                by_cases hga : lessB px py x y = true
                · have HG : Hid (GoodTo K ts (j + 1 + 1)) := good_snoc hgood (hL.2 hga)
                  clear hL hgood
                  go_wp2
                  go_region_held3 (fun w' => w'.cell? ⟨wr.heap.size, 0, none⟩ = some (.int .i64 x) ∧ w'.cell? ⟨wr.heap.size, 1, none⟩ = some (.int .i64 y) ∧ w'.cell? ⟨w.heap.size, 0, none⟩ = some (.int .i64 K) ∧ w'.cell? ⟨w.heap.size, 1, none⟩ = some (.slice (some ⟨b, off, none⟩) n cap) ∧ w'.cell? ⟨b, off + j * 2, none⟩ = some (.int .i64 px) ∧ w'.cell? ⟨b, off + j * 2 + 1, none⟩ = some (.int .i64 py)) (first | (go_keep; done) | exact ⟨new_three0 _ _ _ _ _ _, new_three1 _ _ _ _ _ _, (cell_three _ _ _ _ _ _ hz).trans k0, (cell_three _ _ _ _ _ _ hz).trans k1, (cell_three _ _ _ _ _ _ hbz).trans p0', (cell_three _ _ _ _ _ _ hbz).trans p1'⟩) (first | (go_at_call 55; refine (in_is true _ _ _ _ ?_).mono ?_; (first | (rw [eX, eK]; exact e2) | (rw [eK]; exact e1) | exact e1 | exact e2); rintro e w' ⟨rfl, rfl⟩) | (go_at_call 64; refine (less_is true _ _ _ _ _ hga).mono ?_; rintro e w' ⟨rfl, rfl⟩))
                  go_wp2
                  go_roundw
                  case rel => exact ⟨j + 1 + 1, by omega, by go_num, HG.out, (((hnx.alloc (by omega) _).alloc (by simp; omega) _).alloc (by simp; omega) _).drew⟩
                  case measure => simp [intOf]; omega
                · have hga' : lessB px py x y = false := by simpa using hga
                  have HO : Hid (okB K ts = false) := not_ok_at hkl (fun g => hga (hL.1 g))
                  clear hL hgood hga
                  go_wp2
                  go_region_held3 (fun w' => w'.cell? ⟨wr.heap.size, 0, none⟩ = some (.int .i64 x) ∧ w'.cell? ⟨wr.heap.size, 1, none⟩ = some (.int .i64 y) ∧ w'.cell? ⟨w.heap.size, 0, none⟩ = some (.int .i64 K) ∧ w'.cell? ⟨w.heap.size, 1, none⟩ = some (.slice (some ⟨b, off, none⟩) n cap) ∧ w'.cell? ⟨b, off + j * 2, none⟩ = some (.int .i64 px) ∧ w'.cell? ⟨b, off + j * 2 + 1, none⟩ = some (.int .i64 py)) (first | (go_keep; done) | exact ⟨new_three0 _ _ _ _ _ _, new_three1 _ _ _ _ _ _, (cell_three _ _ _ _ _ _ hz).trans k0, (cell_three _ _ _ _ _ _ hz).trans k1, (cell_three _ _ _ _ _ _ hbz).trans p0', (cell_three _ _ _ _ _ _ hbz).trans p1'⟩) (first | (go_at_call 55; refine (in_is true _ _ _ _ ?_).mono ?_; (first | (rw [eX, eK]; exact e2) | (rw [eK]; exact e1) | exact e1 | exact e2); rintro e w' ⟨rfl, rfl⟩) | (go_at_call 64; refine (less_is false _ _ _ _ _ hga').mono ?_; rintro e w' ⟨rfl, rfl⟩))
                  go_wp2
                  go_ret
                  exact ⟨by rw [HO.out]; rfl, (((hbel.alloc hbel.size _).alloc (by simp; omega) _).alloc (by simp; omega) _).drew⟩
            · have e2 : inB y (x + 1) (K - 1) = false := by simp [inB]; omega
              have HO := HB (fun h => by obtain ⟨a, b, c⟩ := h; omega)
              clear HB ht hgood h1 h2 hx8
              go_wp2
              go_quiet ((go_at_call 55; exact Calls.quiet_of_same (in_any _ _ _ _)))
              go_wp2
              go_ret
              exact ⟨by rw [HO.out]; rfl, below_drewN (hbel.alloc hbel.size _) _⟩
          · have HO := HB (fun h => by obtain ⟨a, b, c⟩ := h; omega)
            have e1 : inB x 0 (K - 1) = false := by simp [inB]; omega
            clear HB h1 ht hgood hx8
            go_wp2
            go_quiet ((go_at_call 55; exact Calls.quiet_of_same (in_any _ _ _ _)))
            go_wp2
            go_ret
            exact ⟨by rw [HO.out]; rfl, below_drewN (hbel.alloc hbel.size _) _⟩
        · have hkn : k = n := by omega
          subst hkn
          have HO : Hid (okB K ts = true) := ok_end hK0 hK8 (by rw [← HN.out]; exact hgood)
          go_wp2
          go_ret
          exact ⟨by rw [HO.out]; rfl, hbel⟩
set_option maxHeartbeats 400000 in
theorem l1Knot_at (K : Int) (ao : Option Addr) (cap : Nat) (ts : List (Int × Int)) (k : Int) (w : World) (hn : ts.length ≤ 1099511627776) (ht : TiesIn w w.heap.size ao ts) :
    Calls Try.prog 32 #[.agg #[.int .i64 K, .slice ao ts.length cap], .int .i64 k] w fun e w' => e = .returned (.bool (okB K ts && knotB k K)) ∧ Below w.heap.size w w' := by
  have ht1 : TiesIn (w.alloc (.cells #[.int .i64 K, .slice ao ts.length cap] 25)) (w.heap.size + 1) ao ts := (ht.below (below_one _ _) (Nat.le_refl _)).wide (by omega)
  go_enter Try.func32, Try.ntmps32
  go_wp2_with fail
  refine (specOk_any K ao cap ts _ hn (by simpa using ht1)).mono ?_
  rintro e w1 ⟨rfl, hb⟩
  have hb' : Below (w.heap.size + 1) (w.alloc (.cells #[.int .i64 K, .slice ao ts.length cap] 25)) w1 := by simpa using hb
  have hbb : Below w.heap.size w w1 := (below_one _ _).trans (hb'.mono (by omega))
  have c0 : w1.cell? ⟨w.heap.size, 0, none⟩ = some (.int .i64 K) := (hb'.cell (p := ⟨w.heap.size, 0, none⟩) (by simp)).trans (by simp)
  clear hb hb' ht1
  cases hok : okB K ts
  · have HH : Hid ((okB K ts && knotB k K) = false) := by rw [hok]; rfl
    clear hok
    go_wp2
    go_ret
    exact ⟨by rw [HH.out]; rfl, hbb⟩
  · obtain ⟨hK0, hK8, _⟩ := okB_iff.1 hok
    have HE : Hid ((okB K ts && knotB k K) = inB k 0 (K - 1)) := by
      show (okB K ts && knotB k K) = inB k 0 (K - 1)
      rw [hok, Bool.true_and, knotB, inB]
      congr 1
      by_cases h : k < K
      · rw [decide_eq_true h, decide_eq_true (by omega)]
      · rw [decide_eq_false h, decide_eq_false (by omega)]
    clear hok
    go_wp2_with fail
    refine (in_any k 0 (K - 1) _).mono ?_
    rintro e w2 ⟨rfl, rfl⟩
    go_wp2
    go_ret
    exact ⟨by rw [HE.out]; rfl, hbb⟩
theorem l1Knot_v (v : Bool) (K : Int) (ao : Option Addr) (cap : Nat) (ts : List (Int × Int)) (k : Int) (w : World) (hn : ts.length ≤ 1099511627776) (ht : TiesIn w w.heap.size ao ts) (h : (okB K ts && knotB k K) = v) :
    Calls Try.prog 32 #[.agg #[.int .i64 K, .slice ao ts.length cap], .int .i64 k] w fun e w' => e = .returned (.bool v) ∧ Below w.heap.size w w' := by
  rw [← h]; exact l1Knot_at K ao cap ts k w hn ht

end Go.Proofs.Ytljnjpjnadlmhaa
