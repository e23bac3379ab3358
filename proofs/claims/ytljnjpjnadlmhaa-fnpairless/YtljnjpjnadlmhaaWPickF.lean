/- The reader's pick, its answer told ahead of the call. -/
import Derived.Test.YtljnjpjnadlmhaaPartWPick
namespace Go.Proofs.Ytljnjpjnadlmhaa
open Go.RowKit
set_option linter.unusedVariables false

set_option maxHeartbeats 1600000 in
theorem pick_fix (R : Nat) (bo : Option Addr) (bn bcap p : Nat) (n : Int) (w0 : World) (h0 : Rdr w0 R bo bn bcap p) (hp : p ≤ 1000000) :
    ∃ z : Int, 0 ≤ z ∧ (1 ≤ n → z < n) ∧ ∀ w, Rdr w R bo bn bcap p → (∀ k, k < R → w.heap[k]? = w0.heap[k]?) → Calls Try.prog 26 #[.pointer (some ⟨R, 0, none⟩), .int .i64 n] w fun e w' => e = .returned (.int .i64 z) ∧ Rdr w' R bo bn bcap (p + 1) ∧ Turned R (R + 1) w w' := by
  have hp0 : (0 : Int) ≤ (p : Int) := by omega
  have hp1 : (p : Int) ≤ 1000000 := by omega
  by_cases hn : n < 1
  · refine ⟨0, by omega, by omega, ?_⟩
    intro w h hs
    have hc := hideP h.count
    have ht := hideP (Turned.count w R (.int .i64 ((p : Int) + 1)))
    have c0 := h.c0
    have c1 := h.c1
    have f1 := h.f1
    have hlt := h.lt
    clear h
    go_enter Try.func26, Try.ntmps26
    go_wp2
    go_ret
    exact ⟨rfl, hc.out, ht.out⟩
  · have hn1 : 1 ≤ n := by omega
    have hdn : decide (n < 1) = false := by simp; omega
    clear hn
    by_cases hb0 : bn = 0
    · have he : ((bn : Int) == 0) = true := by simp [hb0]
      refine ⟨0, by omega, by omega, ?_⟩
      intro w h hs
      have hc := hideP h.count
      have ht := hideP (Turned.count w R (.int .i64 ((p : Int) + 1)))
      have c0 := h.c0
      have c1 := h.c1
      have f1 := h.f1
      have hlt := h.lt
      clear h
      go_enter Try.func26, Try.ntmps26
      go_wp2
      go_ret
      exact ⟨rfl, hc.out, ht.out⟩
    · have he : ((bn : Int) == 0) = false := by simp [hb0]
      by_cases hk : p < bn
      · obtain ⟨b, off, v, rfl, h2, h3, h4, h5⟩ := h0.bytes p hk
        have h1 : b ≠ R := by omega
        have hk' : (p : Int) < (bn : Int) := by omega
        have hm := mod_in (x := v) hn1
        have hne : ¬ n = 0 := by omega
        have hnb : (n == 0) = false := by simp [hne]
        refine ⟨v % n, hm.1, fun _ => hm.2, ?_⟩
        intro w h hs
        have hc := hideP h.count
        have ht := hideP (Turned.count w R (.int .i64 ((p : Int) + 1)))
        have c0 := h.c0
        have c1 := h.c1
        have f1 := h.f1
        have hlt := h.lt
        have h3' := (World.cell?_of_block (a := ⟨b, off + p, none⟩) (hs b h2)).trans h3
        clear h h0 h3 hs
        go_enter Try.func26, Try.ntmps26
        go_wp2
        go_ret
        exact ⟨rfl, hc.out, ht.out⟩
      · have hbp : 0 < bn := by omega
        have l1 : p % bn < bn := Nat.mod_lt _ hbp
        have l2 : (p * 7 + 3) % bn < bn := Nat.mod_lt _ hbp
        obtain ⟨i1, hi1⟩ : ∃ i1, i1 = p % bn := ⟨_, rfl⟩
        obtain ⟨i2, hi2⟩ : ∃ i2, i2 = (p * 7 + 3) % bn := ⟨_, rfl⟩
        rw [← hi1] at l1
        rw [← hi2] at l2
        obtain ⟨b, off, v, rfl, h2, h3, h4, h5⟩ := h0.bytes i1 l1
        obtain ⟨b', off', v', hbo, h2', h3', h4', h5'⟩ := h0.bytes i2 l2
        have h1 : b ≠ R := by omega
        simp only [Option.some.injEq, Addr.mk.injEq, and_true] at hbo
        obtain ⟨rfl, rfl⟩ := hbo
        have e1 : (p : Int).tmod (bn : Int) = (i1 : Int) := by rw [hi1]; simp [Int.tmod]
        have e2 : ((p : Int) * 7 + 3).tmod (bn : Int) = (i2 : Int) := by
          rw [hi2, show ((p : Int) * 7 + 3) = ((p * 7 + 3 : Nat) : Int) by omega]; simp [Int.tmod]
        have hnb : (n == 0) = false := by simp; omega
        have hk' : ¬ ((p : Int) < (bn : Int)) := by omega
        have l1' : (i1 : Int) < (bn : Int) := by omega
        have l2' : (i2 : Int) < (bn : Int) := by omega
        have wr1 : IntKind.i64.wrap ((p : Int) * 7) = (p : Int) * 7 := by rw [IntKind.wrap_i64]; omega
        have wr2 : IntKind.i64.wrap ((p : Int) * 7 + 3) = (p : Int) * 7 + 3 := by rw [IntKind.wrap_i64]; omega
        obtain ⟨q, hq⟩ : ∃ q : Int, q = (p : Int) / (bn : Int) := ⟨_, rfl⟩
        have hq0 : 0 ≤ (p : Int) / (bn : Int) := Int.ediv_nonneg (by omega) (by omega)
        have hq1 : (p : Int) / (bn : Int) ≤ 1000000 := Int.le_trans (Int.ediv_le_self _ (by omega)) hp1
        obtain ⟨x, hx⟩ : ∃ x : Int, x = v * 131 + v' * 1117 + (p : Int) * 29 + (p : Int) / (bn : Int) * 53 := ⟨_, rfl⟩
        have hx0 : 0 ≤ x := by rw [hx]; omega
        have hx1 : x < 1000000000 := by rw [hx]; omega
        have hX := xor_in x hx0 hx1
        have HX := hideP hx
        have hm := hideP (mod_in (x := bits .xor .i64 x (x / 64)) hn1)
        refine ⟨bits .xor .i64 x (x / 64) % n, hm.out.1, fun _ => hm.out.2, ?_⟩
        intro w h hs
        have hc := hideP h.count
        have ht := hideP (Turned.count w R (.int .i64 ((p : Int) + 1)))
        have c0 := h.c0
        have c1 := h.c1
        have f1 := h.f1
        have hlt := h.lt
        have h3w := (World.cell?_of_block (a := ⟨b, off + i1, none⟩) (hs b h2)).trans h3
        have h3w' := (World.cell?_of_block (a := ⟨b, off + i2, none⟩) (hs b h2)).trans h3'
        clear h h0 hi1 hi2 hq hx h3 h3' hs
        go_enter Try.func26, Try.ntmps26
        go_wp2
        go_quiet (fail)
        rw [← HX.out]
        go_wp2
        go_ret
        exact ⟨rfl, hc.out.next (below_drewN (Below.refl _ _) nq), ht.out.drewN nq⟩

end Go.Proofs.Ytljnjpjnadlmhaa
