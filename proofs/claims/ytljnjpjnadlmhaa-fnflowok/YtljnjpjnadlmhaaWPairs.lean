/- Walks of spec.l71Pair, spec.l71Tied, spec.DrawNetHas. -/
import Derived.Test.YtljnjpjnadlmhaaPartWCopy
namespace Go.Proofs.Ytljnjpjnadlmhaa
open Go.RowKit
set_option linter.unusedVariables false

/-- a net in the variable at A of a function that began in w and whose answer lies at w's end -/
structure Pst (w wr : World) (R A : Nat) (bo : Option Addr) (bn bcap p : Nat) (K : Int) (ao : Option Addr) (cap : Nat) (us : List (Int × Int)) : Prop where
  C : Cel wr w.heap.size 0 (.slice none 0 0)
  N : Cel wr A K (.slice ao us.length cap)
  rd : Rdr wr R bo bn bcap p
  T : Turned R (R + 1) w wr
  O : OwnN wr (w.heap.size + 1) wr.heap.size ao us.length (tcell us)
  hR : R < w.heap.size
  hA : w.heap.size < A
theorem Pst.turn {w wr w' : World} {R A : Nat} {bo : Option Addr} {bn bcap p p' : Nat} {K : Int} {ao : Option Addr} {cap : Nat} {us : List (Int × Int)} (h : Pst w wr R A bo bn bcap p K ao cap us) (ht : Turned R (R + 1) wr w') (hr : Rdr w' R bo bn bcap p') : Pst w w' R A bo bn bcap p' K ao cap us :=
  ⟨h.C.turn ht h.hR, h.N.turn ht (Nat.lt_trans h.hR h.hA), hr, h.T.trans ht, (h.O.aside ht (Or.inr (by have := h.hR; omega))).up ht.size, h.hR, h.hA⟩
theorem Pst.start {w w1 : World} {R : Nat} {bo : Option Addr} {bn bcap p p1 q : Nat} {K : Int} {ao : Option Addr} {cap : Nat} {us : List (Int × Int)} (hR : R < w.heap.size) (h : AnyNet (w.alloc (.cells #[.int .i64 0, .slice none 0 0] 25)) w1 R bo bn bcap p q K ao us) (hr : Rdr w1 R bo bn bcap p1) :
    Pst w (w1.alloc (.cells #[.int .i64 K, .slice ao us.length cap] 25)) R w1.heap.size bo bn bcap p1 K ao cap us := by
  obtain ⟨hs, ht, ho, hk⟩ := h
  have hsz := ht.size
  simp at hsz
  exact ⟨((Cel.new w 0 (.slice none 0 0) 25).turn ht hR).turn (turned_one w1 _) hR, Cel.new w1 K _ _, hr.next (below_one _ _), ((turned_one w _).trans ht).trans (turned_one _ _), ((ho.next (below_one _ _)).up (by simp)).down (by simp), hR, by omega⟩
theorem Pst.fin {w wr : World} {R A : Nat} {bo : Option Addr} {bn bcap p p' q : Nat} {K : Int} {ao : Option Addr} {cap : Nat} {us : List (Int × Int)} (h : Pst w wr R A bo bn bcap p' K ao cap us) (hp : p' ≤ p + q) (hK : -1 ≤ K ∧ K ≤ 9) (hl : us.length ≤ 66) (u0 u1 : Value) :
    AnyNet w ((wr.setCell ⟨w.heap.size, 0, none⟩ u0).setCell ⟨w.heap.size, 1, none⟩ u1) R bo bn bcap p q K ao us :=
  AnyNet.fin h.hR ⟨p', hp, h.rd⟩ h.T h.O hK hl u0 u1

set_option maxHeartbeats 1600000 in
theorem l71Pair_any (R : Nat) (bo : Option Addr) (bn bcap p : Nat) (w : World) (h : Rdr w R bo bn bcap p) (hp : p ≤ 998000) :
    Calls Try.prog 24 #[.pointer (some ⟨R, 0, none⟩)] w fun e w' => ∃ K ao cap us a b, e = .returned (.tuple #[.agg #[.int .i64 K, .slice ao us.length cap], .int .i64 a, .int .i64 b]) ∧ -1 ≤ a ∧ a ≤ 9 ∧ -1 ≤ b ∧ b ≤ 9 ∧ AnyNet w w' R bo bn bcap p 80 K ao us := by
  have hR := h.lt
  go_enter Try.func24, Try.ntmps24
  go_wp2_with fail
  refine (l71Any_any R bo bn bcap p _ (h.next (below_one w _)) (by omega)).mono ?_
  rintro e w1 ⟨K, ao, cap, us, rfl, A1⟩
  obtain ⟨p1, hp1, rd1⟩ := A1.1
  have hK := A1.2.2.2
  have S1 := hideP (Pst.start (cap := cap) hR A1 rd1)
  clear A1 rd1 h
  go_wp2_with fail
  refine (l71Knot_any R bo bn bcap p1 K _ _ S1.out.rd (by omega) ⟨hK.1, hK.2.1⟩).mono ?_
  rintro e w2 ⟨a, rfl, a0, a9, ⟨p2, hp2, rd2⟩, tr2⟩
  have S2 := hideP (S1.out.turn tr2 rd2)
  have n0 := S2.out.N.c0
  have n1 := S2.out.N.c1
  clear S1 rd2 tr2
  go_wp2_with fail
  refine (l71Knot_any R bo bn bcap p2 K _ _ S2.out.rd (by omega) ⟨hK.1, hK.2.1⟩).mono ?_
  rintro e w3 ⟨b, rfl, b0, b9, ⟨p3, hp3, rd3⟩, tr3⟩
  have S3 := hideP (S2.out.turn tr3 rd3)
  clear S2 rd3 tr3 n0 n1
  have n0 := S3.out.N.c0
  have n1 := S3.out.N.c1
  have r0 := S3.out.C.c0
  have r1 := S3.out.C.c1
  have g0 := S3.out.C.f0
  have g1 := S3.out.C.f1
  by_cases hab : a = b
  · by_cases hK1 : 1 < K
    · subst hab
      have hKd : decide (1 < K) = true := by simp [hK1]
      go_wp2_with fail
      refine (pick_any R bo bn bcap p3 8 _ S3.out.rd (by omega)).mono ?_
      rintro e w4 ⟨z, rfl, z0, z1, rd4, tr4⟩
      have S4 := hideP (S3.out.turn tr4 rd4)
      clear S3 rd4 tr4 n0 n1 r0 r1 g0 g1 z1
      have n0 := S4.out.N.c0
      have n1 := S4.out.N.c1
      have r0 := S4.out.C.c0
      have r1 := S4.out.C.c1
      have g0 := S4.out.C.f0
      have g1 := S4.out.C.f1
      by_cases hz : 0 < z
      · have hzd : decide (0 < z) = true := by simp [hz]
        have hm := mod_in (x := a + 1) (n := K) (by omega)
        go_wp2
        refine bodyPost_ret (v := .tuple #[.agg #[.int .i64 K, .slice ao us.length cap], .int .i64 a, .int .i64 ((a + 1) % K)]) ?_ rfl ⟨K, ao, cap, us, a, (a + 1) % K, rfl, a0, a9, by omega, by omega, S4.out.fin (by omega) ⟨hK.1, hK.2.1⟩ hK.2.2 _ _⟩
        simp [results, Try.results24, go_sem, r0, r1]
      · have hzd : decide (0 < z) = false := by simp; omega
        go_wp2
        refine bodyPost_ret (v := .tuple #[.agg #[.int .i64 K, .slice ao us.length cap], .int .i64 a, .int .i64 a]) ?_ rfl ⟨K, ao, cap, us, a, a, rfl, a0, a9, a0, a9, S4.out.fin (by omega) ⟨hK.1, hK.2.1⟩ hK.2.2 _ _⟩
        simp [results, Try.results24, go_sem, r0, r1]
    · subst hab
      have hKd : decide (1 < K) = false := by simp; omega
      go_wp2
      refine bodyPost_ret (v := .tuple #[.agg #[.int .i64 K, .slice ao us.length cap], .int .i64 a, .int .i64 a]) ?_ rfl ⟨K, ao, cap, us, a, a, rfl, a0, a9, a0, a9, S3.out.fin (by omega) ⟨hK.1, hK.2.1⟩ hK.2.2 _ _⟩
      simp [results, Try.results24, go_sem, r0, r1]
  · have hab' : (a == b) = false := by simp [hab]
    go_wp2
    refine bodyPost_ret (v := .tuple #[.agg #[.int .i64 K, .slice ao us.length cap], .int .i64 a, .int .i64 b]) ?_ rfl ⟨K, ao, cap, us, a, b, rfl, a0, a9, b0, b9, S3.out.fin (by omega) ⟨hK.1, hK.2.1⟩ hK.2.2 _ _⟩
    simp [results, Try.results24, go_sem, r0, r1]

end Go.Proofs.Ytljnjpjnadlmhaa
