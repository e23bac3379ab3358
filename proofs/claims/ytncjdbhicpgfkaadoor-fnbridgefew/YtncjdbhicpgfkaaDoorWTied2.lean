/- Walk of spec.l71Tied. -/
import Derived.Test.YtncjdbhicpgfkaaDoorWTied
import Derived.Deep.RegionHeld3
namespace Go.Proofs.YtncjdbhicpgfkaaDoor
open Go.RowKit
set_option linter.unusedVariables false

set_option maxHeartbeats 1600000 in
theorem l71Tied_any (R : Nat) (bo : Option Addr) (bn bcap p : Nat) (w : World) (h : Rdr w R bo bn bcap p) (hp : p ≤ 997000) :
    Calls Tryd.prog 79 #[.pointer (some ⟨R, 0, none⟩)] w fun e w' => ∃ K ao cap us a b, e = .returned (.tuple #[.agg #[.int .i64 K, .slice ao us.length cap], .int .i64 a, .int .i64 b]) ∧ AnyNet w w' R bo bn bcap p 90 K ao us := by
  have hR := h.lt
  go_enter Tryd.func79, Tryd.ntmps79
  go_wp2_with fail
  refine (l71Pair_any R bo bn bcap p _ (h.next (below_one w _)) (by omega)).mono ?_
  rintro e w1 ⟨K, ao, cap, us, a, b, rfl, a0, a9, b0, b9, A1⟩
  obtain ⟨p1, hp1, rd1⟩ := A1.1
  have hK := A1.2.2.2
  have S1 := hideP (Pst.start (cap := cap) hR A1 rd1)
  clear A1 rd1 h
  have n0 := S1.out.N.c0
  have n1 := S1.out.N.c1
  have r0 := S1.out.C.c0
  have r1 := S1.out.C.c1
  have g0 := S1.out.C.f0
  have g1 := S1.out.C.f1
  by_cases hu : 0 < us.length
  · have hu' : (0 : Int) < (us.length : Int) := by omega
    go_wp2_with fail
    refine (pick_any R bo bn bcap p1 4 _ S1.out.rd (by omega)).mono ?_
    rintro e w2 ⟨z, rfl, z0, z1, rd2, tr2⟩
    have S2 := hideP (S1.out.turn tr2 rd2)
    have hwA : w.heap.size < w1.heap.size := S1.out.hA
    have hw12 := tr2.size
    simp at hw12
    clear S1 rd2 tr2 n0 n1 r0 r1 g0 g1 z1
    have n0 := S2.out.N.c0
    have n1 := S2.out.N.c1
    have r0 := S2.out.C.c0
    have r1 := S2.out.C.c1
    have g0 := S2.out.C.f0
    have g1 := S2.out.C.f1
    by_cases hz : 0 < z
    · have hzd : decide (0 < z) = true := by simp [hz]
      obtain ⟨g, rfl⟩ : ∃ g, ao = some ⟨g, 0, none⟩ := by
        rcases S2.out.O with ⟨e, _⟩ | ⟨g, e, _⟩
        · omega
        · exact ⟨g, e⟩
      have S2d := hideP (S2.out.next (Below.refl _ _).drew)
      have S2a := hideP ((S2.out.next (below_one w2 (.cells #[.int .i64 0, .int .i64 0] 35))).next (Below.refl _ _).drew)
      have n1' := (S2.out.next (below_one w2 (.cells #[.int .i64 0, .int .i64 0] 35))).N.c1
      have hu1 : (1 : Int) ≤ (us.length : Int) := by omega
      go_wp2
      go_region_with (first | (go_at_call 52; refine (pick_any R bo bn bcap (p1 + 1) (us.length : Int) _ S2d.out.rd (by omega)).mono ?_; rintro e w3 ⟨y, rfl, y0, y1, rd3, tr3⟩; obtain ⟨k, rfl⟩ : ∃ k : Nat, y = (k : Int) := ⟨y.toNat, by omega⟩; have hk : k < us.length := (by have := y1 hu1; omega); have S3 := S2d.out.turn tr3 rd3; have S3a := S3.next (below_one w3 (.cells #[.int .i64 0, .int .i64 0] 35)); obtain ⟨c0, c1⟩ := S3.row hk; obtain ⟨d0, d1⟩ := S3a.row hk; have m1 := S3.N.c1; have m1' := S3a.N.c1; have PE := hideP (S3.next (below_one w3 (.cells #[.int .i64 (tA us k), .int .i64 (tB us k)] 35))); have XE := hideP (Cel.new w3 (tA us k) (.int .i64 (tB us k)) 35); have hT := S3.rd.lt; have hw3 : w1.heap.size < w3.heap.size := S3.N.lt; clear S3 S3a y1 tr3 rd3) | (go_at_call 52; refine (pick_any R bo bn bcap (p1 + 1) (us.length : Int) _ S2a.out.rd (by omega)).mono ?_; rintro e w3 ⟨y, rfl, y0, y1, rd3, tr3⟩; obtain ⟨k, rfl⟩ : ∃ k : Nat, y = (k : Int) := ⟨y.toNat, by omega⟩; have hk : k < us.length := (by have := y1 hu1; omega); have S3 := S2a.out.turn tr3 rd3; obtain ⟨c0, c1⟩ := S3.row hk; have m1 := S3.N.c1; have PE := hideP (S2.out.late tr3 rd3 (.int .i64 (tA us k)) (.int .i64 (tB us k))); have hT := S2.out.rd.lt; have X := hideP ((Cel.new w2 0 (.int .i64 0) 35).drew.turn tr3 (Nat.lt_trans S2.out.hR (Nat.lt_trans S2.out.hA S2.out.N.lt))); have XE := hideP (X.out.put (tA us k) (.int .i64 (tB us k))); have x0 := X.out.c0; have x1 := X.out.c1; have x2 := X.out.f0; have x3 := X.out.f1; clear S3 y1 tr3 rd3))
      all_goals
        first
        | (clear n0 n1 r0 r1 g0 g1 S2 S2d S2a n1'
           go_wp2_with fail
           refine (pick_any R bo bn bcap (p1 + 1 + 1) 2 _ PE.out.rd (by omega)).mono ?_
           rintro e w5 ⟨t, rfl, t0, t1, rd5, tr5⟩
           have S5 := hideP (PE.out.turn tr5 rd5)
           have X5 := hideP (XE.out.turn tr5 hT)
           clear PE XE rd5 tr5 t1
           have n0 := S5.out.N.c0
           have n1 := S5.out.N.c1
           have r0 := S5.out.C.c0
           have r1 := S5.out.C.c1
           have g0 := S5.out.C.f0
           have g1 := S5.out.C.f1
           have HNE := hideP (show w1.heap.size ≠ w.heap.size ∧ w3.heap.size ≠ w.heap.size from ⟨by omega, by omega⟩)
           have x0' := X5.out.c0
           have x1' := X5.out.c1
           by_cases ht : t = 0
           · have htb : (t == 0) = true := by simp [ht]
             go_wp2
             go_region_held3 (fun w' => w'.cell? ⟨w1.heap.size, 0, none⟩ = some (.int .i64 K) ∧ w'.cell? ⟨w1.heap.size, 1, none⟩ = some (.slice (some ⟨g, 0, none⟩) us.length cap) ∧ w'.cell? ⟨w3.heap.size, 0, none⟩ = some (.int .i64 (tA us k)) ∧ w'.cell? ⟨w3.heap.size, 1, none⟩ = some (.int .i64 (tB us k))) (first | exact ⟨n0, n1, x0', x1'⟩ | exact ⟨((S5.out.N.drew.set HNE.out.1 _).set HNE.out.1 _).c0, ((S5.out.N.drew.set HNE.out.1 _).set HNE.out.1 _).c1, ((X5.out.drew.set HNE.out.2 _).set HNE.out.2 _).c0, ((X5.out.drew.set HNE.out.2 _).set HNE.out.2 _).c1⟩) (fail)
             all_goals
               go_wp2
               refine bodyPost_ret (v := .tuple #[.agg #[.int .i64 K, .slice (some ⟨g, 0, none⟩) us.length cap], .int .i64 (tB us k), .int .i64 (tA us k)]) ?_ rfl ⟨K, some ⟨g, 0, none⟩, cap, us, tB us k, tA us k, rfl, ?_⟩
               · simp [results, Tryd.results79, go_sem, r0, r1]
               · have F := fun (u v : Value) => S5.out.fin (p := p) (q := 90) (by omega) ⟨hK.1, hK.2.1⟩ hK.2.2 u v
                 first
                 | exact F _ _
                 | exact (F _ _).next hR (Below.refl _ _).drew
           · have htb : (t == 0) = false := by simp [ht]
             go_wp2
             go_region_held3 (fun w' => w'.cell? ⟨w1.heap.size, 0, none⟩ = some (.int .i64 K) ∧ w'.cell? ⟨w1.heap.size, 1, none⟩ = some (.slice (some ⟨g, 0, none⟩) us.length cap) ∧ w'.cell? ⟨w3.heap.size, 0, none⟩ = some (.int .i64 (tA us k)) ∧ w'.cell? ⟨w3.heap.size, 1, none⟩ = some (.int .i64 (tB us k))) (first | exact ⟨n0, n1, x0', x1'⟩ | exact ⟨((S5.out.N.drew.set HNE.out.1 _).set HNE.out.1 _).c0, ((S5.out.N.drew.set HNE.out.1 _).set HNE.out.1 _).c1, ((X5.out.drew.set HNE.out.2 _).set HNE.out.2 _).c0, ((X5.out.drew.set HNE.out.2 _).set HNE.out.2 _).c1⟩) (fail)
             all_goals
               go_wp2
               refine bodyPost_ret (v := .tuple #[.agg #[.int .i64 K, .slice (some ⟨g, 0, none⟩) us.length cap], .int .i64 (tA us k), .int .i64 (tB us k)]) ?_ rfl ⟨K, some ⟨g, 0, none⟩, cap, us, tA us k, tB us k, rfl, ?_⟩
               · simp [results, Tryd.results79, go_sem, r0, r1]
               · have F := fun (u v : Value) => S5.out.fin (p := p) (q := 90) (by omega) ⟨hK.1, hK.2.1⟩ hK.2.2 u v
                 first
                 | exact F _ _
                 | exact (F _ _).next hR (Below.refl _ _).drew)
        | (clear n0 n1 r0 r1 g0 g1 S2 S2d S2a n1'
           go_wp2_with fail
           refine (pick_any R bo bn bcap (p1 + 1 + 1) 2 _ PE.out.rd (by omega)).mono ?_
           rintro e w5 ⟨t, rfl, t0, t1, rd5, tr5⟩
           have S5 := hideP (PE.out.turn tr5 rd5)
           have X5 := hideP (XE.out.turn tr5 hT)
           clear PE XE rd5 tr5 t1
           have n0 := S5.out.N.c0
           have n1 := S5.out.N.c1
           have r0 := S5.out.C.c0
           have r1 := S5.out.C.c1
           have g0 := S5.out.C.f0
           have g1 := S5.out.C.f1
           have HNE := hideP (show w1.heap.size ≠ w.heap.size ∧ w2.heap.size ≠ w.heap.size from ⟨by omega, by omega⟩)
           have x0' := X5.out.c0
           have x1' := X5.out.c1
           by_cases ht : t = 0
           · have htb : (t == 0) = true := by simp [ht]
             go_wp2
             go_region_held3 (fun w' => w'.cell? ⟨w1.heap.size, 0, none⟩ = some (.int .i64 K) ∧ w'.cell? ⟨w1.heap.size, 1, none⟩ = some (.slice (some ⟨g, 0, none⟩) us.length cap) ∧ w'.cell? ⟨w2.heap.size, 0, none⟩ = some (.int .i64 (tA us k)) ∧ w'.cell? ⟨w2.heap.size, 1, none⟩ = some (.int .i64 (tB us k))) (first | exact ⟨n0, n1, x0', x1'⟩ | exact ⟨((S5.out.N.drew.set HNE.out.1 _).set HNE.out.1 _).c0, ((S5.out.N.drew.set HNE.out.1 _).set HNE.out.1 _).c1, ((X5.out.drew.set HNE.out.2 _).set HNE.out.2 _).c0, ((X5.out.drew.set HNE.out.2 _).set HNE.out.2 _).c1⟩) (fail)
             all_goals
               go_wp2
               refine bodyPost_ret (v := .tuple #[.agg #[.int .i64 K, .slice (some ⟨g, 0, none⟩) us.length cap], .int .i64 (tB us k), .int .i64 (tA us k)]) ?_ rfl ⟨K, some ⟨g, 0, none⟩, cap, us, tB us k, tA us k, rfl, ?_⟩
               · simp [results, Tryd.results79, go_sem, r0, r1]
               · have F := fun (u v : Value) => S5.out.fin (p := p) (q := 90) (by omega) ⟨hK.1, hK.2.1⟩ hK.2.2 u v
                 first
                 | exact F _ _
                 | exact (F _ _).next hR (Below.refl _ _).drew
           · have htb : (t == 0) = false := by simp [ht]
             go_wp2
             go_region_held3 (fun w' => w'.cell? ⟨w1.heap.size, 0, none⟩ = some (.int .i64 K) ∧ w'.cell? ⟨w1.heap.size, 1, none⟩ = some (.slice (some ⟨g, 0, none⟩) us.length cap) ∧ w'.cell? ⟨w2.heap.size, 0, none⟩ = some (.int .i64 (tA us k)) ∧ w'.cell? ⟨w2.heap.size, 1, none⟩ = some (.int .i64 (tB us k))) (first | exact ⟨n0, n1, x0', x1'⟩ | exact ⟨((S5.out.N.drew.set HNE.out.1 _).set HNE.out.1 _).c0, ((S5.out.N.drew.set HNE.out.1 _).set HNE.out.1 _).c1, ((X5.out.drew.set HNE.out.2 _).set HNE.out.2 _).c0, ((X5.out.drew.set HNE.out.2 _).set HNE.out.2 _).c1⟩) (fail)
             all_goals
               go_wp2
               refine bodyPost_ret (v := .tuple #[.agg #[.int .i64 K, .slice (some ⟨g, 0, none⟩) us.length cap], .int .i64 (tA us k), .int .i64 (tB us k)]) ?_ rfl ⟨K, some ⟨g, 0, none⟩, cap, us, tA us k, tB us k, rfl, ?_⟩
               · simp [results, Tryd.results79, go_sem, r0, r1]
               · have F := fun (u v : Value) => S5.out.fin (p := p) (q := 90) (by omega) ⟨hK.1, hK.2.1⟩ hK.2.2 u v
                 first
                 | exact F _ _
                 | exact (F _ _).next hR (Below.refl _ _).drew)
    · have hzd : decide (0 < z) = false := by simp; omega
      go_wp2
      refine bodyPost_ret (v := .tuple #[.agg #[.int .i64 K, .slice ao us.length cap], .int .i64 a, .int .i64 b]) ?_ rfl ⟨K, ao, cap, us, a, b, rfl, S2.out.fin (by omega) ⟨hK.1, hK.2.1⟩ hK.2.2 _ _⟩
      simp [results, Tryd.results79, go_sem, r0, r1]
  · have hu' : ¬ (0 : Int) < (us.length : Int) := by omega
    have hud : decide ((0 : Int) < (us.length : Int)) = false := decide_eq_false hu'
    go_wp2
    refine bodyPost_ret (v := .tuple #[.agg #[.int .i64 K, .slice ao us.length cap], .int .i64 a, .int .i64 b]) ?_ rfl ⟨K, ao, cap, us, a, b, rfl, S1.out.fin (by omega) ⟨hK.1, hK.2.1⟩ hK.2.2 _ _⟩
    simp [results, Tryd.results79, go_sem, r0, r1]


end Go.Proofs.YtncjdbhicpgfkaaDoor
