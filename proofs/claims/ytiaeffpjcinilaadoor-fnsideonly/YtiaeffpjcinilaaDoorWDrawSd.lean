/- What the laws of sides draw. -/
import Derived.Test.YtiaeffpjcinilaaDoorWHalf
namespace Go.Proofs.YtiaeffpjcinilaaDoor
open Go.RowKit
set_option linter.unusedVariables false

set_option maxHeartbeats 400000 in
theorem drawSideOf_any (bo : Option Addr) (n cap : Nat) (w : World) (hb : BytesIn w bo n) (hnil : bo = none → n = 0 ∧ cap = 0) (hc : n ≤ cap) (hm : cap ≤ maxLen) :
    Calls Tryd.prog 14 #[.slice bo n cap] w fun e w' => ∃ K ao cap' us, e = .returned (.agg #[.int .i64 K, .slice ao us.length cap']) ∧ Dealt w w' K ao us := by
  go_enter Tryd.func14, Tryd.ntmps14
  go_wp2_with fail
  refine (l6Open_any bo n cap _ (fun i hi => by obtain ⟨b, off, v, e, h1, h2, h3⟩ := hb i hi; exact ⟨b, off, v, e, Nat.lt_of_lt_of_le h1 (by simp), by rw [World.cell?_alloc_past _ _ _ h1]; exact h2, h3⟩) hnil hc hm).mono ?_
  rintro e w1 ⟨rfl, ⟨bn, bcap, rd⟩, hb1⟩
  have hb1' : Below (w.heap.size + 1) (w.alloc (.cells #[.int .i64 0, .slice none 0 0] 25)) w1 := by simpa using hb1
  have C1 := hideP ((Cel.new w 0 (.slice none 0 0) 25).below hb1' (Nat.lt_succ_self _))
  have hB1 := hideP ((below_one w (.cells #[.int .i64 0, .slice none 0 0] 25)).trans (hb1'.mono (Nat.le_succ _)))
  have rd' : Rdr w1 (w.heap.size + 1) bo bn bcap 0 := by simpa using rd
  have hR := rd'.lt
  clear hb1 hb1' rd
  go_wp2_with fail
  refine (l71Half_any (w.heap.size + 1) bo bn bcap 0 _ rd' (by omega)).mono ?_
  rintro e w2 ⟨K, ao, cap', us, rfl, A2⟩
  have C2 := hideP (C1.out.turn' A2.2.1 (by omega))
  have r0 := C2.out.c0
  have r1 := C2.out.c1
  have g0 := C2.out.f0
  have g1 := C2.out.f1
  have F := hideP (fun u0 u1 => Dealt.end A2 hB1.out (Nat.le_succ _) hR (by omega) u0 u1)
  clear A2
  go_wp2
  refine bodyPost_ret (v := .agg #[.int .i64 K, .slice ao us.length cap']) ?_ rfl ⟨K, ao, cap', us, rfl, F.out _ _⟩
  simp [results, Tryd.results14, go_sem, r0, r1]
end Go.Proofs.YtiaeffpjcinilaaDoor
