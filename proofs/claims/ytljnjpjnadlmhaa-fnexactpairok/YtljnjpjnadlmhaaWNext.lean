/- Walk of spec.l2Next. -/
import Derived.Test.YtljnjpjnadlmhaaWRows
import Derived.Test.YtljnjpjnadlmhaaMathB
import Derived.Test.YtljnjpjnadlmhaaWHas
namespace Go.Proofs.Ytljnjpjnadlmhaa
open Go.RowKit
set_option linter.unusedVariables false

/-- a net in the box of a function that began in w -/
structure Bx (w wr : World) (K : Int) (v : Value) : Prop where
  c0 : wr.cell? ⟨w.heap.size, 0, none⟩ = some (.int .i64 K)
  c1 : wr.cell? ⟨w.heap.size, 1, none⟩ = some v
  lt : w.heap.size < wr.heap.size
  B : Below w.heap.size w wr
theorem Bx.next {w wr w' : World} {K : Int} {v : Value} (h : Bx w wr K v) (hb : Below wr.heap.size wr w') : Bx w w' K v :=
  ⟨(hb.cell (p := ⟨w.heap.size, 0, none⟩) h.lt).trans h.c0, (hb.cell (p := ⟨w.heap.size, 1, none⟩) h.lt).trans h.c1, Nat.lt_of_lt_of_le h.lt hb.size, h.B.trans (hb.mono h.B.size)⟩
theorem Bx.turn {w wr w' : World} {K : Int} {v : Value} {a b : Nat} (h : Bx w wr K v) (ht : Turned a b wr w') (ha : w.heap.size < a) : Bx w w' K v :=
  ⟨(ht.cell (p := ⟨w.heap.size, 0, none⟩) h.lt (Or.inl ha)).trans h.c0, (ht.cell (p := ⟨w.heap.size, 1, none⟩) h.lt (Or.inl ha)).trans h.c1, Nat.lt_of_lt_of_le h.lt ht.size, h.B.trans (ht.under (by omega) h.B.size)⟩
theorem Bx.start (w : World) (K : Int) (v : Value) (t : TypeId) : Bx w (w.alloc (.cells #[.int .i64 K, v] t)) K v := ⟨by simp, by simp, by simp, below_one _ _⟩
theorem RowS.new (w : World) (t : TypeId) : RowS (w.alloc (.cells #[] t)) w.heap.size w.heap.size 0 0 [] :=
  ⟨by simp, fun i hi => absurd hi (by simp), fun i hi => absurd hi (by omega), fun i => World.frozen?_alloc_at _ _ _ _ rfl, Nat.le_refl _, by simp⟩
theorem RowS.one (w : World) (x : Nat) (t : TypeId) : RowS (w.alloc (.cells #[.int .i64 (x : Int)] t)) w.heap.size w.heap.size 0 1 [x] := by
  refine ⟨by simp, fun i hi => ?_, fun i hi => ?_, fun i => World.frozen?_alloc_at _ _ _ _ rfl, Nat.le_refl _, by simp⟩
  · simp at hi; subst hi; rw [World.cell?_alloc_at _ _ _ _ rfl]; rfl
  · obtain rfl : i = 0 := by omega
    rw [World.cell?_alloc_at _ _ _ _ rfl]; rfl
theorem l1Has_is (v : Bool) (K : Int) (ao : Option Addr) (cap : Nat) (ts : List (Int × Int)) (x y : Nat) (w : World) (hn : ts.length ≤ 1099511627776) (ht : TiesIn w w.heap.size ao ts) (h : tieNB ts x y = v) :
    Calls Try.prog 41 #[.agg #[.int .i64 K, .slice ao ts.length cap], .int .i64 (x : Int), .int .i64 (y : Int)] w fun e w' => e = .returned (.bool v) ∧ Below w.heap.size w w' := by
  rw [← h]; exact l1Has_any K ao cap ts x y w hn ht

set_option maxHeartbeats 800000 in
theorem l2Next_any (Kn : Nat) (ao : Option Addr) (cap : Nat) (ts : List (Int × Int)) (x : Nat) (w : World) (hn : ts.length ≤ 1099511627776) (ht : TiesIn w w.heap.size ao ts) (hK : Kn ≤ 8) :
    Calls Try.prog 49 #[.agg #[.int .i64 (Kn : Int), .slice ao ts.length cap], .int .i64 (x : Int)] w fun e w' => ∃ g off cap', e = .returned (.slice (some ⟨g, off, none⟩) (nbrs ts x Kn).length cap') ∧ RowS w' w.heap.size g off cap' (nbrs ts x Kn) ∧ Below w.heap.size w w' := by
  obtain ⟨i0, hi, hz0, hz1, hz2⟩ := info_parts Try.infoInt
  have HI : Hid (Try.prog.info? 3 = some i0 ∧ i0.zero = some (.int .i64 0) ∧ i0.size = 1 ∧ i0.bytes = 8) := ⟨hi, hz0, hz1, hz2⟩
  clear hi hz0 hz1 hz2
  have X0 := fun (t u : TypeId) => (Bx.start w (Kn : Int) (.slice ao ts.length cap) t).next (below_one _ (.cells #[] u))
  have R0 : ∀ t u : TypeId, RowS ((w.alloc (.cells #[.int .i64 (Kn : Int), .slice ao ts.length cap] t)).alloc (.cells #[] u)) (w.heap.size + 1) (w.heap.size + 1) 0 0 [] := fun t u => by
    have h := RowS.new (w.alloc (.cells #[.int .i64 (Kn : Int), .slice ao ts.length cap] t)) u
    have e : (w.alloc (.cells #[.int .i64 (Kn : Int), .slice ao ts.length cap] t)).heap.size = w.heap.size + 1 := by simp
    rw [e] at h
    exact h
  have HX0 := hideP X0
  have HR0 := hideP R0
  have HT := hideP ht
  clear X0 R0 ht
  go_enter Try.func49, Try.ntmps49
  go_wp2
  go_loopw [5, 6] (fun v i wr => ∃ k g off cap' : Nat, k ≤ Kn ∧ i = .int .i64 k ∧ v = .slice (some ⟨g, off, none⟩) (nbrs ts x k).length cap' ∧ RowS wr (w.heap.size + 1) g off cap' (nbrs ts x k) ∧ Bx w wr (Kn : Int) (.slice ao ts.length cap))
    (fun _ i _ => Kn - (intOf i).toNat)
  case atStart => exact ⟨0, w.heap.size + 1, 0, 0, Nat.zero_le _, rfl, rfl, HR0.out _ _, HX0.out _ _⟩
  case round =>
    obtain ⟨k, g, off, cap', hk, rfl, rfl, hR, hX⟩ := hrel
    have c0 := hX.c0
    have c1 := hX.c1
    by_cases hlt : k < Kn
    · have hk1 : (k : Int) < (Kn : Int) := by omega
      have T1 := hideP ((HT.out.below hX.B (Nat.le_refl _)).wide (Nat.le_of_lt hX.lt))
      have hX' := hideP hX
      have hR' := hideP hR
      have hlen := nbrs_len ts x k
      clear hX hR
      cases hv : tieNB ts x k
      · have HV := hideP hv
        have HNB : Hid (nbrs ts x (k + 1) = nbrs ts x k) := nbrs_no hv
        clear hv
        go_wp2_with fail
        refine (l1Has_is false (Kn : Int) ao cap ts x k _ hn T1.out HV.out).mono ?_
        rintro e w1 ⟨rfl, hb1⟩
        have X1 := hideP (hX'.out.next hb1)
        have R1 := hideP (hR'.out.next hb1)
        clear hb1 c0 c1
        go_wp2
        go_roundw
        case rel => exact ⟨k + 1, g, off, cap', by omega, by go_num, by rw [HNB.out], by rw [HNB.out]; exact R1.out, X1.out⟩
        case measure => simp [intOf]; omega
      · have HV := hideP hv
        have HNB : Hid (nbrs ts x (k + 1) = nbrs ts x k ++ [k]) := nbrs_yes hv
        have HLN : Hid ((nbrs ts x (k + 1)).length = (nbrs ts x k).length + 1) := by show (nbrs ts x (k + 1)).length = _; rw [HNB.out]; simp
        obtain ⟨L, hL⟩ : ∃ L, L = nbrs ts x k := ⟨_, rfl⟩
        have HL := hideP hL
        rw [← hL] at hR' hlen HNB HLN ⊢
        obtain ⟨m, hm⟩ : ∃ m, m = L.length := ⟨_, rfl⟩
        have HM := hideP hm
        rw [← hm] at hlen HLN ⊢
        clear hv hL hm
        go_wp2_with fail
        refine (l1Has_is true (Kn : Int) ao cap ts x k _ hn T1.out HV.out).mono ?_
        rintro e w1 ⟨rfl, hb1⟩
        have bo1 := below_one w1 (.cells #[.int .i64 (k : Int)] 3)
        have X1 := hideP ((hX'.out.next hb1).next bo1)
        have R1 := hideP ((hR'.out.next hb1).next bo1)
        clear hb1 c0 c1 bo1
        go_wp2_with (at_builtin; refine wpList_append_rowS _ rfl _ _ 30 rfl (w.heap.size + 1) 3 i0 Try.underlying30 HI.out.1 HI.out.2.1 HI.out.2.2.1 HI.out.2.2.2 g off cap' L m HM.out.symm rfl R1.out w1.heap.size k rfl ?c1 ?c2 ?c3 ?c4)
        · rw [World.cell?_alloc_at _ _ _ _ rfl]; rfl
        · rw [← HM.out]; omega
        · exact X1.out.lt
        intro g' off' cap'' w2 hR2 hg2 ht2
        have X2 := hideP (X1.out.turn ht2 R1.out.lo)
        have R2 := hideP hR2
        clear hR2 ht2 hg2
        go_wp2
        go_roundw
        case rel => exact ⟨k + 1, g', off', cap'', by omega, by go_num, by rw [HLN.out], by rw [HNB.out]; exact R2.out, X2.out⟩
        case measure => simp [intOf]; omega
    · obtain rfl : k = Kn := by omega
      have HR := hideP (hR.down (Nat.le_succ _))
      have HB := hideP hX.B
      clear hR hX
      go_wp2
      go_ret
      exact ⟨g, off, cap', rfl, HR.out, HB.out⟩

end Go.Proofs.Ytljnjpjnadlmhaa
