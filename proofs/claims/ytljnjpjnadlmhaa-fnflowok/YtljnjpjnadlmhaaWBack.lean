/- Walk of laws.loBack: the numbers turned about, in memory of their own. -/
import Derived.Test.YtljnjpjnadlmhaaPartWWayOk2
import Derived.Test.YtljnjpjnadlmhaaPartWRows
namespace Go.Proofs.Ytljnjpjnadlmhaa
open Go.RowKit
set_option linter.unusedVariables false

theorem take_rev {xs : List Int} {k : Nat} (h : k < xs.length) : xs.reverse.take (k + 1) = xs.reverse.take k ++ [xi xs (xs.length - 1 - k)] := by
  rw [List.take_add_one, List.getElem?_eq_getElem (by simpa using h), List.getElem_reverse]
  simp [xi, show xs.length - 1 - k < xs.length by omega]

set_option maxHeartbeats 800000 in
theorem loBack_any (ao : Option Addr) (cap : Nat) (xs : List Int) (w : World) (hn : xs.length ≤ 900) (hx : IntsIn w w.heap.size ao xs) :
    Calls Try.prog 10 #[.slice ao xs.length cap] w fun e w' => ∃ g off cap', e = .returned (.slice (some ⟨g, off, none⟩) xs.length cap') ∧ RowZ w' w.heap.size g off cap' xs.reverse ∧ Below w.heap.size w w' := by
  obtain ⟨i0, hi, hz0, hz1, hz2⟩ := info_parts Try.infoInt
  have HI : Hid (Try.prog.info? 3 = some i0 ∧ i0.zero = some (.int .i64 0) ∧ i0.size = 1 ∧ i0.bytes = 8) := ⟨hi, hz0, hz1, hz2⟩
  clear hi hz0 hz1 hz2
  obtain ⟨n, hnn⟩ : ∃ n, n = xs.length := ⟨_, rfl⟩
  have HN := hideP hnn
  have HX := hideP hx
  have HR0 : Hid (∀ u : TypeId, RowZ (w.alloc (.cells #[] u)) w.heap.size w.heap.size 0 0 []) := fun u => RowZ.new w u
  have HB0 : Hid (∀ u : TypeId, Below w.heap.size w (w.alloc (.cells #[] u))) := fun u => below_one _ _
  rw [← hnn] at hn ⊢
  clear hnn hx
  go_enter Try.func10, Try.ntmps10
  go_wp2
  go_loopw [3, 4] (fun v i wr => ∃ k g off cap' : Nat, k ≤ n ∧ i = .int .i64 ((n : Int) - 1 - (k : Int)) ∧ v = .slice (some ⟨g, off, none⟩) k cap' ∧ RowZ wr w.heap.size g off cap' (xs.reverse.take k) ∧ Below w.heap.size w wr)
    (fun _ i _ => (intOf i + 1).toNat)
  case atStart => exact ⟨0, w.heap.size, 0, 0, Nat.zero_le _, by simp, rfl, HR0.out _, HB0.out _⟩
  case round =>
    obtain ⟨k, g, off, cap', hk, rfl, rfl, hR, hB⟩ := hrel
    by_cases hlt : k < n
    · obtain ⟨j, hj⟩ : ∃ j : Nat, j = n - 1 - k := ⟨_, rfl⟩
      have ej : ((n : Int) - 1 - (k : Int)) = (j : Int) := by omega
      rw [ej]
      obtain ⟨b, off2, rfl, hb, cx⟩ := HX.out j (by rw [← HN.out]; omega)
      have cx' : wr.cell? ⟨b, off2 + j, none⟩ = some (.int .i64 (xi xs j)) := (hB.cell (p := ⟨b, off2 + j, none⟩) hb).trans cx
      have HTR : Hid (xs.reverse.take (k + 1) = xs.reverse.take k ++ [xi xs j]) := by
        have := take_rev (xs := xs) (k := k) (by rw [← HN.out]; exact hlt)
        rw [← HN.out, ← hj] at this; exact this
      have HLN : Hid ((xs.reverse.take k).length = k) := by show (xs.reverse.take k).length = k; rw [List.length_take, List.length_reverse, ← HN.out]; omega
      obtain ⟨x, hx⟩ : ∃ x, x = xi xs j := ⟨_, rfl⟩
      rw [← hx] at cx' HTR
      have HJ : Hid (j = n - 1 - k) := hj
      have bo1 := below_one wr (.cells #[.int .i64 x] 3)
      have R1 := hideP (hR.next bo1)
      have B1 := hideP (hB.trans (bo1.mono hB.size))
      have hj0 : (0 : Int) ≤ (j : Int) := by omega
      have hj1 : (j : Int) < (n : Int) := by omega
      clear hx cx hj bo1 hR hB ej
      go_wp2_with (at_builtin; refine wpList_append_rowZ _ rfl _ _ 30 rfl w.heap.size 3 i0 Try.underlying30 HI.out.1 HI.out.2.1 HI.out.2.2.1 HI.out.2.2.2 g off cap' _ k HLN.out rfl R1.out wr.heap.size x rfl ?c1 ?c2 ?c3 ?c4)
      · rw [World.cell?_alloc_at _ _ _ _ rfl]; rfl
      · rw [HLN.out]; omega
      · exact B1.out.size
      intro g' off' cap'' w2 hR2 hg2 ht2
      have R2 := hideP hR2
      have B2 := hideP (B1.out.trans (ht2.under R1.out.lo B1.out.size))
      clear hR2 ht2 hg2
      go_wp2
      go_roundw
      case rel => exact ⟨k + 1, g', off', cap'', by omega, by have := HJ.out; first | (congr 1; omega) | (go_num), rfl, by rw [HTR.out]; exact R2.out, B2.out⟩
      case measure => simp [intOf]
    · obtain rfl : k = n := by omega
      have HR : Hid (RowZ wr w.heap.size g off cap' xs.reverse) := by
        have e : xs.reverse.take k = xs.reverse := List.take_of_length_le (by rw [List.length_reverse, ← HN.out]; omega)
        rw [e] at hR; exact hR
      have HB := hideP hB
      have hneg : ((k : Int) - 1 - (k : Int)) = -1 := by omega
      rw [hneg]
      clear hR hB hneg
      go_wp2
      go_ret
      exact ⟨g, off, cap', rfl, HR.out, HB.out⟩

end Go.Proofs.Ytljnjpjnadlmhaa
