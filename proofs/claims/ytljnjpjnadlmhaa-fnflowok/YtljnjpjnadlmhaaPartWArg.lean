/- Texts put together: WArg, WArgB. -/
import Derived.Test.YtljnjpjnadlmhaaPartWLeaf
import Derived.ProofKit
import Derived.OpenShut
import Derived.ShutString
import Derived.ChangeOld
import Derived.Lib.SmallJoins
import Derived.Deep.SlicePairs
import Derived.ChangeSlices
import Derived.Test.YtljnjpjnadlmhaaPartWPick
/- What comes in: a laws.Net by value, opened. -/
namespace Go.Proofs.Ytljnjpjnadlmhaa
open Go.ChangeShapes Go.WideShapes Go.ChangeAt Go.RowKit
set_option linter.unusedVariables false

theorem Try.own : ownKnob Try.prog.godebug = none := by kernel_rfl
theorem Try.laidOut : laidOutB Try.prog = true := by kernel_rfl
theorem Try.cellsInt : Try.prog.cellsOf 3 = 1 := by kernel_rfl
theorem Try.cellsLawTie : Try.prog.cellsOf 81 = 2 := by kernel_rfl
theorem Try.cellsLawNet : Try.prog.cellsOf 40 = 2 := by kernel_rfl

theorem cell_lt {w : World} {p : Addr} {v : Value} (h : w.cell? p = some v) : p.block < w.heap.size := by
  apply Decidable.byContradiction
  intro hc
  have e : w.heap[p.block]? = none := Array.getElem?_eq_none (by omega)
  simp [World.cell?, e] at h

theorem tA_map (n : Nat) (f g : Nat → Int) (i : Nat) (h : i < n) : tA ((List.range n).map fun i => (f i, g i)) i = f i := by simp [tA, h]
theorem tB_map (n : Nat) (f g : Nat → Int) (i : Nat) (h : i < n) : tB ((List.range n).map fun i => (f i, g i)) i = g i := by simp [tB, h]

theorem ties_opened {H : Type} {enc : TypeId × Value → H} {W : World} {fuel : Nat} {cs : List Value} {x : DataW H × List MemPlace}
    (h1 : DataW.trod enc Try.prog W 0 (fun _ => true) true fuel 38 cs = some x) :
    ∃ (ao : Option Addr) (cap : Nat) (ts : List (Int × Int)), cs = [.slice ao ts.length cap] ∧ ts.length ≤ maxLen ∧ TiesIn W W.heap.size ao ts := by
  rcases Go.Deep.open_slice_pairs Try.underlying38 Try.underlying81 Try.cellsLawTie rfl rfl Try.cellsInt Try.cellsInt h1 with ⟨e1, _⟩ | ⟨a, len, cap, m, k, V0, V1, D0, D1, P0, P1, e1, _, hl, hm, hmm, _, hx⟩
  · exact ⟨none, 0, [], e1, by simp, fun i hi => absurd hi (by simp)⟩
  · simp only [if_true] at hmm
    subst hmm
    refine ⟨some a, m, (List.range len).map fun i => (intOf (V0 i), intOf (V1 i)), by simpa using e1, by simpa using Nat.le_trans hl hm, ?_⟩
    intro i hi
    simp only [List.length_map, List.length_range] at hi
    obtain ⟨c0, c1, r0, r1⟩ := hx i (by omega)
    obtain ⟨x, ex, _, _⟩ := DataW.trod_int Try.underlying3 r0
    obtain ⟨y, ey, _, _⟩ := DataW.trod_int Try.underlying3 r1
    simp only [List.cons.injEq, and_true] at ex ey
    have hsp : a.spot = none := by
      obtain ⟨z0, _⟩ := hx 0 (by omega)
      simpa [Addr.add] using World.cell?_spot z0
    obtain ⟨b, off, spot⟩ := a
    simp only at hsp
    subst hsp
    have lt := cell_lt c0
    have f0 : (⟨b, off, none⟩ : Addr).add (i * 2) = ⟨b, off + i * 2, none⟩ := by
      unfold Addr.add; split
      · rename_i h; simp
      · rfl
    have f1 : (⟨b, off, none⟩ : Addr).add (i * 2 + 1) = ⟨b, off + i * 2 + 1, none⟩ := by
      unfold Addr.add; rw [if_neg (by omega)]; simp; omega
    rw [f0] at c0 lt
    rw [f1] at c1
    rw [tA_map _ _ _ _ hi, tB_map _ _ _ _ hi]
    exact ⟨b, off, rfl, lt, by rw [c0, ex]; rfl, by rw [c1, ey]; rfl⟩
set_option maxRecDepth 100000 in
theorem open_ties {H : Type} {enc : TypeId × Value → H} {W : World} {base : Nat} {v : Value} {d : DataW H} {p : List MemPlace}
    (hv : Value.okWide Try.prog W .any base 38 v) (h : DataW.Trod enc Try.prog W 0 (fun _ => true) true 38 v d p) :
    ∃ (ao : Option Addr) (cap : Nat) (ts : List (Int × Int)), v = .slice ao ts.length cap ∧ ts.length ≤ maxLen ∧ TiesIn W W.heap.size ao ts := by
  obtain ⟨a0, len, cap, rfl⟩ := okWide_slice Try.underlying38 hv
  obtain ⟨fuel, hf⟩ := h
  obtain ⟨ao, cap', ts, e, h1, h2⟩ := ties_opened hf
  simp [Value.cells] at e
  obtain ⟨rfl, rfl, rfl⟩ := e
  exact ⟨a0, cap, ts, rfl, h1, h2⟩
set_option maxRecDepth 100000 in
theorem open_net {H : Type} {enc : TypeId × Value → H} {W : World} {base : Nat} {v : Value} {d : DataW H} {p : List MemPlace}
    (hv : Value.okWide Try.prog W .any base 40 v) (h : DataW.Trod enc Try.prog W 0 (fun _ => true) true 40 v d p) :
    ∃ (K : Int) (ao : Option Addr) (cap : Nat) (ts : List (Int × Int)), v = .agg #[.int .i64 K, .slice ao ts.length cap] ∧ ts.length ≤ maxLen ∧ TiesIn W W.heap.size ao ts := by
  obtain ⟨v0, v1, y0, y1, n, rfl, _, _, h0, h1⟩ := Go.Joins.open_agg2 Try.underlying40 (by kernel_rfl) Try.cellsLawNet hv h
  obtain ⟨K, e0, _, _⟩ := DataW.trod_int Try.underlying3 h0
  simp only [List.cons.injEq, and_true] at e0
  subst e0
  obtain ⟨ao, cap, ts, e, h2, h3⟩ := ties_opened h1
  simp only [List.cons.injEq, and_true] at e
  subst e
  exact ⟨K, ao, cap, ts, rfl, h2, h3⟩

end Go.Proofs.Ytljnjpjnadlmhaa

/- What comes in: a row of bytes, opened. -/
namespace Go.Proofs.Ytljnjpjnadlmhaa
open Go.ChangeShapes Go.WideShapes Go.ChangeAt Go.RowKit
set_option linter.unusedVariables false

theorem Try.ownB : ownKnob Try.prog.godebug = none := by kernel_rfl
theorem Try.laidOutB : laidOutB Try.prog = true := by kernel_rfl
theorem Try.cellsByte : Try.prog.cellsOf 5 = 1 := by kernel_rfl
theorem cell_ltB {w : World} {p : Addr} {v : Value} (h : w.cell? p = some v) : p.block < w.heap.size := by
  apply Decidable.byContradiction
  intro hc
  have e : w.heap[p.block]? = none := Array.getElem?_eq_none (by omega)
  simp [World.cell?, e] at h
set_option maxRecDepth 100000 in
theorem open_bytes {H : Type} {enc : TypeId × Value → H} {W : World} {base : Nat} {v : Value} {d : DataW H} {p : List MemPlace}
    (hv : Value.okWide Try.prog W .any base 22 v) (h : DataW.Trod enc Try.prog W 0 (fun _ => true) true 22 v d p) :
    ∃ (bo : Option Addr) (n cap : Nat), v = .slice bo n cap ∧ BytesIn W bo n ∧ (bo = none → n = 0 ∧ cap = 0) ∧ n ≤ cap ∧ cap ≤ maxLen := by
  obtain ⟨a0, len, cap, rfl⟩ := okWide_slice Try.underlying22 hv
  obtain ⟨fuel, hf⟩ := h
  rcases open_ints Try.underlying22 Try.underlying5 Try.cellsByte hf with ⟨hcs, hx⟩ | ⟨a, len', cap', zs, hcs, _, hl, hm, hz, hx, hcell, hwz⟩
  · simp [Value.cells] at hcs
    obtain ⟨rfl, rfl, rfl⟩ := hcs
    exact ⟨none, 0, 0, rfl, fun i hi => absurd hi (by simp), fun _ => ⟨rfl, rfl⟩, Nat.le_refl _, by simp⟩
  · simp [Value.cells] at hcs
    obtain ⟨rfl, rfl, rfl⟩ := hcs
    simp only [if_true] at hz
    refine ⟨some a, len, cap, rfl, ?_, fun h => (by cases h), hl, hm⟩
    intro i hi
    have c0 := hcell i (by omega)
    have hsp : a.spot = none := by
      have z0 := hcell 0 (by omega)
      simpa [Addr.add] using World.cell?_spot z0
    obtain ⟨b, off, spot⟩ := a
    simp only at hsp
    subst hsp
    have lt := cell_ltB c0
    have f0 : (⟨b, off, none⟩ : Addr).add i = ⟨b, off + i, none⟩ := by
      unfold Addr.add; split
      · rename_i h; simp
      · rfl
    rw [f0] at c0 lt
    have hwf := hwz (zs.getD i 0) (by rw [List.getD_eq_getElem?_getD, List.getElem?_eq_getElem (by omega)]; exact List.getElem_mem _)
    refine ⟨b, off, _, rfl, lt, c0, ?_⟩
    have h2 : IntKind.u8.min ≤ zs.getD i 0 ∧ zs.getD i 0 ≤ IntKind.u8.max := by simpa [Lit.wf] using hwf
    exact h2

end Go.Proofs.Ytljnjpjnadlmhaa
