/- Walks of slices.Clone and impl.path.list: the way's knots in memory of their own. -/
import Derived.Test.YtncjdbhicpgfkaaDoorWWays
import Derived.Test.YtncjdbhicpgfkaaDoorPartWForest
import Derived.Lib.SliceRun
namespace Go.Proofs.YtncjdbhicpgfkaaDoor
open Go.RowKit
set_option linter.unusedVariables false

/-- the j-th knot of a way -/
def pn (p : List Nat) (j : Nat) : Nat := p.getD j 0
theorem xi_cI (p : List Nat) (j : Nat) : xi (cI p) j = (pn p j : Int) := by
  unfold xi cI pn
  rw [List.getD_eq_getElem?_getD, List.getD_eq_getElem?_getD, List.getElem?_map]
  cases p[j]? <;> rfl
def plist (p : List Nat) : List Value := p.map fun (x : Nat) => Value.int .i64 (x : Int)
theorem plist_len (p : List Nat) : (plist p).length = p.length := by simp [plist]
theorem plist_at (p : List Nat) (j : Nat) (h : j < p.length) : (plist p)[j]? = some (pcellN (pn p) j) := by
  simp [plist, pcellN, pn, h]
set_option maxHeartbeats 400000 in
theorem clone_any (g cap : Nat) (p : List Nat) (w : World) (h0 : 0 < p.length) (h8 : p.length ≤ 8) (hc : ∀ j, j < p.length → w.cell? ⟨g, j, none⟩ = some (pcellN (pn p) j)) (hg : g < w.heap.size) :
    Calls Tryd.prog 99 #[.slice (some ⟨g, 0, none⟩) p.length cap] w fun e w' => ∃ g' cap', e = .returned (.slice (some ⟨g', 0, none⟩) p.length cap') ∧ w'.ownsRow w.heap.size 3 1 (.slice (some ⟨g', 0, none⟩) p.length cap') p.length (plist p) ∧ Below w.heap.size w w' := by
  obtain ⟨i0, hi0, hz0, hz1, hz2⟩ := info_parts Tryd.infoInt
  have HI : Hid (Tryd.prog.info? 3 = some i0 ∧ i0.zero = some (.int .i64 0) ∧ i0.size = 1 ∧ i0.bytes = 8) := ⟨hi0, hz0, hz1, hz2⟩
  clear hi0 hz0 hz1 hz2
  have HN : Hid (∀ j u, (plist p)[j]? = some u → (w.alloc (.cells #[] 3)).cell? ((⟨g, 0, none⟩ : Addr).add j) = some u) := by
    intro j u hu
    have hj : j < p.length := by have := (List.getElem?_eq_some_iff.1 hu).1; rwa [plist_len] at this
    rw [plist_at p j hj] at hu
    have hadd : (⟨g, 0, none⟩ : Addr).add j = ⟨g, j, none⟩ := by unfold Addr.add; split <;> simp_all
    rw [hadd, (below_one w _).cell (p := ⟨g, j, none⟩) hg, hc j hj]; exact hu
  have H1 : Hid (∀ u ∈ plist p, u.oneCell' = true) := by
    intro u hu
    obtain ⟨x, _, rfl⟩ := List.mem_map.1 hu
    rfl
  have HL := hideP (plist_len p)
  obtain ⟨m, hm⟩ : ∃ m, m = p.length := ⟨_, rfl⟩
  rw [← hm] at h0 h8 HL ⊢
  obtain ⟨k, rfl⟩ : ∃ k, m = k + 1 := ⟨m - 1, by omega⟩
  clear hc hm
  have hnil : ∀ w : World, (binOp .eql 30 (.slice (some ⟨g, 0, none⟩) (k + 1) cap) (.slice none 0 0)).run Tryd.prog w = .ok (.bool false) w := fun w => Lib.run_eql_slice_nil w _ _ (some ⟨g, 0, none⟩) (k + 1) cap 0 0 Tryd.underlying30
  go_enter Tryd.func99, Tryd.ntmps99
  go_wp2_with (at_builtin; refine wpList_append_own _ rfl _ _ 30 rfl w.heap.size 3 i0 _ 1 8 Tryd.underlying30 HI.out.1 HI.out.2.1 HI.out.2.2.1 HI.out.2.2.2 rfl (by omega) (.slice (some ⟨w.heap.size, 0, none⟩) 0 0) 0 [] rfl ?_ ⟨g, 0, none⟩ (k + 1) cap (plist p) rfl ?_ HN.out H1.out ?_ ?_ ?_ ?_)
  · simpa using World.ownsRow_lit w #[] 0 (base := w.heap.size) (e := 3) (size := 1) (Nat.le_refl _) (by simp) rfl
  · rw [HL.out]; omega
  · unfold maxLen; omega
  · omega
  · simp
  intro v' w' hown hgrow _
  obtain ⟨g', cap', rfl⟩ := ownsRow_succ hown
  have HB : Hid (Below w.heap.size w w') := (below_one w _).grown hgrow (by simp) (fun j e => by simp [Value.ownBlock] at e; omega)
  have HO := hideP hown
  clear hown hgrow
  go_wp2
  go_ret
  exact ⟨g', cap', rfl, HO.out, HB.out⟩

set_option maxHeartbeats 400000 in
theorem list_any (p : List Nat) (w : World) (h0 : 0 < p.length) (h8 : p.length ≤ 8) :
    Calls Tryd.prog 69 #[pathV (cI p)] w fun e w' => ∃ g cap, e = .returned (.slice (some ⟨g, 0, none⟩) p.length cap) ∧ w'.ownsRow (w.heap.size + 1) 3 1 (.slice (some ⟨g, 0, none⟩) p.length cap) p.length (plist p) ∧ Below w.heap.size w w' := by
  have hi := fun t => own_path w (cI p) t
  have HC : Hid (∀ (w' : World), OwnI w' w.heap.size 9 (pcell (cI p)) → Calls Tryd.prog 99 #[.slice (some ⟨w.heap.size, 0, none⟩) p.length 8] w' fun e w'' => ∃ g' cap', e = .returned (.slice (some ⟨g', 0, none⟩) p.length cap') ∧ w''.ownsRow w'.heap.size 3 1 (.slice (some ⟨g', 0, none⟩) p.length cap') p.length (plist p) ∧ Below w'.heap.size w' w'') := fun w' h =>
    clone_any w.heap.size 8 p w' h0 h8 (fun j hj => by rw [h.1 j (by omega), pcell_lt (by omega), xi_cI]; rfl) h.2.2
  unfold pathV
  rw [cI_len] at hi ⊢
  obtain ⟨m, hm⟩ : ∃ m, m = p.length := ⟨_, rfl⟩
  rw [← hm] at HC hi h0 h8 ⊢
  have hm8 : (m : Int) ≤ 8 := by omega
  have HI := hideP hi
  clear hi hm
  generalize xi (cI p) 0 = x0 at *
  generalize xi (cI p) 1 = x1 at *
  generalize xi (cI p) 2 = x2 at *
  generalize xi (cI p) 3 = x3 at *
  generalize xi (cI p) 4 = x4 at *
  generalize xi (cI p) 5 = x5 at *
  generalize xi (cI p) 6 = x6 at *
  generalize xi (cI p) 7 = x7 at *
  go_enter Tryd.func69, Tryd.ntmps69
  go_wp2_with fail
  refine (HC.out _ (HI.out _)).mono ?_
  rintro e w2 ⟨g', cap', rfl, ho, hb⟩
  have HO : Hid (w2.ownsRow (w.heap.size + 1) 3 1 (.slice (some ⟨g', 0, none⟩) m cap') m (plist p)) := hideP (by simpa using ho)
  have HB : Hid (Below w.heap.size w w2) := (below_one _ _).trans (hb.mono (by simp))
  clear ho hb HC HI
  go_wp2
  go_ret
  exact ⟨g', cap', rfl, HO.out, HB.out⟩
/-- the row of a way -/
theorem row_own {w : World} {lo g m cap : Nat} {p : List Nat} (h : w.ownsRow lo 3 1 (.slice (some ⟨g, 0, none⟩) m cap) m (plist p)) (hm : m = p.length) (h0 : 0 < m) : OwnI w g m (pcellN (pn p)) ∧ lo ≤ g ∧ g < w.heap.size := by
  obtain ⟨g', cap', e, h1, h2⟩ := h.form h0
  simp only [Value.slice.injEq, Option.some.injEq, Addr.mk.injEq, and_true, true_and] at e
  obtain ⟨rfl, _⟩ := e
  exact ⟨⟨fun j hj => by rw [h.cellAt j (by omega), plist_at p j (by omega)], fun j => h.frozenAt j, h2⟩, h1, h2⟩

end Go.Proofs.YtncjdbhicpgfkaaDoor
