/- Texts put together: WFar, WFindS. -/
import Derived.Test.YtmkbeiiifikbgaaDoorPartMathP
import Derived.Test.YtmkbeiiifikbgaaDoorPartWRows
import Derived.Test.YtmkbeiiifikbgaaDoorWSpecOk
import Derived.RangeFuncBox
import Derived.Deep.LoopGhost
import Derived.BigRegion
/- Walk of spec.l2Far: how far it is to a knot, of each one. -/
namespace Go.Proofs.YtmkbeiiifikbgaaDoor
open Go.RowKit
set_option linter.unusedVariables false

def farC (F : Nat → Int) (j : Nat) : Value := .int .i64 (F j)
def come (F : Nat → Int) (j : Nat) : Bool := decide (0 ≤ F j)
theorem come_upd (F : Nat → Int) (y : Nat) (v : Int) (hv : 0 ≤ v) : come (updI F y v) = mark (come F) y := by
  funext j
  unfold come mark updI
  by_cases e : j = y
  · rw [if_pos e, if_pos e]; simpa using hv
  · rw [if_neg e, if_neg e]
theorem farC_upd (F : Nat → Int) (y : Nat) (v : Int) (j : Nat) : (if j = y then Value.int .i64 v else farC F j) = farC (updI F y v) j := by
  unfold farC updI
  by_cases e : j = y
  · rw [if_pos e, if_pos e]
  · rw [if_neg e, if_neg e]
theorem OwnI.neg {w : World} {g n cap base : Nat} (h : w.ownsRow base 3 1 (.slice (some ⟨g, 0, none⟩) n cap) n (List.replicate n (Value.int .i64 (-1)))) (h0 : 0 < n) : OwnI w g n (farC fun _ => -1) ∧ base ≤ g := by
  obtain ⟨g', cap', e, h1, h2⟩ := h.form h0
  simp only [Value.slice.injEq, Option.some.injEq, Addr.mk.injEq, and_true, true_and] at e
  obtain ⟨rfl, _⟩ := e
  exact ⟨⟨fun j hj => by rw [h.cellAt j (by omega)]; simp [hj, farC], fun j => h.frozenAt j, h2⟩, h1⟩
theorem Bx.low {w wr w' : World} {K : Int} {v : Value} (h : Bx w wr K v) (hb : Below (w.heap.size + 1) wr w') : Bx w w' K v :=
  ⟨(hb.cell (p := ⟨w.heap.size, 0, none⟩) (by show w.heap.size < w.heap.size + 1; omega)).trans h.c0, (hb.cell (p := ⟨w.heap.size, 1, none⟩) (by show w.heap.size < w.heap.size + 1; omega)).trans h.c1, Nat.lt_of_lt_of_le h.lt hb.size, h.B.trans (hb.mono (by omega))⟩
theorem push_small {F : Nat → Int} {n y : Nat} {v : Int} (h : ∀ u, F u + (unm (come F) n : Int) < (n : Int)) (hy : y < n) (hn : F y < 0) {z : Nat} (hv : v = F z + 1) (hz : 0 ≤ F z) : ∀ u, updI F y v u + (unm (come (updI F y v)) n : Int) < (n : Int) := by
  intro u
  rw [come_upd F y v (by omega)]
  have h1 := unm_mark (come F) (y := y) (by simp [come]; omega) n hy
  by_cases e : u = y
  · subst e; rw [updI_at]; have := h z; omega
  · rw [updI_no _ _ e]; have := h u; omega
theorem first_small {b n : Nat} (hb : b < n) : ∀ u, updI (fun _ => -1) b 0 u + (unm (come (updI (fun _ => -1) b 0)) n : Int) < (n : Int) := by
  intro u
  rw [come_upd _ b 0 (Int.le_refl _)]
  have h1 := unm_mark (come fun _ => -1) (y := b) (by simp [come]) n hb
  have h2 := unm_le (come fun _ => -1) n
  by_cases e : u = b
  · subst e; rw [updI_at]; omega
  · rw [updI_no _ _ e]; omega
/-- what stands while a net is gone through with how far it is: the box, the numbers at O, the row that waits -/
structure FarSt (w wr : World) (Kn : Nat) (nv : Value) (O : Nat) (ts : List (Int × Int)) (b : Nat) (F : Nat → Int) (row : List Nat) (g off cap : Nat) (ex : Nat → Prop) : Prop where
  X : Bx w wr (Kn : Int) nv
  I : OwnI wr O Kn (farC F)
  R : RowS wr (O + 1) g off cap row
  G : BfF (tieNB ts) Kn b F row ex
  hO : w.heap.size < O
  S : ∀ y, F y + (unm (come F) Kn : Int) < (Kn : Int)
theorem FarSt.next {w wr w' : World} {Kn : Nat} {nv : Value} {O : Nat} {ts : List (Int × Int)} {b : Nat} {F : Nat → Int} {row : List Nat} {g off cap : Nat} {ex : Nat → Prop} (h : FarSt w wr Kn nv O ts b F row g off cap ex) (hb : Below wr.heap.size wr w') : FarSt w w' Kn nv O ts b F row g off cap ex :=
  ⟨h.X.next hb, h.I.below hb h.I.2.2, h.R.next hb, h.G, h.hO, h.S⟩
/-- of the knot that is gone on from -/
structure Fat (F : Nat → Int) (row : List Nat) (z : Nat) : Prop where
  pos : 0 ≤ F z
  top : ∀ y, F y ≤ F z + 1
  low : ∀ y, y ∈ row → F z ≤ F y
theorem FarSt.pop {w wr : World} {Kn : Nat} {nv : Value} {O : Nat} {ts : List (Int × Int)} {b : Nat} {F : Nat → Int} {z : Nat} {row : List Nat} {g off c : Nat} (h : FarSt w wr Kn nv O ts b F (z :: row) g off (c + 1) (fun _ => False)) : FarSt w wr Kn nv O ts b F row g (off + 1) c (fun y => y = z) ∧ Fat F row z :=
  ⟨⟨h.X, h.I, h.R.tail, h.G.pop.1, h.hO, h.S⟩, h.G.pop.2.1, h.G.pop.2.2.1, h.G.pop.2.2.2⟩
/-- one is reckoned -/
theorem FarSt.set {w wr : World} {Kn : Nat} {nv : Value} {O : Nat} {ts : List (Int × Int)} {b : Nat} {F : Nat → Int} {row : List Nat} {g off cap : Nat} {ex : Nat → Prop} (h : FarSt w wr Kn nv O ts b F row g off cap ex) {y : Nat} (hy : y < Kn) (v : Int) :
    Bx w (wr.setCell ⟨O, y, none⟩ (.int .i64 v)) (Kn : Int) nv ∧ OwnI (wr.setCell ⟨O, y, none⟩ (.int .i64 v)) O Kn (farC (updI F y v)) ∧ RowS (wr.setCell ⟨O, y, none⟩ (.int .i64 v)) (O + 1) g off cap row := by
  have ht : Turned O (O + 1) wr (wr.setCell ⟨O, y, none⟩ (.int .i64 v)) := ⟨rfl, rfl, rfl, by simp [World.setCell], fun k _ hk => Below.heap_setCell _ _ _ _ (by show k ≠ O; omega)⟩
  exact ⟨h.X.turn ht h.hO, (h.I.set hy _).congr (fun j _ => farC_upd F y v j), h.R.turn ht (Or.inr h.R.lo)⟩

end Go.Proofs.YtmkbeiiifikbgaaDoor

/- Walk of spec.WayFind: it is the first of all ways, too. -/
namespace Go.Proofs.YtmkbeiiifikbgaaDoor
open Go.RowKit
set_option linter.unusedVariables false

theorem nbrs_up (ts : List (Int × Int)) (x m : Nat) : (nbrs ts x m).Pairwise (· < ·) := by
  unfold nbrs; exact List.Pairwise.filter _ List.pairwise_lt_range
/-- the first of the neighbours from which one tie less lacks -/
theorem near_first {ts : List (Int × Int)} {Kn x d jj : Nat} {F : Nat → Int} {b : Nat} (hok : NetOk (Kn : Int) ts) (h : Fr (tieNB ts) b F) (hx : F x = (d : Int) + 1) (hj : jj < (nbrs ts x Kn).length) (hy : F ((nbrs ts x Kn).getD jj 0) = F x - 1) (hb : ∀ t, t < jj → F ((nbrs ts x Kn).getD t 0) ≠ F x - 1) : (nbrs ts x Kn).getD jj 0 = near (tieNB ts) F x := by
  obtain ⟨n1, n2, n3, n4⟩ := near_is (E := tieNB ts) (fun _ _ h => tieNB_8 hok h) h (fun _ _ h => tieNB_sym h) hx
  have hmem : near (tieNB ts) F x ∈ nbrs ts x Kn := mem_nbrs.2 ⟨by have := tieNB_lt hok n1; simpa using this, n1⟩
  obtain ⟨t, ht, e⟩ := List.mem_iff_getElem.1 hmem
  have gj : (nbrs ts x Kn).getD jj 0 = (nbrs ts x Kn)[jj] := by simp [hj]
  have gt : (nbrs ts x Kn).getD t 0 = (nbrs ts x Kn)[t] := by simp [ht]
  have hjt : jj ≤ t := by
    apply Nat.le_of_not_lt
    intro hlt
    exact hb t hlt (by rw [gt, e, n2]; omega)
  have hye : tieNB ts x (nbrs ts x Kn)[jj] = true := (mem_nbrs.1 (List.getElem_mem hj)).2
  have h1 : near (tieNB ts) F x ≤ (nbrs ts x Kn)[jj] := by
    apply Nat.le_of_not_lt
    intro hlt
    have := n4 _ hlt
    unfold nearB at this
    rw [hye, ← gj, hy] at this
    simp at this
  rw [gj]
  by_cases e2 : jj = t
  · subst e2; exact e
  · have := List.pairwise_iff_getElem.1 (nbrs_up ts x Kn) jj t hj ht (by omega)
    rw [e] at this; omega
theorem near_some {ts : List (Int × Int)} {Kn x d : Nat} {F : Nat → Int} {b : Nat} (hok : NetOk (Kn : Int) ts) (h : Fr (tieNB ts) b F) (hx : F x = (d : Int) + 1) : ∃ t, t < (nbrs ts x Kn).length ∧ F ((nbrs ts x Kn).getD t 0) = F x - 1 := by
  obtain ⟨n1, n2, n3, n4⟩ := near_is (E := tieNB ts) (fun _ _ h => tieNB_8 hok h) h (fun _ _ h => tieNB_sym h) hx
  have hmem : near (tieNB ts) F x ∈ nbrs ts x Kn := mem_nbrs.2 ⟨by have := tieNB_lt hok n1; simpa using this, n1⟩
  obtain ⟨t, ht, e⟩ := List.mem_iff_getElem.1 hmem
  refine ⟨t, ht, ?_⟩
  have gt : (nbrs ts x Kn).getD t 0 = (nbrs ts x Kn)[t] := by simp [ht]
  rw [gt, e, n2]; omega
/-- what stands while a way is found step by step: the box, how far it is at O, the way so far -/
structure Wst (w wr : World) (Kn : Nat) (nv : Value) (O : Nat) (F : Nat → Int) (q : List Nat) (g off cap : Nat) : Prop where
  X : Bx w wr (Kn : Int) nv
  I : OwnI wr O Kn (farC F)
  R : RowS wr (w.heap.size + 1) g off cap q
  hO : w.heap.size < O
  ne : g ≠ O
theorem Wst.next {w wr w' : World} {Kn : Nat} {nv : Value} {O : Nat} {F : Nat → Int} {q : List Nat} {g off cap : Nat} (h : Wst w wr Kn nv O F q g off cap) (hb : Below wr.heap.size wr w') : Wst w w' Kn nv O F q g off cap :=
  ⟨h.X.next hb, h.I.below hb h.I.2.2, h.R.next hb, h.hO, h.ne⟩
theorem Wst.pushed {w wr w' : World} {Kn : Nat} {nv : Value} {O : Nat} {F : Nat → Int} {q q' : List Nat} {g off cap g' off' cap' : Nat} (h : Wst w wr Kn nv O F q g off cap) (ht : Turned g (g + 1) wr w') (hR : RowS w' (w.heap.size + 1) g' off' cap' q') (hg : g' = g ∨ wr.heap.size ≤ g') : Wst w w' Kn nv O F q' g' off' cap' :=
  ⟨h.X.turn ht h.R.lo, h.I.turn ht (by have := h.ne; omega), hR, h.hO, by have := h.ne; have := h.I.2.2; omega⟩

theorem foundB_no {K : Int} {ts : List (Int × Int)} {a b : Int} (h : waysB K ts a b = []) : findB K ts a b = [] ∧ foundB K ts a b = false := by
  unfold findB foundB; rw [h]; exact ⟨rfl, rfl⟩
theorem foundB_yes {K : Int} {ts : List (Int × Int)} {a b : Int} {p : List Nat} (h : (waysB K ts a b).head? = some p) : findB K ts a b = p ∧ foundB K ts a b = true := by
  unfold findB foundB; rw [h]; exact ⟨rfl, rfl⟩

end Go.Proofs.YtmkbeiiifikbgaaDoor
