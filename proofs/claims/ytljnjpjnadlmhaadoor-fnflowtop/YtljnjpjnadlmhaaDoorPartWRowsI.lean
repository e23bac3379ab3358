/- Texts put together: WRowsI, WRowsP. -/
import Derived.Test.YtljnjpjnadlmhaaDoorPartWInts
import Derived.Deep.RegionHeld3
import Derived.Test.YtljnjpjnadlmhaaDoorPartWOnS
import Derived.Test.YtljnjpjnadlmhaaDoorPartWTst
import Derived.Test.YtljnjpjnadlmhaaDoorPartWWayOk2
/- Rows of rows of numbers that come in; walks of laws.szIntSS, toIntSS, eqIntSS over them. -/
namespace Go.Proofs.YtljnjpjnadlmhaaDoor
open Go.RowKit
set_option linter.unusedVariables false

/-- rows of numbers that come in: each row's length at most its room -/
def RowsI (w : World) (B : Nat) (ao : Option Addr) (xss : List (List Int)) : Prop := ∀ i, i < xss.length → ∃ g off bo cap, ao = some ⟨g, off, none⟩ ∧ g < B ∧ w.cell? ⟨g, off + i, none⟩ = some (.slice bo (xss.getD i []).length cap) ∧ (xss.getD i []).length ≤ cap ∧ (xss.getD i []).length ≤ 1099511627776 ∧ IntsIn w B bo (xss.getD i [])
theorem RowsI.below {w w' : World} {B : Nat} {ao : Option Addr} {xss : List (List Int)} (h : RowsI w B ao xss) {C : Nat} (hb : Below C w w') (hC : B ≤ C) : RowsI w' B ao xss := by
  intro i hi
  obtain ⟨g, off, bo, cap, e, h1, h2, h3, h4, h5⟩ := h i hi
  exact ⟨g, off, bo, cap, e, h1, (hb.cell (p := ⟨g, off + i, none⟩) (Nat.lt_of_lt_of_le h1 hC)).trans h2, h3, h4, h5.below hb hC⟩
theorem RowsI.wide {w : World} {B C : Nat} {ao : Option Addr} {xss : List (List Int)} (h : RowsI w B ao xss) (hC : B ≤ C) : RowsI w C ao xss := by
  intro i hi
  obtain ⟨g, off, bo, cap, e, h1, h2, h3, h4, h5⟩ := h i hi
  exact ⟨g, off, bo, cap, e, Nat.lt_of_lt_of_le h1 hC, h2, h3, h4, h5.wide hC⟩
/-- rows of any length -/
def RowsM (w : World) (B : Nat) (ao : Option Addr) (xss : List (List Int)) : Prop := ∀ i, i < xss.length → ∃ g off bo cap, ao = some ⟨g, off, none⟩ ∧ g < B ∧ w.cell? ⟨g, off + i, none⟩ = some (.slice bo (xss.getD i []).length cap) ∧ (xss.getD i []).length ≤ cap ∧ (xss.getD i []).length ≤ maxLen ∧ IntsIn w B bo (xss.getD i [])
theorem RowsM.below {w w' : World} {B : Nat} {ao : Option Addr} {xss : List (List Int)} (h : RowsM w B ao xss) {C : Nat} (hb : Below C w w') (hC : B ≤ C) : RowsM w' B ao xss := by
  intro i hi
  obtain ⟨g, off, bo, cap, e, h1, h2, h3, h4, h5⟩ := h i hi
  exact ⟨g, off, bo, cap, e, h1, (hb.cell (p := ⟨g, off + i, none⟩) (Nat.lt_of_lt_of_le h1 hC)).trans h2, h3, h4, h5.below hb hC⟩
theorem RowsM.wide {w : World} {B C : Nat} {ao : Option Addr} {xss : List (List Int)} (h : RowsM w B ao xss) (hC : B ≤ C) : RowsM w C ao xss := by
  intro i hi
  obtain ⟨g, off, bo, cap, e, h1, h2, h3, h4, h5⟩ := h i hi
  exact ⟨g, off, bo, cap, e, Nat.lt_of_lt_of_le h1 hC, h2, h3, h4, h5.wide hC⟩
theorem RowsM.small {w : World} {B : Nat} {ao : Option Addr} {xss : List (List Int)} (h : RowsM w B ao xss) (hs : ∀ i, i < xss.length → (xss.getD i []).length ≤ 1048576) : RowsI w B ao xss := by
  intro i hi
  obtain ⟨g, off, bo, cap, e, h1, h2, h3, h4, h5⟩ := h i hi
  exact ⟨g, off, bo, cap, e, h1, h2, h3, by have := hs i hi; omega, h5⟩

theorem Tryd.infoRow2 : (Tryd.prog.info? 44).map (fun i => (i.zero, i.size, i.bytes)) = some (some (.slice none 0 0), 1, 24) := by kernel_rfl



end Go.Proofs.YtljnjpjnadlmhaaDoor

/- Rows of rows, put together out of rows that stand. -/
namespace Go.Proofs.YtljnjpjnadlmhaaDoor
open Go.RowKit
set_option linter.unusedVariables false

/-- all blocks below S lie as they lay, but the bad ones -/
structure Stay (S : Nat) (bad : Nat → Prop) (w0 w : World) : Prop where
  same : ∀ k, k < S → ¬ bad k → w.heap[k]? = w0.heap[k]?
  size : S ≤ w.heap.size
theorem Stay.first (w0 : World) (bad : Nat → Prop) : Stay w0.heap.size bad w0 w0 := ⟨fun _ _ _ => rfl, Nat.le_refl _⟩
theorem Stay.next {S : Nat} {bad : Nat → Prop} {w0 w w' : World} (h : Stay S bad w0 w) (hb : Below w.heap.size w w') : Stay S bad w0 w' :=
  ⟨fun k hk hR => (hb.block k (Nat.lt_of_lt_of_le hk h.size)).trans (h.same k hk hR), Nat.le_trans h.size hb.size⟩
theorem Stay.turn {S R : Nat} {bad : Nat → Prop} {w0 w w' : World} (h : Stay S bad w0 w) (ht : Turned R (R + 1) w w') (hR : bad R) : Stay S bad w0 w' :=
  ⟨fun k hk hb => (ht.block k (Nat.lt_of_lt_of_le hk h.size) (by have : k ≠ R := fun e => hb (e ▸ hR); omega)).trans (h.same k hk hb), Nat.le_trans h.size ht.size⟩
theorem Stay.grown {S : Nat} {bad : Nat → Prop} {w0 w wa wb : World} {row : Option Nat} (h : Stay S bad w0 w) (hb : Below w.heap.size w wa) (hg : wa.grownBy wb row) (hr : ∀ k, row = some k → S ≤ k ∨ bad k) : Stay S bad w0 wb :=
  ⟨fun k hk hR => ((hg.block k (by have := h.size; have := hb.size; omega) (fun e => by rcases hr k e.symm with q | q; omega; exact hR q)).trans (hb.block k (Nat.lt_of_lt_of_le hk h.size))).trans (h.same k hk hR), Nat.le_trans h.size (Nat.le_trans hb.size hg.size)⟩
/-- a row's value, and its numbers, as they lie in w0 from lo on -/
def Good (w0 : World) (lo S : Nat) (bad : Nat → Prop) (u : Value) (xs : List Int) : Prop :=
  ∃ bo cap, u = .slice bo xs.length cap ∧ xs.length ≤ cap ∧ xs.length ≤ 1000 ∧ ∀ i, i < xs.length → ∃ b off, bo = some ⟨b, off, none⟩ ∧ lo ≤ b ∧ b < S ∧ ¬ bad b ∧ w0.cell? ⟨b, off + i, none⟩ = some (.int .i64 (xi xs i))
theorem Good.rebase {w0 w1 : World} {lo S S' : Nat} {bad bad' : Nat → Prop} {u : Value} {xs : List Int} (h : Good w0 lo S bad u xs) (hs : Stay S bad w0 w1) (hS : S ≤ S') (hb : ∀ b, b < S → ¬ bad b → ¬ bad' b) : Good w1 lo S' bad' u xs := by
  obtain ⟨bo, cap, e, h1, h2, h3⟩ := h
  refine ⟨bo, cap, e, h1, h2, fun i hi => ?_⟩
  obtain ⟨b, off, e2, q1, q2, q3, q4⟩ := h3 i hi
  exact ⟨b, off, e2, q1, Nat.lt_of_lt_of_le q2 hS, hb b q2 q3, (World.cell?_of_block (a := ⟨b, off + i, none⟩) (hs.same b q2 q3)).trans q4⟩
theorem Good.one {w0 : World} {lo S : Nat} {bad : Nat → Prop} {u : Value} {xs : List Int} (h : Good w0 lo S bad u xs) : u.oneCell' = true := by
  obtain ⟨bo, cap, rfl, _⟩ := h; rfl
/-- such rows -/
def GoodR (w0 : World) (lo S : Nat) (bad : Nat → Prop) (vs : List Value) (xss : List (List Int)) : Prop := vs.length = xss.length ∧ ∀ i, i < xss.length → ∃ u, vs[i]? = some u ∧ Good w0 lo S bad u (xss.getD i [])
theorem GoodR.nil (w0 : World) (lo S : Nat) (bad : Nat → Prop) : GoodR w0 lo S bad [] [] := ⟨rfl, fun i hi => absurd hi (by simp)⟩
theorem GoodR.snoc {w0 : World} {lo S : Nat} {bad : Nat → Prop} {vs : List Value} {xss : List (List Int)} {u : Value} {xs : List Int} (h : GoodR w0 lo S bad vs xss) (hu : Good w0 lo S bad u xs) : GoodR w0 lo S bad (vs ++ [u]) (xss ++ [xs]) := by
  refine ⟨by simp [h.1], fun i hi => ?_⟩
  simp only [List.length_append, List.length_singleton] at hi
  by_cases e : i = xss.length
  · subst e
    refine ⟨u, ?_, ?_⟩
    · rw [List.getElem?_append_right (by rw [h.1]; exact Nat.le_refl _), h.1]; simp
    · rw [List.getD_eq_getElem?_getD, List.getElem?_append_right (Nat.le_refl _)]; simpa using hu
  · obtain ⟨v, h1, h2⟩ := h.2 i (by omega)
    refine ⟨v, ?_, ?_⟩
    · rw [List.getElem?_append_left (by rw [h.1]; omega)]; exact h1
    · rw [List.getD_eq_getElem?_getD, List.getElem?_append_left (by omega), ← List.getD_eq_getElem?_getD]; exact h2
theorem GoodR.one {w0 : World} {lo S : Nat} {bad : Nat → Prop} {vs : List Value} {xss : List (List Int)} (h : GoodR w0 lo S bad vs xss) : ∀ u ∈ vs, u.oneCell' = true := by
  intro u hu
  obtain ⟨i, hi, e⟩ := List.mem_iff_getElem.1 hu
  obtain ⟨v, h1, h2⟩ := h.2 i (by rw [← h.1]; exact hi)
  rw [List.getElem?_eq_getElem hi, e] at h1
  cases h1
  exact h2.one
theorem GoodR.rebase {w0 w1 : World} {lo S S' : Nat} {bad bad' : Nat → Prop} {vs : List Value} {xss : List (List Int)} (h : GoodR w0 lo S bad vs xss) (hs : Stay S bad w0 w1) (hS : S ≤ S') (hb : ∀ b, b < S → ¬ bad b → ¬ bad' b) : GoodR w1 lo S' bad' vs xss :=
  ⟨h.1, fun i hi => let ⟨u, h1, h2⟩ := h.2 i hi; ⟨u, h1, h2.rebase hs hS hb⟩⟩
theorem GoodR.rowsI {w0 w : World} {lo S g n cap base : Nat} {bad : Nat → Prop} {vs : List Value} {xss : List (List Int)} (h : GoodR w0 lo S bad vs xss) (hs : Stay S bad w0 w) (ho : w.ownsRow base 44 1 (.slice (some ⟨g, 0, none⟩) n cap) n vs) : RowsI w w.heap.size (some ⟨g, 0, none⟩) xss := by
  have hg : g < w.heap.size := by
    rcases ho.2 with ⟨h', _⟩ | ⟨g', cap', cur, h', _, hb, _⟩
    · simp at h'
    · simp only [Value.slice.injEq, Option.some.injEq, Addr.mk.injEq, and_true, true_and] at h'
      obtain ⟨rfl, _⟩ := h'
      exact (Array.getElem?_eq_some_iff.1 hb).1
  have hn : n = xss.length := by have := ho.1; rw [h.1] at this; omega
  intro i hi
  obtain ⟨u, h1, bo, cap, rfl, h2, h3, h4⟩ := h.2 i hi
  refine ⟨g, 0, bo, cap, rfl, hg, ?_, h2, by omega, ?_⟩
  · rw [Nat.zero_add, ho.cellAt i (by omega)]; exact h1
  · intro j hj
    obtain ⟨b, off, e, q1, q2, q3, q4⟩ := h4 j hj
    exact ⟨b, off, e, Nat.lt_of_lt_of_le q2 hs.size, (World.cell?_of_block (a := ⟨b, off + j, none⟩) (hs.same b q2 q3)).trans q4⟩
theorem clip_short (p : List Nat) : (clip p).length ≤ 1000 := by
  have := clip_le p
  omega
theorem Acc.good {W : World} {lo G C : Nat} {bad : Nat → Prop} {pre : List (List Nat)} {gs cs : Nat → Nat} (h : Acc W lo G C pre gs cs) (hR : ∀ b, lo ≤ b → ¬ bad b) {i : Nat} (hi : i < pre.length) : ∃ u, W.cell? ⟨G, i, none⟩ = some u ∧ Good W lo W.heap.size bad u ((wayAt pre i).map Int.ofNat) := by
  have hl : ((wayAt pre i).map Int.ofNat).length = (wayAt pre i).length := List.length_map _
  refine ⟨rowV pre gs cs i, ?_, some ⟨gs i, 0, none⟩, cs i, ?_, ?_, ?_, ?_⟩
  · rw [h.out.cellAt i (by omega)]
    simp [rowVs, hi]
  · rw [hl]; rfl
  · rw [hl]; exact own_room (h.row.row i hi)
  · rw [hl]; exact clip_short _
  · intro j hj
    rw [hl] at hj
    have ho := h.row.row i hi
    have hc := ho.cellAt j (by omega)
    rcases ho.2 with ⟨h', _⟩ | ⟨g', cap', cur, h', hb, hg, _⟩
    · simp [rowV] at h'
    · unfold rowV at h'
      simp only [Value.slice.injEq, Option.some.injEq, Addr.mk.injEq, and_true, true_and] at h'
      obtain ⟨rfl, _⟩ := h'
      refine ⟨gs i, 0, rfl, hb, (Array.getElem?_eq_some_iff.1 hg).1, hR _ hb, ?_⟩
      rw [Nat.zero_add, hc]
      simp [plist, xi, hj]
/-- a net and rows of rows were drawn since w, and nothing that was there has turned -/
structure DealtS (w w' : World) (ao : Option Addr) (ts : List (Int × Int)) (co : Option Addr) (xss : List (List Int)) : Prop where
  net : TiesIn w' w'.heap.size ao ts
  rows : RowsI w' w'.heap.size co xss
  short : ts.length ≤ 66
  few : xss.length ≤ 4
  bel : Below w.heap.size w w'
/-- the end: the answer's box is filled -/
theorem Tst.ends {w wr w0 : World} {R S base : Nat} {bad : Nat → Prop} {bo : Option Addr} {bn bcap p : Nat} {A : Nat} {K : Int} {ao : Option Addr} {cap : Nat} {ts : List (Int × Int)} (h : Tst w wr R bo bn bcap p A K ao cap ts) {lo g n capC : Nat} {vs : List Value} {xss : List (List Int)} (hG : GoodR w0 lo S bad vs xss) (hs : Stay S bad w0 wr) (ho : wr.ownsRow base 44 1 (.slice (some ⟨g, 0, none⟩) n capC) n vs) (hlo : w.heap.size < lo) (hS : w.heap.size < base) (hsh : ts.length ≤ 66) (hf : xss.length ≤ 4) (u0 u1 : Value) :
    DealtS w ((wr.setCell ⟨w.heap.size, 0, none⟩ u0).setCell ⟨w.heap.size, 1, none⟩ u1) ao ts (some ⟨g, 0, none⟩) xss := by
  have hR := h.hR
  have hR' := hG.rowsI hs ho
  have hsz : ((wr.setCell ⟨w.heap.size, 0, none⟩ u0).setCell ⟨w.heap.size, 1, none⟩ u1).heap.size = wr.heap.size := by simp [World.setCell]
  have eb : ∀ b, b ≠ w.heap.size → ((wr.setCell ⟨w.heap.size, 0, none⟩ u0).setCell ⟨w.heap.size, 1, none⟩ u1).heap[b]? = wr.heap[b]? := fun b hb => (Below.heap_setCell _ _ _ _ hb).trans (Below.heap_setCell _ _ _ _ hb)
  refine ⟨((h.tN.far (q := ⟨w.heap.size, 0, none⟩) (by show w.heap.size < R + 1; omega) u0).far (q := ⟨w.heap.size, 1, none⟩) (by show w.heap.size < R + 1; omega) u1).in, ?_, hsh, hf, (h.B.setCell (Nat.le_refl _) _).setCell (Nat.le_refl _) _⟩
  rw [hsz]
  have hgS : base ≤ g := by
    rcases ho.2 with ⟨h', _⟩ | ⟨g', cap', cur, h', hb, _⟩
    · simp at h'
    · simp only [Value.slice.injEq, Option.some.injEq, Addr.mk.injEq, and_true, true_and] at h'
      obtain ⟨rfl, _⟩ := h'
      exact hb
  have hn : n = xss.length := by have := ho.1; rw [hG.1] at this; omega
  intro i hi
  obtain ⟨g1, off, bo1, cap1, e, q1, q2, q3, q4, q5⟩ := hR' i hi
  cases e
  refine ⟨g, 0, bo1, cap1, rfl, q1, (World.cell?_of_block (a := ⟨g, 0 + i, none⟩) (eb g (by omega))).trans q2, q3, q4, ?_⟩
  intro j hj
  obtain ⟨b, of2, e2, z1, z2⟩ := q5 j hj
  obtain ⟨u, h1, bo2, cap2, e3, _, _, h4⟩ := hG.2 i hi
  obtain ⟨b3, of3, e4, y1, y2, y3, _⟩ := h4 j hj
  have ecell : wr.cell? ⟨g, 0 + i, none⟩ = some u := by rw [Nat.zero_add, ho.cellAt i (by omega)]; exact h1
  rw [q2, e3] at ecell
  simp only [Option.some.injEq, Value.slice.injEq, true_and] at ecell
  have : b ≠ w.heap.size := by
    rw [ecell.1, e4] at e2
    simp only [Option.some.injEq, Addr.mk.injEq, and_true] at e2
    omega
  exact ⟨b, of2, e2, z1, (World.cell?_of_block (a := ⟨b, of2 + j, none⟩) (eb b this)).trans z2⟩
/-- a drawn walk's row -/
theorem RowZ.good {w : World} {lo g off cap : Nat} {bad : Nat → Prop} {xs : List Int} (h : RowZ w lo g off cap xs) (hl : xs.length ≤ 1000) (hb : ¬ bad g) : Good w lo w.heap.size bad (.slice (some ⟨g, off, none⟩) xs.length cap) xs :=
  ⟨_, cap, rfl, h.len, hl, fun i hi => ⟨g, off, rfl, h.lo, h.lt, hb, h.cells i hi⟩⟩
theorem Good.down {w0 : World} {lo lo' S : Nat} {bad : Nat → Prop} {u : Value} {xs : List Int} (h : Good w0 lo S bad u xs) (hl : lo' ≤ lo) : Good w0 lo' S bad u xs := by
  obtain ⟨bo, cap, e, h1, h2, h3⟩ := h
  refine ⟨bo, cap, e, h1, h2, fun i hi => ?_⟩
  obtain ⟨b, off, e2, q1, q2⟩ := h3 i hi
  exact ⟨b, off, e2, Nat.le_trans hl q1, q2⟩
theorem ends2 {w w0 wr : World} {S base lo lo2 g n capC : Nat} {bad : Nat → Prop} {vs : List Value} {xss : List (List Int)} {ao : Option Addr} {ts : List (Int × Int)} (hT : TiesUp w0 lo2 ao ts) (hTb : ∀ b off, ao = some ⟨b, off, none⟩ → 0 < ts.length → ¬ bad b ∧ b < S) (hlo2 : w.heap.size < lo2)
    (hG : GoodR w0 lo S bad vs xss) (hs : Stay S bad w0 wr) (ho : wr.ownsRow base 44 1 (.slice (some ⟨g, 0, none⟩) n capC) n vs) (hlo : w.heap.size < lo) (hbase : w.heap.size < base) (hB : Below w.heap.size w wr) (hsh : ts.length ≤ 66) (hf : xss.length ≤ 4) (u0 u1 : Value) :
    DealtS w ((wr.setCell ⟨w.heap.size, 0, none⟩ u0).setCell ⟨w.heap.size, 1, none⟩ u1) ao ts (some ⟨g, 0, none⟩) xss := by
  have hR' := hG.rowsI hs ho
  have hsz : ((wr.setCell ⟨w.heap.size, 0, none⟩ u0).setCell ⟨w.heap.size, 1, none⟩ u1).heap.size = wr.heap.size := by simp [World.setCell]
  have eb : ∀ b, b ≠ w.heap.size → ((wr.setCell ⟨w.heap.size, 0, none⟩ u0).setCell ⟨w.heap.size, 1, none⟩ u1).heap[b]? = wr.heap[b]? := fun b hb => (Below.heap_setCell _ _ _ _ hb).trans (Below.heap_setCell _ _ _ _ hb)
  have hgS : base ≤ g := by
    rcases ho.2 with ⟨h', _⟩ | ⟨g', cap', cur, h', hb, _⟩
    · simp at h'
    · simp only [Value.slice.injEq, Option.some.injEq, Addr.mk.injEq, and_true, true_and] at h'
      obtain ⟨rfl, _⟩ := h'
      exact hb
  have hn : n = xss.length := by have := ho.1; rw [hG.1] at this; omega
  refine ⟨?_, ?_, hsh, hf, (hB.setCell (Nat.le_refl _) _).setCell (Nat.le_refl _) _⟩
  · rw [hsz]
    intro i hi
    obtain ⟨b, off, e, h1, h2, h3, h4⟩ := hT i hi
    obtain ⟨hb1, hb2⟩ := hTb b off e (by omega)
    have es := (eb b (by omega)).trans (hs.same b hb2 hb1)
    exact ⟨b, off, e, Nat.lt_of_lt_of_le hb2 hs.size, (World.cell?_of_block (a := ⟨b, off + i * 2, none⟩) es).trans h3, (World.cell?_of_block (a := ⟨b, off + i * 2 + 1, none⟩) es).trans h4⟩
  · rw [hsz]
    intro i hi
    obtain ⟨g1, off, bo1, cap1, e, q1, q2, q3, q4, q5⟩ := hR' i hi
    cases e
    refine ⟨g, 0, bo1, cap1, rfl, q1, (World.cell?_of_block (a := ⟨g, 0 + i, none⟩) (eb g (by omega))).trans q2, q3, q4, ?_⟩
    intro j hj
    obtain ⟨b, of2, e2, z1, z2⟩ := q5 j hj
    obtain ⟨u, h1, bo2, cap2, e3, _, _, h4⟩ := hG.2 i hi
    obtain ⟨b3, of3, e4, y1, y2, y3, _⟩ := h4 j hj
    have ecell : wr.cell? ⟨g, 0 + i, none⟩ = some u := by rw [Nat.zero_add, ho.cellAt i (by omega)]; exact h1
    rw [q2, e3] at ecell
    simp only [Option.some.injEq, Value.slice.injEq, true_and] at ecell
    have : b ≠ w.heap.size := by
      rw [ecell.1, e4] at e2
      simp only [Option.some.injEq, Addr.mk.injEq, and_true] at e2
      omega
    exact ⟨b, of2, e2, z1, (World.cell?_of_block (a := ⟨b, of2 + j, none⟩) (eb b this)).trans z2⟩

end Go.Proofs.YtljnjpjnadlmhaaDoor
