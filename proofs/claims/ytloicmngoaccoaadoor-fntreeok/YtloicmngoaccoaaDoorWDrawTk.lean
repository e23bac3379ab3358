/- What laws.FnTreeFirst draws: some net, and ties. -/
import Derived.Test.YtloicmngoaccoaaDoorWCapS
import Derived.Test.YtloicmngoaccoaaDoorPartWCopy
import Derived.Test.YtloicmngoaccoaaDoorWTreeS
import Derived.Test.YtloicmngoaccoaaDoorWAlls
import Derived.Deep.RegionLaw
import Derived.BigRegion
namespace Go.Proofs.YtloicmngoaccoaaDoor
open Go.RowKit
set_option linter.unusedVariables false

/-- ties that can be read, in a block from lo on -/
def TiesUp (w : World) (lo : Nat) (ao : Option Addr) (ts : List (Int × Int)) : Prop :=
  ∀ i, i < ts.length → ∃ b off, ao = some ⟨b, off, none⟩ ∧ lo ≤ b ∧ b < w.heap.size ∧ w.cell? ⟨b, off + i * 2, none⟩ = some (.int .i64 (tA ts i)) ∧ w.cell? ⟨b, off + i * 2 + 1, none⟩ = some (.int .i64 (tB ts i))
theorem TiesUp.next {w w' : World} {lo : Nat} {ao : Option Addr} {ts : List (Int × Int)} (h : TiesUp w lo ao ts) (hb : Below w.heap.size w w') : TiesUp w' lo ao ts := by
  intro i hi
  obtain ⟨b, off, e, h1, h2, h3, h4⟩ := h i hi
  exact ⟨b, off, e, h1, Nat.lt_of_lt_of_le h2 hb.size, (hb.cell (p := ⟨b, off + i * 2, none⟩) h2).trans h3, (hb.cell (p := ⟨b, off + i * 2 + 1, none⟩) h2).trans h4⟩
theorem TiesUp.turn {w w' : World} {lo R : Nat} {ao : Option Addr} {ts : List (Int × Int)} (h : TiesUp w lo ao ts) (ht : Turned R (R + 1) w w') (hl : R + 1 ≤ lo) : TiesUp w' lo ao ts := by
  intro i hi
  obtain ⟨b, off, e, h1, h2, h3, h4⟩ := h i hi
  exact ⟨b, off, e, h1, Nat.lt_of_lt_of_le h2 ht.size, (ht.cell (p := ⟨b, off + i * 2, none⟩) h2 (Or.inr (Nat.le_trans hl h1))).trans h3, (ht.cell (p := ⟨b, off + i * 2 + 1, none⟩) h2 (Or.inr (Nat.le_trans hl h1))).trans h4⟩
theorem TiesUp.in {w : World} {lo : Nat} {ao : Option Addr} {ts : List (Int × Int)} (h : TiesUp w lo ao ts) : TiesIn w w.heap.size ao ts := by
  intro i hi
  obtain ⟨b, off, e, h1, h2, h3, h4⟩ := h i hi
  exact ⟨b, off, e, h2, h3, h4⟩
theorem TiesUp.down {w : World} {lo lo' : Nat} {ao : Option Addr} {ts : List (Int × Int)} (h : TiesUp w lo ao ts) (hl : lo' ≤ lo) : TiesUp w lo' ao ts := by
  intro i hi
  obtain ⟨b, off, e, h1, h2⟩ := h i hi
  exact ⟨b, off, e, Nat.le_trans hl h1, h2⟩
theorem OwnN.tiesUp {w : World} {lo hi : Nat} {ao : Option Addr} {ts : List (Int × Int)} (h : OwnN w lo hi ao ts.length (tcell ts)) : TiesUp w lo ao ts := by
  intro i hi'
  rcases h with ⟨h0, _⟩ | ⟨g, rfl, h1, h2, h3⟩
  · omega
  · refine ⟨g, 0, rfl, h1, h3.2.2, ?_, ?_⟩
    · rw [Nat.zero_add, h3.1 (i * 2) (by omega), tcell0]
    · rw [Nat.zero_add, h3.1 (i * 2 + 1) (by omega), tcell1]
theorem TiesUp.tail {w : World} {lo b off : Nat} {ts : List (Int × Int)} (h : TiesUp w lo (some ⟨b, off, none⟩) ts) : TiesUp w lo (some ⟨b, off + 2, none⟩) (ts.drop 1) := by
  intro i hi
  simp only [List.length_drop] at hi
  obtain ⟨b', off', e, h1, h2, h3, h4⟩ := h (i + 1) (by omega)
  simp only [Option.some.injEq, Addr.mk.injEq, and_true] at e
  obtain ⟨rfl, rfl⟩ := e
  have e1 : tA (ts.drop 1) i = tA ts (i + 1) := by simp [tA]
  have e2 : tB (ts.drop 1) i = tB ts (i + 1) := by simp [tB]
  refine ⟨b, off + 2, rfl, h1, h2, ?_, ?_⟩
  · rw [e1, show off + 2 + i * 2 = off + (i + 1) * 2 by omega]; exact h3
  · rw [e2, show off + 2 + i * 2 + 1 = off + (i + 1) * 2 + 1 by omega]; exact h4
/-- a net was drawn into the box A, with the reader at R; the answer's cell stands empty -/
structure Tst (w wr : World) (R : Nat) (bo : Option Addr) (bn bcap p : Nat) (A : Nat) (K : Int) (ao : Option Addr) (cap : Nat) (ts : List (Int × Int)) : Prop where
  rd : Rdr wr R bo bn bcap p
  C : Cel wr w.heap.size 0 (.slice none 0 0)
  n0 : wr.cell? ⟨A, 0, none⟩ = some (.int .i64 K)
  n1 : wr.cell? ⟨A, 1, none⟩ = some (.slice ao ts.length cap)
  hA : R < A
  lt : A < wr.heap.size
  tN : TiesUp wr (R + 1) ao ts
  B : Below w.heap.size w wr
  hR : w.heap.size < R
  hi : ∀ b off, ao = some ⟨b, off, none⟩ → 0 < ts.length → b < A
theorem Cel.nextC {w w' : World} {A : Nat} {K : Int} {v : Value} (h : Cel w A K v) (hb : Below w.heap.size w w') : Cel w' A K v := h.below hb h.lt
theorem Tst.next {w wr w' : World} {R : Nat} {bo : Option Addr} {bn bcap p : Nat} {A : Nat} {K : Int} {ao : Option Addr} {cap : Nat} {ts : List (Int × Int)} (h : Tst w wr R bo bn bcap p A K ao cap ts) (hb : Below wr.heap.size wr w') : Tst w w' R bo bn bcap p A K ao cap ts :=
  ⟨h.rd.next hb, h.C.nextC hb, (hb.cell (p := ⟨A, 0, none⟩) h.lt).trans h.n0, (hb.cell (p := ⟨A, 1, none⟩) h.lt).trans h.n1, h.hA, Nat.lt_of_lt_of_le h.lt hb.size, h.tN.next hb, h.B.trans (hb.mono h.B.size), h.hR, h.hi⟩
theorem Tst.turn {w wr w' : World} {R : Nat} {bo : Option Addr} {bn bcap p p' : Nat} {A : Nat} {K : Int} {ao : Option Addr} {cap : Nat} {ts : List (Int × Int)} (h : Tst w wr R bo bn bcap p A K ao cap ts) (ht : Turned R (R + 1) wr w') (rd : Rdr w' R bo bn bcap p') : Tst w w' R bo bn bcap p' A K ao cap ts :=
  ⟨rd, h.C.turn' ht h.hR, (ht.cell (p := ⟨A, 0, none⟩) h.lt (Or.inr h.hA)).trans h.n0, (ht.cell (p := ⟨A, 1, none⟩) h.lt (Or.inr h.hA)).trans h.n1, h.hA, Nat.lt_of_lt_of_le h.lt ht.size, h.tN.turn ht (Nat.le_refl _), h.B.trans (ht.toBelow (Nat.le_of_lt h.hR) (Nat.le_of_lt h.rd.lt)), h.hR, h.hi⟩
theorem Rdr.same {w w' : World} {R : Nat} {bo : Option Addr} {bn bcap p : Nat} (h : Rdr w R bo bn bcap p) (hb : ∀ k, k ≤ R → w'.heap[k]? = w.heap[k]?) (hs : w.heap.size ≤ w'.heap.size) : Rdr w' R bo bn bcap p := by
  refine ⟨(World.cell?_of_block (a := ⟨R, 0, none⟩) (hb R (Nat.le_refl _))).trans h.c0, (World.cell?_of_block (a := ⟨R, 1, none⟩) (hb R (Nat.le_refl _))).trans h.c1, (World.frozen?_of_block (a := ⟨R, 1, none⟩) (hb R (Nat.le_refl _))).trans h.f1, Nat.lt_of_lt_of_le h.lt hs, h.short, fun i hi => ?_⟩
  obtain ⟨b, off, v, e, h1, h3, h4⟩ := h.bytes i hi
  exact ⟨b, off, v, e, h1, (World.cell?_of_block (a := ⟨b, off + i, none⟩) (hb b (by omega))).trans h3, h4⟩
/-- behind an append to a row of a later block -/
theorem Tst.grown {w wr wa wb : World} {R : Nat} {bo : Option Addr} {bn bcap p : Nat} {A : Nat} {K : Int} {ao : Option Addr} {cap : Nat} {ts : List (Int × Int)} {row : Option Nat} (h : Tst w wr R bo bn bcap p A K ao cap ts) (ha : Below wr.heap.size wr wa) (hg : wa.grownBy wb row) (hr : ∀ k, row = some k → A + 1 ≤ k) : Tst w wb R bo bn bcap p A K ao cap ts := by
  have h1 := h.lt
  have h2 := h.hA
  have h3 := h.hR
  have hs := ha.size
  have eb : ∀ k, k ≤ A → wb.heap[k]? = wr.heap[k]? := fun k hk => (hg.block k (by omega) (fun e => by have := hr k e.symm; omega)).trans (ha.block k (by omega))
  have ce := fun (b o : Nat) (hb : b ≤ A) => World.cell?_of_block (a := ⟨b, o, none⟩) (eb b hb)
  have fe := fun (b o : Nat) (hb : b ≤ A) => World.frozen?_of_block (a := ⟨b, o, none⟩) (eb b hb)
  have hz : wr.heap.size ≤ wb.heap.size := Nat.le_trans hs hg.size
  refine ⟨h.rd.same (fun k hk => eb k (by omega)) hz, ⟨(ce _ _ (by omega)).trans h.C.c0, (ce _ _ (by omega)).trans h.C.c1, (fe _ _ (by omega)).trans h.C.f0, (fe _ _ (by omega)).trans h.C.f1, Nat.lt_of_lt_of_le h.C.lt hz⟩, (ce _ _ (Nat.le_refl _)).trans h.n0, (ce _ _ (Nat.le_refl _)).trans h.n1, h.hA, Nat.lt_of_lt_of_le h.lt hz, fun i hi => ?_, ?_, h.hR, h.hi⟩
  · obtain ⟨b, off, e, q1, q2, q3, q4⟩ := h.tN i hi
    have hbA := h.hi b off e (by omega)
    exact ⟨b, off, e, q1, Nat.lt_of_lt_of_le q2 hz, (ce b _ (by omega)).trans q3, (ce b _ (by omega)).trans q4⟩
  · exact h.B.trans ⟨hg.os.trans ha.os, hg.tape.trans ha.tape, hg.output.trans ha.output, hz, fun k hk => eb k (by omega)⟩
/-- a net and ties were drawn since w, and nothing that was there has turned -/
structure DealtT (w w' : World) (ao : Option Addr) (ts : List (Int × Int)) (co : Option Addr) (us : List (Int × Int)) : Prop where
  net : TiesIn w' w'.heap.size ao ts
  list : TiesIn w' w'.heap.size co us
  short : ts.length ≤ 66
  few : us.length ≤ 67
  bel : Below w.heap.size w w'
theorem TiesUp.far {w : World} {lo : Nat} {ao : Option Addr} {ts : List (Int × Int)} (h : TiesUp w lo ao ts) {q : Addr} (hq : q.block < lo) (u : Value) : TiesUp (w.setCell q u) lo ao ts := by
  intro i hi
  obtain ⟨b, off, e, h1, h2, h3, h4⟩ := h i hi
  have hb : (w.setCell q u).heap[b]? = w.heap[b]? := Below.heap_setCell _ _ _ _ (by omega)
  exact ⟨b, off, e, h1, by simpa [World.setCell] using h2, (World.cell?_of_block (a := ⟨b, off + i * 2, none⟩) hb).trans h3, (World.cell?_of_block (a := ⟨b, off + i * 2 + 1, none⟩) hb).trans h4⟩
theorem Tst.fin {w wr : World} {R : Nat} {bo : Option Addr} {bn bcap p : Nat} {A : Nat} {K : Int} {ao : Option Addr} {cap : Nat} {ts : List (Int × Int)} (h : Tst w wr R bo bn bcap p A K ao cap ts) {co : Option Addr} {us : List (Int × Int)} (hL : TiesUp wr (R + 1) co us) (hs : ts.length ≤ 66) (hf : us.length ≤ 67) (u0 u1 : Value) :
    DealtT w ((wr.setCell ⟨w.heap.size, 0, none⟩ u0).setCell ⟨w.heap.size, 1, none⟩ u1) ao ts co us := by
  have hR := h.hR
  exact ⟨((h.tN.far (q := ⟨w.heap.size, 0, none⟩) (by show w.heap.size < R + 1; omega) u0).far (q := ⟨w.heap.size, 1, none⟩) (by show w.heap.size < R + 1; omega) u1).in, ((hL.far (q := ⟨w.heap.size, 0, none⟩) (by show w.heap.size < R + 1; omega) u0).far (q := ⟨w.heap.size, 1, none⟩) (by show w.heap.size < R + 1; omega) u1).in, hs, hf, (h.B.setCell (Nat.le_refl _) _).setCell (Nat.le_refl _) _⟩

/-- what stands when a tie of the tree, and one of the net, have been drawn -/
structure Two (w W : World) (R : Nat) (bo : Option Addr) (bn bcap p : Nat) (A : Nat) (K : Int) (ao : Option Addr) (cap : Nat) (ts : List (Int × Int)) (co : Option Addr) (capC : Nat) (us : List (Int × Int)) (TB : Nat) (ta tb : Int) (XB : Nat) (l SB : Nat) : Prop where
  S : Tst w W R bo bn bcap p A K ao cap ts
  L : TiesUp W (R + 1) co us
  X : Cel W XB K (.slice co us.length capC)
  v0 : W.cell? ⟨TB, 0, none⟩ = some (.int .i64 ta)
  v1 : W.cell? ⟨TB, 1, none⟩ = some (.int .i64 tb)
  vl : TB < W.heap.size
  s0 : W.cell? ⟨SB, 0, none⟩ = some (.int .i64 (tA ts l))
  s1 : W.cell? ⟨SB, 1, none⟩ = some (.int .i64 (tB ts l))
  sl : SB < W.heap.size
  ll : l < ts.length
  xs : XB < SB
theorem Two.after {w w6 : World} {R : Nat} {bo : Option Addr} {bn bcap p : Nat} {A : Nat} {K : Int} {ao : Option Addr} {cap : Nat} {ts : List (Int × Int)} {co : Option Addr} {capC : Nat} {us : List (Int × Int)} {TB : Nat} {ta tb : Int} {XB l : Nat} (t : TypeId)
    (S : Tst w w6 R bo bn bcap p A K ao cap ts) (L : TiesUp w6 (R + 1) co us) (X : Cel w6 XB K (.slice co us.length capC)) (v0 : w6.cell? ⟨TB, 0, none⟩ = some (.int .i64 ta)) (v1 : w6.cell? ⟨TB, 1, none⟩ = some (.int .i64 tb)) (vl : TB < w6.heap.size) (hl : l < ts.length) :
    Two w (w6.alloc (.cells #[.int .i64 (tA ts l), .int .i64 (tB ts l)] t)) R bo bn bcap p A K ao cap ts co capC us TB ta tb XB l w6.heap.size := by
  have bs := below_one w6 (.cells #[.int .i64 (tA ts l), .int .i64 (tB ts l)] t)
  exact ⟨S.next bs, L.next bs, X.nextC bs, (bs.cell (p := ⟨TB, 0, none⟩) vl).trans v0, (bs.cell (p := ⟨TB, 1, none⟩) vl).trans v1, Nat.lt_of_lt_of_le vl bs.size, by simp, by simp, by simp, hl, X.lt⟩
theorem TiesUp.kept {w0 w w' : World} {lo : Nat} {ao : Option Addr} {ts : List (Int × Int)} (h0 : TiesUp w0 lo ao ts) (h : TiesUp w lo ao ts) (hb : ∀ k, k < w0.heap.size → w'.heap[k]? = w.heap[k]?) (hs : w.heap.size ≤ w'.heap.size) : TiesUp w' lo ao ts := by
  intro i hi
  obtain ⟨b, off, e, h1, h2, _, _⟩ := h0 i hi
  obtain ⟨b', off', e', _, g2, g3, g4⟩ := h i hi
  rw [e] at e'
  cases e'
  exact ⟨b, off, e, h1, Nat.lt_of_lt_of_le g2 hs, (World.cell?_of_block (a := ⟨b, off + i * 2, none⟩) (hb b h2)).trans g3, (World.cell?_of_block (a := ⟨b, off + i * 2 + 1, none⟩) (hb b h2)).trans g4⟩
theorem Two.ahead {w wy w6 : World} {R : Nat} {bo : Option Addr} {bn bcap p : Nat} {A : Nat} {K : Int} {ao : Option Addr} {cap : Nat} {ts : List (Int × Int)} {co : Option Addr} {capC : Nat} {us : List (Int × Int)} {TB : Nat} {ta tb : Int} {XB l : Nat}
    (S : Tst w w6 R bo bn bcap p A K ao cap ts) (L0 : TiesUp wy (R + 1) co us) (L : TiesUp w6 (R + 1) co us) (X : Cel w6 XB K (.slice co us.length capC)) (v0 : w6.cell? ⟨TB, 0, none⟩ = some (.int .i64 ta)) (v1 : w6.cell? ⟨TB, 1, none⟩ = some (.int .i64 tb)) (hA : A < wy.heap.size) (hX : XB < wy.heap.size) (hV : TB < wy.heap.size)
    (z0 : w6.cell? ⟨wy.heap.size, 0, none⟩ = some (.int .i64 0)) (z1 : w6.cell? ⟨wy.heap.size, 1, none⟩ = some (.int .i64 0)) (zl : wy.heap.size < w6.heap.size) (hl : l < ts.length) :
    Two w ((w6.setCell ⟨wy.heap.size, 0, none⟩ (.int .i64 (tA ts l))).setCell ⟨wy.heap.size, 1, none⟩ (.int .i64 (tB ts l))) R bo bn bcap p A K ao cap ts co capC us TB ta tb XB l wy.heap.size := by
  have ea : ∀ k, k ≠ wy.heap.size → ((w6.setCell ⟨wy.heap.size, 0, none⟩ (.int .i64 (tA ts l))).setCell ⟨wy.heap.size, 1, none⟩ (.int .i64 (tB ts l))).heap[k]? = w6.heap[k]? := fun k hk => (Below.heap_setCell _ _ _ _ hk).trans (Below.heap_setCell _ _ _ _ hk)
  have hsz : ((w6.setCell ⟨wy.heap.size, 0, none⟩ (.int .i64 (tA ts l))).setCell ⟨wy.heap.size, 1, none⟩ (.int .i64 (tB ts l))).heap.size = w6.heap.size := by simp [World.setCell]
  have ce := fun (b o : Nat) (hn : b ≠ wy.heap.size) => World.cell?_of_block (a := ⟨b, o, none⟩) (ea b hn)
  have fe := fun (b o : Nat) (hn : b ≠ wy.heap.size) => World.frozen?_of_block (a := ⟨b, o, none⟩) (ea b hn)
  have hg : w6.grownBy ((w6.setCell ⟨wy.heap.size, 0, none⟩ (.int .i64 (tA ts l))).setCell ⟨wy.heap.size, 1, none⟩ (.int .i64 (tB ts l))) (some wy.heap.size) := ⟨rfl, rfl, rfl, by rw [hsz]; exact Nat.le_refl _, fun k _ hk => ea k (fun e => hk (by rw [e]))⟩
  refine ⟨S.grown (Below.refl _ _) hg (fun k e => by cases e; exact hA), L0.kept L (fun k hk => ea k (by omega)) (by rw [hsz]; exact Nat.le_refl _), ⟨(ce _ _ (by omega)).trans X.c0, (ce _ _ (by omega)).trans X.c1, (fe _ _ (by omega)).trans X.f0, (fe _ _ (by omega)).trans X.f1, by rw [hsz]; exact X.lt⟩, (ce _ _ (by omega)).trans v0, (ce _ _ (by omega)).trans v1, by rw [hsz]; omega, ?_, ?_, by rw [hsz]; exact zl, hl, hX⟩
  · exact (World.cell?_setCell_other _ _ _ _ (by simp)).trans (World.cell?_setCell_same _ _ _ z0)
  · exact World.cell?_setCell_same _ _ _ ((World.cell?_setCell_other _ _ _ _ (by simp)).trans z1)
theorem wp_weak2 {P : Program} {c : Code} {Q' : Exit → Act → World → Prop} {K : Act → World → Prop} {a : Act} {w : World} {aa : Nat → Nat → Act} (J : Nat → Nat → World → Prop) (h : c.wp P (Exit.then (fun a' w' => ∃ l s, a' = aa l s ∧ J l s w') Q') a w) (hk : ∀ l s w', J l s w' → K (aa l s) w') : c.wp P (Exit.then K Q') a w :=
  Code.wp_mono (fun e a' w' h => by
    cases e with
    | normal => obtain ⟨l, s, rfl, hj⟩ := h; exact hk l s _ hj
    | _ => exact h) h

set_option maxHeartbeats 8000000 in
theorem drawTreeOk_any (bo : Option Addr) (n cap : Nat) (w : World) (hb : BytesIn w bo n) (hnil : bo = none → n = 0 ∧ cap = 0) (hc : n ≤ cap) (hm : cap ≤ maxLen) :
    Calls Tryd.prog 10 #[.slice bo n cap] w fun e w' => ∃ K ao cap' ts co capC us, e = .returned (.tuple #[.agg #[.int .i64 K, .slice ao ts.length cap'], .slice co us.length capC]) ∧ us.length ≤ capC ∧ DealtT w w' ao ts co us := by
  obtain ⟨i1, hj, hy0, hy1, hy2⟩ := info_parts Tryd.infoTie
  have HI : Hid (Tryd.prog.info? 35 = some i1 ∧ i1.zero = some (.agg #[.int .i64 0, .int .i64 0]) ∧ i1.size = 2 ∧ i1.bytes = 16) := ⟨hj, hy0, hy1, hy2⟩
  clear hj hy0 hy1 hy2
  go_enter Tryd.func10, Tryd.ntmps10
  go_wp2_with fail
  refine (l6Open_any bo n cap _ (fun i hi => by obtain ⟨b, off, v, e, h1, h2, h3⟩ := hb i hi; exact ⟨b, off, v, e, Nat.lt_of_lt_of_le h1 (by simp), by rw [World.cell?_alloc_past _ _ _ h1]; exact h2, h3⟩) hnil hc hm).mono ?_
  rintro e w1 ⟨rfl, ⟨bn, bcap, rd⟩, hb1⟩
  have hb1' : Below (w.heap.size + 1) (w.alloc (.cells #[.int .i64 0, .slice none 0 0] 25)) w1 := by simpa using hb1
  have C1 := hideP ((Cel.new w 0 (.slice none 0 0) 25).below hb1' (Nat.lt_succ_self _))
  have hB1 := hideP ((below_one w (.cells #[.int .i64 0, .slice none 0 0] 25)).trans (hb1'.mono (Nat.le_succ _)))
  have rd' : Rdr w1 (w.heap.size + 1) bo bn bcap 0 := by simpa using rd
  have hR := rd'.lt
  clear hb1 hb1' rd
  obtain ⟨R, hRR⟩ : ∃ R, R = w.heap.size + 1 := ⟨_, rfl⟩
  have hwR : w.heap.size < R := by omega
  rw [← hRR] at rd' hR
  simp only [World.size_alloc] at *
  rw [← hRR]
  clear hRR
  go_wp2_with fail
  refine (l71Any_any R bo bn bcap 0 _ rd' (by omega)).mono ?_
  rintro e w2 ⟨K, ao, cap', ts, rfl, ⟨p, hp, rd2⟩, tr2, ho2, hk0, hk9, hlen⟩
  have hn : ts.length ≤ 1099511627776 := by omega
  have S2 : ∀ t, Hid (Tst w (w2.alloc (.cells #[.int .i64 K, .slice ao ts.length cap'] t)) R bo bn bcap p w2.heap.size K ao cap' ts) := fun t => by
    have hRw := tr2.size
    have h0 := rd2.lt
    refine ⟨rd2.next (below_one _ _), (C1.out.turn' tr2 hwR).nextC (below_one _ _), by simp, by simp, h0, by simp, (ho2.tiesUp.down hR).next (below_one _ _), (hB1.out.trans (tr2.toBelow (Nat.le_of_lt hwR) (Nat.le_of_lt hR))).trans ((below_one w2 _).mono (by have := hB1.out.size; omega)), hwR, fun b off e hl => ?_⟩
    rcases ho2 with ⟨h1, _⟩ | ⟨g, e2, _, h2, _⟩
    · omega
    · rw [e2] at e; simp only [Option.some.injEq, Addr.mk.injEq] at e; omega
  clear rd2 tr2 ho2 C1 hB1 rd'
  go_wp2_with fail
  refine (specTree_row K ao cap' ts _ hn (S2 _).out.tN.in).mono ?_
  rintro e w3 ⟨co, capC, rfl, ho3, hb3⟩
  have S3 := hideP ((S2 _).out.next hb3)
  have hlow : R < w2.heap.size := (S2 25).out.hA
  obtain ⟨A, hAe⟩ : ∃ A, A = w2.heap.size := ⟨_, rfl⟩
  have hul := treeTs_len K ts
  obtain ⟨us, hus⟩ : ∃ us, us = treeTs K ts := ⟨_, rfl⟩
  rw [← hus] at ho3 hul ⊢
  have O3 : Hid (w3.ownsRow (A + 1) 35 2 (.slice co us.length capC) us.length (clist us us.length)) := own_base ho3 (by simp; omega)
  have HR3 : Hid (us.length ≤ capC) := hideP (own_room O3.out)
  rw [← hAe] at S3 hlow ⊢
  clear hb3 S2 ho3 hus hAe
  go_wp2_with fail
  refine (pick_any R bo bn bcap p 3 _ S3.out.rd (by omega)).mono ?_
  rintro e w4 ⟨z, rfl, z0, z1, rd4, tr4⟩
  have S4 := hideP (S3.out.turn tr4 rd4)
  have O4 : Hid (w4.ownsRow (A + 1) 35 2 (.slice co us.length capC) us.length (clist us us.length)) := own_same O3.out (fun g hg hgl => tr4.block g hgl (Or.inr (by omega)))
  have L4 : Hid (TiesUp w4 (R + 1) co us) := (OwnN.of_row O4.out).tiesUp.down (by omega)
  clear S3 O3 tr4 rd4 z1
  have hcase : (z ≠ 0 ∨ (z = 0 ∧ us.length = 0) ∨ (z = 0 ∧ 0 < us.length ∧ ¬ us.length < ts.length)) ∨ (z = 0 ∧ 0 < us.length ∧ us.length < ts.length) := by omega
  have q0 := S4.out.n0
  have q1 := S4.out.n1
  rcases hcase with hB | ⟨rfl, hu, ht⟩
  · rcases hB with hz | ⟨rfl, hu⟩ | ⟨rfl, hu, ht⟩
    · have hz' : (z == 0) = false := by simp [hz]
      go_wp2_with fail
      refine (pick_any R bo bn bcap (p + 1) 8 _ S4.out.rd (by omega)).mono ?_
      rintro e w5 ⟨y, rfl, y0, y1, rd5, tr5⟩
      have y8 := y1 (by omega)
      have S5 := hideP (S4.out.turn tr5 rd5)
      have O5 : Hid (w5.ownsRow (A + 1) 35 2 (.slice co us.length capC) us.length (clist us us.length)) := own_same O4.out (fun g hg hgl => tr5.block g hgl (Or.inr (by omega)))
      have L5 : Hid (TiesUp w5 (R + 1) co us) := (OwnN.of_row O5.out).tiesUp.down (by omega)
      clear S4 O4 L4 tr5 rd5 y1 q0 q1
      by_cases hy0 : y = 0
      · subst hy0
        clear L5
        go_wp2_with fail
        refine (pick_any R bo bn bcap (p + 1 + 1) 4 _ S5.out.rd (by omega)).mono ?_
        rintro e w6 ⟨za, rfl, v0, v1, rd6, tr6⟩
        have v4 := v1 (by omega)
        have S6 := hideP (S5.out.turn tr6 rd6)
        have O6 : Hid (w6.ownsRow (A + 1) 35 2 (.slice co us.length capC) us.length (clist us us.length)) := own_same O5.out (fun g hg hgl => tr6.block g hgl (Or.inr (by omega)))
        clear rd6 tr6 v1 S5 O5
        go_wp2_with fail
        refine (pick_any R bo bn bcap (p + 1 + 1 + 1) 4 _ S6.out.rd (by omega)).mono ?_
        rintro e w7 ⟨zb, rfl, u0, u1, rd7, tr7⟩
        have u4 := u1 (by omega)
        have S7 := hideP (S6.out.turn tr7 rd7)
        have O7 : Hid (w7.ownsRow (A + 1) 35 2 (.slice co us.length capC) us.length (clist us us.length)) := own_same O6.out (fun g hg hgl => tr7.block g hgl (Or.inr (by omega)))
        have h7 := S7.out.lt
        clear rd7 tr7 u1 S6 O6
        go_wp2_with (at_builtin; refine wpList_append_own _ rfl _ _ 23 rfl (A + 1) 35 i1 (.agg #[.int .i64 0, .int .i64 0]) 2 16 Tryd.underlying23 HI.out.1 HI.out.2.1 HI.out.2.2.1 HI.out.2.2.2 rfl (by decide) _ _ _ rfl (O7.out.alloc _) ⟨_, 0, none⟩ 1 1 [.int .i64 za, .int .i64 (4 + zb)] rfl rfl (World.news_of_block (cs := #[.int .i64 za, .int .i64 (4 + zb)]) (t := 35) (fr := (0, 0)) (heap_alloc_new w7 _)) (by simp [Value.oneCell']) (by unfold maxLen; omega) (by omega) (by simp; omega) ?_)
        intro v9 wb hown1 hgrow _
        obtain ⟨go9, cap9, rfl⟩ := own_slice hown1
        have S8 := hideP (S7.out.grown (below_one _ _) hgrow (own_ge O7.out))
        have L8 : Hid (TiesUp wb (R + 1) go9 (us ++ [(za, 4 + zb)])) := by
          have e9 : (us ++ [(za, 4 + zb)]).length = us.length + 1 := by simp
          refine (OwnN.of_row (cap := cap9) (ts := us ++ [(za, 4 + zb)]) (n := (us ++ [(za, 4 + zb)]).length) (base := A + 1) ?_).tiesUp.down (by omega)
          rw [e9, clist_app]
          exact hown1
        have hroom9 := own_room hown1
        clear hown1 hgrow S7 O7
        have r0 := S8.out.C.c0
        have r1 := S8.out.C.c1
        have g0 := S8.out.C.f0
        have g1 := S8.out.C.f1
        have k0 := S8.out.n0
        have k1 := S8.out.n1
        go_wp2
        refine bodyPost_ret (v := .tuple #[.agg #[.int .i64 K, .slice ao ts.length cap'], .slice go9 (us.length + 1) cap9]) ?_ rfl ⟨K, ao, cap', ts, go9, cap9, us ++ [(za, 4 + zb)], by simp, by simpa using hroom9, S8.out.fin L8.out hlen (by first | (simp; done) | (simp; omega)) _ _⟩
        simp [results, Tryd.results10, go_sem, r0, r1]
      by_cases hy1 : y = 1
      · subst hy1
        by_cases hu2 : 0 < us.length
        · have hu2' : (0 : Int) < (us.length : Int) := by omega
          obtain ⟨g, cap9, e9, _⟩ := O5.out.form hu2
          simp only [Value.slice.injEq, true_and] at e9
          obtain ⟨rfl, rfl⟩ := e9
          have hcap : us.length ≤ capC := by
            rcases O5.out.2 with ⟨h0, _⟩ | ⟨g', c', cur, h0, _, _, hnc, _⟩
            · simp at h0
            · simp only [Value.slice.injEq, true_and] at h0; obtain ⟨_, rfl⟩ := h0; exact hnc
          by_cases hc1 : capC = 1
          · have L6 : Hid (TiesUp w5 (R + 1) (some ⟨g, 0, none⟩) (us.drop 1)) := fun i hi => by simp only [List.length_drop] at hi; omega
            have hl1 : us.length = 1 := by omega
            have r0 := S5.out.C.c0
            have r1 := S5.out.C.c1
            have g0 := S5.out.C.f0
            have g1 := S5.out.C.f1
            have k0 := S5.out.n0
            have k1 := S5.out.n1
            subst hc1
            clear hcap
            go_wp2
            refine bodyPost_ret (v := .tuple #[.agg #[.int .i64 K, .slice ao ts.length cap'], .slice (some ⟨g, 0, none⟩) 0 0]) ?_ rfl ⟨K, ao, cap', ts, some ⟨g, 0, none⟩, 0, us.drop 1, by simp [hl1], by simp [hl1], S5.out.fin L6.out hlen (by simp; omega) _ _⟩
            simp [results, Tryd.results10, go_sem, r0, r1]
          · have L6 := hideP L5.out.tail
            have r0 := S5.out.C.c0
            have r1 := S5.out.C.c1
            have g0 := S5.out.C.f0
            have g1 := S5.out.C.f1
            have k0 := S5.out.n0
            have k1 := S5.out.n1
            go_wp2
            refine bodyPost_ret (v := .tuple #[.agg #[.int .i64 K, .slice ao ts.length cap'], .slice (some ⟨g, 2, none⟩) (us.length - 1) (capC - 1)]) ?_ rfl ⟨K, ao, cap', ts, some ⟨g, 2, none⟩, capC - 1, us.drop 1, by simp, by simp; omega, S5.out.fin L6.out hlen (by simp; omega) _ _⟩
            simp [results, Tryd.results10, go_sem, r0, r1]
        · have hnil9 : us = [] := List.length_eq_zero_iff.1 (by omega)
          subst hnil9
          have r0 := S5.out.C.c0
          have r1 := S5.out.C.c1
          have g0 := S5.out.C.f0
          have g1 := S5.out.C.f1
          have k0 := S5.out.n0
          have k1 := S5.out.n1
          clear hu2 O5
          go_wp2
          refine bodyPost_ret (v := .tuple #[.agg #[.int .i64 K, .slice ao ts.length cap'], .slice co 0 capC]) ?_ rfl ⟨K, ao, cap', ts, co, capC, [], rfl, Nat.zero_le _, S5.out.fin L5.out hlen (by simp) _ _⟩
          simp [results, Tryd.results10, go_sem, r0, r1]
      have hy0' : (y == 0) = false := by simp [hy0]
      have hy1' : (y == 1) = false := by simp [hy1]
      have hy0'' : ((0 : Int) == y) = false := by simp; omega
      have hy1'' : ((1 : Int) == y) = false := by simp; omega
      have r0 := S5.out.C.c0
      have r1 := S5.out.C.c1
      have g0 := S5.out.C.f0
      have g1 := S5.out.C.f1
      have k0 := S5.out.n0
      have k1 := S5.out.n1
      go_wp2
      refine bodyPost_ret (v := .tuple #[.agg #[.int .i64 K, .slice ao ts.length cap'], .slice co us.length capC]) ?_ rfl ⟨K, ao, cap', ts, _, _, us, rfl, HR3.out, S5.out.fin L5.out hlen (by omega) _ _⟩
      simp [results, Tryd.results10, go_sem, r0, r1]
    · have hnil8 : us = [] := List.length_eq_zero_iff.1 hu
      subst hnil8
      clear hu
      go_wp2_with fail
      refine (pick_any R bo bn bcap (p + 1) 8 _ S4.out.rd (by omega)).mono ?_
      rintro e w5 ⟨y, rfl, y0, y1, rd5, tr5⟩
      have y8 := y1 (by omega)
      have S5 := hideP (S4.out.turn tr5 rd5)
      have O5 : Hid (w5.ownsRow (A + 1) 35 2 (.slice co ([] : List (Int × Int)).length capC) ([] : List (Int × Int)).length (clist ([] : List (Int × Int)) ([] : List (Int × Int)).length)) := own_same O4.out (fun g hg hgl => tr5.block g hgl (Or.inr (by omega)))
      have L5 : Hid (TiesUp w5 (R + 1) co ([] : List (Int × Int))) := (OwnN.of_row O5.out).tiesUp.down (by omega)
      clear S4 O4 L4 tr5 rd5 y1 q0 q1
      by_cases hy0 : y = 0
      · subst hy0
        clear L5
        go_wp2_with fail
        refine (pick_any R bo bn bcap (p + 1 + 1) 4 _ S5.out.rd (by omega)).mono ?_
        rintro e w6 ⟨za, rfl, v0, v1, rd6, tr6⟩
        have v4 := v1 (by omega)
        have S6 := hideP (S5.out.turn tr6 rd6)
        have O6 : Hid (w6.ownsRow (A + 1) 35 2 (.slice co ([] : List (Int × Int)).length capC) ([] : List (Int × Int)).length (clist ([] : List (Int × Int)) ([] : List (Int × Int)).length)) := own_same O5.out (fun g hg hgl => tr6.block g hgl (Or.inr (by omega)))
        clear rd6 tr6 v1 S5 O5
        go_wp2_with fail
        refine (pick_any R bo bn bcap (p + 1 + 1 + 1) 4 _ S6.out.rd (by omega)).mono ?_
        rintro e w7 ⟨zb, rfl, u0, u1, rd7, tr7⟩
        have u4 := u1 (by omega)
        have S7 := hideP (S6.out.turn tr7 rd7)
        have O7 : Hid (w7.ownsRow (A + 1) 35 2 (.slice co ([] : List (Int × Int)).length capC) ([] : List (Int × Int)).length (clist ([] : List (Int × Int)) ([] : List (Int × Int)).length)) := own_same O6.out (fun g hg hgl => tr7.block g hgl (Or.inr (by omega)))
        have h7 := S7.out.lt
        clear rd7 tr7 u1 S6 O6
        go_wp2_with (at_builtin; refine wpList_append_own _ rfl _ _ 23 rfl (A + 1) 35 i1 (.agg #[.int .i64 0, .int .i64 0]) 2 16 Tryd.underlying23 HI.out.1 HI.out.2.1 HI.out.2.2.1 HI.out.2.2.2 rfl (by decide) _ _ _ rfl (O7.out.alloc _) ⟨_, 0, none⟩ 1 1 [.int .i64 za, .int .i64 (4 + zb)] rfl rfl (World.news_of_block (cs := #[.int .i64 za, .int .i64 (4 + zb)]) (t := 35) (fr := (0, 0)) (heap_alloc_new w7 _)) (by simp [Value.oneCell']) (by unfold maxLen; omega) (by omega) (by simp; omega) ?_)
        intro v9 wb hown1 hgrow _
        obtain ⟨go9, cap9, rfl⟩ := own_slice hown1
        have S8 := hideP (S7.out.grown (below_one _ _) hgrow (own_ge O7.out))
        have L8 : Hid (TiesUp wb (R + 1) go9 (([] : List (Int × Int)) ++ [(za, 4 + zb)])) := by
          have e9 : (([] : List (Int × Int)) ++ [(za, 4 + zb)]).length = ([] : List (Int × Int)).length + 1 := by simp
          refine (OwnN.of_row (cap := cap9) (ts := ([] : List (Int × Int)) ++ [(za, 4 + zb)]) (n := (([] : List (Int × Int)) ++ [(za, 4 + zb)]).length) (base := A + 1) ?_).tiesUp.down (by omega)
          rw [e9, clist_app]
          exact hown1
        have hroom9 := own_room hown1
        clear hown1 hgrow S7 O7
        have r0 := S8.out.C.c0
        have r1 := S8.out.C.c1
        have g0 := S8.out.C.f0
        have g1 := S8.out.C.f1
        have k0 := S8.out.n0
        have k1 := S8.out.n1
        go_wp2
        refine bodyPost_ret (v := .tuple #[.agg #[.int .i64 K, .slice ao ts.length cap'], .slice go9 (([] : List (Int × Int)).length + 1) cap9]) ?_ rfl ⟨K, ao, cap', ts, go9, cap9, ([] : List (Int × Int)) ++ [(za, 4 + zb)], by simp, by simpa using hroom9, S8.out.fin L8.out hlen (by first | (simp; done) | (simp; omega)) _ _⟩
        simp [results, Tryd.results10, go_sem, r0, r1]
      by_cases hy1 : y = 1
      · subst hy1
        · have r0 := S5.out.C.c0
          have r1 := S5.out.C.c1
          have g0 := S5.out.C.f0
          have g1 := S5.out.C.f1
          have k0 := S5.out.n0
          have k1 := S5.out.n1
          clear O5
          go_wp2
          refine bodyPost_ret (v := .tuple #[.agg #[.int .i64 K, .slice ao ts.length cap'], .slice co 0 capC]) ?_ rfl ⟨K, ao, cap', ts, co, capC, [], rfl, Nat.zero_le _, S5.out.fin L5.out hlen (by simp) _ _⟩
          simp [results, Tryd.results10, go_sem, r0, r1]
      have hy0' : (y == 0) = false := by simp [hy0]
      have hy1' : (y == 1) = false := by simp [hy1]
      have hy0'' : ((0 : Int) == y) = false := by simp; omega
      have hy1'' : ((1 : Int) == y) = false := by simp; omega
      have r0 := S5.out.C.c0
      have r1 := S5.out.C.c1
      have g0 := S5.out.C.f0
      have g1 := S5.out.C.f1
      have k0 := S5.out.n0
      have k1 := S5.out.n1
      go_wp2
      refine bodyPost_ret (v := .tuple #[.agg #[.int .i64 K, .slice ao ts.length cap'], .slice co ([] : List (Int × Int)).length capC]) ?_ rfl ⟨K, ao, cap', ts, _, _, ([] : List (Int × Int)), rfl, Nat.zero_le _, S5.out.fin L5.out hlen (by omega) _ _⟩
      simp [results, Tryd.results10, go_sem, r0, r1]
    · have hu' : (0 : Int) < (us.length : Int) := by omega
      have ht' : ¬ (us.length : Int) < (ts.length : Int) := by omega
      go_wp2_with fail
      refine (pick_any R bo bn bcap (p + 1) 8 _ S4.out.rd (by omega)).mono ?_
      rintro e w5 ⟨y, rfl, y0, y1, rd5, tr5⟩
      have y8 := y1 (by omega)
      have S5 := hideP (S4.out.turn tr5 rd5)
      have O5 : Hid (w5.ownsRow (A + 1) 35 2 (.slice co us.length capC) us.length (clist us us.length)) := own_same O4.out (fun g hg hgl => tr5.block g hgl (Or.inr (by omega)))
      have L5 : Hid (TiesUp w5 (R + 1) co us) := (OwnN.of_row O5.out).tiesUp.down (by omega)
      clear S4 O4 L4 tr5 rd5 y1 q0 q1
      by_cases hy0 : y = 0
      · subst hy0
        clear L5
        go_wp2_with fail
        refine (pick_any R bo bn bcap (p + 1 + 1) 4 _ S5.out.rd (by omega)).mono ?_
        rintro e w6 ⟨za, rfl, v0, v1, rd6, tr6⟩
        have v4 := v1 (by omega)
        have S6 := hideP (S5.out.turn tr6 rd6)
        have O6 : Hid (w6.ownsRow (A + 1) 35 2 (.slice co us.length capC) us.length (clist us us.length)) := own_same O5.out (fun g hg hgl => tr6.block g hgl (Or.inr (by omega)))
        clear rd6 tr6 v1 S5 O5
        go_wp2_with fail
        refine (pick_any R bo bn bcap (p + 1 + 1 + 1) 4 _ S6.out.rd (by omega)).mono ?_
        rintro e w7 ⟨zb, rfl, u0, u1, rd7, tr7⟩
        have u4 := u1 (by omega)
        have S7 := hideP (S6.out.turn tr7 rd7)
        have O7 : Hid (w7.ownsRow (A + 1) 35 2 (.slice co us.length capC) us.length (clist us us.length)) := own_same O6.out (fun g hg hgl => tr7.block g hgl (Or.inr (by omega)))
        have h7 := S7.out.lt
        clear rd7 tr7 u1 S6 O6
        go_wp2_with (at_builtin; refine wpList_append_own _ rfl _ _ 23 rfl (A + 1) 35 i1 (.agg #[.int .i64 0, .int .i64 0]) 2 16 Tryd.underlying23 HI.out.1 HI.out.2.1 HI.out.2.2.1 HI.out.2.2.2 rfl (by decide) _ _ _ rfl (O7.out.alloc _) ⟨_, 0, none⟩ 1 1 [.int .i64 za, .int .i64 (4 + zb)] rfl rfl (World.news_of_block (cs := #[.int .i64 za, .int .i64 (4 + zb)]) (t := 35) (fr := (0, 0)) (heap_alloc_new w7 _)) (by simp [Value.oneCell']) (by unfold maxLen; omega) (by omega) (by simp; omega) ?_)
        intro v9 wb hown1 hgrow _
        obtain ⟨go9, cap9, rfl⟩ := own_slice hown1
        have S8 := hideP (S7.out.grown (below_one _ _) hgrow (own_ge O7.out))
        have L8 : Hid (TiesUp wb (R + 1) go9 (us ++ [(za, 4 + zb)])) := by
          have e9 : (us ++ [(za, 4 + zb)]).length = us.length + 1 := by simp
          refine (OwnN.of_row (cap := cap9) (ts := us ++ [(za, 4 + zb)]) (n := (us ++ [(za, 4 + zb)]).length) (base := A + 1) ?_).tiesUp.down (by omega)
          rw [e9, clist_app]
          exact hown1
        have hroom9 := own_room hown1
        clear hown1 hgrow S7 O7
        have r0 := S8.out.C.c0
        have r1 := S8.out.C.c1
        have g0 := S8.out.C.f0
        have g1 := S8.out.C.f1
        have k0 := S8.out.n0
        have k1 := S8.out.n1
        go_wp2
        refine bodyPost_ret (v := .tuple #[.agg #[.int .i64 K, .slice ao ts.length cap'], .slice go9 (us.length + 1) cap9]) ?_ rfl ⟨K, ao, cap', ts, go9, cap9, us ++ [(za, 4 + zb)], by simp, by simpa using hroom9, S8.out.fin L8.out hlen (by first | (simp; done) | (simp; omega)) _ _⟩
        simp [results, Tryd.results10, go_sem, r0, r1]
      by_cases hy1 : y = 1
      · subst hy1
        by_cases hu2 : 0 < us.length
        · have hu2' : (0 : Int) < (us.length : Int) := by omega
          obtain ⟨g, cap9, e9, _⟩ := O5.out.form hu2
          simp only [Value.slice.injEq, true_and] at e9
          obtain ⟨rfl, rfl⟩ := e9
          have hcap : us.length ≤ capC := by
            rcases O5.out.2 with ⟨h0, _⟩ | ⟨g', c', cur, h0, _, _, hnc, _⟩
            · simp at h0
            · simp only [Value.slice.injEq, true_and] at h0; obtain ⟨_, rfl⟩ := h0; exact hnc
          by_cases hc1 : capC = 1
          · have L6 : Hid (TiesUp w5 (R + 1) (some ⟨g, 0, none⟩) (us.drop 1)) := fun i hi => by simp only [List.length_drop] at hi; omega
            have hl1 : us.length = 1 := by omega
            have r0 := S5.out.C.c0
            have r1 := S5.out.C.c1
            have g0 := S5.out.C.f0
            have g1 := S5.out.C.f1
            have k0 := S5.out.n0
            have k1 := S5.out.n1
            subst hc1
            clear hcap
            go_wp2
            refine bodyPost_ret (v := .tuple #[.agg #[.int .i64 K, .slice ao ts.length cap'], .slice (some ⟨g, 0, none⟩) 0 0]) ?_ rfl ⟨K, ao, cap', ts, some ⟨g, 0, none⟩, 0, us.drop 1, by simp [hl1], by simp [hl1], S5.out.fin L6.out hlen (by simp; omega) _ _⟩
            simp [results, Tryd.results10, go_sem, r0, r1]
          · have L6 := hideP L5.out.tail
            have r0 := S5.out.C.c0
            have r1 := S5.out.C.c1
            have g0 := S5.out.C.f0
            have g1 := S5.out.C.f1
            have k0 := S5.out.n0
            have k1 := S5.out.n1
            go_wp2
            refine bodyPost_ret (v := .tuple #[.agg #[.int .i64 K, .slice ao ts.length cap'], .slice (some ⟨g, 2, none⟩) (us.length - 1) (capC - 1)]) ?_ rfl ⟨K, ao, cap', ts, some ⟨g, 2, none⟩, capC - 1, us.drop 1, by simp, by simp; omega, S5.out.fin L6.out hlen (by simp; omega) _ _⟩
            simp [results, Tryd.results10, go_sem, r0, r1]
        · have hnil9 : us = [] := List.length_eq_zero_iff.1 (by omega)
          subst hnil9
          have r0 := S5.out.C.c0
          have r1 := S5.out.C.c1
          have g0 := S5.out.C.f0
          have g1 := S5.out.C.f1
          have k0 := S5.out.n0
          have k1 := S5.out.n1
          clear hu2 O5
          go_wp2
          refine bodyPost_ret (v := .tuple #[.agg #[.int .i64 K, .slice ao ts.length cap'], .slice co 0 capC]) ?_ rfl ⟨K, ao, cap', ts, co, capC, [], rfl, Nat.zero_le _, S5.out.fin L5.out hlen (by simp) _ _⟩
          simp [results, Tryd.results10, go_sem, r0, r1]
      have hy0' : (y == 0) = false := by simp [hy0]
      have hy1' : (y == 1) = false := by simp [hy1]
      have hy0'' : ((0 : Int) == y) = false := by simp; omega
      have hy1'' : ((1 : Int) == y) = false := by simp; omega
      have r0 := S5.out.C.c0
      have r1 := S5.out.C.c1
      have g0 := S5.out.C.f0
      have g1 := S5.out.C.f1
      have k0 := S5.out.n0
      have k1 := S5.out.n1
      go_wp2
      refine bodyPost_ret (v := .tuple #[.agg #[.int .i64 K, .slice ao ts.length cap'], .slice co us.length capC]) ?_ rfl ⟨K, ao, cap', ts, _, _, us, rfl, HR3.out, S5.out.fin L5.out hlen (by omega) _ _⟩
      simp [results, Tryd.results10, go_sem, r0, r1]
  · have hu' : (0 : Int) < (us.length : Int) := by omega
    have ht' : (us.length : Int) < (ts.length : Int) := by omega
    have bx := below_one w4 (.cells #[.int .i64 K, .slice co us.length capC] 25)
    have S4x := hideP (S4.out.next bx)
    have L4x := hideP (L4.out.next bx)
    have X4 := hideP (Cel.new w4 K (.slice co us.length capC) 25)
    have hX : A < w4.heap.size := S4.out.lt
    clear bx S4 L4 O4
    go_wp2_with fail
    refine (pick_any R bo bn bcap (p + 1) us.length _ S4x.out.rd (by omega)).mono ?_
    rintro e w5 ⟨y, rfl, y0, y1, rd5, tr5⟩
    have y2 := y1 (by omega)
    obtain ⟨k, rfl⟩ : ∃ k : Nat, y = (k : Int) := ⟨y.toNat, by omega⟩
    have hk : k < us.length := by omega
    have S5 := hideP (S4x.out.turn tr5 rd5)
    have L5 := hideP (L4x.out.turn tr5 (Nat.le_refl _))
    have X5 := hideP (X4.out.turn tr5 (by omega))
    obtain ⟨b, off, rfl, _, _, e0, e1⟩ := L5.out k hk
    clear rd5 tr5 y1 S4x L4x X4
    have bt := below_one w5 (.cells #[.int .i64 (tA us k), .int .i64 (tB us k)] 35)
    have S5x := hideP (S5.out.next bt)
    have L5x := hideP (L5.out.next bt)
    have X5x := hideP (X5.out.nextC bt)
    have hlt5 := S5.out.lt
    have m0 := S5.out.n0
    have m1 := S5.out.n1
    have V5 : Hid ((w5.alloc (.cells #[.int .i64 (tA us k), .int .i64 (tB us k)] 35)).cell? ⟨w5.heap.size, 0, none⟩ = some (.int .i64 (tA us k)) ∧ (w5.alloc (.cells #[.int .i64 (tA us k), .int .i64 (tB us k)] 35)).cell? ⟨w5.heap.size, 1, none⟩ = some (.int .i64 (tB us k))) := by constructor <;> simp
    obtain ⟨ta, hta⟩ : ∃ x, x = tA us k := ⟨_, rfl⟩
    obtain ⟨tb, htb⟩ : ∃ x, x = tB us k := ⟨_, rfl⟩
    rw [← hta] at e0
    rw [← htb] at e1
    rw [← hta, ← htb] at S5x L5x X5x V5
    have hk0 : (0 : Int) ≤ (k : Int) := by omega
    have hk1 : (k : Int) < (us.length : Int) := by omega
    have htp : (0 : Int) < (ts.length : Int) := by omega
    clear S5 L5 X5 q0 q1 hta htb bt
    go_wp2
    obtain ⟨wy, hwy⟩ : ∃ wy, wy = w5.alloc (.cells #[.int .i64 ta, .int .i64 tb] 35) := ⟨_, rfl⟩
    rw [← hwy] at S5x L5x X5x V5 ⊢
    obtain ⟨TB, hTB⟩ : ∃ q, q = w5.heap.size := ⟨_, rfl⟩
    obtain ⟨XB, hXB⟩ : ∃ q, q = w4.heap.size := ⟨_, rfl⟩
    have hTBz : TB < wy.heap.size := by rw [hwy, hTB]; simp
    rw [← hTB] at V5 ⊢
    rw [← hXB] at X5x ⊢
    have hRTB : R < TB := by rw [hTB]; omega
    have hRXB : R < XB := by rw [hXB]; omega
    have hAXB : A < XB := by rw [hXB]; exact hX
    clear hwy hTB hXB e0 e1 m0 m1
    have m0 := S5x.out.n0
    have m1 := S5x.out.n1
    have hAz := S5x.out.lt
    have S5d := hideP (S5x.out.next (Below.refl _ _).drew)
    have bz := below_one wy (.cells #[.int .i64 0, .int .i64 0] 35)
    have S5e := hideP (S5x.out.next bz.drew)
    have hyz : R < wy.heap.size := by omega
    have hXz : XB < wy.heap.size := X5x.out.lt
    have hzz : wy.heap.size < (wy.alloc (.cells #[.int .i64 0, .int .i64 0] 35)).heap.size := by simp
    have hz0 : (wy.alloc (.cells #[.int .i64 0, .int .i64 0] 35)).cell? ⟨wy.heap.size, 0, none⟩ = some (.int .i64 0) := by simp
    have hz1 : (wy.alloc (.cells #[.int .i64 0, .int .i64 0] 35)).cell? ⟨wy.heap.size, 1, none⟩ = some (.int .i64 0) := by simp
    have hzf : ∀ j, (wy.alloc (.cells #[.int .i64 0, .int .i64 0] 35)).frozen? ⟨wy.heap.size, j, none⟩ = false := fun j => by simp
    have mE0 := S5e.out.n0
    have mE1 := S5e.out.n1
    obtain ⟨b2, off2, rfl, _, _, _, _⟩ := S5x.out.tN 0 (by omega)
    apply wp_weak2 (J := fun l s W => Two w W R bo bn bcap (p + 1 + 1 + 1) A K (some ⟨b2, off2, none⟩) cap' ts (some ⟨b, off, none⟩) capC us TB ta tb XB l s)
    case h =>
      go_region_law (first | (go_simp; go_at_call 43; refine (pick_any R bo bn bcap (p + 1 + 1) ts.length _ S5d.out.rd (by omega)).mono ?_; rintro e w6 ⟨y', rfl, y0', y1', rd6, tr6⟩; obtain ⟨l, rfl⟩ : ∃ l : Nat, y' = (l : Int) := ⟨y'.toNat, (by omega)⟩; have hl : l < ts.length := (by have := y1' (by omega); omega); have hl1 : (l : Int) < (ts.length : Int) := (by omega); have hl0 : (0 : Int) ≤ (l : Int) := (by omega); have S6 := hideP (S5d.out.turn tr6 rd6); have L6 := hideP ((L5x.out.next (Below.refl _ _).drew).turn tr6 (Nat.le_refl _)); have X6 := hideP ((X5x.out.nextC (Below.refl _ _).drew).turn tr6 hRXB); have V60 := (tr6.cell (p := ⟨TB, 0, none⟩) hTBz (Or.inr hRTB)).trans V5.out.1; have V61 := (tr6.cell (p := ⟨TB, 1, none⟩) hTBz (Or.inr hRTB)).trans V5.out.2; have c61 := S6.out.n1; have lA6 := S6.out.lt; obtain ⟨b3, off3, e3, _, lb6, c0, c1⟩ := S6.out.tN l hl; cases e3; have vl6 : TB < w6.heap.size := Nat.lt_of_lt_of_le hTBz tr6.size; clear rd6 tr6 y1') | (go_simp; go_at_call 43; refine (pick_any R bo bn bcap (p + 1 + 1) ts.length _ S5e.out.rd (by omega)).mono ?_; rintro e w6 ⟨y', rfl, y0', y1', rd6, tr6⟩; obtain ⟨l, rfl⟩ : ∃ l : Nat, y' = (l : Int) := ⟨y'.toNat, (by omega)⟩; have hl : l < ts.length := (by have := y1' (by omega); omega); have hl1 : (l : Int) < (ts.length : Int) := (by omega); have hl0 : (0 : Int) ≤ (l : Int) := (by omega); have S6 := hideP (S5e.out.turn tr6 rd6); have L6 := hideP ((L5x.out.next bz.drew).turn tr6 (Nat.le_refl _)); have X6 := hideP ((X5x.out.nextC bz.drew).turn tr6 hRXB); have V60 := (tr6.cell (p := ⟨TB, 0, none⟩) (Nat.lt_of_lt_of_le hTBz bz.size) (Or.inr hRTB)).trans ((bz.cell (p := ⟨TB, 0, none⟩) hTBz).trans V5.out.1); have V61 := (tr6.cell (p := ⟨TB, 1, none⟩) (Nat.lt_of_lt_of_le hTBz bz.size) (Or.inr hRTB)).trans ((bz.cell (p := ⟨TB, 1, none⟩) hTBz).trans V5.out.2); have c61 := S6.out.n1; have lA6 := S6.out.lt; obtain ⟨b3, off3, e3, _, lb6, c0, c1⟩ := S6.out.tN l hl; cases e3; have vl6 : TB < w6.heap.size := Nat.lt_of_lt_of_le hTBz (Nat.le_trans bz.size tr6.size); have zc0 : w6.cell? ⟨wy.heap.size, 0, none⟩ = some (.int .i64 0) := (tr6.cell (p := ⟨wy.heap.size, 0, none⟩) hzz (Or.inr hyz)).trans hz0; have zc1 : w6.cell? ⟨wy.heap.size, 1, none⟩ = some (.int .i64 0) := (tr6.cell (p := ⟨wy.heap.size, 1, none⟩) hzz (Or.inr hyz)).trans hz1; have zf : ∀ j, w6.frozen? ⟨wy.heap.size, j, none⟩ = false := fun j => (tr6.frozen (p := ⟨wy.heap.size, j, none⟩) hzz (Or.inr hyz)).trans (hzf j); have zl : wy.heap.size < w6.heap.size := Nat.lt_of_lt_of_le hzz tr6.size; clear rd6 tr6 y1'))
      all_goals
        first
        | (have JJ := Two.after 35 S6.out L6.out X6.out V60 V61 vl6 hl
           generalize w6.heap.size = SB at JJ ⊢
           exact ⟨l, SB, rfl, JJ⟩)
        | (have JJ := Two.ahead S6.out L5x.out L6.out X6.out V60 V61 hAz hXz hTBz zc0 zc1 zl hl
           generalize wy.heap.size = SB at JJ ⊢
           exact ⟨l, SB, rfl, JJ⟩)
    intro l SB W J
    have hlow2 := J.S.hA
    have hAX : A < XB := hAXB
    have x0 := J.X.c0
    have x1 := J.X.c1
    have v0 := J.v0
    have v1 := J.v1
    have HJ := hideP J
    clear J
    have hus9 : us.length ≤ 1099511627776 := by omega
    go_wp2_with fail
    refine (specCut_cap K (some ⟨b, off, none⟩) capC us ta tb _ hus9 HJ.out.L.in).mono ?_
    have hcl := cutTs_len K us ta tb
    obtain ⟨K7, hK7⟩ : ∃ x, x = cutK K us ta tb := ⟨_, rfl⟩
    obtain ⟨us7, hus7⟩ : ∃ x, x = cutTs K us ta tb := ⟨_, rfl⟩
    obtain ⟨r7, hr7⟩ : ∃ x, x = cutB K us ta tb := ⟨_, rfl⟩
    rw [← hus7] at hcl
    rw [← hK7, ← hus7, ← hr7]
    clear hK7 hus7 hr7
    rintro e w7 ⟨ao7, cap7, rfl, ho7, hb7, hroom7⟩
    have HR7 := hideP hroom7
    clear hroom7
    have S7 := hideP (HJ.out.S.next hb7)
    have X7 := hideP (HJ.out.X.nextC hb7)
    have U7 : Hid (TiesUp w7 (A + 1) ao7 us7) := ho7.tiesUp.down (by have := HJ.out.S.lt; omega)
    have U7' : Hid (TiesUp w7 (XB + 1) ao7 us7) := ho7.tiesUp.down (by have := HJ.out.X.lt; omega)
    have s0 := (hb7.cell (p := ⟨SB, 0, none⟩) HJ.out.sl).trans HJ.out.s0
    have s1 := (hb7.cell (p := ⟨SB, 1, none⟩) HJ.out.sl).trans HJ.out.s1
    have sl7 := Nat.lt_of_lt_of_le HJ.out.sl hb7.size
    have x70 := X7.out.c0
    have x71 := X7.out.c1
    have g70 := X7.out.f0
    have g71 := X7.out.f1
    have hxs := HJ.out.xs
    have hne1 : ¬ (SB = XB) := by omega
    have hne2 : ¬ (XB = SB) := by omega
    have hll := HJ.out.ll
    have hRA : R < A := HJ.out.S.hA
    clear hb7 ho7 x0 x1 v0 v1
    obtain ⟨sa, hsa⟩ : ∃ x, x = tA ts l := ⟨_, rfl⟩
    obtain ⟨sb, hsb⟩ : ∃ x, x = tB ts l := ⟨_, rfl⟩
    rw [← hsa] at s0
    rw [← hsb] at s1
    clear hsa hsb
    have hg8 : w7.grownBy ((w7.setCell ⟨XB, 0, none⟩ (.int .i64 K7)).setCell ⟨XB, 1, none⟩ (.slice ao7 us7.length cap7)) (some XB) := ⟨rfl, rfl, rfl, by simp [World.setCell], fun k _ hk => (Below.heap_setCell _ _ _ _ (fun e => hk (by rw [e]))).trans (Below.heap_setCell _ _ _ _ (fun e => hk (by rw [e])))⟩
    have S8 := hideP (S7.out.grown (Below.refl _ _) hg8 (fun k e => by cases e; exact hAXB))
    have U8 : Hid (TiesUp ((w7.setCell ⟨XB, 0, none⟩ (.int .i64 K7)).setCell ⟨XB, 1, none⟩ (.slice ao7 us7.length cap7)) (XB + 1) ao7 us7) := (U7'.out.far (q := ⟨XB, 0, none⟩) (Nat.lt_succ_self _) _).far (q := ⟨XB, 1, none⟩) (Nat.lt_succ_self _) _
    have X8 : Hid (Cel ((w7.setCell ⟨XB, 0, none⟩ (.int .i64 K7)).setCell ⟨XB, 1, none⟩ (.slice ao7 us7.length cap7)) XB K7 (.slice ao7 us7.length cap7)) :=
      ⟨(World.cell?_setCell_other _ _ _ _ (by simp)).trans (World.cell?_setCell_same _ _ _ X7.out.c0), World.cell?_setCell_same _ _ _ ((World.cell?_setCell_other _ _ _ _ (by simp)).trans X7.out.c1), by rw [World.frozen?_setCell, World.frozen?_setCell]; exact X7.out.f0, by rw [World.frozen?_setCell, World.frozen?_setCell]; exact X7.out.f1, by simpa [World.setCell] using X7.out.lt⟩
    have hun7 : us7.length ≤ 1099511627776 := by omega
    clear hg8 HJ
    go_wp2_with fail
    refine (specAdd_cap K7 ao7 cap7 us7 sa sb _ hun7 U8.out.in).mono ?_
    have hal := addTs_len K7 us7 sa sb
    obtain ⟨K9, hK9⟩ : ∃ x, x = addK K7 us7 sa sb := ⟨_, rfl⟩
    obtain ⟨us9, hus9'⟩ : ∃ x, x = addTs K7 us7 sa sb := ⟨_, rfl⟩
    obtain ⟨r9, hr9⟩ : ∃ x, x = addB K7 us7 sa sb := ⟨_, rfl⟩
    rw [← hus9'] at hal
    rw [← hK9, ← hus9', ← hr9]
    clear hK9 hus9' hr9
    rintro e w9 ⟨ao9, cap9, rfl, ho9, hb9, hroom9⟩
    have HR9 := hideP hroom9
    clear hroom9
    have by9 := below_one w9 (.cells #[.int .i64 K9, .slice ao9 us9.length cap9] 25)
    have hRlow : R + 1 ≤ ((w7.setCell ⟨XB, 0, none⟩ (.int .i64 K7)).setCell ⟨XB, 1, none⟩ (.slice ao7 us7.length cap7)).heap.size := by have := S8.out.lt; omega
    have S9 := hideP (S8.out.next hb9)
    have S10 := hideP (S9.out.next by9)
    have X9 := hideP (X8.out.nextC hb9)
    have X10 := hideP (X9.out.nextC by9)
    have L10 : Hid (TiesUp (w9.alloc (.cells #[.int .i64 K9, .slice ao9 us9.length cap9] 25)) (R + 1) ao9 us9) := (ho9.tiesUp.down hRlow).next by9
    have M10 : Hid (TiesUp (w9.alloc (.cells #[.int .i64 K9, .slice ao9 us9.length cap9] 25)) (R + 1) ao7 us7) := ((U8.out.down (by omega)).next hb9).next by9
    have r0 := S10.out.C.c0
    have r1 := S10.out.C.c1
    have g0 := S10.out.C.f0
    have g1 := S10.out.C.f1
    have k0 := S10.out.n0
    have k1 := S10.out.n1
    have q0 := X10.out.c0
    have q1 := X10.out.c1
    have y1 : (w9.alloc (.cells #[.int .i64 K9, .slice ao9 us9.length cap9] 25)).cell? ⟨w9.heap.size, 1, none⟩ = some (.slice ao9 us9.length cap9) := by simp
    have hA9 := S9.out.lt
    have hX9 := X9.out.lt
    have hC9 := S9.out.C.lt
    have k90 := S9.out.n0
    have k91 := S9.out.n1
    have c90 := S9.out.C.c0
    have c91 := S9.out.C.c1
    have g90 := S9.out.C.f0
    have g91 := S9.out.C.f1
    have x90 := X9.out.c0
    have x91 := X9.out.c1
    clear s0 s1 x70 x71 g70 g71 hb9 ho9 by9 S7 X7 U7 U7' S8 U8 X8
    have hwX : w.heap.size < XB := by omega
    have hn1 : ¬ (XB = w.heap.size) := by omega
    have hn2 : ¬ (w.heap.size = XB) := by omega
    have hn3 : ¬ (w9.heap.size = w.heap.size) := by omega
    have hn4 : ¬ (w.heap.size = w9.heap.size) := by omega
    obtain ⟨wa, hwa⟩ : ∃ wa, wa = w9.alloc (.cells #[.int .i64 K9, .slice ao9 us9.length cap9] 25) := ⟨_, rfl⟩
    cases r9
    · go_wp2
      rw [← hwa] at S10 M10 L10 r0 r1 g0 g1 k0 k1 q0 q1 y1 ⊢
      clear hwa k90 k91 c90 c91 g90 g91 x90 x91
      go_region
      all_goals
        go_wp2
        refine bodyPost_ret (v := .tuple #[.agg #[.int .i64 K, .slice (some ⟨b2, off2, none⟩) ts.length cap'], .slice ao7 us7.length cap7]) ?_ rfl ⟨K, some ⟨b2, off2, none⟩, cap', ts, ao7, cap7, us7, by simp, HR7.out, (S10.out.next (Below.refl _ _).drew).fin (M10.out.next (Below.refl _ _).drew) hlen (by omega) _ _⟩
        simp [results, Tryd.results10, go_sem, r0, r1]
    · go_wp2
      rw [← hwa] at S10 M10 L10 r0 r1 g0 g1 k0 k1 q0 q1 y1 ⊢
      clear hwa k90 k91 c90 c91 g90 g91 x90 x91
      go_region
      all_goals
        go_wp2
        refine bodyPost_ret (v := .tuple #[.agg #[.int .i64 K, .slice (some ⟨b2, off2, none⟩) ts.length cap'], .slice ao9 us9.length cap9]) ?_ rfl ⟨K, some ⟨b2, off2, none⟩, cap', ts, ao9, cap9, us9, by simp, HR9.out, (S10.out.next (Below.refl _ _).drew).fin (L10.out.next (Below.refl _ _).drew) hlen (by omega) _ _⟩
        simp [results, Tryd.results10, go_sem, r0, r1]

end Go.Proofs.YtloicmngoaccoaaDoor
