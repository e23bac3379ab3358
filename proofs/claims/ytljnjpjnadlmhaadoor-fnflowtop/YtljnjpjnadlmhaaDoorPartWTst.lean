/- Texts put together: WTst, WDrawFp. -/
import Derived.Test.YtljnjpjnadlmhaaDoorPartWSpecCut
import Derived.Test.YtljnjpjnadlmhaaDoorPartWCopy
import Derived.Deep.RegionLaw
import Derived.BigRegion
import Derived.Test.YtljnjpjnadlmhaaDoorPartWPairs
import Derived.Test.YtljnjpjnadlmhaaDoorPartMathFX
/- A net drawn into a box, and ties: what stands. -/
namespace Go.Proofs.YtljnjpjnadlmhaaDoor
open Go.RowKit
set_option linter.unusedVariables false

/-- ties that can be read, in a block from lo on -/
def TiesUp (w : World) (lo : Nat) (ao : Option Addr) (ts : List (Int × Int)) : Prop :=
  ∀ i, i < ts.length → ∃ b off, ao = some ⟨b, off, none⟩ ∧ lo ≤ b ∧ b < w.heap.size ∧ w.cell? ⟨b, off + i * 2, none⟩ = some (.int .i64 (tA ts i)) ∧ w.cell? ⟨b, off + i * 2 + 1, none⟩ = some (.int .i64 (tB ts i))
theorem TiesUp.next {w w' : World} {lo : Nat} {ao : Option Addr} {ts : List (Int × Int)} (h : TiesUp w lo ao ts) (hb : Below w.heap.size w w') : TiesUp w' lo ao ts := by
  intro i hi
  obtain ⟨b, off, e, h1, h2, h3, h4⟩ := h i hi
  exact ⟨b, off, e, h1, Nat.lt_of_lt_of_le h2 hb.size, (hb.cell (p := ⟨b, off + i * 2, none⟩) h2).trans h3, (hb.cell (p := ⟨b, off + i * 2 + 1, none⟩) h2).trans h4⟩
theorem TiesUp.turn {w w' : World} {lo R : Nat} {ao : Option Addr} {ts : List (Int × Int)} (h : TiesUp w lo ao ts) (ht : Turned R (R + 1) w w') (hl : R + 1 ≤ lo) : TiesUp w' lo ao ts := by
  intro i hi
  obtain ⟨b, off, e, h1, h2, h3, h4⟩ := h i hi
  exact ⟨b, off, e, h1, Nat.lt_of_lt_of_le h2 ht.size, (ht.cell (p := ⟨b, off + i * 2, none⟩) h2 (Or.inr (Nat.le_trans hl h1))).trans h3, (ht.cell (p := ⟨b, off + i * 2 + 1, none⟩) h2 (Or.inr (Nat.le_trans hl h1))).trans h4⟩
theorem TiesUp.in {w : World} {lo : Nat} {ao : Option Addr} {ts : List (Int × Int)} (h : TiesUp w lo ao ts) : TiesIn w w.heap.size ao ts := by
  intro i hi
  obtain ⟨b, off, e, h1, h2, h3, h4⟩ := h i hi
  exact ⟨b, off, e, h2, h3, h4⟩
theorem TiesUp.down {w : World} {lo lo' : Nat} {ao : Option Addr} {ts : List (Int × Int)} (h : TiesUp w lo ao ts) (hl : lo' ≤ lo) : TiesUp w lo' ao ts := by
  intro i hi
  obtain ⟨b, off, e, h1, h2⟩ := h i hi
  exact ⟨b, off, e, Nat.le_trans hl h1, h2⟩
theorem OwnN.tiesUp {w : World} {lo hi : Nat} {ao : Option Addr} {ts : List (Int × Int)} (h : OwnN w lo hi ao ts.length (tcell ts)) : TiesUp w lo ao ts := by
  intro i hi'
  rcases h with ⟨h0, _⟩ | ⟨g, rfl, h1, h2, h3⟩
  · omega
  · refine ⟨g, 0, rfl, h1, h3.2.2, ?_, ?_⟩
    · rw [Nat.zero_add, h3.1 (i * 2) (by omega), tcell0]
    · rw [Nat.zero_add, h3.1 (i * 2 + 1) (by omega), tcell1]
theorem TiesUp.tail {w : World} {lo b off : Nat} {ts : List (Int × Int)} (h : TiesUp w lo (some ⟨b, off, none⟩) ts) : TiesUp w lo (some ⟨b, off + 2, none⟩) (ts.drop 1) := by
  intro i hi
  simp only [List.length_drop] at hi
  obtain ⟨b', off', e, h1, h2, h3, h4⟩ := h (i + 1) (by omega)
  simp only [Option.some.injEq, Addr.mk.injEq, and_true] at e
  obtain ⟨rfl, rfl⟩ := e
  have e1 : tA (ts.drop 1) i = tA ts (i + 1) := by simp [tA]
  have e2 : tB (ts.drop 1) i = tB ts (i + 1) := by simp [tB]
  refine ⟨b, off + 2, rfl, h1, h2, ?_, ?_⟩
  · rw [e1, show off + 2 + i * 2 = off + (i + 1) * 2 by omega]; exact h3
  · rw [e2, show off + 2 + i * 2 + 1 = off + (i + 1) * 2 + 1 by omega]; exact h4
/-- a net was drawn into the box A, with the reader at R; the answer's cell stands empty -/
structure Tst (w wr : World) (R : Nat) (bo : Option Addr) (bn bcap p : Nat) (A : Nat) (K : Int) (ao : Option Addr) (cap : Nat) (ts : List (Int × Int)) : Prop where
  rd : Rdr wr R bo bn bcap p
  C : Cel wr w.heap.size 0 (.slice none 0 0)
  n0 : wr.cell? ⟨A, 0, none⟩ = some (.int .i64 K)
  n1 : wr.cell? ⟨A, 1, none⟩ = some (.slice ao ts.length cap)
  hA : R < A
  lt : A < wr.heap.size
  tN : TiesUp wr (R + 1) ao ts
  B : Below w.heap.size w wr
  hR : w.heap.size < R
  hi : ∀ b off, ao = some ⟨b, off, none⟩ → 0 < ts.length → b < A
theorem Cel.nextC {w w' : World} {A : Nat} {K : Int} {v : Value} (h : Cel w A K v) (hb : Below w.heap.size w w') : Cel w' A K v := h.below hb h.lt
theorem Tst.next {w wr w' : World} {R : Nat} {bo : Option Addr} {bn bcap p : Nat} {A : Nat} {K : Int} {ao : Option Addr} {cap : Nat} {ts : List (Int × Int)} (h : Tst w wr R bo bn bcap p A K ao cap ts) (hb : Below wr.heap.size wr w') : Tst w w' R bo bn bcap p A K ao cap ts :=
  ⟨h.rd.next hb, h.C.nextC hb, (hb.cell (p := ⟨A, 0, none⟩) h.lt).trans h.n0, (hb.cell (p := ⟨A, 1, none⟩) h.lt).trans h.n1, h.hA, Nat.lt_of_lt_of_le h.lt hb.size, h.tN.next hb, h.B.trans (hb.mono h.B.size), h.hR, h.hi⟩
theorem Tst.turn {w wr w' : World} {R : Nat} {bo : Option Addr} {bn bcap p p' : Nat} {A : Nat} {K : Int} {ao : Option Addr} {cap : Nat} {ts : List (Int × Int)} (h : Tst w wr R bo bn bcap p A K ao cap ts) (ht : Turned R (R + 1) wr w') (rd : Rdr w' R bo bn bcap p') : Tst w w' R bo bn bcap p' A K ao cap ts :=
  ⟨rd, h.C.turn' ht h.hR, (ht.cell (p := ⟨A, 0, none⟩) h.lt (Or.inr h.hA)).trans h.n0, (ht.cell (p := ⟨A, 1, none⟩) h.lt (Or.inr h.hA)).trans h.n1, h.hA, Nat.lt_of_lt_of_le h.lt ht.size, h.tN.turn ht (Nat.le_refl _), h.B.trans (ht.toBelow (Nat.le_of_lt h.hR) (Nat.le_of_lt h.rd.lt)), h.hR, h.hi⟩
theorem Rdr.same {w w' : World} {R : Nat} {bo : Option Addr} {bn bcap p : Nat} (h : Rdr w R bo bn bcap p) (hb : ∀ k, k ≤ R → w'.heap[k]? = w.heap[k]?) (hs : w.heap.size ≤ w'.heap.size) : Rdr w' R bo bn bcap p := by
  refine ⟨(World.cell?_of_block (a := ⟨R, 0, none⟩) (hb R (Nat.le_refl _))).trans h.c0, (World.cell?_of_block (a := ⟨R, 1, none⟩) (hb R (Nat.le_refl _))).trans h.c1, (World.frozen?_of_block (a := ⟨R, 1, none⟩) (hb R (Nat.le_refl _))).trans h.f1, Nat.lt_of_lt_of_le h.lt hs, h.short, fun i hi => ?_⟩
  obtain ⟨b, off, v, e, h1, h3, h4⟩ := h.bytes i hi
  exact ⟨b, off, v, e, h1, (World.cell?_of_block (a := ⟨b, off + i, none⟩) (hb b (by omega))).trans h3, h4⟩
/-- behind an append to a row of a later block -/
theorem Tst.grown {w wr wa wb : World} {R : Nat} {bo : Option Addr} {bn bcap p : Nat} {A : Nat} {K : Int} {ao : Option Addr} {cap : Nat} {ts : List (Int × Int)} {row : Option Nat} (h : Tst w wr R bo bn bcap p A K ao cap ts) (ha : Below wr.heap.size wr wa) (hg : wa.grownBy wb row) (hr : ∀ k, row = some k → A + 1 ≤ k) : Tst w wb R bo bn bcap p A K ao cap ts := by
  have h1 := h.lt
  have h2 := h.hA
  have h3 := h.hR
  have hs := ha.size
  have eb : ∀ k, k ≤ A → wb.heap[k]? = wr.heap[k]? := fun k hk => (hg.block k (by omega) (fun e => by have := hr k e.symm; omega)).trans (ha.block k (by omega))
  have ce := fun (b o : Nat) (hb : b ≤ A) => World.cell?_of_block (a := ⟨b, o, none⟩) (eb b hb)
  have fe := fun (b o : Nat) (hb : b ≤ A) => World.frozen?_of_block (a := ⟨b, o, none⟩) (eb b hb)
  have hz : wr.heap.size ≤ wb.heap.size := Nat.le_trans hs hg.size
  refine ⟨h.rd.same (fun k hk => eb k (by omega)) hz, ⟨(ce _ _ (by omega)).trans h.C.c0, (ce _ _ (by omega)).trans h.C.c1, (fe _ _ (by omega)).trans h.C.f0, (fe _ _ (by omega)).trans h.C.f1, Nat.lt_of_lt_of_le h.C.lt hz⟩, (ce _ _ (Nat.le_refl _)).trans h.n0, (ce _ _ (Nat.le_refl _)).trans h.n1, h.hA, Nat.lt_of_lt_of_le h.lt hz, fun i hi => ?_, ?_, h.hR, h.hi⟩
  · obtain ⟨b, off, e, q1, q2, q3, q4⟩ := h.tN i hi
    have hbA := h.hi b off e (by omega)
    exact ⟨b, off, e, q1, Nat.lt_of_lt_of_le q2 hz, (ce b _ (by omega)).trans q3, (ce b _ (by omega)).trans q4⟩
  · exact h.B.trans ⟨hg.os.trans ha.os, hg.tape.trans ha.tape, hg.output.trans ha.output, hz, fun k hk => eb k (by omega)⟩
/-- a net and ties were drawn since w, and nothing that was there has turned -/
structure DealtT (w w' : World) (ao : Option Addr) (ts : List (Int × Int)) (co : Option Addr) (us : List (Int × Int)) : Prop where
  net : TiesIn w' w'.heap.size ao ts
  list : TiesIn w' w'.heap.size co us
  short : ts.length ≤ 66
  few : us.length ≤ 67
  bel : Below w.heap.size w w'
theorem TiesUp.far {w : World} {lo : Nat} {ao : Option Addr} {ts : List (Int × Int)} (h : TiesUp w lo ao ts) {q : Addr} (hq : q.block < lo) (u : Value) : TiesUp (w.setCell q u) lo ao ts := by
  intro i hi
  obtain ⟨b, off, e, h1, h2, h3, h4⟩ := h i hi
  have hb : (w.setCell q u).heap[b]? = w.heap[b]? := Below.heap_setCell _ _ _ _ (by omega)
  exact ⟨b, off, e, h1, by simpa [World.setCell] using h2, (World.cell?_of_block (a := ⟨b, off + i * 2, none⟩) hb).trans h3, (World.cell?_of_block (a := ⟨b, off + i * 2 + 1, none⟩) hb).trans h4⟩
theorem Tst.fin {w wr : World} {R : Nat} {bo : Option Addr} {bn bcap p : Nat} {A : Nat} {K : Int} {ao : Option Addr} {cap : Nat} {ts : List (Int × Int)} (h : Tst w wr R bo bn bcap p A K ao cap ts) {co : Option Addr} {us : List (Int × Int)} (hL : TiesUp wr (R + 1) co us) (hs : ts.length ≤ 66) (hf : us.length ≤ 67) (u0 u1 : Value) :
    DealtT w ((wr.setCell ⟨w.heap.size, 0, none⟩ u0).setCell ⟨w.heap.size, 1, none⟩ u1) ao ts co us := by
  have hR := h.hR
  exact ⟨((h.tN.far (q := ⟨w.heap.size, 0, none⟩) (by show w.heap.size < R + 1; omega) u0).far (q := ⟨w.heap.size, 1, none⟩) (by show w.heap.size < R + 1; omega) u1).in, ((hL.far (q := ⟨w.heap.size, 0, none⟩) (by show w.heap.size < R + 1; omega) u0).far (q := ⟨w.heap.size, 1, none⟩) (by show w.heap.size < R + 1; omega) u1).in, hs, hf, (h.B.setCell (Nat.le_refl _) _).setCell (Nat.le_refl _) _⟩


end Go.Proofs.YtljnjpjnadlmhaaDoor

/- What laws.FnFlowParts draws. -/
namespace Go.Proofs.YtljnjpjnadlmhaaDoor
open Go.RowKit
set_option linter.unusedVariables false

theorem cutI_short (K : Int) (ts : List (Int × Int)) (a b : Int) : (cutI K ts a b).length ≤ ts.length := by
  unfold cutI
  split
  · exact (cutG_list _ _ ts ts).length_le
  · exact Nat.zero_le _
theorem wpList_append_void {P : Program} {w : World} {ops : Array Oper} {rest : List Oper} {o : Oper} {a : Act} {Q : Exit → Act → World → Prop} (hgd : o.guard = none) (s x : Operand) (t : TypeId)
    (ho : o.op = .call { callee := .builtin .append, args := #[s, x], argTypes := #[t, t] })
    (base : Nat) (e : TypeId) (i : TypeInfo) (size : Nat) (ht : P.underlying t = some (.slice e)) (hi : P.info? e = some i)
    (v : Value) (n : Nat) (xs : List Value) (hs : a.eval s = v) (hown : w.ownsRow base e size v n xs) (c : Nat) (hx : a.eval x = .slice none 0 c)
    (h : wpList P ops Q rest (a.put o.dst v) w) : wpList P ops Q (o :: rest) a w := by
  refine wpList_plain hgd fun K hK' => ?_
  have hrun := run_append_empty (P := P) (w := w) base t o.type e i size c ht hi v n xs hown
  unfold Oper.wp
  simp [execOp, ho, resolve, invoke, builtin, hs, hx, hrun, Result.andThen]
  exact hK' _ _ h
set_option maxHeartbeats 3200000 in
theorem drawFlowParts_any (bo : Option Addr) (n cap : Nat) (w : World) (hb : BytesIn w bo n) (hnil : bo = none → n = 0 ∧ cap = 0) (hc : n ≤ cap) (hm : cap ≤ maxLen) :
    Calls Tryd.prog 13 #[.slice bo n cap] w fun e w' => ∃ K ao cap' ts a b co capC us, e = .returned (.tuple #[.agg #[.int .i64 K, .slice ao ts.length cap'], .int .i64 a, .int .i64 b, .slice co us.length capC]) ∧ DealtT w w' ao ts co us := by
  obtain ⟨i1, hj, hy0, hy1, hy2⟩ := info_parts Tryd.infoTie
  have HI : Hid (Tryd.prog.info? 63 = some i1 ∧ i1.zero = some (.agg #[.int .i64 0, .int .i64 0]) ∧ i1.size = 2 ∧ i1.bytes = 16) := ⟨hj, hy0, hy1, hy2⟩
  clear hj hy0 hy1 hy2
  go_enter Tryd.func13, Tryd.ntmps13
  go_wp2_with fail
  refine (l6Open_any bo n cap _ (fun i hi => by obtain ⟨b, off, v, e, h1, h2, h3⟩ := hb i hi; exact ⟨b, off, v, e, Nat.lt_of_lt_of_le h1 (by simp), by rw [World.cell?_alloc_past _ _ _ h1]; exact h2, h3⟩) hnil hc hm).mono ?_
  rintro e w1 ⟨rfl, ⟨bn, bcap, rd⟩, hb1⟩
  have hb1' : Below (w.heap.size + 1) (w.alloc (.cells #[.int .i64 0, .slice none 0 0] 25)) w1 := by simpa using hb1
  have C1 := hideP ((Cel.new w 0 (.slice none 0 0) 25).below hb1' (Nat.lt_succ_self _))
  have hB1 := hideP ((below_one w (.cells #[.int .i64 0, .slice none 0 0] 25)).trans (hb1'.mono (Nat.le_succ _)))
  have rd' : Rdr w1 (w.heap.size + 1) bo bn bcap 0 := by simpa using rd
  have hR := rd'.lt
  clear hb1 hb1' rd
  obtain ⟨R, hRR⟩ : ∃ R, R = w.heap.size + 1 := ⟨_, rfl⟩
  have hwR : w.heap.size < R := by omega
  rw [← hRR] at rd' hR
  simp only [World.size_alloc] at *
  rw [← hRR]
  clear hRR
  go_wp2_with fail
  refine (l71Pair_any R bo bn bcap 0 _ rd' (by omega)).mono ?_
  rintro e w2 ⟨K, ao, cap', ts, a, b, rfl, _, _, _, _, ⟨p, hp, rd2⟩, tr2, ho2, hk0, hk9, hlen⟩
  have hn : ts.length ≤ 1099511627776 := by omega
  have S2 : ∀ t, Hid (Tst w (w2.alloc (.cells #[.int .i64 K, .slice ao ts.length cap'] t)) R bo bn bcap p w2.heap.size K ao cap' ts) := fun t => by
    have hRw := tr2.size
    have h0 := rd2.lt
    refine ⟨rd2.next (below_one _ _), (C1.out.turn' tr2 hwR).nextC (below_one _ _), by simp, by simp, h0, by simp, (ho2.tiesUp.down hR).next (below_one _ _), (hB1.out.trans (tr2.toBelow (Nat.le_of_lt hwR) (Nat.le_of_lt hR))).trans ((below_one w2 _).mono (by have := hB1.out.size; omega)), hwR, fun b off e hl => ?_⟩
    rcases ho2 with ⟨h1, _⟩ | ⟨g, e2, _, h2, _⟩
    · omega
    · rw [e2] at e; simp only [Option.some.injEq, Addr.mk.injEq] at e; omega
  have O2 : ∀ t, Hid (OwnN (w2.alloc (.cells #[.int .i64 K, .slice ao ts.length cap'] t)) w1.heap.size w2.heap.size ao ts.length (tcell ts)) := fun t => hideP (ho2.next (below_one _ _))
  clear rd2 tr2 ho2 C1 hB1 rd'
  go_wp2_with fail
  refine (specFlowCut_row w1.heap.size w2.heap.size K ao cap' ts a b _ hn (O2 _).out (by simp)).mono ?_
  rintro e w3 ⟨co, capC, rfl, ho3, hb3⟩
  have S3 := hideP ((S2 _).out.next hb3)
  have hlow : R < w2.heap.size := (S2 25).out.hA
  obtain ⟨A, hAe⟩ : ∃ A, A = w2.heap.size := ⟨_, rfl⟩
  have hul : (cutI K ts a b).length ≤ 66 := by have := cutI_short K ts a b; omega
  obtain ⟨tw, htw⟩ : ∃ tw, tw = twoB K ts a b := ⟨_, rfl⟩
  obtain ⟨us, hus⟩ : ∃ us, us = cutI K ts a b := ⟨_, rfl⟩
  rw [← hus] at ho3 hul ⊢
  rw [← htw]
  have O3 : Hid (w3.ownsRow (A + 1) 63 2 (.slice co us.length capC) us.length (clist us us.length)) := own_base ho3 (by simp; omega)
  rw [← hAe] at S3 hlow ⊢
  clear hb3 S2 ho3 hus hAe htw O2
  go_wp2_with fail
  refine (pick_any R bo bn bcap p 6 _ S3.out.rd (by omega)).mono ?_
  rintro e w5 ⟨y, rfl, y0, y1, rd5, tr5⟩
  have y8 := y1 (by omega)
  have S5 := hideP (S3.out.turn tr5 rd5)
  have O5 : Hid (w5.ownsRow (A + 1) 63 2 (.slice co us.length capC) us.length (clist us us.length)) := own_same O3.out (fun g hg hgl => tr5.block g hgl (Or.inr (by omega)))
  have L5 : Hid (TiesUp w5 (R + 1) co us) := (OwnN.of_row O5.out).tiesUp.down (by omega)
  clear S3 O3 tr5 rd5 y1
  have r0 := S5.out.C.c0
  have r1 := S5.out.C.c1
  have g0 := S5.out.C.f0
  have g1 := S5.out.C.f1
  have k0 := S5.out.n0
  have k1 := S5.out.n1
  by_cases hy0 : y = 0
  · subst hy0
    by_cases hu2 : 0 < us.length
    · have hu2' : (0 : Int) < (us.length : Int) := by omega
      obtain ⟨g, cap9, e9, _⟩ := O5.out.form hu2
      simp only [Value.slice.injEq, true_and] at e9
      obtain ⟨rfl, rfl⟩ := e9
      have hcap : us.length ≤ capC := by
        rcases O5.out.2 with ⟨h0, _⟩ | ⟨g', c', cur, h0, _, _, hnc, _⟩
        · simp at h0
        · simp only [Value.slice.injEq, true_and] at h0; obtain ⟨_, rfl⟩ := h0; exact hnc
      by_cases hc1 : capC = 1
      · have L6 : Hid (TiesUp w5 (R + 1) (some ⟨g, 0, none⟩) (us.drop 1)) := fun i hi => by simp only [List.length_drop] at hi; omega
        have hl1 : us.length = 1 := by omega
        subst hc1
        clear hcap
        go_wp2
        refine bodyPost_ret (v := .tuple #[.agg #[.int .i64 K, .slice ao ts.length cap'], .int .i64 a, .int .i64 b, .slice (some ⟨g, 0, none⟩) 0 0]) ?_ rfl ⟨K, ao, cap', ts, a, b, some ⟨g, 0, none⟩, 0, us.drop 1, by simp [hl1], S5.out.fin L6.out hlen (by simp; omega) _ _⟩
        simp [results, Tryd.results13, go_sem, r0, r1]
      · have L6 := hideP L5.out.tail
        go_wp2
        refine bodyPost_ret (v := .tuple #[.agg #[.int .i64 K, .slice ao ts.length cap'], .int .i64 a, .int .i64 b, .slice (some ⟨g, 2, none⟩) (us.length - 1) (capC - 1)]) ?_ rfl ⟨K, ao, cap', ts, a, b, some ⟨g, 2, none⟩, capC - 1, us.drop 1, by simp, S5.out.fin L6.out hlen (by simp; omega) _ _⟩
        simp [results, Tryd.results13, go_sem, r0, r1]
    · have hnil9 : us = [] := List.length_eq_zero_iff.1 (by omega)
      subst hnil9
      clear hu2 O5
      go_wp2
      refine bodyPost_ret (v := .tuple #[.agg #[.int .i64 K, .slice ao ts.length cap'], .int .i64 a, .int .i64 b, .slice co 0 capC]) ?_ rfl ⟨K, ao, cap', ts, a, b, co, capC, [], rfl, S5.out.fin L5.out hlen (by simp) _ _⟩
      simp [results, Tryd.results13, go_sem, r0, r1]
  by_cases hy1 : y = 1
  · subst hy1
    clear L5 O5
    go_wp2
    go_loopw [10, 12] (fun v i wr => ∃ (k p' : Nat) (us : List (Int × Int)), k ≤ ts.length ∧ i = .int .i64 k ∧ us.length ≤ k ∧ wr.ownsRow (A + 1) 63 2 v us.length (clist us us.length) ∧ Tst w wr R bo bn bcap p' A K ao cap' ts)
      (fun _ i _ => ts.length - (intOf i).toNat)
    case atStart => exact ⟨0, _, [], Nat.zero_le _, rfl, Nat.le_refl _, World.ownsRow_nil _ _ _ _, S5.out⟩
    case round =>
      clear S5 r0 r1 g0 g1 k0 k1 hul
      obtain ⟨k, p', us, hk, rfl, hul, hO, hS⟩ := hrel
      have HO := hideP hO
      have HS := hideP hS
      clear hO hS
      have n0 := HS.out.n0
      have n1 := HS.out.n1
      by_cases hlt : k < ts.length
      · have hk0 : (0 : Int) ≤ (k : Int) := by omega
        have hk1 : (k : Int) < (ts.length : Int) := by omega
        obtain ⟨b2, off2, rfl, _, _, e0, e1⟩ := HS.out.tN k hlt
        obtain ⟨x, hx⟩ : ∃ x, x = tA ts k := ⟨_, rfl⟩
        obtain ⟨z, hz⟩ : ∃ x, x = tB ts k := ⟨_, rfl⟩
        rw [← hx] at e0
        rw [← hz] at e1
        clear hx hz
        by_cases hc : x = a ∨ z = a
        · have hlow := HS.out.lt
          have W6 : Hid (∀ wx, Below wr.heap.size wr wx → wx.ownsRow (A + 1) 63 2 u10 us.length (clist us us.length)) := hideP (fun wx hb => own_next HO.out hb)
          have fin : Hid (∀ (v' : Value) (wa wb : World), Below wr.heap.size wr wa → wb.ownsRow (A + 1) 63 2 v' (us.length + 1) (clist us us.length ++ [.int .i64 x, .int .i64 z]) → wa.grownBy wb u10.ownBlock → Tst w wb R bo bn bcap p' A K (some ⟨b2, off2, none⟩) cap' ts ∧ wb.ownsRow (A + 1) 63 2 v' (us ++ [(x, z)]).length (clist (us ++ [(x, z)]) (us ++ [(x, z)]).length)) := hideP (fun v' wa wb ha h1 h2 => by
            have e9 : (us ++ [(x, z)]).length = us.length + 1 := by simp
            refine ⟨HS.out.grown ha h2 (own_ge HO.out), ?_⟩
            rw [e9, clist_app]
            exact h1)
          clear HS HO
          rcases hc with hc | hc
          · subst hc
            go_wp2_with (at_builtin; refine wpList_append_own _ rfl _ _ 23 rfl (A + 1) 63 i1 (.agg #[.int .i64 0, .int .i64 0]) 2 16 Tryd.underlying23 HI.out.1 HI.out.2.1 HI.out.2.2.1 HI.out.2.2.2 rfl (by decide) u10 us.length (clist us us.length) rfl (W6.out _ (below_one _ _)) ⟨_, 0, none⟩ 1 1 [.int .i64 x, .int .i64 z] rfl rfl (World.news_of_block (cs := #[.int .i64 x, .int .i64 z]) (t := 63) (fr := (0, 0)) (heap_alloc_new wr _)) (by simp [Value.oneCell']) (by unfold maxLen; omega) (by omega) (by simp; omega) ?_)
            intro v9 wb hown1 hgrow _
            obtain ⟨S8, O8⟩ := fin.out v9 _ wb (below_one _ _) hown1 hgrow
            have HS8 := hideP S8
            have HO8 := hideP O8
            clear hown1 hgrow fin W6 S8 O8
            go_wp2
            go_roundw
            case rel => exact ⟨k + 1, p', us ++ [(x, z)], by omega, by go_num, by simp; omega, HO8.out, HS8.out⟩
            case measure => simp [intOf]; omega
          · by_cases hcx : x = a
            · subst hcx
              subst hc
              go_wp2_with (at_builtin; refine wpList_append_own _ rfl _ _ 23 rfl (A + 1) 63 i1 (.agg #[.int .i64 0, .int .i64 0]) 2 16 Tryd.underlying23 HI.out.1 HI.out.2.1 HI.out.2.2.1 HI.out.2.2.2 rfl (by decide) u10 us.length (clist us us.length) rfl (W6.out _ (below_one _ _)) ⟨_, 0, none⟩ 1 1 [.int .i64 z, .int .i64 z] rfl rfl (World.news_of_block (cs := #[.int .i64 z, .int .i64 z]) (t := 63) (fr := (0, 0)) (heap_alloc_new wr _)) (by simp [Value.oneCell']) (by unfold maxLen; omega) (by omega) (by simp; omega) ?_)
              intro v9 wb hown1 hgrow _
              obtain ⟨S8, O8⟩ := fin.out v9 _ wb (below_one _ _) hown1 hgrow
              have HS8 := hideP S8
              have HO8 := hideP O8
              clear hown1 hgrow fin W6 S8 O8
              go_wp2
              go_roundw
              case rel => exact ⟨k + 1, p', us ++ [(z, z)], by omega, by go_num, by simp; omega, HO8.out, HS8.out⟩
              case measure => simp [intOf]; omega
            · subst hc
              have hcx' : (x == z) = false := by simp [hcx]
              go_wp2_with (at_builtin; refine wpList_append_own _ rfl _ _ 23 rfl (A + 1) 63 i1 (.agg #[.int .i64 0, .int .i64 0]) 2 16 Tryd.underlying23 HI.out.1 HI.out.2.1 HI.out.2.2.1 HI.out.2.2.2 rfl (by decide) u10 us.length (clist us us.length) rfl (W6.out _ (below_one _ _)) ⟨_, 0, none⟩ 1 1 [.int .i64 x, .int .i64 z] rfl rfl (World.news_of_block (cs := #[.int .i64 x, .int .i64 z]) (t := 63) (fr := (0, 0)) (heap_alloc_new wr _)) (by simp [Value.oneCell']) (by unfold maxLen; omega) (by omega) (by simp; omega) ?_)
              intro v9 wb hown1 hgrow _
              obtain ⟨S8, O8⟩ := fin.out v9 _ wb (below_one _ _) hown1 hgrow
              have HS8 := hideP S8
              have HO8 := hideP O8
              clear hown1 hgrow fin W6 S8 O8
              go_wp2
              go_roundw
              case rel => exact ⟨k + 1, p', us ++ [(x, z)], by omega, by go_num, by simp; omega, HO8.out, HS8.out⟩
              case measure => simp [intOf]; omega
        · have hc1 : (x == a) = false := by simp; exact fun e => hc (Or.inl e)
          have hc2 : (z == a) = false := by simp; exact fun e => hc (Or.inr e)
          clear hc
          go_wp2
          go_roundw
          case rel => exact ⟨k + 1, p', us, by omega, by go_num, by omega, HO.out, HS.out⟩
          case measure => simp [intOf]; omega
      · obtain rfl : k = ts.length := by omega
        obtain ⟨go9, cap9, rfl⟩ := own_slice HO.out
        have hlow := HS.out.hA
        have L8 : Hid (TiesUp wr (R + 1) go9 us) := hideP ((OwnN.of_row HO.out).tiesUp.down (by omega))
        have r0 := HS.out.C.c0
        have r1 := HS.out.C.c1
        have g0 := HS.out.C.f0
        have g1 := HS.out.C.f1
        clear HO
        go_wp2
        refine bodyPost_ret (v := .tuple #[.agg #[.int .i64 K, .slice ao ts.length cap'], .int .i64 a, .int .i64 b, .slice go9 us.length cap9]) ?_ rfl ⟨K, ao, cap', ts, a, b, go9, cap9, us, rfl, HS.out.fin L8.out hlen (by omega) _ _⟩
        simp [results, Tryd.results13, go_sem, r0, r1]
  by_cases hy2 : y = 2
  · subst hy2
    clear L5
    go_wp2_with fail
    refine (pick_any R bo bn bcap (p + 1) 4 _ S5.out.rd (by omega)).mono ?_
    rintro e w6 ⟨za, rfl, v0, v1, rd6, tr6⟩
    have v4 := v1 (by omega)
    have S6 := hideP (S5.out.turn tr6 rd6)
    have O6 : Hid (w6.ownsRow (A + 1) 63 2 (.slice co us.length capC) us.length (clist us us.length)) := own_same O5.out (fun g hg hgl => tr6.block g hgl (Or.inr (by omega)))
    clear rd6 tr6 v1 S5 O5 r0 r1 g0 g1 k0 k1
    go_wp2_with fail
    refine (pick_any R bo bn bcap (p + 1 + 1) 7 _ S6.out.rd (by omega)).mono ?_
    rintro e w7 ⟨zb, rfl, u0, u1, rd7, tr7⟩
    have u4 := u1 (by omega)
    have S7 := hideP (S6.out.turn tr7 rd7)
    have O7 : Hid (w7.ownsRow (A + 1) 63 2 (.slice co us.length capC) us.length (clist us us.length)) := own_same O6.out (fun g hg hgl => tr7.block g hgl (Or.inr (by omega)))
    have h7 := S7.out.lt
    clear rd7 tr7 u1 S6 O6
    go_wp2_with (at_builtin; refine wpList_append_own _ rfl _ _ 23 rfl (A + 1) 63 i1 (.agg #[.int .i64 0, .int .i64 0]) 2 16 Tryd.underlying23 HI.out.1 HI.out.2.1 HI.out.2.2.1 HI.out.2.2.2 rfl (by decide) _ _ _ rfl (O7.out.alloc _) ⟨_, 0, none⟩ 1 1 [.int .i64 za, .int .i64 (1 + zb)] rfl rfl (World.news_of_block (cs := #[.int .i64 za, .int .i64 (1 + zb)]) (t := 63) (fr := (0, 0)) (heap_alloc_new w7 _)) (by simp [Value.oneCell']) (by unfold maxLen; omega) (by omega) (by simp; omega) ?_)
    intro v9 wb hown1 hgrow _
    obtain ⟨go9, cap9, rfl⟩ := own_slice hown1
    have S8 := hideP (S7.out.grown (below_one _ _) hgrow (own_ge O7.out))
    have L8 : Hid (TiesUp wb (R + 1) go9 (us ++ [(za, 1 + zb)])) := by
      have e9 : (us ++ [(za, 1 + zb)]).length = us.length + 1 := by simp
      refine (OwnN.of_row (cap := cap9) (ts := us ++ [(za, 1 + zb)]) (n := (us ++ [(za, 1 + zb)]).length) (base := A + 1) ?_).tiesUp.down (by omega)
      rw [e9, clist_app]
      exact hown1
    clear hown1 hgrow S7 O7
    have r0 := S8.out.C.c0
    have r1 := S8.out.C.c1
    have g0 := S8.out.C.f0
    have g1 := S8.out.C.f1
    have k0 := S8.out.n0
    have k1 := S8.out.n1
    go_wp2
    refine bodyPost_ret (v := .tuple #[.agg #[.int .i64 K, .slice ao ts.length cap'], .int .i64 a, .int .i64 b, .slice go9 (us.length + 1) cap9]) ?_ rfl ⟨K, ao, cap', ts, a, b, go9, cap9, us ++ [(za, 1 + zb)], by simp, S8.out.fin L8.out hlen (by first | (simp; done) | (simp; omega)) _ _⟩
    simp [results, Tryd.results13, go_sem, r0, r1]
  by_cases hy3 : y = 3
  · subst hy3
    clear L5 O5
    have bx := below_one w5 (.cells #[] 63)
    have S6 := hideP (S5.out.next bx)
    have hlow6 := S5.out.lt
    have OW : Hid ((w5.alloc (.cells #[] 63)).ownsRow (A + 1) 63 2 (.slice (some ⟨w5.heap.size, 0, none⟩) 0 0) 0 []) := hideP (World.ownsRow_lit w5 #[] 0 (base := A + 1) (e := 63) (size := 2) (by omega) (by simp) rfl)
    have k0 := S6.out.n0
    have k1 := S6.out.n1
    have hbig : 0 + ts.length ≤ maxLen := by unfold maxLen; omega
    have hln : (clist ts ts.length).length = ts.length * 2 := clist_length _ _
    have HLN := hideP hln
    clear S5 bx r0 r1 g0 g1
    cases ao with
    | none =>
      have hl0 : ts.length = 0 := by
        apply Decidable.byContradiction
        intro h0
        obtain ⟨b, off, e, _⟩ := S6.out.tN 0 (by omega)
        cases e
      have hts : ts = [] := List.length_eq_zero_iff.1 hl0
      subst hts
      have r0 := S6.out.C.c0
      have r1 := S6.out.C.c1
      have g0 := S6.out.C.f0
      have g1 := S6.out.C.f1
      go_wp2_with (at_builtin; refine wpList_append_void rfl _ _ 23 rfl (A + 1) 63 i1 2 Tryd.underlying23 HI.out.1 _ _ _ rfl OW.out _ rfl ?_)
      have L6 : Hid (TiesUp (w5.alloc (.cells #[] 63)) (R + 1) (some ⟨w5.heap.size, 0, none⟩) ([] : List (Int × Int))) := hideP (fun i hi => by simp at hi)
      go_wp2
      refine bodyPost_ret (v := .tuple #[.agg #[.int .i64 K, .slice none 0 cap'], .int .i64 a, .int .i64 b, .slice (some ⟨w5.heap.size, 0, none⟩) 0 0]) ?_ rfl ⟨K, none, cap', [], a, b, some ⟨w5.heap.size, 0, none⟩, 0, [], rfl, S6.out.fin L6.out hlen (by simp) _ _⟩
      simp [results, Tryd.results13, go_sem, r0, r1]
    | some ad =>
      have HNW : Hid (∀ j u, (clist ts ts.length)[j]? = some u → (w5.alloc (.cells #[] 63)).cell? (ad.add j) = some u) := hideP (fun j u hu => by
        exact clist_opt S6.out.tN.in j u hu)
      go_wp2_with (at_builtin; refine wpList_append_own _ rfl _ _ 23 rfl (A + 1) 63 i1 (.agg #[.int .i64 0, .int .i64 0]) 2 16 Tryd.underlying23 HI.out.1 HI.out.2.1 HI.out.2.2.1 HI.out.2.2.2 rfl (by decide) _ _ _ rfl OW.out ad ts.length cap' (clist ts ts.length) rfl HLN.out HNW.out (clist_one _ _) hbig (by omega) (by simp; omega) ?_)
      intro v9 wb hown1 hgrow _
      try simp only [Nat.zero_add] at hown1
      try simp only [List.nil_append] at hown1
      obtain ⟨go9, cap9, rfl⟩ := own_slice hown1
      have S8 := hideP (S6.out.grown (Below.refl _ _) hgrow (own_ge OW.out))
      have L8 : Hid (TiesUp wb (R + 1) go9 ts) := hideP ((OwnN.of_row hown1).tiesUp.down (by omega))
      clear hown1 hgrow S6 OW HNW HLN
      have r0 := S8.out.C.c0
      have r1 := S8.out.C.c1
      have g0 := S8.out.C.f0
      have g1 := S8.out.C.f1
      have k0 := S8.out.n0
      have k1 := S8.out.n1
      go_wp2
      refine bodyPost_ret (v := .tuple #[.agg #[.int .i64 K, .slice (some ad) ts.length cap'], .int .i64 a, .int .i64 b, .slice go9 ts.length cap9]) ?_ rfl ⟨K, some ad, cap', ts, a, b, go9, cap9, ts, rfl, S8.out.fin L8.out hlen (by omega) _ _⟩
      simp [results, Tryd.results13, go_sem, r0, r1]
  have hy0' : (y == 0) = false := by simp [hy0]
  have hy1' : (y == 1) = false := by simp [hy1]
  have hy2' : (y == 2) = false := by simp [hy2]
  have hy3' : (y == 3) = false := by simp [hy3]
  have hy0'' : ((0 : Int) == y) = false := by simp; omega
  have hy1'' : ((1 : Int) == y) = false := by simp; omega
  have hy2'' : ((2 : Int) == y) = false := by simp; omega
  have hy3'' : ((3 : Int) == y) = false := by simp; omega
  go_wp2
  refine bodyPost_ret (v := .tuple #[.agg #[.int .i64 K, .slice ao ts.length cap'], .int .i64 a, .int .i64 b, .slice co us.length capC]) ?_ rfl ⟨K, ao, cap', ts, a, b, co, capC, us, rfl, S5.out.fin L5.out hlen (by omega) _ _⟩
  simp [results, Tryd.results13, go_sem, r0, r1]

end Go.Proofs.YtljnjpjnadlmhaaDoor
