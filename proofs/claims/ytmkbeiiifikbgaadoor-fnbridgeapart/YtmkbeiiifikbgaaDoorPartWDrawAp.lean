/- Texts put together: WDrawAp, WCutV. -/
import Derived.Test.YtmkbeiiifikbgaaDoorPartWDraw
import Derived.Test.YtmkbeiiifikbgaaDoorPartWPairs
import Derived.Test.YtmkbeiiifikbgaaDoorPartWApart
import Derived.Test.YtmkbeiiifikbgaaDoorPartWLeaf
import Derived.Test.YtmkbeiiifikbgaaDoorPartWSpecOk
import Derived.Test.YtmkbeiiifikbgaaDoorWLo
/- What laws.FnBridgeApart draws. -/
namespace Go.Proofs.YtmkbeiiifikbgaaDoor
open Go.RowKit
set_option linter.unusedVariables false

/-- a net was drawn into the box A, behind the reader; the answer's cell stands empty -/
structure Apst (w wr : World) (bo : Option Addr) (bn bcap p : Nat) (A : Nat) (K : Int) (ao : Option Addr) (cap : Nat) (us : List (Int × Int)) : Prop where
  C : Cel wr w.heap.size 0 (.slice none 0 0)
  N : Cel wr A K (.slice ao us.length cap)
  rd : Rdr wr (w.heap.size + 1) bo bn bcap p
  B : Below w.heap.size w wr
  O : OwnN wr (w.heap.size + 2) wr.heap.size ao us.length (tcell us)
  ne : ∀ g, ao = some g → g.block ≠ A
  hA : w.heap.size + 1 < A
  lo : -1 ≤ K
  hi : K ≤ 9
  short : us.length ≤ 66
theorem Apst.turn {w wr w' : World} {bo : Option Addr} {bn bcap p p' A : Nat} {K : Int} {ao : Option Addr} {cap : Nat} {us : List (Int × Int)} (h : Apst w wr bo bn bcap p A K ao cap us) (ht : Turned (w.heap.size + 1) (w.heap.size + 1 + 1) wr w') (rd : Rdr w' (w.heap.size + 1) bo bn bcap p') : Apst w w' bo bn bcap p' A K ao cap us :=
  ⟨h.C.turn' ht (by omega), h.N.turn ht h.hA, rd, h.B.trans (ht.toBelow (Nat.le_succ _) (Nat.le_of_lt h.rd.lt)), (h.O.aside ht (Or.inr (by omega))).up ht.size, h.ne, h.hA, h.lo, h.hi, h.short⟩
theorem Apst.next {w wr w' : World} {bo : Option Addr} {bn bcap p A : Nat} {K : Int} {ao : Option Addr} {cap : Nat} {us : List (Int × Int)} (h : Apst w wr bo bn bcap p A K ao cap us) (hb : Below wr.heap.size wr w') : Apst w w' bo bn bcap p A K ao cap us :=
  h.turn (Turned.of_below hb) (h.rd.next hb)
theorem Apst.put {w wr w' : World} {bo : Option Addr} {bn bcap p q A : Nat} {K K' : Int} {ao ao' : Option Addr} {cap cap' : Nat} {us us' : List (Int × Int)} (h : Apst w wr bo bn bcap p A K ao cap us) (hn : AnyNet wr w' (w.heap.size + 1) bo bn bcap p q K' ao' us') : ∃ p', p' ≤ p + q ∧ Apst w ((w'.setCell ⟨A, 0, none⟩ (.int .i64 K')).setCell ⟨A, 1, none⟩ (.slice ao' us'.length cap')) bo bn bcap p' A K' ao' cap' us' := by
  obtain ⟨⟨p', hp', rd⟩, ht, ho, k0, k9, l66⟩ := hn
  have h1 := h.turn ht rd
  have hA := h.hA
  have hl := h.N.lt
  have hsz : ((w'.setCell ⟨A, 0, none⟩ (.int .i64 K')).setCell ⟨A, 1, none⟩ (.slice ao' us'.length cap')).heap.size = w'.heap.size := by simp [World.setCell]
  refine ⟨p', hp', (h1.C.set (by show w.heap.size ≠ A; omega) _).set (by show w.heap.size ≠ A; omega) _, h1.N.put _ _, (rd.far (by show w.heap.size + 1 < A; exact hA) _).far (by show w.heap.size + 1 < A; exact hA) _, (h1.B.setCell (by show w.heap.size ≤ A; omega) _).setCell (by show w.heap.size ≤ A; omega) _, ?_, ?_, hA, k0, k9, l66⟩
  · rw [hsz]
    have := h.rd.lt
    exact ((ho.far (Or.inl hl) _).far (Or.inl hl) _).down (by omega)
  · intro g hg
    rcases ho with ⟨_, e⟩ | ⟨g', e, h2, _⟩
    · rw [e] at hg; cases hg
    · rw [e] at hg; cases hg
      show g' ≠ A
      omega
theorem Apst.fin {w wr : World} {bo : Option Addr} {bn bcap p A : Nat} {K : Int} {ao : Option Addr} {cap : Nat} {us : List (Int × Int)} (h : Apst w wr bo bn bcap p A K ao cap us) (u0 u1 : Value) :
    Dealt w ((wr.setCell ⟨w.heap.size, 0, none⟩ u0).setCell ⟨w.heap.size, 1, none⟩ u1) K ao us := by
  have hsz : ((wr.setCell ⟨w.heap.size, 0, none⟩ u0).setCell ⟨w.heap.size, 1, none⟩ u1).heap.size = wr.heap.size := by simp [World.setCell]
  refine ⟨?_, h.lo, h.hi, h.short, (h.B.setCell (Nat.le_refl _) _).setCell (Nat.le_refl _) _⟩
  rw [hsz]
  exact ((h.O.far (Or.inl (by show w.heap.size < w.heap.size + 2; omega)) _).far (Or.inl (by show w.heap.size < w.heap.size + 2; omega)) _).down (by omega)

set_option maxHeartbeats 800000 in
theorem drawBridgeApart_any (bo : Option Addr) (n cap : Nat) (w : World) (hb : BytesIn w bo n) (hnil : bo = none → n = 0 ∧ cap = 0) (hc : n ≤ cap) (hm : cap ≤ maxLen) :
    Calls Tryd.prog 18 #[.slice bo n cap] w fun e w' => ∃ K ao cap' us a b, e = .returned (.tuple #[.agg #[.int .i64 K, .slice ao us.length cap'], .int .i64 a, .int .i64 b]) ∧ Dealt w w' K ao us := by
  go_enter Tryd.func18, Tryd.ntmps18
  go_wp2_with fail
  refine (l6Open_any bo n cap _ (fun i hi => by obtain ⟨b, off, v, e, h1, h2, h3⟩ := hb i hi; exact ⟨b, off, v, e, Nat.lt_of_lt_of_le h1 (by simp), by rw [World.cell?_alloc_past _ _ _ h1]; exact h2, h3⟩) hnil hc hm).mono ?_
  rintro e w1 ⟨rfl, ⟨bn, bcap, rd⟩, hb1⟩
  have hb1' : Below (w.heap.size + 1) (w.alloc (.cells #[.int .i64 0, .slice none 0 0] 25)) w1 := by simpa using hb1
  have C1 := hideP ((Cel.new w 0 (.slice none 0 0) 25).below hb1' (Nat.lt_succ_self _))
  have hB1 := hideP ((below_one w (.cells #[.int .i64 0, .slice none 0 0] 25)).trans (hb1'.mono (Nat.le_succ _)))
  have rd' : Rdr w1 (w.heap.size + 1) bo bn bcap 0 := by simpa using rd
  have hR := rd'.lt
  clear hb1 hb1' rd
  go_wp2_with fail
  refine (l71Pair_any (w.heap.size + 1) bo bn bcap 0 _ rd' (by omega)).mono ?_
  rintro e w2 ⟨K, ao, cap', us, a, b, rfl, _, _, _, _, A2⟩
  have S2 : ∃ p, p ≤ 80 ∧ Apst w (w2.alloc (.cells #[.int .i64 K, .slice ao us.length cap'] 25)) bo bn bcap p w2.heap.size K ao cap' us := by
    obtain ⟨⟨p, hp, rd2⟩, ht, ho, k0, k9, l66⟩ := A2
    have hz := ht.size
    have bx := below_one w2 (.cells #[.int .i64 K, .slice ao us.length cap'] 25)
    refine ⟨p, by omega, (C1.out.turn' ht (by omega)).below bx (by have := hz; omega), Cel.new w2 K _ _, rd2.next bx, ((hB1.out.trans (ht.toBelow (Nat.le_succ _) (Nat.le_of_lt hR))).trans (bx.mono (Nat.le_trans (Nat.le_of_lt (Nat.lt_trans (Nat.lt_succ_self _) hR)) hz))), ((ho.next bx).up bx.size).down (by omega), ?_, by omega, k0, k9, l66⟩
    intro g hg
    rcases ho with ⟨_, e⟩ | ⟨g', e, _, h3, _⟩
    · rw [e] at hg; cases hg
    · rw [e] at hg; cases hg
      show g' ≠ w2.heap.size
      omega
  obtain ⟨p, hp, S2⟩ := S2
  have S2 := hideP S2
  clear A2 C1 hB1 rd' hR hb
  go_wp2
  obtain ⟨A, hA⟩ : ∃ A, A = w2.heap.size := ⟨_, rfl⟩
  rw [← hA] at S2 ⊢
  clear hA
  go_loopw [7, 8, 9] (fun av bv iv wr => ∃ (k p' : Nat) (K : Int) (ao : Option Addr) (cap : Nat) (us : List (Int × Int)) (a b : Int), k ≤ 8 ∧ p' ≤ 80 + 81 * k ∧ av = .int .i64 a ∧ bv = .int .i64 b ∧ iv = .int .i64 (k : Int) ∧ Apst w wr bo bn bcap p' A K ao cap us) (fun _ _ iv _ => 8 - (intOf iv).toNat)
  case atStart => exact ⟨0, p, K, ao, cap', us, a, b, by omega, by omega, rfl, rfl, rfl, S2.out⟩
  case round =>
    clear S2
    obtain ⟨k, p', K, ao, cap, us, a, b, hk, hp', rfl, rfl, rfl, S⟩ := hrel
    have HS := hideP S
    clear S
    by_cases hlt : k < 8
    · have hlt' : (k : Int) < 8 := by omega
      go_wp2_with fail
      refine (pick_any (w.heap.size + 1) bo bn bcap p' 6 _ HS.out.rd (by omega)).mono ?_
      rintro e w3 ⟨z, rfl, z0, z1, rd3, tr3⟩
      have S3 := hideP (HS.out.turn tr3 rd3)
      clear rd3 tr3 z1 HS
      have n0 := S3.out.N.c0
      have n1 := S3.out.N.c1
      have f0 := S3.out.N.f0
      have f1 := S3.out.N.f1
      have r0 := S3.out.C.c0
      have r1 := S3.out.C.c1
      have g0 := S3.out.C.f0
      have g1 := S3.out.C.f1
      by_cases hz : 0 < z
      · have hun : us.length ≤ 1099511627776 := by have := S3.out.short; omega
        obtain ⟨T1, T2, V, hV⟩ : ∃ T1 T2 V, apV K us a b = .tuple #[.agg #[.int .i64 T1, .int .i64 T2], .bool V] := ⟨_, _, _, rfl⟩
        have HV := hideP hV
        clear hV
        go_wp2_with fail
        refine (specApart_any K ao cap us a b _ hun (S3.out.O.ties (Nat.le_refl _))).mono ?_
        rw [HV.out]
        rintro e w4 ⟨rfl, hb4⟩
        have bo4 := below_one w4 (.cells #[.int .i64 T1, .int .i64 T2] 35)
        have S4 := hideP ((S3.out.next hb4).next bo4)
        clear hb4 bo4 S3 n0 n1 f0 f1 r0 r1 g0 g1 HV
        have n0 := S4.out.N.c0
        have n1 := S4.out.N.c1
        have f0 := S4.out.N.f0
        have f1 := S4.out.N.f1
        have r0 := S4.out.C.c0
        have r1 := S4.out.C.c1
        have g0 := S4.out.C.f0
        have g1 := S4.out.C.f1
        cases V
        · go_wp2_with fail
          refine (l71Pair_any (w.heap.size + 1) bo bn bcap (p' + 1) _ S4.out.rd (by omega)).mono ?_
          rintro e w5 ⟨K', ao', cap'', us', a', b', rfl, _, _, _, _, A5⟩
          obtain ⟨p5, hp5, S5⟩ := S4.out.put (cap' := cap'') A5
          have S5 := hideP S5
          obtain ⟨⟨_, _, rd5⟩, ht5, _⟩ := A5
          have S4b := hideP (S4.out.turn ht5 rd5)
          clear rd5 ht5 n0 n1 f0 f1 r0 r1 g0 g1 S4
          have n0 := S4b.out.N.c0
          have n1 := S4b.out.N.c1
          have f0 := S4b.out.N.f0
          have f1 := S4b.out.N.f1
          go_wp2
          go_roundw
          case rel => exact ⟨k + 1, p5, K', ao', cap'', us', a', b', by omega, by omega, rfl, rfl, by go_num, S5.out⟩
          case measure => simp [intOf]; omega
        · go_wp2
          refine bodyPost_ret (v := .tuple #[.agg #[.int .i64 K, .slice ao us.length cap], .int .i64 a, .int .i64 b]) ?_ rfl ⟨K, ao, cap, us, a, b, rfl, S4.out.fin _ _⟩
          simp [results, Tryd.results18, go_sem, r0, r1]
      · have hzd : decide (0 < z) = false := by simp [hz]
        go_wp2
        refine bodyPost_ret (v := .tuple #[.agg #[.int .i64 K, .slice ao us.length cap], .int .i64 a, .int .i64 b]) ?_ rfl ⟨K, ao, cap, us, a, b, rfl, S3.out.fin _ _⟩
        simp [results, Tryd.results18, go_sem, r0, r1]
    · obtain rfl : k = 8 := by omega
      have n0 := HS.out.N.c0
      have n1 := HS.out.N.c1
      have r0 := HS.out.C.c0
      have r1 := HS.out.C.c1
      have g0 := HS.out.C.f0
      have g1 := HS.out.C.f1
      go_wp2
      refine bodyPost_ret (v := .tuple #[.agg #[.int .i64 K, .slice ao us.length cap], .int .i64 a, .int .i64 b]) ?_ rfl ⟨K, ao, cap, us, a, b, rfl, HS.out.fin _ _⟩
      simp [results, Tryd.results18, go_sem, r0, r1]

end Go.Proofs.YtmkbeiiifikbgaaDoor

/- A net that is put into a variable, which lay ahead of the call that answers it, or was made behind it. -/
namespace Go.Proofs.YtmkbeiiifikbgaaDoor
open Go.RowKit
set_option linter.unusedVariables false

theorem wp_weakC {P : Program} {c : Code} {Q' : Exit → Act → World → Prop} {K : Act → World → Prop} {a : Act} {w : World} {aa : Nat → Option Addr → Nat → Act} (J : Nat → Option Addr → Nat → World → Prop) (h : c.wp P (Exit.then (fun a' w' => ∃ l s r, a' = aa l s r ∧ J l s r w') Q') a w) (hk : ∀ l s r w', J l s r w' → K (aa l s r) w') : c.wp P (Exit.then K Q') a w :=
  Code.wp_mono (fun e a' w' h => by
    cases e with
    | normal => obtain ⟨l, s, r, rfl, hj⟩ := h; exact hk l s r _ hj
    | _ => exact h) h
theorem wp_weakL {P : Program} {c : Code} {Q' : Exit → Act → World → Prop} {K : Act → World → Prop} {a : Act} {w : World} {aa : Nat → Act} (J : Nat → World → Prop) (h : c.wp P (Exit.then (fun a' w' => ∃ l, a' = aa l ∧ J l w') Q') a w) (hk : ∀ l w', J l w' → K (aa l) w') : c.wp P (Exit.then K Q') a w :=
  Code.wp_mono (fun e a' w' h => by
    cases e with
    | normal => obtain ⟨l, rfl, hj⟩ := h; exact hk l _ hj
    | _ => exact h) h
theorem own_still {w w' : World} {base : Nat} {e : TypeId} {size : Nat} {v : Value} {n : Nat} {xs : List Value} (h : w.ownsRow base e size v n xs) (hb : ∀ g, g < w.heap.size → w'.heap[g]? = w.heap[g]?) : w'.ownsRow base e size v n xs := by
  refine ⟨h.1, ?_⟩
  rcases h.2 with h1 | ⟨g, cap, cur, h1, h2, h3, h4⟩
  · exact Or.inl h1
  · exact Or.inr ⟨g, cap, cur, h1, h2, (hb g (Array.getElem?_eq_some_iff.1 h3).1).trans h3, h4⟩
theorem two_cells {W : World} {R : Nat} {t : TypeId} {v0 v1 : Value} (h : W.heap[R]? = some (Obj.cells #[v0, v1] t (0, 0))) : W.cell? ⟨R, 0, none⟩ = some v0 ∧ W.cell? ⟨R, 1, none⟩ = some v1 ∧ ∀ j, W.frozen? ⟨R, j, none⟩ = false := by
  refine ⟨?_, ?_, fun j => ?_⟩
  · simp [World.cell?, h]
  · simp [World.cell?, h]
  · simp [World.frozen?, h]
/-- two numbers in a variable -/
def TieSt (w4 W : World) (XB : Nat) (a b : Int) : Prop := W.cell? ⟨XB, 0, none⟩ = some (.int .i64 a) ∧ W.cell? ⟨XB, 1, none⟩ = some (.int .i64 b) ∧ XB < W.heap.size ∧ Below w4.heap.size w4 W
theorem TieSt.put {w4 W : World} {a b : Int} {u0 u1 : Value} {t : TypeId} (hX : W.heap[w4.heap.size]? = some (Obj.cells #[u0, u1] t (0, 0))) (hb : Below w4.heap.size w4 W) : TieSt w4 ((W.setCell ⟨w4.heap.size, 0, none⟩ (.int .i64 a)).setCell ⟨w4.heap.size, 1, none⟩ (.int .i64 b)) w4.heap.size a b := by
  have hl := (Array.getElem?_eq_some_iff.1 hX).1
  have one : ∀ (W : World) (cs : Array Value) (j : Nat) (u : Value), W.heap[w4.heap.size]? = some (Obj.cells cs t (0, 0)) → (W.setCell ⟨w4.heap.size, j, none⟩ u).heap[w4.heap.size]? = some (Obj.cells (cs.setIfInBounds j u) t (0, 0)) := fun W cs j u h => by
    obtain ⟨hl, he⟩ := Array.getElem?_eq_some_iff.1 h
    simp [World.setCell, Array.getElem_modify, hl, he]
  have h2 := one _ _ 1 (.int .i64 b) (one _ _ 0 (.int .i64 a) hX)
  obtain ⟨c0, c1, _⟩ := two_cells (v0 := .int .i64 a) (v1 := .int .i64 b) h2
  exact ⟨c0, c1, by simpa using hl, (hb.setCell (p := ⟨w4.heap.size, 0, none⟩) (Nat.le_refl _) _).setCell (p := ⟨w4.heap.size, 1, none⟩) (Nat.le_refl _) _⟩
theorem TieSt.new {w4 W : World} {a b : Int} (t : TypeId) (hb : Below w4.heap.size w4 W) : TieSt w4 (W.alloc (.cells #[.int .i64 a, .int .i64 b] t)) W.heap.size a b :=
  ⟨by simp, by simp, by simp, hb.alloc hb.size _⟩
/-- the net without a bridge, in a variable -/
def CutSt (w4 W : World) (XB : Nat) (K : Int) (ao : Option Addr) (cap : Nat) (vs : List (Int × Int)) : Prop := NetV W XB K ao cap vs ∧ Below w4.heap.size w4 W
/-- a net that is put into a variable that lay ahead of it -/
theorem CutSt.put {w4 W : World} {K : Int} {ao : Option Addr} {cap : Nat} {vs : List (Int × Int)} {u0 u1 : Value} {t : TypeId} (hX : W.heap[w4.heap.size]? = some (Obj.cells #[u0, u1] t (0, 0))) (ho : OwnN W (w4.heap.size + 1) W.heap.size ao vs.length (tcell vs)) (hb : Below w4.heap.size w4 W) : CutSt w4 ((W.setCell ⟨w4.heap.size, 0, none⟩ (.int .i64 K)).setCell ⟨w4.heap.size, 1, none⟩ (.slice ao vs.length cap)) w4.heap.size K ao cap vs := by
  have hl := (Array.getElem?_eq_some_iff.1 hX).1
  have one : ∀ (W : World) (cs : Array Value) (j : Nat) (u : Value), W.heap[w4.heap.size]? = some (Obj.cells cs t (0, 0)) → (W.setCell ⟨w4.heap.size, j, none⟩ u).heap[w4.heap.size]? = some (Obj.cells (cs.setIfInBounds j u) t (0, 0)) := fun W cs j u h => by
    obtain ⟨hl, he⟩ := Array.getElem?_eq_some_iff.1 h
    simp [World.setCell, Array.getElem_modify, hl, he]
  have h2 := one _ _ 1 (.slice ao vs.length cap) (one _ _ 0 (.int .i64 K) hX)
  obtain ⟨c0, c1, _⟩ := two_cells (v0 := .int .i64 K) (v1 := .slice ao vs.length cap) h2
  refine ⟨⟨c0, c1, by simpa using hl, ?_⟩, (hb.setCell (p := ⟨w4.heap.size, 0, none⟩) (Nat.le_refl _) _).setCell (p := ⟨w4.heap.size, 1, none⟩) (Nat.le_refl _) _⟩
  rcases ho with ⟨hz, _⟩ | ⟨g, e, h1, h2', h3⟩
  · intro j hj; omega
  · have ht : TiesIn W W.heap.size ao vs := OwnN.ties (Or.inr ⟨g, e, h1, h2', h3⟩) (Nat.le_refl _)
    intro j hj
    obtain ⟨b, off, e2, hb2, q0, q1⟩ := ht j hj
    have hbg : b = g := by rw [e] at e2; cases e2; rfl
    refine ⟨b, off, e2, by simpa using hb2, ?_, ?_⟩
    · rw [World.cell?_setCell_other _ _ _ _ (by intro x; have := congrArg Addr.block x; simp at this; omega), World.cell?_setCell_other _ _ _ _ (by intro x; have := congrArg Addr.block x; simp at this; omega)]; exact q0
    · rw [World.cell?_setCell_other _ _ _ _ (by intro x; have := congrArg Addr.block x; simp at this; omega), World.cell?_setCell_other _ _ _ _ (by intro x; have := congrArg Addr.block x; simp at this; omega)]; exact q1

end Go.Proofs.YtmkbeiiifikbgaaDoor
