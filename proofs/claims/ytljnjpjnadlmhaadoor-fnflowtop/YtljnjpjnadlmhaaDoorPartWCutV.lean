/- Texts put together: WCutV, WBridgeQ, WFlowPS. -/
import Derived.Test.YtljnjpjnadlmhaaDoorPartWLeaf
import Derived.Test.YtljnjpjnadlmhaaDoorPartWSpecOk
import Derived.Test.YtljnjpjnadlmhaaDoorPartMathT
import Derived.Test.YtljnjpjnadlmhaaDoorPartMathE
import Derived.Test.YtljnjpjnadlmhaaDoorPartWBridgeS
import Derived.Test.YtljnjpjnadlmhaaDoorPartWCopy
import Derived.Test.YtljnjpjnadlmhaaDoorPartWReach2
import Derived.Deep.RegionWith
import Derived.Test.YtljnjpjnadlmhaaDoorPartMathFP
import Derived.Test.YtljnjpjnadlmhaaDoorPartWSpecCut
import Derived.Test.YtljnjpjnadlmhaaDoorPartWReach
import Derived.Deep.RegionHeld3
import Derived.RangeFuncRecord
/- A net that is put into a variable, which lay ahead of the call that answers it, or was made behind it. -/
namespace Go.Proofs.YtljnjpjnadlmhaaDoor
open Go.RowKit
set_option linter.unusedVariables false

theorem wp_weakC {P : Program} {c : Code} {Q' : Exit → Act → World → Prop} {K : Act → World → Prop} {a : Act} {w : World} {aa : Nat → Option Addr → Nat → Act} (J : Nat → Option Addr → Nat → World → Prop) (h : c.wp P (Exit.then (fun a' w' => ∃ l s r, a' = aa l s r ∧ J l s r w') Q') a w) (hk : ∀ l s r w', J l s r w' → K (aa l s r) w') : c.wp P (Exit.then K Q') a w :=
  Code.wp_mono (fun e a' w' h => by
    cases e with
    | normal => obtain ⟨l, s, r, rfl, hj⟩ := h; exact hk l s r _ hj
    | _ => exact h) h
theorem wp_weakL {P : Program} {c : Code} {Q' : Exit → Act → World → Prop} {K : Act → World → Prop} {a : Act} {w : World} {aa : Nat → Act} (J : Nat → World → Prop) (h : c.wp P (Exit.then (fun a' w' => ∃ l, a' = aa l ∧ J l w') Q') a w) (hk : ∀ l w', J l w' → K (aa l) w') : c.wp P (Exit.then K Q') a w :=
  Code.wp_mono (fun e a' w' h => by
    cases e with
    | normal => obtain ⟨l, rfl, hj⟩ := h; exact hk l _ hj
    | _ => exact h) h
theorem own_still {w w' : World} {base : Nat} {e : TypeId} {size : Nat} {v : Value} {n : Nat} {xs : List Value} (h : w.ownsRow base e size v n xs) (hb : ∀ g, g < w.heap.size → w'.heap[g]? = w.heap[g]?) : w'.ownsRow base e size v n xs := by
  refine ⟨h.1, ?_⟩
  rcases h.2 with h1 | ⟨g, cap, cur, h1, h2, h3, h4⟩
  · exact Or.inl h1
  · exact Or.inr ⟨g, cap, cur, h1, h2, (hb g (Array.getElem?_eq_some_iff.1 h3).1).trans h3, h4⟩
theorem two_cells {W : World} {R : Nat} {t : TypeId} {v0 v1 : Value} (h : W.heap[R]? = some (Obj.cells #[v0, v1] t (0, 0))) : W.cell? ⟨R, 0, none⟩ = some v0 ∧ W.cell? ⟨R, 1, none⟩ = some v1 ∧ ∀ j, W.frozen? ⟨R, j, none⟩ = false := by
  refine ⟨?_, ?_, fun j => ?_⟩
  · simp [World.cell?, h]
  · simp [World.cell?, h]
  · simp [World.frozen?, h]
/-- two numbers in a variable -/
def TieSt (w4 W : World) (XB : Nat) (a b : Int) : Prop := W.cell? ⟨XB, 0, none⟩ = some (.int .i64 a) ∧ W.cell? ⟨XB, 1, none⟩ = some (.int .i64 b) ∧ XB < W.heap.size ∧ Below w4.heap.size w4 W
theorem TieSt.put {w4 W : World} {a b : Int} {u0 u1 : Value} {t : TypeId} (hX : W.heap[w4.heap.size]? = some (Obj.cells #[u0, u1] t (0, 0))) (hb : Below w4.heap.size w4 W) : TieSt w4 ((W.setCell ⟨w4.heap.size, 0, none⟩ (.int .i64 a)).setCell ⟨w4.heap.size, 1, none⟩ (.int .i64 b)) w4.heap.size a b := by
  have hl := (Array.getElem?_eq_some_iff.1 hX).1
  have one : ∀ (W : World) (cs : Array Value) (j : Nat) (u : Value), W.heap[w4.heap.size]? = some (Obj.cells cs t (0, 0)) → (W.setCell ⟨w4.heap.size, j, none⟩ u).heap[w4.heap.size]? = some (Obj.cells (cs.setIfInBounds j u) t (0, 0)) := fun W cs j u h => by
    obtain ⟨hl, he⟩ := Array.getElem?_eq_some_iff.1 h
    simp [World.setCell, Array.getElem_modify, hl, he]
  have h2 := one _ _ 1 (.int .i64 b) (one _ _ 0 (.int .i64 a) hX)
  obtain ⟨c0, c1, _⟩ := two_cells (v0 := .int .i64 a) (v1 := .int .i64 b) h2
  exact ⟨c0, c1, by simpa using hl, (hb.setCell (p := ⟨w4.heap.size, 0, none⟩) (Nat.le_refl _) _).setCell (p := ⟨w4.heap.size, 1, none⟩) (Nat.le_refl _) _⟩
theorem TieSt.new {w4 W : World} {a b : Int} (t : TypeId) (hb : Below w4.heap.size w4 W) : TieSt w4 (W.alloc (.cells #[.int .i64 a, .int .i64 b] t)) W.heap.size a b :=
  ⟨by simp, by simp, by simp, hb.alloc hb.size _⟩
/-- the net without a bridge, in a variable -/
def CutSt (w4 W : World) (XB : Nat) (K : Int) (ao : Option Addr) (cap : Nat) (vs : List (Int × Int)) : Prop := NetV W XB K ao cap vs ∧ Below w4.heap.size w4 W
/-- a net that is put into a variable that lay ahead of it -/
theorem CutSt.put {w4 W : World} {K : Int} {ao : Option Addr} {cap : Nat} {vs : List (Int × Int)} {u0 u1 : Value} {t : TypeId} (hX : W.heap[w4.heap.size]? = some (Obj.cells #[u0, u1] t (0, 0))) (ho : OwnN W (w4.heap.size + 1) W.heap.size ao vs.length (tcell vs)) (hb : Below w4.heap.size w4 W) : CutSt w4 ((W.setCell ⟨w4.heap.size, 0, none⟩ (.int .i64 K)).setCell ⟨w4.heap.size, 1, none⟩ (.slice ao vs.length cap)) w4.heap.size K ao cap vs := by
  have hl := (Array.getElem?_eq_some_iff.1 hX).1
  have one : ∀ (W : World) (cs : Array Value) (j : Nat) (u : Value), W.heap[w4.heap.size]? = some (Obj.cells cs t (0, 0)) → (W.setCell ⟨w4.heap.size, j, none⟩ u).heap[w4.heap.size]? = some (Obj.cells (cs.setIfInBounds j u) t (0, 0)) := fun W cs j u h => by
    obtain ⟨hl, he⟩ := Array.getElem?_eq_some_iff.1 h
    simp [World.setCell, Array.getElem_modify, hl, he]
  have h2 := one _ _ 1 (.slice ao vs.length cap) (one _ _ 0 (.int .i64 K) hX)
  obtain ⟨c0, c1, _⟩ := two_cells (v0 := .int .i64 K) (v1 := .slice ao vs.length cap) h2
  refine ⟨⟨c0, c1, by simpa using hl, ?_⟩, (hb.setCell (p := ⟨w4.heap.size, 0, none⟩) (Nat.le_refl _) _).setCell (p := ⟨w4.heap.size, 1, none⟩) (Nat.le_refl _) _⟩
  rcases ho with ⟨hz, _⟩ | ⟨g, e, h1, h2', h3⟩
  · intro j hj; omega
  · have ht : TiesIn W W.heap.size ao vs := OwnN.ties (Or.inr ⟨g, e, h1, h2', h3⟩) (Nat.le_refl _)
    intro j hj
    obtain ⟨b, off, e2, hb2, q0, q1⟩ := ht j hj
    have hbg : b = g := by rw [e] at e2; cases e2; rfl
    refine ⟨b, off, e2, by simpa using hb2, ?_, ?_⟩
    · rw [World.cell?_setCell_other _ _ _ _ (by intro x; have := congrArg Addr.block x; simp at this; omega), World.cell?_setCell_other _ _ _ _ (by intro x; have := congrArg Addr.block x; simp at this; omega)]; exact q0
    · rw [World.cell?_setCell_other _ _ _ _ (by intro x; have := congrArg Addr.block x; simp at this; omega), World.cell?_setCell_other _ _ _ _ (by intro x; have := congrArg Addr.block x; simp at this; omega)]; exact q1

end Go.Proofs.YtljnjpjnadlmhaaDoor

/- Walk of spec.BridgeParts. -/
namespace Go.Proofs.YtljnjpjnadlmhaaDoor
open Go.RowKit
set_option linter.unusedVariables false

/-- a net in a variable X of this call, its ties in a later block -/
structure XN (wr : World) (X : Nat) (K : Int) (ao : Option Addr) (cap : Nat) (us : List (Int × Int)) : Prop where
  c0 : wr.cell? ⟨X, 0, none⟩ = some (.int .i64 K)
  c1 : wr.cell? ⟨X, 1, none⟩ = some (.slice ao us.length cap)
  f0 : wr.frozen? ⟨X, 0, none⟩ = false
  f1 : wr.frozen? ⟨X, 1, none⟩ = false
  lt : X < wr.heap.size
  ties : TiesIn wr wr.heap.size ao us
theorem XN.next {w w' : World} {X : Nat} {K : Int} {ao : Option Addr} {cap : Nat} {us : List (Int × Int)} (h : XN w X K ao cap us) (hb : Below w.heap.size w w') : XN w' X K ao cap us :=
  ⟨(hb.cell (p := ⟨X, 0, none⟩) h.lt).trans h.c0, (hb.cell (p := ⟨X, 1, none⟩) h.lt).trans h.c1, (hb.frozen (p := ⟨X, 0, none⟩) h.lt).trans h.f0, (hb.frozen (p := ⟨X, 1, none⟩) h.lt).trans h.f1, Nat.lt_of_lt_of_le h.lt hb.size, (h.ties.below hb (Nat.le_refl _)).wide hb.size⟩
theorem turned_set (X : Nat) (w : World) (K : Int) (v : Value) : Turned X (X + 1) w ((w.setCell ⟨X, 0, none⟩ (.int .i64 K)).setCell ⟨X, 1, none⟩ v) :=
  ⟨rfl, rfl, rfl, by simp [World.setCell], fun k _ ho => (Below.heap_setCell _ _ _ _ (by show k ≠ X; omega)).trans (Below.heap_setCell _ _ _ _ (by show k ≠ X; omega))⟩
/-- another net goes into the variable -/
theorem XN.put {w : World} {X : Nat} {K K' : Int} {ao ao' : Option Addr} {cap cap' lo hi : Nat} {us us' : List (Int × Int)} (h : XN w X K ao cap us) (ho : OwnN w lo hi ao' us'.length (tcell us')) (hl : X + 1 ≤ lo) (hh : hi ≤ w.heap.size) :
    XN ((w.setCell ⟨X, 0, none⟩ (.int .i64 K')).setCell ⟨X, 1, none⟩ (.slice ao' us'.length cap')) X K' ao' cap' us' := by
  have ht := turned_set X w K' (.slice ao' us'.length cap')
  refine ⟨(World.cell?_setCell_other _ _ _ _ (by simp)).trans (World.cell?_setCell_same _ _ _ h.c0), World.cell?_setCell_same _ _ _ ((World.cell?_setCell_other _ _ _ _ (by simp)).trans h.c1), by rw [World.frozen?_setCell, World.frozen?_setCell]; exact h.f0, by rw [World.frozen?_setCell, World.frozen?_setCell]; exact h.f1, Nat.lt_of_lt_of_le h.lt ht.size, ?_⟩
  exact (ho.aside ht (Or.inr hl)).ties (Nat.le_trans hh ht.size)

end Go.Proofs.YtljnjpjnadlmhaaDoor

/- Walk of spec.FlowParts. -/
namespace Go.Proofs.YtljnjpjnadlmhaaDoor
open Go.RowKit
set_option linter.unusedVariables false

/-- a net with one tie cut, in a variable, its ties in memory that was made since -/
structure Ns (wr W : World) (XB : Nat) (K : Int) (ao : Option Addr) (cap : Nat) (ys : List (Int × Int)) : Prop where
  c0 : W.cell? ⟨XB, 0, none⟩ = some (.int .i64 K)
  c1 : W.cell? ⟨XB, 1, none⟩ = some (.slice ao ys.length cap)
  lt : XB < W.heap.size
  up : wr.heap.size ≤ XB
  own : OwnN W wr.heap.size W.heap.size ao ys.length (tcell ys)
  bel : Below wr.heap.size wr W
theorem OwnN.lower {w : World} {lo lo' hi n : Nat} {ao : Option Addr} {f : Nat → Value} (h : OwnN w lo hi ao n f) (hl : lo' ≤ lo) : OwnN w lo' hi ao n f := by
  rcases h with h | ⟨g, e, h1, h2, h3⟩
  · exact Or.inl h
  · exact Or.inr ⟨g, e, by omega, h2, h3⟩
theorem OwnN.higher {w : World} {lo hi hi' n : Nat} {ao : Option Addr} {f : Nat → Value} (h : OwnN w lo hi ao n f) (hl : hi ≤ hi') : OwnN w lo hi' ao n f := by
  rcases h with h | ⟨g, e, h1, h2, h3⟩
  · exact Or.inl h
  · exact Or.inr ⟨g, e, h1, by omega, h3⟩
theorem Ns.put {wr W : World} {K : Int} {ao : Option Addr} {cap : Nat} {ys : List (Int × Int)} {u0 u1 : Value} {t : TypeId} (hX : W.heap[wr.heap.size]? = some (Obj.cells #[u0, u1] t (0, 0))) (ho : OwnN W (wr.heap.size + 1) W.heap.size ao ys.length (tcell ys)) (hb : Below wr.heap.size wr W) : Ns wr ((W.setCell ⟨wr.heap.size, 0, none⟩ (.int .i64 K)).setCell ⟨wr.heap.size, 1, none⟩ (.slice ao ys.length cap)) wr.heap.size K ao cap ys := by
  have C := CutSt.put (K := K) (cap := cap) hX ho hb
  have ht := turned_set wr.heap.size W K (.slice ao ys.length cap)
  exact ⟨C.1.c0, C.1.c1, C.1.lt, Nat.le_refl _, ((ho.aside ht (Or.inr (Nat.le_refl _))).lower (Nat.le_succ _)).higher ht.size, C.2⟩
theorem Ns.new {wr W : World} {K : Int} {ao : Option Addr} {cap : Nat} {ys : List (Int × Int)} (t : TypeId) (ho : OwnN W wr.heap.size W.heap.size ao ys.length (tcell ys)) (hb : Below wr.heap.size wr W) : Ns wr (W.alloc (.cells #[.int .i64 K, .slice ao ys.length cap] t)) W.heap.size K ao cap ys := by
  have N := NetV.new (K := K) (cap := cap) t (ho.ties (Nat.le_refl _))
  exact ⟨N.c0, N.c1, N.lt, hb.size, (ho.next (below_one _ _)).higher (by simp), hb.alloc hb.size _⟩

theorem specReach_at (K : Int) (ao : Option Addr) (cap : Nat) (ts : List (Int × Int)) (x : Nat) (w : World) (hn : ts.length ≤ 1099511627776) (ht : TiesIn w w.heap.size ao ts) (hok : okB K ts = true) (hx : knotB (x : Int) K = true) :
    Calls Tryd.prog 39 #[.agg #[.int .i64 K, .slice ao ts.length cap], .int .i64 (x : Int)] w fun e w' => ∃ g cap', e = .returned (.slice (some ⟨g, 0, none⟩) K.toNat cap') ∧ OwnI w' g K.toNat (bcell (reachB ts x)) ∧ Below w.heap.size w w' := by
  have hK : 0 < K.toNat := by
    have := hx
    simp only [knotB, Bool.and_eq_true, decide_eq_true_eq] at this; omega
  refine (specReach_any K ao cap ts (x : Int) w hn ht).mono ?_
  rintro e w' ⟨ao', cap', rfl, ho, hb⟩
  have hN : reachN K ts (x : Int) = K.toNat := by simp [reachN, hok, hx]
  rw [hN] at ho ⊢
  rcases ho with ⟨h0, _⟩ | ⟨g, rfl, _, _, ho⟩
  · omega
  · exact ⟨g, cap', rfl, ho, hb⟩

set_option maxRecDepth 100000 in
set_option maxHeartbeats 3200000 in
theorem specFlowParts_in (K : Int) (ao bo : Option Addr) (cap cap2 : Nat) (ts us : List (Int × Int)) (a b : Int) (w : World) (hn : ts.length ≤ 1099511627776) (ht : TiesIn w w.heap.size ao ts) (hn2 : us.length ≤ 1099511627776) (hu : TiesIn w w.heap.size bo us) :
    Calls Tryd.prog 14 #[.agg #[.int .i64 K, .slice ao ts.length cap], .int .i64 a, .int .i64 b, .slice bo us.length cap2] w fun e w' => e = .returned (.bool (partsB K ts a b us)) ∧ Below w.heap.size w w' := by
  have HT := hideP ht
  have HU := hideP hu
  obtain ⟨r, hr⟩ : ∃ r, r = partsB K ts a b us := ⟨_, rfl⟩
  have HV := hideP hr
  rw [← hr]
  clear hr hu ht
  have X0 := fun (t : TypeId) => Bx.start w K (.slice ao ts.length cap) t
  have HX0 := hideP X0
  clear X0
  obtain ⟨p1, hp1⟩ : ∃ p, p = (okB K ts && knotB a K) := ⟨_, rfl⟩
  obtain ⟨p2, hp2⟩ : ∃ p, p = (okB K ts && knotB b K) := ⟨_, rfl⟩
  obtain ⟨q, hq⟩ : ∃ q, q = okB K us := ⟨_, rfl⟩
  have HP1 := hideP hp1
  have HP2 := hideP hp2
  have HQ := hideP hq
  have HNO : Hid (∀ (h : (p1 && p2 && decide (a ≠ b) && q) = false), r = false) := hideP (fun h => by
    rw [HV.out]
    refine partsB_no ?_
    rw [← Bool.not_eq_true] at h ⊢
    intro h2
    apply h
    unfold twoB at h2
    simp only [Bool.and_eq_true, decide_eq_true_eq] at h2
    obtain ⟨⟨⟨⟨z1, z2⟩, z3⟩, z4⟩, z5⟩ := h2
    rw [hp1, hp2, hq, z1, z2, z3, z5]
    simp [z4])
  clear hp1 hp2 hq
  go_enter Tryd.func14, Tryd.ntmps14
  go_wp2_with fail
  refine (l1Knot_v p1 K ao cap ts a _ hn ((HT.out.below (HX0.out _).B (Nat.le_refl _)).wide (Nat.le_of_lt (HX0.out _).lt)) HP1.out.symm).mono ?_
  rintro e w1 ⟨rfl, hb1⟩
  have X1 := hideP ((HX0.out _).next hb1)
  clear hb1 HX0
  cases p1
  · have HR := hideP (HNO.out (by simp))
    have HB := hideP X1.out.B
    clear X1
    go_wp2
    go_ret
    exact ⟨by rw [HR.out]; rfl, HB.out⟩
  have c0 := X1.out.c0
  have c1 := X1.out.c1
  go_wp2_with fail
  refine (l1Knot_v p2 K ao cap ts b _ hn ((HT.out.below X1.out.B (Nat.le_refl _)).wide (Nat.le_of_lt X1.out.lt)) HP2.out.symm).mono ?_
  rintro e w2 ⟨rfl, hb2⟩
  have X2 := hideP (X1.out.next hb2)
  clear hb2 X1 c0 c1
  cases p2
  · have HR := hideP (HNO.out (by simp))
    have HB := hideP X2.out.B
    clear X2
    go_wp2
    go_ret
    exact ⟨by rw [HR.out]; rfl, HB.out⟩
  by_cases hab : a = b
  · have HR := hideP (HNO.out (by simp [hab]))
    have HB := hideP X2.out.B
    clear X2
    subst hab
    go_wp2
    go_ret
    exact ⟨by rw [HR.out]; rfl, HB.out⟩
  have hab2 : (a == b) = false := by simpa using hab
  have c0 := X2.out.c0
  have c1 := X2.out.c1
  go_wp2_with fail
  refine (specOk_is q K bo cap2 us _ hn2 ((HU.out.below X2.out.B (Nat.le_refl _)).wide (Nat.le_of_lt X2.out.lt)) HQ.out.symm).mono ?_
  rintro e w3 ⟨rfl, hb3⟩
  have X3 := hideP (X2.out.next hb3)
  clear hb3 X2 c0 c1
  cases q
  · have HR := hideP (HNO.out (by simp))
    have HB := hideP X3.out.B
    clear X3
    go_wp2
    go_ret
    exact ⟨by rw [HR.out]; rfl, HB.out⟩
  have c0 := X3.out.c0
  have c1 := X3.out.c1
  have O3 : Hid (TiesIn w3 w3.heap.size ao ts) := hideP ((HT.out.below X3.out.B (Nat.le_refl _)).wide X3.out.B.size)
  have hlen : ts.length ≤ 64 := by
    have := HP1.out.symm
    simp only [Bool.and_eq_true] at this
    exact ok_short (okB_iff.1 this.1)
  go_wp2_with fail
  refine (l1Copy_in K ao cap ts _ (by omega) O3.out).mono ?_
  rintro e w4 ⟨aoX, capX, rfl, ho4, hb4⟩
  have bx := below_one w4 (.cells #[.int .i64 K, .slice aoX ts.length capX] 25)
  have X4 := hideP ((X3.out.next hb4).next bx)
  have V4 : Hid (XN (w4.alloc (.cells #[.int .i64 K, .slice aoX ts.length capX] 25)) w4.heap.size K aoX capX ts) :=
    ⟨by simp, by simp, by simp, by simp, by simp, (((OwnN.of_row ho4).ties (Nat.le_refl _)).below bx (Nat.le_refl _)).wide bx.size⟩
  obtain ⟨w5, hw5⟩ : ∃ w5, w5 = w4.alloc (.cells #[.int .i64 K, .slice aoX ts.length capX] 25) := ⟨_, rfl⟩
  obtain ⟨X, hX⟩ : ∃ x, x = w4.heap.size := ⟨_, rfl⟩
  have HXw : Hid (w.heap.size < X) := by rw [hX]; exact (X3.out.next hb4).lt
  rw [← hw5, ← hX] at V4
  rw [← hw5] at X4
  have HB5 := hideP X4.out.B
  have hok : okB K ts = true := by
    have := HP1.out.symm
    simp only [Bool.and_eq_true] at this
    exact this.1
  obtain ⟨x, hx⟩ : ∃ n : Nat, a = (n : Int) := ⟨a.toNat, by
    have := HP1.out.symm
    simp only [Bool.and_eq_true, knotB, decide_eq_true_eq] at this
    omega⟩
  obtain ⟨y, hy⟩ : ∃ n : Nat, b = (n : Int) := ⟨b.toNat, by
    have := HP2.out.symm
    simp only [Bool.and_eq_true, knotB, decide_eq_true_eq] at this
    omega⟩
  have hTW : twoB K ts a b = true := by
    have h1 := HP1.out.symm
    have h2 := HP2.out.symm
    simp only [Bool.and_eq_true] at h1 h2
    unfold twoB
    rw [h1.1, h1.2, h2.2, decide_eq_true hab]; rfl
  have HOK := hideP hok
  have HTW := hideP hTW
  have hul := ok_short (okB_iff.1 HQ.out.symm)
  have HAX := hideP hx
  have HBY := hideP hy
  clear hb4 ho4 bx c0 c1 O3 X3 X4 hok hTW HNO hx hy
  go_wp2
  rw [← hw5, ← hX]
  clear hw5 hX
  go_loopw [10] (fun i wr => ∃ (k : Nat) (aoY : Option Addr) (capY : Nat), k ≤ us.length ∧ i = .int .i64 (k : Int) ∧ XN wr X K aoY capY (offTs ts (us.take k)) ∧ (∀ j, j < k → (tA us j, tB us j) ∈ ts) ∧ Below w.heap.size w wr)
    (fun i _ => us.length - (intOf i).toNat)
  case atStart => exact ⟨0, aoX, capX, Nat.zero_le _, rfl, by rw [List.take_zero, off_nil]; exact V4.out, fun j hj => by omega, HB5.out⟩
  case round =>
    clear V4 HB5
    obtain ⟨k, aoY, capY, hk, rfl, hV, hin, hBB⟩ := hrel
    have HVX := hideP hV
    have HIN := hideP hin
    have HBB := hideP hBB
    clear hV hin hBB
    by_cases hlt : k < us.length
    · have hk0 : (0 : Int) ≤ (k : Int) := by omega
      have hk1 : (k : Int) < (us.length : Int) := by omega
      obtain ⟨g, off, rfl, hgw, e0, e1⟩ := (HU.out.below HBB.out (Nat.le_refl _)) k hlt
      obtain ⟨ca, hca⟩ : ∃ a, a = tA us k := ⟨_, rfl⟩
      obtain ⟨cb, hcb⟩ : ∃ b, b = tB us k := ⟨_, rfl⟩
      rw [← hca] at e0
      rw [← hcb] at e1
      have hgr : g < wr.heap.size := Nat.lt_of_lt_of_le hgw HBB.out.size
      obtain ⟨xs, hxs⟩ : ∃ xs, xs = offTs ts (us.take k) := ⟨_, rfl⟩
      have hxl : xs.length ≤ 1099511627776 := by rw [hxs]; exact Nat.le_trans (off_len _ _) hn
      obtain ⟨c, hc⟩ : ∃ c, c = cutB K xs ca cb := ⟨_, rfl⟩
      obtain ⟨K2, hK2⟩ : ∃ K2, K2 = cutK K xs ca cb := ⟨_, rfl⟩
      obtain ⟨ys, hys⟩ : ∃ ys, ys = cutTs K xs ca cb := ⟨_, rfl⟩
      have HC : Hid (c = false → r = false) := hideP (fun h => by
        rw [HV.out]
        refine partsB_sub (i := k) hlt (fun hm => ?_)
        have := (off_step HOK.out HQ.out.symm hlt hm).1
        rw [← hca, ← hcb, ← hxs, ← hc, h] at this
        cases this)
      have HC2 : Hid (c = true → K2 = K ∧ ys = offTs ts (us.take (k + 1)) ∧ (tA us k, tB us k) ∈ ts) := hideP (fun h => by
        have hm : (tA us k, tB us k) ∈ ts := by
          refine Decidable.byContradiction (fun hm => ?_)
          have := off_stop HOK.out HQ.out.symm hlt hm
          rw [← hca, ← hcb, ← hxs, ← hc, h] at this
          cases this
        have := (off_step HOK.out HQ.out.symm hlt hm).2
        rw [← hca, ← hcb, ← hxs] at this
        exact ⟨by rw [hK2]; exact cutK_yes (by rw [← hc]; exact h), by rw [hys]; exact this, hm⟩)
      rw [← hxs] at HVX
      have CUT : Hid (∀ W, TiesIn W W.heap.size aoY xs → Calls Tryd.prog 31 #[.agg #[.int .i64 K, .slice aoY xs.length capY], .int .i64 ca, .int .i64 cb] W fun e w' => ∃ ao' cap', e = .returned (.tuple #[.agg #[.int .i64 K2, .slice ao' ys.length cap'], .bool c]) ∧ OwnN w' W.heap.size w'.heap.size ao' ys.length (tcell ys) ∧ Below W.heap.size W w') := hideP (fun W h => by
        have := specCut_all K aoY capY xs ca cb W hxl h
        rw [← hc, ← hK2, ← hys] at this; exact this)
      have B0 : Hid (Below wr.heap.size wr wr.drew) := (Below.refl _ _).drew
      have B1 : Hid (Below wr.heap.size wr (wr.drew.alloc (.cells #[.int .i64 0, .slice none 0 0] 25))) := (Below.refl _ _).drew.alloc (Nat.le_refl _) _
      have HELD : Hid (∀ W, Below wr.heap.size wr W → W.cell? ⟨X, 0, none⟩ = some (.int .i64 K) ∧ W.cell? ⟨X, 1, none⟩ = some (.slice aoY xs.length capY) ∧ W.cell? ⟨g, off + k * 2, none⟩ = some (.int .i64 ca) ∧ W.cell? ⟨g, off + k * 2 + 1, none⟩ = some (.int .i64 cb)) := fun W hb => ⟨(HVX.out.next hb).c0, (HVX.out.next hb).c1, (hb.cell (p := ⟨g, off + k * 2, none⟩) hgr).trans e0, (hb.cell (p := ⟨g, off + k * 2 + 1, none⟩) hgr).trans e1⟩
      have HXE : Hid ((wr.drew.alloc (.cells #[.int .i64 0, .slice none 0 0] 25)).heap[wr.heap.size]? = some (Obj.cells #[.int .i64 0, .slice none 0 0] 25 (0, 0))) := World.alloc_heap_new wr.drew _
      have hszE : (wr.drew.alloc (.cells #[.int .i64 0, .slice none 0 0] 25)).heap.size = wr.heap.size + 1 := World.size_alloc _ _
      have N0 := hideP (HVX.out.next B0.out).ties
      have N1 := hideP (HVX.out.next B1.out).ties
      clear hca hcb hxs hc hK2 hys e0 e1
      go_wp2
      apply wp_weakC (J := fun XB ao cap W => Ns wr W XB K2 ao cap ys)
      case h =>
        go_region_held3 (fun w' => w'.cell? ⟨X, 0, none⟩ = some (.int .i64 K) ∧ w'.cell? ⟨X, 1, none⟩ = some (.slice aoY xs.length capY) ∧ w'.cell? ⟨g, off + k * 2, none⟩ = some (.int .i64 ca) ∧ w'.cell? ⟨g, off + k * 2 + 1, none⟩ = some (.int .i64 cb)) (first | exact HELD.out _ bX.out | exact HELD.out _ (bX.out.alloc bX.out.size _) | exact HELD.out _ ((bX.out.setCell (p := ⟨wr.heap.size, 0, none⟩) (Nat.le_refl _) _).setCell (p := ⟨wr.heap.size, 1, none⟩) (Nat.le_refl _) _) | exact HELD.out _ B1.out | exact HELD.out _ B0.out) (first | (go_at_call 31; refine (CUT.out _ N0.out).mono ?_; rintro e w6 ⟨aoZ, capZ, rfl, ho6, hb6⟩; have bX : Hid (Below wr.heap.size wr w6) := hideP (B0.out.trans hb6); have O6 : Hid (OwnN w6 wr.heap.size w6.heap.size aoZ ys.length (tcell ys)) := hideP ho6; clear hb6 ho6) | (go_at_call 31; refine (CUT.out _ N1.out).mono ?_; rintro e w6 ⟨aoZ, capZ, rfl, ho6, hb6⟩; rw [hszE] at ho6 hb6; have bX : Hid (Below wr.heap.size wr w6) := hideP (B1.out.trans (hb6.mono (Nat.le_succ _))); have O6e : Hid (OwnN w6 (wr.heap.size + 1) w6.heap.size aoZ ys.length (tcell ys)) := hideP ho6; have HX6 : Hid (w6.heap[wr.heap.size]? = some (Obj.cells #[.int .i64 0, .slice none 0 0] 25 (0, 0))) := hideP ((hb6.block wr.heap.size (Nat.lt_succ_self _)).trans HXE.out); obtain ⟨xc0, xc1, xf⟩ := two_cells HX6.out; clear hb6 ho6))
        all_goals
          first
          | (have JJ := Ns.put (K := K2) (cap := capZ) HX6.out O6e.out bX.out
             generalize wr.heap.size = XB at JJ ⊢
             exact ⟨XB, aoZ, capZ, rfl, JJ⟩)
          | (have JJ := Ns.new (K := K2) (cap := capZ) 25 O6.out bX.out
             generalize w6.heap.size = XB at JJ ⊢
             exact ⟨XB, aoZ, capZ, rfl, JJ⟩)
      intro XB aoZ capZ W hJ
      have HJ := hideP hJ
      have V5 := hideP (HVX.out.next hJ.bel)
      have HB5 := hideP (HBB.out.trans (hJ.bel.mono HBB.out.size))
      clear hJ HELD B0 B1 HXE hszE N0 N1 CUT
      cases c
      · have HR := hideP (HC.out rfl)
        clear V5 HJ HVX HBB
        go_wp2
        go_ret
        exact ⟨by rw [HR.out]; rfl, HB5.out⟩
      · obtain ⟨rfl, hye, hm⟩ := HC2.out rfl
        have z0 := HJ.out.c0
        have z1 := HJ.out.c1
        have v0 := V5.out.c0
        have v1 := V5.out.c1
        have f0 := V5.out.f0
        have f1 := V5.out.f1
        have hne : XB ≠ X := by have := HJ.out.up; have := HVX.out.lt; omega
        have V6 : Hid (XN ((W.setCell ⟨X, 0, none⟩ (.int .i64 K2)).setCell ⟨X, 1, none⟩ (.slice aoZ ys.length capZ)) X K2 aoZ capZ ys) := V5.out.put HJ.out.own (by have := HVX.out.lt; omega) (Nat.le_refl _)
        have HB6 : Hid (Below w.heap.size w ((W.setCell ⟨X, 0, none⟩ (.int .i64 K2)).setCell ⟨X, 1, none⟩ (.slice aoZ ys.length capZ))) := (HB5.out.setCell (p := ⟨X, 0, none⟩) (Nat.le_of_lt HXw.out) _).setCell (p := ⟨X, 1, none⟩) (Nat.le_of_lt HXw.out) _
        have HYE := hideP hye
        have HM := hideP hm
        clear V5 HJ HVX HBB HB5 HC HC2 hye hm
        go_wp2
        obtain ⟨w7, hw7⟩ : ∃ w7, w7 = (W.setCell ⟨X, 0, none⟩ (.int .i64 K2)).setCell ⟨X, 1, none⟩ (.slice aoZ ys.length capZ) := ⟨_, rfl⟩
        rw [← hw7] at V6 HB6 ⊢
        clear hw7 z0 z1 v0 v1 f0 f1
        go_roundw
        case measure => (simp [intOf] <;> omega)
        case rel => exact ⟨k + 1, aoZ, capZ, by omega, by go_num, by rw [← HYE.out]; exact V6.out, fun j hj => (Nat.lt_or_ge j k).elim (fun h => HIN.out j h) (fun h => by rw [show j = k by omega]; exact HM.out), HB6.out⟩
    · obtain rfl : k = us.length := by omega
      have hsub : ∀ t, t ∈ us → t ∈ ts := fun t ht => by
        obtain ⟨j, hj, e⟩ := List.mem_iff_getElem.1 ht
        have := HIN.out j hj
        rw [tA_get _ _ hj, tB_get _ _ hj, e] at this; exact this
      have HRV : Hid (r = !reachB (offTs ts us) x y) := by
        rw [HV.out, partsB_yes HTW.out HQ.out.symm hsub, HAX.out, HBY.out]; exact hideP rfl
      rw [List.take_length] at HVX
      have hkx : knotB (x : Int) K = true := by
        have h1 := HP1.out.symm
        simp only [Bool.and_eq_true] at h1
        rw [HAX.out] at h1; exact h1.2
      have hky : (y : Int) < (K.toNat : Int) := by
        have h2 := HP2.out.symm
        simp only [Bool.and_eq_true, knotB, decide_eq_true_eq] at h2
        rw [HBY.out] at h2; omega
      have hzl : (offTs ts us).length ≤ 1099511627776 := Nat.le_trans (off_len _ _) hn
      have HOZ := hideP (off_ok HOK.out us)
      have hax := HAX.out
      have hby := HBY.out
      clear HAX HBY
      subst hax hby
      have hy0 : (0 : Int) ≤ (y : Int) := by omega
      have V9 := hideP HVX.out.ties
      have c0 := HVX.out.c0
      have c1 := HVX.out.c1
      obtain ⟨zs, hzs⟩ : ∃ zs, zs = offTs ts us := ⟨_, rfl⟩
      rw [← hzs] at V9 HRV HOZ hzl c1
      have ONE := hideP (fun W (h : TiesIn W W.heap.size aoY zs) => specReach_at K aoY capY zs x W hzl h HOZ.out hkx)
      clear HVX HIN hsub hzs HP1 HP2 HTW HV
      go_wp2_with fail
      refine (ONE.out _ V9.out).mono ?_
      rintro e w6 ⟨gR, capR, rfl, hI, hb6⟩
      have HB := hideP (HBB.out.trans (hb6.mono HBB.out.size))
      have e0 : w6.cell? ⟨gR, y, none⟩ = some (.bool (reachB zs x y)) := hI.1 y (by omega)
      clear hb6 ONE V9 hI c0 c1 HBB
      obtain ⟨v, hv⟩ : ∃ v, v = reachB zs x y := ⟨_, rfl⟩
      rw [← hv] at e0 HRV
      clear hv
      cases v
      all_goals
        go_wp2
        go_ret
        exact ⟨by rw [HRV.out]; rfl, HB.out⟩
theorem specFlowParts_any (lo hi : Nat) (K : Int) (ao bo : Option Addr) (cap cap2 : Nat) (ts us : List (Int × Int)) (a b : Int) (w : World) (hn : ts.length ≤ 1099511627776) (ho : OwnN w lo hi ao ts.length (tcell ts)) (hhi : hi ≤ w.heap.size) (hn2 : us.length ≤ 1099511627776) (hu : TiesIn w w.heap.size bo us) :
    Calls Tryd.prog 14 #[.agg #[.int .i64 K, .slice ao ts.length cap], .int .i64 a, .int .i64 b, .slice bo us.length cap2] w fun e w' => e = .returned (.bool (partsB K ts a b us)) ∧ Below w.heap.size w w' := by
  exact specFlowParts_in K ao bo cap cap2 ts us a b w hn (ho.ties hhi) hn2 hu

end Go.Proofs.YtljnjpjnadlmhaaDoor
