/- Texts put together: WCutV, WFind0, WRings, WRingsS. -/
import Derived.Test.YtiaeffpjcinilaaDoorPartWLeaf
import Derived.Test.YtiaeffpjcinilaaDoorPartWSpecOk
import Derived.Test.YtiaeffpjcinilaaDoorPartWLo
import Derived.Test.YtiaeffpjcinilaaDoorPartWFar
import Derived.Test.YtiaeffpjcinilaaDoorWAllI
import Derived.Test.YtiaeffpjcinilaaDoorPartWTell
import Derived.Maps.AppendAt
import Derived.Test.YtiaeffpjcinilaaDoorPartWHang
import Derived.Test.YtiaeffpjcinilaaDoorWOnS
import Derived.Test.YtiaeffpjcinilaaDoorPartWTree
import Derived.Test.YtiaeffpjcinilaaDoorPartMathX
import Derived.Test.YtiaeffpjcinilaaDoorPartWTies
import Derived.Deep.RegionHeld3
import Derived.Test.YtiaeffpjcinilaaDoorPartWReach2
import Derived.Test.YtiaeffpjcinilaaDoorPartWRows
/- A net that is put into a variable, which lay ahead of the call that answers it, or was made behind it. -/
namespace Go.Proofs.YtiaeffpjcinilaaDoor
open Go.RowKit
set_option linter.unusedVariables false

theorem wp_weakC {P : Program} {c : Code} {Q' : Exit → Act → World → Prop} {K : Act → World → Prop} {a : Act} {w : World} {aa : Nat → Option Addr → Nat → Act} (J : Nat → Option Addr → Nat → World → Prop) (h : c.wp P (Exit.then (fun a' w' => ∃ l s r, a' = aa l s r ∧ J l s r w') Q') a w) (hk : ∀ l s r w', J l s r w' → K (aa l s r) w') : c.wp P (Exit.then K Q') a w :=
  Code.wp_mono (fun e a' w' h => by
    cases e with
    | normal => obtain ⟨l, s, r, rfl, hj⟩ := h; exact hk l s r _ hj
    | _ => exact h) h
theorem wp_weakL {P : Program} {c : Code} {Q' : Exit → Act → World → Prop} {K : Act → World → Prop} {a : Act} {w : World} {aa : Nat → Act} (J : Nat → World → Prop) (h : c.wp P (Exit.then (fun a' w' => ∃ l, a' = aa l ∧ J l w') Q') a w) (hk : ∀ l w', J l w' → K (aa l) w') : c.wp P (Exit.then K Q') a w :=
  Code.wp_mono (fun e a' w' h => by
    cases e with
    | normal => obtain ⟨l, rfl, hj⟩ := h; exact hk l _ hj
    | _ => exact h) h
theorem own_still {w w' : World} {base : Nat} {e : TypeId} {size : Nat} {v : Value} {n : Nat} {xs : List Value} (h : w.ownsRow base e size v n xs) (hb : ∀ g, g < w.heap.size → w'.heap[g]? = w.heap[g]?) : w'.ownsRow base e size v n xs := by
  refine ⟨h.1, ?_⟩
  rcases h.2 with h1 | ⟨g, cap, cur, h1, h2, h3, h4⟩
  · exact Or.inl h1
  · exact Or.inr ⟨g, cap, cur, h1, h2, (hb g (Array.getElem?_eq_some_iff.1 h3).1).trans h3, h4⟩
theorem two_cells {W : World} {R : Nat} {t : TypeId} {v0 v1 : Value} (h : W.heap[R]? = some (Obj.cells #[v0, v1] t (0, 0))) : W.cell? ⟨R, 0, none⟩ = some v0 ∧ W.cell? ⟨R, 1, none⟩ = some v1 ∧ ∀ j, W.frozen? ⟨R, j, none⟩ = false := by
  refine ⟨?_, ?_, fun j => ?_⟩
  · simp [World.cell?, h]
  · simp [World.cell?, h]
  · simp [World.frozen?, h]
/-- two numbers in a variable -/
def TieSt (w4 W : World) (XB : Nat) (a b : Int) : Prop := W.cell? ⟨XB, 0, none⟩ = some (.int .i64 a) ∧ W.cell? ⟨XB, 1, none⟩ = some (.int .i64 b) ∧ XB < W.heap.size ∧ Below w4.heap.size w4 W
theorem TieSt.put {w4 W : World} {a b : Int} {u0 u1 : Value} {t : TypeId} (hX : W.heap[w4.heap.size]? = some (Obj.cells #[u0, u1] t (0, 0))) (hb : Below w4.heap.size w4 W) : TieSt w4 ((W.setCell ⟨w4.heap.size, 0, none⟩ (.int .i64 a)).setCell ⟨w4.heap.size, 1, none⟩ (.int .i64 b)) w4.heap.size a b := by
  have hl := (Array.getElem?_eq_some_iff.1 hX).1
  have one : ∀ (W : World) (cs : Array Value) (j : Nat) (u : Value), W.heap[w4.heap.size]? = some (Obj.cells cs t (0, 0)) → (W.setCell ⟨w4.heap.size, j, none⟩ u).heap[w4.heap.size]? = some (Obj.cells (cs.setIfInBounds j u) t (0, 0)) := fun W cs j u h => by
    obtain ⟨hl, he⟩ := Array.getElem?_eq_some_iff.1 h
    simp [World.setCell, Array.getElem_modify, hl, he]
  have h2 := one _ _ 1 (.int .i64 b) (one _ _ 0 (.int .i64 a) hX)
  obtain ⟨c0, c1, _⟩ := two_cells (v0 := .int .i64 a) (v1 := .int .i64 b) h2
  exact ⟨c0, c1, by simpa using hl, (hb.setCell (p := ⟨w4.heap.size, 0, none⟩) (Nat.le_refl _) _).setCell (p := ⟨w4.heap.size, 1, none⟩) (Nat.le_refl _) _⟩
theorem TieSt.new {w4 W : World} {a b : Int} (t : TypeId) (hb : Below w4.heap.size w4 W) : TieSt w4 (W.alloc (.cells #[.int .i64 a, .int .i64 b] t)) W.heap.size a b :=
  ⟨by simp, by simp, by simp, hb.alloc hb.size _⟩
/-- the net without a bridge, in a variable -/
def CutSt (w4 W : World) (XB : Nat) (K : Int) (ao : Option Addr) (cap : Nat) (vs : List (Int × Int)) : Prop := NetV W XB K ao cap vs ∧ Below w4.heap.size w4 W
/-- a net that is put into a variable that lay ahead of it -/
theorem CutSt.put {w4 W : World} {K : Int} {ao : Option Addr} {cap : Nat} {vs : List (Int × Int)} {u0 u1 : Value} {t : TypeId} (hX : W.heap[w4.heap.size]? = some (Obj.cells #[u0, u1] t (0, 0))) (ho : OwnN W (w4.heap.size + 1) W.heap.size ao vs.length (tcell vs)) (hb : Below w4.heap.size w4 W) : CutSt w4 ((W.setCell ⟨w4.heap.size, 0, none⟩ (.int .i64 K)).setCell ⟨w4.heap.size, 1, none⟩ (.slice ao vs.length cap)) w4.heap.size K ao cap vs := by
  have hl := (Array.getElem?_eq_some_iff.1 hX).1
  have one : ∀ (W : World) (cs : Array Value) (j : Nat) (u : Value), W.heap[w4.heap.size]? = some (Obj.cells cs t (0, 0)) → (W.setCell ⟨w4.heap.size, j, none⟩ u).heap[w4.heap.size]? = some (Obj.cells (cs.setIfInBounds j u) t (0, 0)) := fun W cs j u h => by
    obtain ⟨hl, he⟩ := Array.getElem?_eq_some_iff.1 h
    simp [World.setCell, Array.getElem_modify, hl, he]
  have h2 := one _ _ 1 (.slice ao vs.length cap) (one _ _ 0 (.int .i64 K) hX)
  obtain ⟨c0, c1, _⟩ := two_cells (v0 := .int .i64 K) (v1 := .slice ao vs.length cap) h2
  refine ⟨⟨c0, c1, by simpa using hl, ?_⟩, (hb.setCell (p := ⟨w4.heap.size, 0, none⟩) (Nat.le_refl _) _).setCell (p := ⟨w4.heap.size, 1, none⟩) (Nat.le_refl _) _⟩
  rcases ho with ⟨hz, _⟩ | ⟨g, e, h1, h2', h3⟩
  · intro j hj; omega
  · have ht : TiesIn W W.heap.size ao vs := OwnN.ties (Or.inr ⟨g, e, h1, h2', h3⟩) (Nat.le_refl _)
    intro j hj
    obtain ⟨b, off, e2, hb2, q0, q1⟩ := ht j hj
    have hbg : b = g := by rw [e] at e2; cases e2; rfl
    refine ⟨b, off, e2, by simpa using hb2, ?_, ?_⟩
    · rw [World.cell?_setCell_other _ _ _ _ (by intro x; have := congrArg Addr.block x; simp at this; omega), World.cell?_setCell_other _ _ _ _ (by intro x; have := congrArg Addr.block x; simp at this; omega)]; exact q0
    · rw [World.cell?_setCell_other _ _ _ _ (by intro x; have := congrArg Addr.block x; simp at this; omega), World.cell?_setCell_other _ _ _ _ (by intro x; have := congrArg Addr.block x; simp at this; omega)]; exact q1

end Go.Proofs.YtiaeffpjcinilaaDoor

/- Walk of spec.WayFind where there is a way: its answer is a row of its own that begins where its block does. -/
namespace Go.Proofs.YtiaeffpjcinilaaDoor
open Go.RowKit
set_option linter.unusedVariables false

theorem plist_snoc (p : List Nat) (k : Nat) : plist (p ++ [k]) = plist p ++ [.int .i64 (k : Int)] := by simp [plist]
/-- what stands while a way is found step by step: the box, how far it is at O, the way so far -/
structure Wst0 (w wr : World) (Kn : Nat) (nv : Value) (O : Nat) (F : Nat → Int) (q : List Nat) (g cap : Nat) : Prop where
  X : Bx w wr (Kn : Int) nv
  I : OwnI wr O Kn (farC F)
  R : wr.ownsRow (w.heap.size + 1) 3 1 (.slice (some ⟨g, 0, none⟩) q.length cap) q.length (plist q)
  hO : w.heap.size < O
  ne : g ≠ O
theorem Wst0.next {w wr w' : World} {Kn : Nat} {nv : Value} {O : Nat} {F : Nat → Int} {q : List Nat} {g cap : Nat} (h : Wst0 w wr Kn nv O F q g cap) (hb : Below wr.heap.size wr w') : Wst0 w w' Kn nv O F q g cap :=
  ⟨h.X.next hb, h.I.below hb h.I.2.2, own_kept2 h.R (fun g hg => hb.block g hg), h.hO, h.ne⟩
theorem Wst0.pushed {w wr w' : World} {Kn : Nat} {nv : Value} {O : Nat} {F : Nat → Int} {q q' : List Nat} {g cap g' cap' : Nat} (h : Wst0 w wr Kn nv O F q g cap) (hgr : wr.grownBy w' (Value.ownBlock (.slice (some ⟨g, 0, none⟩) q.length cap))) (hR : w'.ownsRow (w.heap.size + 1) 3 1 (.slice (some ⟨g', 0, none⟩) q'.length cap') q'.length (plist q')) (hg : g' = g ∨ g' = wr.heap.size) : Wst0 w w' Kn nv O F q' g' cap' := by
  obtain ⟨_, _, _, hlo⟩ := row_type (g := g) (c := cap) h.R rfl
  have ht : Turned g (g + 1) wr w' := ⟨hgr.os, hgr.tape, hgr.output, hgr.size, fun k hk ho => hgr.block k hk (by simp [Value.ownBlock]; omega)⟩
  exact ⟨h.X.turn ht hlo, h.I.turn ht (by have := h.ne; omega), hR, h.hO, by have := h.ne; have := h.I.2.2; omega⟩

set_option maxHeartbeats 1600000 in
theorem specFind0_ok (Kn : Nat) (ao : Option Addr) (cap : Nat) (ts : List (Int × Int)) (a b : Nat) (w : World) (hn : ts.length ≤ 1099511627776) (ht : TiesIn w w.heap.size ao ts) (hok : okB (Kn : Int) ts = true) (haK : a < Kn) (hbK : b < Kn) (hfd : allTo (tieNB ts) a b Kn ≠ []) :
    Calls Tryd.prog 61 #[.agg #[.int .i64 (Kn : Int), .slice ao ts.length cap], .int .i64 (a : Int), .int .i64 (b : Int)] w fun e w' => ∃ g cap' p, e = .returned (.tuple #[.slice (some ⟨g, 0, none⟩) p.length cap', .bool true]) ∧ w'.ownsRow w.heap.size 3 1 (.slice (some ⟨g, 0, none⟩) p.length cap') p.length (plist p) ∧ Below w.heap.size w w' ∧ (allTo (tieNB ts) a b Kn).head? = some p := by
  have hnet : NetOk (Kn : Int) ts := okB_iff.1 hok
  have hK8 : Kn ≤ 8 := by have := hnet.2.1; omega
  have HNT := hideP hnet
  have h1 : (okB (Kn : Int) ts && knotB (a : Int) (Kn : Int)) = true := by rw [hok]; simp [knotB]; omega
  have h2 : (okB (Kn : Int) ts && knotB (b : Int) (Kn : Int)) = true := by rw [hok]; simp [knotB]; omega
  have HV := hideP h1
  have HV2 := hideP h2
  obtain ⟨i1, hj, hy0, hy1, hy2⟩ := info_parts Tryd.infoInt
  have HI1 : Hid (Tryd.prog.info? 3 = some i1 ∧ i1.zero = some (.int .i64 0) ∧ i1.size = 1 ∧ i1.bytes = 8) := ⟨hj, hy0, hy1, hy2⟩
  have X0 := fun (t u : TypeId) => (Bx.start w (Kn : Int) (.slice ao ts.length cap) t).next (below_one _ (.cells #[] u))
  have R0 : ∀ t : TypeId, ((w.alloc (.cells #[.int .i64 (Kn : Int), .slice ao ts.length cap] t)).alloc (.cells #[] 3)).ownsRow (w.heap.size + 1) 3 1 (.slice (some ⟨w.heap.size + 1, 0, none⟩) 0 0) 0 (plist []) := fun t => by
    have h := World.ownsRow_lit (w.alloc (.cells #[.int .i64 (Kn : Int), .slice ao ts.length cap] t)) #[] 0 (base := (w.alloc (.cells #[.int .i64 (Kn : Int), .slice ao ts.length cap] t)).heap.size) (e := 3) (size := 1) (Nat.le_refl _) (by simp) rfl
    have e : (w.alloc (.cells #[.int .i64 (Kn : Int), .slice ao ts.length cap] t)).heap.size = w.heap.size + 1 := by simp
    rw [e] at h
    exact h
  have HX0 := hideP X0
  have HR0 := hideP R0
  have HT := hideP ht
  have HFD := hideP hfd
  have HFAR := hideP (fun w' h => l2Far_any Kn ao cap ts b w' hn h hok hbK)
  clear X0 R0 ht h1 h2 hj hy0 hy1 hy2 hnet hok
  go_enter Tryd.func61, Tryd.ntmps61
  go_wp2_with fail
  refine (l1Knot_v true _ ao cap ts _ _ hn ((HT.out.below (HX0.out _ _).B (Nat.le_refl _)).wide (Nat.le_of_lt (HX0.out _ _).lt)) HV.out).mono ?_
  rintro e w1 ⟨rfl, hb1⟩
  have X1 := hideP ((HX0.out _ _).next hb1)
  have R1 := hideP (own_kept2 (HR0.out _) (fun g hg => hb1.block g hg))
  clear hb1 HX0 HR0
  have c0 := X1.out.c0
  have c1 := X1.out.c1
  go_wp2_with fail
  refine (l1Knot_v true _ ao cap ts _ _ hn ((HT.out.below X1.out.B (Nat.le_refl _)).wide (Nat.le_of_lt X1.out.lt)) HV2.out).mono ?_
  rintro e w2 ⟨rfl, hb2⟩
  have X2 := hideP (X1.out.next hb2)
  have R2 := hideP (own_kept2 R1.out (fun g hg => hb2.block g hg))
  clear hb2 c0 c1 X1 R1
  have c0 := X2.out.c0
  have c1 := X2.out.c1
  go_wp2_with fail
  refine (HFAR.out _ ((HT.out.below X2.out.B (Nat.le_refl _)).wide (Nat.le_of_lt X2.out.lt))).mono ?_
  rintro e w3 ⟨O, capF, F, rfl, hI3, hO3, hF3, hG3, hb3⟩
  have S3 : Hid (Wst0 w w3 Kn (.slice ao ts.length cap) O F [] (w.heap.size + 1) 0) := ⟨X2.out.next hb3, hI3, own_kept2 R2.out (fun g hg => hb3.block g hg), by have := X2.out.lt; omega, by have := X2.out.lt; obtain ⟨_, _, hh, _⟩ := row_type (g := w.heap.size + 1) (c := 0) R2.out rfl; have := (Array.getElem?_eq_some_iff.1 hh).1; omega⟩
  have HF := hideP hF3
  have HG := hideP hG3
  have d0 : w3.cell? ⟨O, a, none⟩ = some (.int .i64 (F a)) := hI3.1 a haK
  have ha0 : (0 : Int) ≤ (a : Int) := by omega
  have ha1 : (a : Int) < (Kn : Int) := by omega
  clear hb3 hI3 hF3 hG3 hO3 c0 c1 X2 R2 HFAR
  by_cases hneg : F a < 0
  · have HN : Hid (allTo (tieNB ts) a b Kn = []) := find_no HF.out hneg
    exact absurd HN.out HFD.out
  · have hneg' : ¬ F a < 0 := hneg
    obtain ⟨D, hD⟩ : ∃ D : Nat, F a = (D : Int) := ⟨(F a).toNat, by omega⟩
    have HH : Hid ((allTo (tieNB ts) a b Kn).head? = some (a :: geo (tieNB ts) F D a)) := find_is (fun _ _ h => tieNB_8 HNT.out h) (fun _ _ h => by have := tieNB_lt HNT.out h; simpa using this) (fun _ _ h => tieNB_sym h) HF.out haK hD
    have hD8 : D ≤ 8 := by have := (HG.out a).1; omega
    have HD := hideP hD
    have bo := below_one w3 (.cells #[.int .i64 (a : Int)] 3)
    have SB := hideP (S3.out.next bo)
    clear hD bo
    go_wp2_with (at_builtin; refine wpList_append_own_at _ rfl _ _ 27 rfl (w.heap.size + 1) 3 i1 _ 1 8 Tryd.underlying27 HI1.out.1 HI1.out.2.1 HI1.out.2.2.1 HI1.out.2.2.2 rfl (by omega) (.slice (some ⟨w.heap.size + 1, 0, none⟩) 0 0) 0 (plist []) rfl SB.out.R ⟨w3.heap.size, 0, none⟩ 1 1 [.int .i64 (a : Int)] rfl rfl (cell_one_new _ _ _) (by simp [Value.oneCell']) (by unfold maxLen; omega) (by omega) ?_ ?_)
    · have := S3.out.X.lt; simp; omega
    intro v4 w4 hR4 ht4 _ hg4
    obtain ⟨g4, cap4, rfl⟩ := ownsRow_succ hR4
    have S4 : Hid (Wst0 w w4 Kn (.slice ao ts.length cap) O F [a] g4 cap4) := SB.out.pushed ht4 hR4 (by simpa [Value.ownBlock] using hg4)
    clear hR4 hg4 ht4 SB S3 d0
    obtain ⟨T, hT⟩ : ∃ T, T = a :: geo (tieNB ts) F D a := ⟨_, rfl⟩
    have HT0 : Hid ([a] ++ geo (tieNB ts) F D a = T) := hideP hT.symm
    rw [← hT] at HH
    clear hT
    go_wp2
    go_loopg [8, 10] 9 (fun gk v at' wr => ∃ (d x : Nat) (q : List Nat) (g cap' : Nat), v = .slice (some ⟨g, 0, none⟩) q.length cap' ∧ at' = .int .i64 x ∧ F x = (d : Int) ∧ d ≤ gk ∧ gk ≤ 9 ∧ x < Kn ∧ q ++ geo (tieNB ts) F d x = T ∧ q.length + d ≤ 9 ∧ Wst0 w wr Kn (.slice ao ts.length cap) O F q g cap')
    case atStart => exact ⟨D, a, [a], g4, cap4, rfl, rfl, HD.out, by omega, by omega, haK, HT0.out, by simp; omega, S4.out⟩
    case round =>
      clear S4 HT0 HD
      obtain ⟨d, x, q, g, cap', rfl, rfl, hFx, hdg, hg9, hxK, hq, hql, hS⟩ := hrel
      by_cases hxb : x = b
      · subst hxb
        have hd0 : d = 0 := by have := HF.out.at; omega
        subst hd0
        have hqT : q = T := by simpa [geo] using hq
        have HQ := hideP hqT
        have HR := hideP hS.R
        have HB := hideP hS.X.B
        clear hS hq hqT
        go_wp2
        exact bodyPost_ret (v := .tuple #[.slice (some ⟨g, 0, none⟩) q.length cap', .bool true]) (by simp [results, Tryd.results61, go_sem]) rfl ⟨_, _, q, rfl, own_low HR.out (by omega), HB.out, by rw [HQ.out]; exact HH.out⟩
      · have hne : ((x : Int) == (b : Int)) = false := by simp; omega
        obtain ⟨d', rfl⟩ : ∃ d', d = d' + 1 := ⟨d - 1, by
          have : d ≠ 0 := fun e => hxb (HF.out.zero (by rw [hFx, e]; rfl))
          omega⟩
        have hFx1 : F x = (d' : Int) + 1 := by rw [hFx]; omega
        have HNF := hideP (fun jj h1 h2 h3 => near_first (jj := jj) (Kn := Kn) HNT.out HF.out hFx1 h1 h2 h3)
        have HNS := hideP (near_some (Kn := Kn) HNT.out HF.out hFx1)
        have HGE : Hid (geo (tieNB ts) F (d' + 1) x = near (tieNB ts) F x :: geo (tieNB ts) F d' (near (tieNB ts) F x)) := rfl
        have HNI := hideP (near_is (E := tieNB ts) (fun _ _ h => tieNB_8 HNT.out h) HF.out (fun _ _ h => tieNB_sym h) hFx1)
        have c0 := hS.X.c0
        have c1 := hS.X.c1
        have HS := hideP hS
        have TR := hideP ((HT.out.below hS.X.B (Nat.le_refl _)).wide (Nat.le_of_lt hS.X.lt))
        have HQ := hideP hq
        have HFX := hideP hFx1
        clear hS hq hFx hFx1
        go_wp2_with fail
        refine (l2Next_any Kn ao cap ts x _ hn TR.out hK8).mono ?_
        rintro e w5 ⟨g2, off2, cap2, rfl, hL5, hb5⟩
        have S5 := hideP (HS.out.next hb5)
        obtain ⟨L, hL⟩ : ∃ L, L = nbrs ts x Kn := ⟨_, rfl⟩
        have HLL := hideP hL
        have hL8 : L.length ≤ 8 := by rw [hL]; exact Nat.le_trans (nbrs_len ts x Kn) hK8
        rw [← hL] at hL5 HNF HNS ⊢
        have L5 := hideP hL5
        clear hb5 hL5 hL c0 c1 TR HS
        have hx0 : (0 : Int) ≤ (x : Int) := by omega
        have hx1 : (x : Int) < (Kn : Int) := by omega
        go_wp2
        go_loopw [10, 12] (fun at' i wr => ∃ (jj : Nat), jj ≤ L.length ∧ i = .int .i64 jj ∧ at' = .int .i64 x ∧ (∀ t, t < jj → F (L.getD t 0) ≠ F x - 1) ∧ Below w5.heap.size w5 wr)
          (fun _ i _ => L.length - (intOf i).toNat)
        case atStart => exact ⟨0, Nat.zero_le _, rfl, rfl, fun t ht => absurd ht (by omega), Below.refl _ _⟩
        case round =>
          obtain ⟨jj, hjj, rfl, rfl, hall, hbr⟩ := hrel
          by_cases hlt : jj < L.length
          · obtain ⟨y, hy⟩ : ∃ y, y = L.getD jj 0 := ⟨_, rfl⟩
            have hmem : y ∈ L := by rw [hy, List.getD_eq_getElem?_getD, List.getElem?_eq_getElem hlt]; exact List.getElem_mem hlt
            have hyn := mem_nbrs.1 (HLL.out ▸ hmem)
            have hyK := hyn.1
            have S6 := hideP (S5.out.next hbr)
            have L6 := L5.out.next hbr
            have cy : wr.cell? ⟨g2, off2 + jj, none⟩ = some (.int .i64 (y : Int)) := by rw [hy]; exact L6.cells jj hlt
            have co : wr.cell? ⟨O, y, none⟩ = some (.int .i64 (F y)) := S6.out.I.1 y hyK
            have cz : wr.cell? ⟨O, x, none⟩ = some (.int .i64 (F x)) := S6.out.I.1 x hxK
            have hj0 : (0 : Int) ≤ (jj : Int) := by omega
            have hj1 : (jj : Int) < (L.length : Int) := by omega
            have hy0 : (0 : Int) ≤ (y : Int) := by omega
            have hy1 : (y : Int) < (Kn : Int) := by omega
            have hFx8 := (HG.out x).1
            have hFx9 := (HG.out x).2
            have HALL := hideP hall
            have HBR := hideP hbr
            have HY := hideP hy
            clear hyn hmem hy hall hbr L6
            by_cases hF : F y = F x - 1
            · have hFe : (F y == F x - 1) = true := by simp [hF]
              have HYN : Hid (y = near (tieNB ts) F x) := by rw [HY.out]; exact hideP (HNF.out jj hlt (by rw [← HY.out]; exact hF) HALL.out)
              have HQ2 : Hid ((q ++ [y]) ++ geo (tieNB ts) F d' y = T) := hideP (by rw [List.append_assoc, ← HQ.out, HGE.out, ← HYN.out]; rfl)
              have HFY : Hid (F y = (d' : Int)) := hideP (by rw [HYN.out]; exact HNI.out.2.1)
              have S8 := hideP ((S6.out.next (Below.refl _ _).drew).next (below_one wr.drew (.cells #[.int .i64 (y : Int)] 3)))
              have HBW := hideP S6.out.X.lt
              have ES : Hid (((wr.drew).alloc (.cells #[.int .i64 (y : Int)] 3)).heap.size = wr.heap.size + 1) := World.size_alloc wr.drew _
              obtain ⟨m, hm⟩ : ∃ m, m = q.length := ⟨_, rfl⟩
              have HM := hideP hm
              rw [← hm] at hql ⊢
              clear hF hm
              go_wp2
              go_region
              go_wp2_with (at_builtin; refine wpList_append_own_at _ rfl _ _ 27 rfl (w.heap.size + 1) 3 i1 _ 1 8 Tryd.underlying27 HI1.out.1 HI1.out.2.1 HI1.out.2.2.1 HI1.out.2.2.2 rfl (by omega) (.slice (some ⟨g, 0, none⟩) m cap') m (plist q) rfl (by rw [HM.out]; exact S8.out.R) ⟨wr.heap.size, 0, none⟩ 1 1 [.int .i64 (y : Int)] rfl rfl (cell_one_new _ _ _) (by simp [Value.oneCell']) (by unfold maxLen; omega) (by omega) ?_ ?_)
              · have h3 : wr.heap.size ≤ ((wr.drew).alloc (.cells #[.int .i64 (y : Int)] 3)).heap.size := by rw [ES.out]; omega
                exact Nat.le_trans HBW.out h3
              intro v7 w7 hR7 ht7 _ hg7
              obtain ⟨g7, cap7, rfl⟩ := ownsRow_succ hR7
              have HLN : Hid ((q ++ [y]).length = m + 1) := by show (q ++ [y]).length = m + 1; rw [HM.out]; simp
              have S7 : Hid (Wst0 w w7 Kn (.slice ao ts.length cap) O F (q ++ [y]) g7 cap7) := S8.out.pushed ht7 (by rw [HLN.out, plist_snoc]; exact hR7) (by have h2 := ES.out; simp [Value.ownBlock] at hg7; omega)
              clear hR7 hg7 ht7 S8 S6 co cz cy
              go_wp2
              go_roundg (gk - 1)
              case measure => omega
              case rel => exact ⟨d', y, q ++ [y], g7, cap7, by rw [HLN.out], rfl, HFY.out, by omega, by omega, hyK, HQ2.out, by rw [HLN.out]; omega, S7.out⟩
            · have hFe : (F y == F x - 1) = false := by simp [hF]
              have HR : Hid (∀ t, t < jj + 1 → F (L.getD t 0) ≠ F x - 1) := by
                intro t ht
                by_cases e : t = jj
                · subst e; rw [← HY.out]; exact hF
                · exact HALL.out t (by omega)
              clear hF
              go_wp2
              go_region
              go_wp2
              go_roundw
              case rel => exact ⟨jj + 1, by omega, by go_num, rfl, HR.out, HBR.out.trans (by first | exact (Below.refl _ _).drew | exact Below.refl _ _)⟩
              case measure => simp [intOf]; omega
          · exfalso
            obtain ⟨t, ht, e⟩ := HNS.out
            exact hall t (by omega) e

theorem specFind0_any (Kn : Nat) (ao : Option Addr) (cap : Nat) (ts : List (Int × Int)) (a b : Nat) (w : World) (hn : ts.length ≤ 1099511627776) (ht : TiesIn w w.heap.size ao ts) (hok : okB (Kn : Int) ts = true) (haK : a < Kn) (hbK : b < Kn) (hfd : foundB (Kn : Int) ts (a : Int) (b : Int) = true) :
    Calls Tryd.prog 61 #[.agg #[.int .i64 (Kn : Int), .slice ao ts.length cap], .int .i64 (a : Int), .int .i64 (b : Int)] w fun e w' => ∃ g cap', e = .returned (.tuple #[.slice (some ⟨g, 0, none⟩) (findB (Kn : Int) ts (a : Int) (b : Int)).length cap', .bool true]) ∧ w'.ownsRow w.heap.size 3 1 (.slice (some ⟨g, 0, none⟩) (findB (Kn : Int) ts (a : Int) (b : Int)).length cap') (findB (Kn : Int) ts (a : Int) (b : Int)).length (plist (findB (Kn : Int) ts (a : Int) (b : Int))) ∧ Below w.heap.size w w' := by
  have hc : (okB (Kn : Int) ts && knotB (a : Int) (Kn : Int) && knotB (b : Int) (Kn : Int)) = true := by rw [hok]; simp [knotB]; omega
  have e := waysB_yes hc
  simp only [Int.toNat_natCast] at e
  have hne : allTo (tieNB ts) a b Kn ≠ [] := fun h => by
    rw [(foundB_no (e.trans h)).2] at hfd; cases hfd
  refine (specFind0_ok Kn ao cap ts a b w hn ht hok haK hbK hne).mono ?_
  rintro e0 w' ⟨g, cap', p, rfl, hR, hB, hp⟩
  rw [← e] at hp
  obtain ⟨e1, _⟩ := foundB_yes hp
  rw [e1]
  exact ⟨g, cap', rfl, hR, hB⟩

end Go.Proofs.YtiaeffpjcinilaaDoor

/- Walk of impl.TreeRings. -/
namespace Go.Proofs.YtiaeffpjcinilaaDoor
open Go.RowKit
set_option linter.unusedVariables false

/-- ways that were put together, the row of rows nil at first -/
structure AccV (W : World) (lo : Nat) (v : Value) (pre : List (List Nat)) (gs cs : Nat → Nat) : Prop where
  own : W.ownsRow lo 27 1 v pre.length (rowVs pre gs cs)
  row : Rws W lo pre gs cs
theorem AccV.kept {W W' : World} {lo : Nat} {v : Value} {pre : List (List Nat)} {gs cs : Nat → Nat} (h : AccV W lo v pre gs cs) (hb : Below W.heap.size W W') : AccV W' lo v pre gs cs :=
  ⟨own_kept2 h.own (fun g hg => hb.block g hg), h.row.kept hb.size (fun k _ _ hk => hb.block k (Array.getElem?_eq_some_iff.1 hk).1)⟩
theorem AccV.nil (W : World) (lo : Nat) : AccV W lo (.slice none 0 0) [] (fun _ => 0) (fun _ => 0) :=
  ⟨World.ownsRow_nil W lo _ _, ⟨fun i hi => absurd hi (by simp), fun i j _ hj => absurd hj (by simp)⟩⟩
theorem AccV.snoc {w w1 w3 : World} {lo : Nat} {v v' : Value} {pre : List (List Nat)} {x : List Nat} {gs cs : Nat → Nat} {g c lo1 : Nat} (h : AccV w lo v pre gs cs) (hx : clip x = x) (hl : lo ≤ w.heap.size) (hb : Below w.heap.size w w1)
    (hn : w1.ownsRow lo1 3 1 (.slice (some ⟨g, 0, none⟩) x.length c) x.length (plist x)) (hlo : w.heap.size ≤ lo1)
    (h3 : w3.ownsRow lo 27 1 v' (pre.length + 1) (rowVs pre gs cs ++ [.slice (some ⟨g, 0, none⟩) x.length c])) (hgr : (w1.alloc (.cells #[.slice (some ⟨g, 0, none⟩) x.length c] 27)).grownBy w3 v.ownBlock) :
    AccV w3 lo v' (pre ++ [x]) (upd' gs pre.length g) (upd' cs pre.length c) ∧ Below lo w w3 := by
  have hA := (h.kept hb).own
  have hown : ∀ (k : Nat) (ce : Array Value) (fr : Nat × Nat), w1.heap[k]? = some (Obj.cells ce 3 fr) → some k ≠ v.ownBlock := fun k ce fr hk e => by
    rcases hA.2 with ⟨q, _⟩ | ⟨G, cap, cur, q, _, hG, _⟩
    · rw [q] at e; simp [Value.ownBlock] at e
    · rw [q] at e
      simp [Value.ownBlock] at e
      subst e
      rw [hG] at hk; cases hk
  have hlow : ∀ k, k < lo → some k ≠ v.ownBlock := fun k hk e => by
    rcases hA.2 with ⟨q, _⟩ | ⟨G, cap, cur, q, hG, _⟩
    · rw [q] at e; simp [Value.ownBlock] at e
    · rw [q] at e
      simp [Value.ownBlock] at e
      omega
  have same : ∀ (k : Nat) (ce : Array Value) (fr : Nat × Nat), w1.heap[k]? = some (Obj.cells ce 3 fr) → w3.heap[k]? = w1.heap[k]? := fun k ce fr hk => by
    have hkl := (Array.getElem?_eq_some_iff.1 hk).1
    exact (hgr.block k (by simp; omega) (hown k ce fr hk)).trans (Below.heap_alloc _ _ _ hkl)
  have hsz : w1.heap.size + 1 ≤ w3.heap.size := by have := hgr.size; simpa using this
  have hs1 := hb.size
  have hl2 : (pre ++ [x]).length = pre.length + 1 := by simp
  obtain ⟨cg, fg, hgb, hgl⟩ := row_type (g := g) (c := c) hn rfl
  refine ⟨⟨?_, ?_⟩, ⟨hgr.os.trans hb.os, hgr.tape.trans hb.tape, hgr.output.trans hb.output, by omega, fun k hk => ?_⟩⟩
  · rw [rowVs_snoc, hl2, hx]; exact h3
  · refine h.row.snoc (h.row.kept (by omega) (fun k ce fr hk => ?_)) ?_ (by omega)
    · have e := hb.block k (Array.getElem?_eq_some_iff.1 hk).1
      exact (same k ce fr (e.trans hk)).trans e
    · rw [hx]; exact own_low (own_at hn (same g cg fg hgb)) (by omega)
  · exact (hgr.block k (by simp; omega) (hlow k hk)).trans ((Below.heap_alloc _ _ _ (by omega)).trans (hb.block k (by omega)))
theorem rws_down {W : World} {lo lo' : Nat} {pre : List (List Nat)} {gs cs : Nat → Nat} (h : Rws W lo pre gs cs) (hl : lo' ≤ lo) : Rws W lo' pre gs cs := ⟨fun i hi => own_low (h.row i hi) hl, h.ne⟩
/-- what was put together, told as an answer -/
theorem AccV.told {W : World} {lo lo' : Nat} {v : Value} {ps : List (List Nat)} {gs cs : Nat → Nat} (h : AccV W lo v ps gs cs) (hl : lo' ≤ lo) : ∃ ao cap, v = .slice ao ps.length cap ∧ AllR W lo' ao ps := by
  rcases h.own.2 with ⟨q1, q2⟩ | ⟨G, c, cur, q1, q2, _⟩
  · have e := List.length_eq_zero_iff.1 q2
    subst e
    exact ⟨none, 0, q1, Or.inl ⟨rfl, rfl⟩⟩
  · have HO := h.own
    rw [q1] at HO
    refine ⟨some ⟨G, 0, none⟩, c, q1, Or.inr ⟨G, gs, cs, rfl, by omega, ?_, rws_down h.row hl, ?_⟩⟩
    · by_cases h0 : ps.length = 0
      · obtain ⟨ce, fr, hb, _⟩ := row_type (g := G) (c := c) HO rfl
        exact ⟨fun j hj => absurd hj (by omega), fun j => HO.frozenAt j, (Array.getElem?_eq_some_iff.1 hb).1⟩
      · obtain ⟨g', cap', e, r1, r2⟩ := HO.form (by omega)
        simp only [Value.slice.injEq, Option.some.injEq, Addr.mk.injEq, and_true, true_and] at e
        obtain ⟨rfl, _⟩ := e
        refine ⟨fun j hj => ?_, fun j => HO.frozenAt j, r2⟩
        rw [HO.cellAt j (by omega)]
        simp [rowVs, hj]
    · intro i hi e
      obtain ⟨c1, f1, hb1, _⟩ := row_type (g := gs i) (c := cs i) (h.row.row i hi) rfl
      obtain ⟨c2, f2, hb2, _⟩ := row_type (g := G) (c := c) HO rfl
      rw [e, hb2] at hb1
      simp at hb1
/-- what stands while rings are told -/
structure Rgs (w5 wr : World) (A : Nat) (vs us : List (Int × Int)) (aoU : Option Addr) (v : Value) (pre : List (List Nat)) (gs cs : Nat → Nat) : Prop where
  B : Below w5.heap.size w5 wr
  U : OwnI wr A 8 (pcellN (parN 8 vs))
  T : TiesIn wr w5.heap.size aoU us
  a : AccV wr w5.heap.size v pre gs cs
  hA : A < w5.heap.size
end Go.Proofs.YtiaeffpjcinilaaDoor

/- Walk of spec.TreeRings. -/
namespace Go.Proofs.YtiaeffpjcinilaaDoor
open Go.RowKit
set_option linter.unusedVariables false

/-- the rings of the first ties -/
def ringsTo (K : Int) (ts : List (Int × Int)) (i : Nat) : List (List Nat) := ((ts.take i).filter (fun t => !decide (t ∈ treeTs K ts))).map fun t => findB K (treeTs K ts) t.2 t.1
theorem ringsTo_zero (K : Int) (ts : List (Int × Int)) : ringsTo K ts 0 = [] := rfl
theorem ringsTo_end {K : Int} {ts : List (Int × Int)} (h : okB K ts = true) : ringsTo K ts ts.length = ringsB K ts := by
  unfold ringsTo ringsB; rw [List.take_length, restTs_yes h]
theorem ringsTo_len (K : Int) (ts : List (Int × Int)) (i : Nat) : (ringsTo K ts i).length ≤ i := by
  unfold ringsTo
  rw [List.length_map]
  refine Nat.le_trans (List.length_filter_le _ _) ?_
  simp; omega
theorem ringsTo_in {K : Int} {ts : List (Int × Int)} {i : Nat} (hi : i < ts.length) (h : (tA ts i, tB ts i) ∈ treeTs K ts) : ringsTo K ts (i + 1) = ringsTo K ts i := by
  unfold ringsTo
  have e : ts[i] = (tA ts i, tB ts i) := by simp [tA, tB, hi]
  rw [List.take_add_one, List.getElem?_eq_getElem hi, List.filter_append, e]
  simp [h]
theorem ringsTo_out {K : Int} {ts : List (Int × Int)} {i : Nat} (hi : i < ts.length) (h : (tA ts i, tB ts i) ∉ treeTs K ts) : ringsTo K ts (i + 1) = ringsTo K ts i ++ [findB K (treeTs K ts) (tB ts i) (tA ts i)] := by
  unfold ringsTo
  have e : ts[i] = (tA ts i, tB ts i) := by simp [tA, tB, hi]
  rw [List.take_add_one, List.getElem?_eq_getElem hi, List.filter_append, e]
  simp [h]

theorem grown_on {w w1 w3 : World} {o : Obj} {row : Option Nat} (hb : Below w.heap.size w w1) (hgr : (w1.alloc o).grownBy w3 row) : w.grownBy w3 row :=
  ⟨hgr.os.trans hb.os, hgr.tape.trans hb.tape, hgr.output.trans hb.output, by have h1 := hb.size; have h2 := hgr.size; simp at h2; omega, fun k hk hne => by
    have h1 := hb.size
    exact (hgr.block k (by simp; omega) hne).trans ((Below.heap_alloc _ _ _ (by omega)).trans (hb.block k hk))⟩
theorem NetV.grown {w w' : World} {A r : Nat} {K : Int} {ao : Option Addr} {cap : Nat} {ts : List (Int × Int)} (h : NetV w A K ao cap ts) (g : w.grownBy w' (some r)) (hA : A ≠ r) (ha : ∀ b, ao = some b → b.block ≠ r) : NetV w' A K ao cap ts := by
  have e := g.block A h.lt (by simpa using hA)
  refine ⟨(World.cell?_of_block (a := ⟨A, 0, none⟩) e).trans h.c0, (World.cell?_of_block (a := ⟨A, 1, none⟩) e).trans h.c1, Nat.lt_of_lt_of_le h.lt g.size, fun j hj => ?_⟩
  obtain ⟨b, off, e2, hb, q0, q1⟩ := h.ties j hj
  have e3 := g.block b hb (by have := ha _ e2; simpa using this)
  exact ⟨b, off, e2, Nat.lt_of_lt_of_le hb g.size, (World.cell?_of_block (a := ⟨b, off + j * 2, none⟩) e3).trans q0, (World.cell?_of_block (a := ⟨b, off + j * 2 + 1, none⟩) e3).trans q1⟩
/-- the tree's net in its variable, all of it behind what lay there -/
def TreeSt (w0 W : World) (XB : Nat) (K : Int) (ao : Option Addr) (cap : Nat) (vs : List (Int × Int)) : Prop := CutSt w0 W XB K ao cap vs ∧ (∀ b, ao = some b → w0.heap.size ≤ b.block) ∧ w0.heap.size ≤ XB
theorem OwnN.low {w : World} {lo hi n : Nat} {ao : Option Addr} {f : Nat → Value} (h : OwnN w lo hi ao n f) : ∀ b, ao = some b → lo ≤ b.block := by
  intro b hb
  rcases h with ⟨_, e⟩ | ⟨g, e, h1, _⟩
  · rw [e] at hb; cases hb
  · rw [e] at hb; cases hb; exact h1
theorem alloc_lt {w wb : World} {u : Value} (hb : Below w.heap.size w wb) (h : wb.cell? ⟨w.heap.size, 0, none⟩ = some u) : w.heap.size + 1 ≤ wb.heap.size := by
  by_cases hl : w.heap.size < wb.heap.size
  · omega
  · have : wb.heap[w.heap.size]? = none := Array.getElem?_eq_none (by omega)
    simp [World.cell?, this] at h
theorem found_of {K : Int} {ts : List (Int × Int)} {a b : Int} (h : 0 < (findB K ts a b).length) : foundB K ts a b = true := by
  unfold findB at h; unfold foundB
  cases e : (waysB K ts a b).head? with
  | none => rw [e] at h; simp at h
  | some p => rfl
/-- what stands while rings are told: nothing but the row of rows has changed -/
structure Rgt (w w3 wr : World) (v : Value) (pre : List (List Nat)) (gs cs : Nat → Nat) : Prop where
  g : w3.grownBy wr (some (w.heap.size + 1))
  a : AccV wr (w.heap.size + 1) v pre gs cs
  o : ∀ k, v.ownBlock = some k → k = w.heap.size + 1 ∨ w3.heap.size ≤ k
theorem grown_wide {w3 wr wx : World} {r : Nat} {row : Option Nat} (h : w3.grownBy wr (some r)) (g : wr.grownBy wx row) (ho : ∀ k, row = some k → k = r ∨ w3.heap.size ≤ k) : w3.grownBy wx (some r) :=
  ⟨g.os.trans h.os, g.tape.trans h.tape, g.output.trans h.output, Nat.le_trans h.size g.size, fun k hk hne => by
    refine (g.block k (Nat.lt_of_lt_of_le hk h.size) (fun e => ?_)).trans (h.block k hk hne)
    rcases ho k e.symm with q | q
    · subst q; exact hne rfl
    · omega⟩
theorem below_grown {w3 wr wx : World} {r : Nat} (h : w3.grownBy wr (some r)) (hb : Below wr.heap.size wr wx) : w3.grownBy wx (some r) :=
  ⟨hb.os.trans h.os, hb.tape.trans h.tape, hb.output.trans h.output, Nat.le_trans h.size hb.size, fun k hk hne => (hb.block k (Nat.lt_of_lt_of_le hk h.size)).trans (h.block k hk hne)⟩
theorem grown_below {w3 wr : World} {r : Nat} (h : w3.grownBy wr (some r)) (hr : r ≤ w3.heap.size) : Below r w3 wr :=
  ⟨h.os, h.tape, h.output, h.size, fun k hk => h.block k (by omega) (by intro e; cases e; omega)⟩
theorem in_tree {K : Int} {ts vs : List (Int × Int)} (h : okB K vs = true) {x y : Nat} (hxy : x < y) : tieNB vs x y = true ↔ ((x : Int), (y : Int)) ∈ vs := by
  have e := hasB_mem (a := (x : Int)) (b := (y : Int)) h
  rw [hasB_ok h] at e
  have e2 : tieOf (x : Int) (y : Int) = ((x : Int), (y : Int)) := by unfold tieOf; rw [Int.min_eq_left (by omega), Int.max_eq_right (by omega)]
  rw [e2] at e; exact e

end Go.Proofs.YtiaeffpjcinilaaDoor
