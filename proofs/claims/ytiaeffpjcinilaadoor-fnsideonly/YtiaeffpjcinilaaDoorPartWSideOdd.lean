/- Texts put together: WSideOdd, WSideOddS. -/
import Derived.Test.YtiaeffpjcinilaaDoorPartWSideT
import Derived.Test.YtiaeffpjcinilaaDoorPartWHang
/- Walk of impl.SideOdd. -/
namespace Go.Proofs.YtiaeffpjcinilaaDoor
open Go.RowKit
set_option linter.unusedVariables false

def oddV (K : Int) (ts : List (Int × Int)) : Bool := okB K ts && (oddS K ts).isSome
def oddW (K : Int) (ts : List (Int × Int)) (o : Option (Int × Int)) : List Nat := (o.map fun t => findB K (treeTs K ts) t.2 t.1).getD []
def oddL (K : Int) (ts : List (Int × Int)) : List Nat := if okB K ts = true then oddW K ts (oddS K ts) else []
theorem oddV_no {K : Int} {ts : List (Int × Int)} (h : okB K ts = false) : oddV K ts = false ∧ oddL K ts = [] := by
  unfold oddV oddL; rw [h]; exact ⟨rfl, if_neg (by simp)⟩
theorem oddV_yes {K : Int} {ts : List (Int × Int)} (h : okB K ts = true) : oddV K ts = (oddS K ts).isSome ∧ oddL K ts = oddW K ts (oddS K ts) := by
  unfold oddV oddL; rw [h]; exact ⟨rfl, if_pos rfl⟩
/-- of a net that is none the program goes on with no ties -/
theorem odd_go (K : Int) (ts : List (Int × Int)) : ∃ (K' : Int) (vs : List (Int × Int)), okB K' vs = true ∧ setN K ts = setN K' vs ∧ oddV K ts = (oddS K' vs).isSome ∧ oddL K ts = oddW K' vs (oddS K' vs) := by
  cases h : okB K ts with
  | true => exact ⟨K, ts, h, rfl, oddV_yes h⟩
  | false =>
    obtain ⟨h1, h2⟩ := oddV_no h
    have h0 : okB 8 [] = true := by decide
    refine ⟨8, [], h0, ?_, ?_, ?_⟩
    · rw [setN_no h, setN_yes h0]; rfl
    · rw [h1]; rfl
    · rw [h2]; rfl
theorem odd_mem {K : Int} {ts : List (Int × Int)} {t : Int × Int} (h : oddS K ts = some t) : t ∈ ts := List.mem_of_find?_eq_some h

set_option maxHeartbeats 1600000 in
theorem implSideOdd_any (K : Int) (ao : Option Addr) (cap : Nat) (ts : List (Int × Int)) (w : World) (hn : ts.length ≤ 1099511627776) (ht : TiesIn w w.heap.size ao ts) (hT : Tab w) :
    Calls Tryd.prog 20 #[.agg #[.int .i64 K, .slice ao ts.length cap]] w fun e w' => ∃ ao' cap', e = .returned (.tuple #[.slice ao' (oddL K ts).length cap', .bool (oddV K ts)]) ∧ OwnR w' w.heap.size w'.heap.size ao' (oddL K ts).length (pcellN (pn (oddL K ts))) ∧ Below w.heap.size w w' := by
  have X0 := fun (t : TypeId) => Bx.start w K (.slice ao ts.length cap) t
  have HX0 := hideP X0
  have HT := hideP ht
  have HTab := hideP hT
  clear X0 ht hT
  obtain ⟨K', vs, hok, hset, hoV, hoL⟩ := odd_go K ts
  obtain ⟨q, hq⟩ : ∃ q, q = okB K ts := ⟨_, rfl⟩
  have HQ := hideP hq
  have HSET := hideP hset
  obtain ⟨o, ho⟩ : ∃ o, oddS K' vs = o := ⟨_, rfl⟩
  have HO := hideP ho
  rw [ho] at hoV hoL
  have HOV := hideP hoV
  have HOL := hideP hoL
  obtain ⟨V, hV⟩ : ∃ V, V = oddV K ts := ⟨_, rfl⟩
  obtain ⟨L, hL⟩ : ∃ L, L = oddL K ts := ⟨_, rfl⟩
  rw [← hV] at HOV ⊢
  rw [← hL] at HOL ⊢
  clear hV hL ho
  have HOK := hideP hok
  have HM := hideP (tree_set hok)
  have HUK := hideP (treeTs_ok hok)
  have HTR := hideP (tree_trn hok).eight
  have hK8 := (okB_iff.1 hok).2.1
  have hK0 := (okB_iff.1 hok).1
  have HRS := hideP (fun (t : Int × Int) (ht : t ∈ vs) => rst_of hok ht)
  have HMEM := hideP (fun (t : Int × Int) (h : oddS K' vs = some t) => odd_mem h)
  clear hok hset hoV hoL hq
  go_enter Tryd.func20, Tryd.ntmps20
  go_wp2_with fail
  refine (pairsOf_any K ao cap ts _ hn ((HT.out.below (HX0.out _).B (Nat.le_refl _)).wide (Nat.le_of_lt (HX0.out _).lt))).mono ?_
  rw [HSET.out, ← HQ.out]
  rintro e w2 ⟨rfl, hb1⟩
  have B2 := hideP ((HX0.out _).next hb1).B
  have T2 := hideP (HTab.out.below B2.out HTab.out.2)
  clear hb1 HX0 HT
  go_wp2_with fail
  refine (treeM_any K' vs _ T2.out HOK.out).mono ?_
  rw [HM.out]
  rintro e w3 ⟨rfl, hb3⟩
  have B3 := hideP (B2.out.trans (hb3.mono B2.out.size))
  have T3 := hideP (T2.out.below hb3 T2.out.2)
  clear hb3 T2 B2
  go_wp2_with fail
  refine (sidesBy_any (treeTs K' vs) (ok_8 HUK.out) HTR.out _ T3.out).mono ?_
  rintro e w4 ⟨rfl, hb4⟩
  have B4 := hideP (B3.out.trans (hb4.mono B3.out.size))
  have T4 := hideP (T3.out.below hb4 T3.out.2)
  clear hb4 T3 B3
  have HFO := hideP (fun t' => forest_own w4 (sdN (treeTs K' vs)) t')
  have T5 := hideP (fun o => T4.out.alloc o)
  have HIN := hideP (fun t' => sides_in (HFO.out t') (HFO.out t').2.2)
  have B5 := hideP (fun o => B4.out.trans ((below_one w4 o).mono B4.out.size))
  unfold forestV
  have hs8 := sd8_len K' vs
  obtain ⟨xs, hxs⟩ : ∃ xs, xs = sd8 K' vs := ⟨_, rfl⟩
  rw [← hxs] at HIN hs8
  have HXO : Hid (oddT vs xs = o) := hideP (by rw [hxs]; exact HO.out)
  have HS8 := hideP hs8
  clear hs8 hxs T4 B4
  go_wp2_with fail
  refine (tieWithin_is o K' vs _ 8 8 xs _ HS8.out (T5.out _) HOK.out (HIN.out _) hK8 (by omega) HXO.out).mono ?_
  unfold odV
  rintro e w6 ⟨rfl, hb6⟩
  have B6 := hideP ((B5.out _).trans (hb6.mono (B5.out _).size))
  have T6 := hideP ((T5.out _).below hb6 (T5.out _).2)
  clear hb6 B5 T5 HIN HFO
  cases o with
  | none =>
    have HB := hideP (fun o => B6.out.trans ((below_one w6 o).mono B6.out.size))
    clear B6 T6
    go_wp2
    go_ret2
    exact ⟨none, 0, by rw [HOL.out, HOV.out]; rfl, by rw [HOL.out]; exact Or.inl ⟨rfl, rfl⟩, HB.out _⟩
  | some t =>
    obtain ⟨x, y, R⟩ := HRS.out t (HMEM.out t HO.out)
    have e2 := R.eq
    subst e2
    have hx8 : x < 8 := by have := R.lt; have := R.kn; omega
    have hy8 : y < 8 := by have := R.kn; omega
    have hq2 : oddW K' vs (some ((x : Int), (y : Int))) = findB K' (treeTs K' vs) (y : Int) (x : Int) := rfl
    have hw := R.way
    have hs8 := R.same
    have htop := R.top
    rw [hq2] at HOL
    obtain ⟨q2, hqq⟩ : ∃ q2, q2 = findB K' (treeTs K' vs) (y : Int) (x : Int) := ⟨_, rfl⟩
    rw [← hqq] at hw hs8 HOL
    have hq0 := hw.pos
    have hq8 := hw.le
    have WAY : Hid (∀ W A, OwnI W A 8 (pcellN (parN 8 (treeTs K' vs))) → Calls Tryd.prog 55 #[.pointer (some ⟨A, 0, none⟩), .int .i64 (y : Int), .int .i64 (x : Int)] W fun e w' => e = .returned (pathV (cI q2)) ∧ Below W.heap.size W w') := fun W A h => by
      have := wayUp_any (treeTs K' vs) HTR.out A y x W h hy8 hx8 htop
      rw [hs8] at this; exact this
    have HLI := hideP (fun W => list_any q2 W hq0 hq8)
    have T7 := hideP (fun o => T6.out.alloc o)
    have B7 := hideP (fun o => B6.out.trans ((below_one w6 o).mono B6.out.size))
    obtain ⟨m, hm⟩ : ∃ m, m = q2.length := ⟨_, rfl⟩
    rw [← hm] at HLI hq0 hq8
    have HMM := hideP hm
    clear hw hs8 htop hq2 hqq hm R T6 B6 HRS HMEM HM
    go_wp2_with fail
    refine (parentsOf_any 8 (treeTs K' vs) _ (T7.out _) (ok_8 HUK.out) HTR.out).mono ?_
    rintro e w8 ⟨rfl, hb8⟩
    have HPO := hideP (fun t' => forest_own w8 (parN 8 (treeTs K' vs)) t')
    have B8 := hideP ((B7.out _).trans (hb8.mono (B7.out _).size))
    have d0 : w8.cell? ⟨w6.heap.size, 0, none⟩ = some (.int .i64 (x : Int)) := (hb8.cell (p := ⟨w6.heap.size, 0, none⟩) (by simp)).trans (World.cell?_alloc_at _ _ _ _ rfl)
    have d1 : w8.cell? ⟨w6.heap.size, 1, none⟩ = some (.int .i64 (y : Int)) := (hb8.cell (p := ⟨w6.heap.size, 1, none⟩) (by simp)).trans (World.cell?_alloc_at _ _ _ _ rfl)
    have hl8 : w6.heap.size < w8.heap.size := by have := hb8.size; rw [World.size_alloc] at this; omega
    have D0 := fun o => ((below_one w8 o).cell (p := ⟨w6.heap.size, 0, none⟩) hl8).trans d0
    have D1 := fun o => ((below_one w8 o).cell (p := ⟨w6.heap.size, 1, none⟩) hl8).trans d1
    unfold forestV
    clear hb8 T7 B7 d0 d1
    go_wp2_with fail
    refine (WAY.out _ w8.heap.size (HPO.out _)).mono ?_
    rintro e w9 ⟨rfl, hb9⟩
    have B9 := hideP (((B8.out).trans ((below_one w8 _).mono B8.out.size)).trans (hb9.mono (B8.out.trans ((below_one w8 _).mono B8.out.size)).size))
    clear hb9 HPO B8
    go_wp2_with fail
    refine (HLI.out w9).mono ?_
    rintro e w10 ⟨g, c, rfl, ho, hb10⟩
    have HOW := hideP ((row_own ho HMM.out hq0))
    have B10 := hideP (B9.out.trans (hb10.mono B9.out.size))
    have O10 : Hid (OwnR w10 w.heap.size w10.heap.size (some ⟨g, 0, none⟩) m (pcellN (pn q2))) := hideP (Or.inr ⟨g, rfl, by have h1 := HOW.out.2.1; have h2 := B9.out.size; omega, HOW.out.2.2, HOW.out.1⟩)
    clear ho hb10 B9 HOW
    go_wp2
    go_ret2
    exact ⟨some ⟨g, 0, none⟩, c, by rw [HOL.out, HOV.out, ← HMM.out]; rfl, by rw [HOL.out, ← HMM.out]; exact O10.out, B10.out⟩

end Go.Proofs.YtiaeffpjcinilaaDoor

/- Walk of spec.SideOdd. -/
namespace Go.Proofs.YtiaeffpjcinilaaDoor
open Go.RowKit
set_option linter.unusedVariables false

theorem sameB_nat (xs : List Int) (x y : Nat) : sameB xs ((x : Int), (y : Int)) = (xi xs x == xi xs y) := rfl
set_option maxHeartbeats 3200000 in
theorem specSideOdd_any (K : Int) (ao : Option Addr) (cap : Nat) (ts : List (Int × Int)) (w : World) (hn : ts.length ≤ 1099511627776) (ht : TiesIn w w.heap.size ao ts) :
    Calls Tryd.prog 23 #[.agg #[.int .i64 K, .slice ao ts.length cap]] w fun e w' => ∃ g off cap', e = .returned (.tuple #[.slice (some ⟨g, off, none⟩) (oddL K ts).length cap', .bool (oddV K ts)]) ∧ RowS w' w.heap.size g off cap' (oddL K ts) ∧ Below w.heap.size w w' := by
  have X0 := fun (t : TypeId) => Bx.start w K (.slice ao ts.length cap) t
  have HX0 := hideP X0
  have HT := hideP ht
  clear X0 ht
  obtain ⟨v, hv⟩ : ∃ v, okB K ts = v := ⟨_, rfl⟩
  have HOK := hideP hv
  obtain ⟨V, hV⟩ : ∃ V, V = oddV K ts := ⟨_, rfl⟩
  obtain ⟨L, hL⟩ : ∃ L, L = oddL K ts := ⟨_, rfl⟩
  have HOV := hideP hV
  have HOL := hideP hL
  rw [← hV, ← hL]
  clear hv hV hL
  go_enter Tryd.func23, Tryd.ntmps23
  go_wp2_with fail
  refine (specOk_is v K ao cap ts _ hn ((HT.out.below (HX0.out _).B (Nat.le_refl _)).wide (Nat.le_of_lt (HX0.out _).lt)) HOK.out).mono ?_
  rintro e w2 ⟨rfl, hb1⟩
  have X2 := hideP ((HX0.out _).next hb1)
  have c0 := X2.out.c0
  have c1 := X2.out.c1
  clear hb1 HX0
  cases v with
  | false =>
    have HN := hideP (oddV_no HOK.out)
    have HB := hideP (fun o => (X2.out.next (below_one w2 o)).B)
    have HR := hideP (fun t => (RowS.new w2 t).down X2.out.B.size)
    clear X2
    go_wp2
    go_ret2
    exact ⟨w2.heap.size, 0, 0, by rw [HOL.out, HOV.out, HN.out.1, HN.out.2]; rfl, by rw [HOL.out, HN.out.2]; exact HR.out _, HB.out _⟩
  | true =>
    have T2 := hideP ((HT.out.below X2.out.B (Nat.le_refl _)).wide X2.out.B.size)
    go_wp2_with fail
    refine (specSides_any K ao cap ts _ hn T2.out HOK.out).mono ?_
    rintro e w0 ⟨gs, os, cs, rfl, hR, hb3⟩
    have X1 := hideP (X2.out.next hb3)
    have R1 := hideP (hR.down X2.out.B.size)
    obtain ⟨n, hnn⟩ : ∃ n, n = K.toNat := ⟨_, rfl⟩
    have hn8 : n ≤ 8 := by have := (okB_iff.1 HOK.out).2.1; omega
    have HKn : Hid (K = (n : Int)) := hideP (by have := (okB_iff.1 HOK.out).1; omega)
    have HLN : Hid ((sdL K ts).length = n) := hideP (by rw [sdL_len, hnn])
    rw [← hnn]
    clear hb3 hR X2 T2 hnn c0 c1
    have T1 := hideP ((HT.out.below X1.out.B (Nat.le_refl _)).wide X1.out.B.size)
    have T0d := hideP (T1.out.below (Below.refl _ _).drew (Nat.le_refl _))
    have bo := below_one w0.drew (.cells #[.int .i64 0, .slice none 0 0] 25)
    have T0e := hideP ((T0d.out.below bo (Nat.le_refl _)).wide bo.size)
    have HELD : Hid (∀ W, Below w0.heap.size w0 W → W.cell? ⟨w.heap.size, 0, none⟩ = some (.int .i64 K) ∧ W.cell? ⟨w.heap.size, 1, none⟩ = some (.slice ao ts.length cap)) := fun W hb => ⟨(X1.out.next hb).c0, (X1.out.next hb).c1⟩
    have B0 : Hid (Below w0.heap.size w0 w0.drew) := (Below.refl _ _).drew
    have B1 : Hid (Below w0.heap.size w0 (w0.drew.alloc (.cells #[.int .i64 0, .slice none 0 0] 25))) := (Below.refl _ _).drew.alloc (Nat.le_refl _) _
    have HXE : Hid ((w0.drew.alloc (.cells #[.int .i64 0, .slice none 0 0] 25)).heap[w0.heap.size]? = some (Obj.cells #[.int .i64 0, .slice none 0 0] 25 (0, 0))) := World.alloc_heap_new w0.drew _
    have hszE : (w0.drew.alloc (.cells #[.int .i64 0, .slice none 0 0] 25)).heap.size = w0.heap.size + 1 := World.size_alloc _ _
    obtain ⟨vs, hvs⟩ : ∃ vs, vs = treeTs K ts := ⟨_, rfl⟩
    have HVS := hideP hvs
    clear hvs bo
    go_wp2
    apply wp_weakC (J := fun XB ao cap W => TreeSt w0 W XB K ao cap vs)
    case h =>
      go_region_held3 (fun w' => w'.cell? ⟨w.heap.size, 0, none⟩ = some (.int .i64 K) ∧ w'.cell? ⟨w.heap.size, 1, none⟩ = some (.slice ao ts.length cap)) (first | exact HELD.out _ bX.out | exact HELD.out _ (bX.out.alloc bX.out.size _) | exact HELD.out _ ((bX.out.setCell (p := ⟨w0.heap.size, 0, none⟩) (Nat.le_refl _) _).setCell (p := ⟨w0.heap.size, 1, none⟩) (Nat.le_refl _) _) | exact HELD.out _ B1.out | exact HELD.out _ B0.out) (first | (go_at_call 32; refine (specTree_any K ao cap ts _ hn T0d.out).mono ?_; rw [← HVS.out]; rintro e w6 ⟨aoX, capX, rfl, ho6, hb6⟩; have bX : Hid (Below w0.heap.size w0 w6) := hideP (B0.out.trans hb6); have O6 : Hid (OwnN w6 w0.heap.size w6.heap.size aoX vs.length (tcell vs)) := hideP ho6; clear hb6 ho6) | (go_at_call 32; refine (specTree_any K ao cap ts _ hn T0e.out).mono ?_; rw [← HVS.out]; rintro e w6 ⟨aoX, capX, rfl, ho6, hb6⟩; rw [hszE] at ho6 hb6; have bX : Hid (Below w0.heap.size w0 w6) := hideP (B1.out.trans (hb6.mono (Nat.le_succ _))); have O6e : Hid (OwnN w6 (w0.heap.size + 1) w6.heap.size aoX vs.length (tcell vs)) := hideP ho6; have HX6 : Hid (w6.heap[w0.heap.size]? = some (Obj.cells #[.int .i64 0, .slice none 0 0] 25 (0, 0))) := hideP ((hb6.block w0.heap.size (Nat.lt_succ_self _)).trans HXE.out); obtain ⟨xc0, xc1, xf⟩ := two_cells HX6.out; clear hb6 ho6))
      all_goals
        first
        | (have JJ : TreeSt w0 _ w0.heap.size K aoX capX vs := ⟨CutSt.put (K := K) (cap := capX) HX6.out O6e.out bX.out, fun b e => Nat.le_of_succ_le (O6e.out.low b e), Nat.le_refl _⟩
           generalize w0.heap.size = XB at JJ ⊢
           exact ⟨XB, aoX, capX, rfl, JJ⟩)
        | (have JJ : TreeSt w0 (w6.alloc (.cells #[.int .i64 K, .slice aoX vs.length capX] 25)) w6.heap.size K aoX capX vs := ⟨⟨NetV.new _ (O6.out.ties (Nat.le_refl _)), bX.out.alloc bX.out.size _⟩, O6.out.low, bX.out.size⟩
           generalize w6.heap.size = XB at JJ ⊢
           exact ⟨XB, aoX, capX, rfl, JJ⟩)
    intro XB aoX capX W hJ
    obtain ⟨⟨hX, hbW⟩, hlowA, hlowX⟩ := hJ
    have XN := hideP hX
    have X2 := hideP (X1.out.next hbW)
    have R2 := hideP (R1.out.next hbW)
    have HVN := hideP (show vs.length ≤ 64 by rw [HVS.out]; exact treeTs_len K ts)
    have HVK := hideP (treeTs_ok HOK.out)
    rw [← HVS.out] at HVK
    have c0 := X2.out.c0
    have c1 := X2.out.c1
    clear hX hbW hlowA hlowX HELD B0 B1 HXE hszE T0d T0e T1 X1 R1
    obtain ⟨xs, hxs⟩ : ∃ xs, xs = (sdL K ts).map fun (x : Nat) => (x : Int) := ⟨_, rfl⟩
    have HXS := hideP hxs
    have HXL : Hid (xs.length = n) := hideP (by rw [hxs, List.length_map]; exact HLN.out)
    have HSO : Hid (oddT ts xs = oddS K ts) := hideP (by rw [hxs]; exact odd_sdL HOK.out)
    have HI : Hid (IntsIn W W.heap.size (some ⟨gs, os, none⟩) xs) := hideP (by rw [hxs]; exact row_ints R2.out)
    clear hxs
    go_wp2
    go_loopw [6] (fun iv wr => ∃ j : Nat, j ≤ ts.length ∧ iv = .int .i64 (j : Int) ∧ (∀ q, q < j → sameB xs (tA ts q, tB ts q) = false) ∧ Below W.heap.size W wr)
      (fun iv _ => ts.length - (intOf iv).toNat)
    case atStart => exact ⟨0, Nat.zero_le _, rfl, fun q hq => by omega, Below.refl _ _⟩
    case round =>
      obtain ⟨j, hj, rfl, hpre, hBr⟩ := hrel
      have HP := hideP hpre
      have HBr := hideP hBr
      have Xr := hideP (X2.out.next hBr)
      have Nr := hideP (XN.out.next hBr)
      have Ir := hideP (HI.out.below hBr (Nat.le_refl _))
      clear hpre hBr c0 c1
      have c0 := Xr.out.c0
      have c1 := Xr.out.c1
      by_cases hlt : j < ts.length
      · obtain ⟨q1, q2, q3⟩ := (ok_parts HOK.out).2.2.1 ts[j] (List.getElem_mem hlt)
        rw [← tA_get ts j hlt] at q1 q2
        rw [← tB_get ts j hlt] at q2 q3
        obtain ⟨x, hx⟩ : ∃ x : Nat, tA ts j = (x : Int) := ⟨(tA ts j).toNat, by omega⟩
        obtain ⟨y, hy⟩ : ∃ y : Nat, tB ts j = (y : Int) := ⟨(tB ts j).toNat, by omega⟩
        have hKn := HKn.out
        have hxn : x < n := by omega
        have hyn : y < n := by omega
        obtain ⟨b, off, haoe, hbw, d0, d1⟩ := ((HT.out.below Xr.out.B (Nat.le_refl _)).wide Xr.out.B.size) j hlt
        rw [hx] at d0
        rw [hy] at d1
        subst haoe
        obtain ⟨g1, o1, e1, hg1, f0⟩ := Ir.out x (by rw [HXL.out]; exact hxn)
        obtain ⟨g2, o2, e2, hg2, f1⟩ := Ir.out y (by rw [HXL.out]; exact hyn)
        cases e1
        cases e2
        obtain ⟨wb, hwb⟩ : ∃ wb, wb = wr.alloc (.cells #[.int .i64 (x : Int), .int .i64 (y : Int)] 39) := ⟨_, rfl⟩
        have p0 : wb.cell? ⟨wr.heap.size, 0, none⟩ = some (.int .i64 (x : Int)) := by rw [hwb]; exact World.cell?_alloc_at _ _ _ _ rfl
        have p1 : wb.cell? ⟨wr.heap.size, 1, none⟩ = some (.int .i64 (y : Int)) := by rw [hwb]; exact World.cell?_alloc_at _ _ _ _ rfl
        have HBB : Hid (Below wr.heap.size wr wb) := by rw [hwb]; exact hideP (below_one _ _)
        have hgs' : gs < wr.heap.size := Nat.lt_of_lt_of_le hg1 HBr.out.size
        have f0' : wb.cell? ⟨gs, os + x, none⟩ = some (.int .i64 (xi xs x)) := (HBB.out.cell (p := ⟨gs, os + x, none⟩) hgs').trans f0
        have f1' : wb.cell? ⟨gs, os + y, none⟩ = some (.int .i64 (xi xs y)) := (HBB.out.cell (p := ⟨gs, os + y, none⟩) hgs').trans f1
        have NB := hideP (Nr.out.next HBB.out)
        have XB3 := hideP (Xr.out.next HBB.out)
        have HSB : Hid (sameB xs (tA ts j, tB ts j) = (xi xs x == xi xs y)) := hideP (by rw [hx, hy]; rfl)
        have hx0 : (0 : Int) ≤ (x : Int) := by omega
        have hxl : (x : Int) < (n : Int) := by omega
        have hy0 : (0 : Int) ≤ (y : Int) := by omega
        have hyl : (y : Int) < (n : Int) := by omega
        have hjl : (j : Int) < (ts.length : Int) := by omega
        have HXY : Hid (tA ts j = (x : Int) ∧ tB ts j = (y : Int)) := hideP ⟨hx, hy⟩
        obtain ⟨vx, hvx⟩ : ∃ v, v = xi xs x := ⟨_, rfl⟩
        obtain ⟨vy, hvy⟩ : ∃ v, v = xi xs y := ⟨_, rfl⟩
        rw [← hvx] at f0' HSB
        rw [← hvy] at f1' HSB
        clear f0 f1 hx hy q1 q2 q3 hvx hvy hKn Xr Nr Ir
        go_wp2
        rw [← hwb]
        clear hwb d0 d1
        go_wp2
        have ND := hideP (NB.out.next (Below.refl _ _).drew)
        have XD := hideP (XB3.out.next (Below.refl _ _).drew)
        have HBD := hideP ((HBr.out.trans (HBB.out.mono HBr.out.size)).drew)
        have x0 := ND.out.c0
        have x1 := ND.out.c1
        have k0 := XD.out.c0
        have k1 := XD.out.c1
        have P0 : wb.drew.cell? ⟨wr.heap.size, 0, none⟩ = some (.int .i64 (x : Int)) := p0
        have P1 : wb.drew.cell? ⟨wr.heap.size, 1, none⟩ = some (.int .i64 (y : Int)) := p1
        go_region_held3 (fun w' => w'.cell? ⟨wr.heap.size, 0, none⟩ = some (.int .i64 (x : Int)) ∧ w'.cell? ⟨wr.heap.size, 1, none⟩ = some (.int .i64 (y : Int)) ∧ w'.cell? ⟨gs, os + x, none⟩ = some (.int .i64 vx) ∧ w'.cell? ⟨gs, os + y, none⟩ = some (.int .i64 vy)) (first | exact ⟨p0, p1, f0', f1'⟩) (fail)
        clear p0 p1 f0' f1' NB XB3
        by_cases he : vx = vy
        · have he' : (vx == vy) = true := by simp [he]
          have ho : oddS K ts = some ((x : Int), (y : Int)) := by
            rw [← HSO.out, ← HXY.out.1, ← HXY.out.2]
            exact odd_at hlt HP.out (by rw [HSB.out]; exact he')
          have hL2 : V = true ∧ L = findB K vs (y : Int) (x : Int) := by
            obtain ⟨e1, e2⟩ := oddV_yes HOK.out
            rw [HOV.out, HOL.out, e1, e2, ho, HVS.out]; exact ⟨rfl, rfl⟩
          obtain ⟨x', y', R⟩ := rst_of HOK.out (odd_mem ho)
          have e2 := R.eq
          simp only [Prod.mk.injEq] at e2
          obtain ⟨ex, ey⟩ := e2
          have ex' : x' = x := by omega
          have ey' : y' = y := by omega
          subst ex'
          subst ey'
          have hw := R.way
          rw [← HVS.out] at hw
          have hfd := found_of hw.pos
          have hq0 := hw.pos
          have hq8 := hw.le
          have hvn : vs.length ≤ 1099511627776 := by have := HVN.out; omega
          rw [← hL2.2] at hq0 hq8
          have HLV := hideP hL2.1
          have hFI : ∀ W, TiesIn W W.heap.size aoX vs → Calls Tryd.prog 61 #[.agg #[.int .i64 K, .slice aoX vs.length capX], .int .i64 (y' : Int), .int .i64 (x' : Int)] W fun e w' => ∃ g cap', e = .returned (.tuple #[.slice (some ⟨g, 0, none⟩) L.length cap', .bool true]) ∧ w'.ownsRow W.heap.size 3 1 (.slice (some ⟨g, 0, none⟩) L.length cap') L.length (plist L) ∧ Below W.heap.size W w' := fun W h => by
            have hokv := HVK.out
            rw [HKn.out] at hokv hfd hL2 ⊢
            have := specFind0_any n aoX capX vs y' x' W hvn h hokv hyn hxn hfd
            rw [← hL2.2] at this; exact this
          have HFI := hideP hFI
          obtain ⟨m, hm⟩ : ∃ m, m = L.length := ⟨_, rfl⟩
          have HMM := hideP hm
          rw [← hm] at HFI hq0 hq8
          clear hFI hfd hw R hL2 ho ex ey HSB HP hm HXY
          go_wp2_with fail
          refine (HFI.out _ ND.out.ties).mono ?_
          rintro e w5 ⟨g5, c5, rfl, ho5, hb5⟩
          obtain ⟨g6, c6, e6, hR5⟩ := RowS.ofOwn (cap := 0) (xs := L) ho5 hq0
          cases e6
          have R5 := hideP (hR5.down XD.out.B.size)
          have HB := hideP (XD.out.next hb5).B
          clear ho5 hb5 hR5 ND XD x0 x1 k0 k1 P0 P1 HFI HBD
          go_wp2
          go_ret2
          exact ⟨_, 0, _, by rw [HLV.out, ← HMM.out]; rfl, R5.out, HB.out⟩
        · have he' : (vx == vy) = false := by simp [he]
          have HQ3 : Hid (∀ q, q < j + 1 → sameB xs (tA ts q, tB ts q) = false) := hideP (fun q hq => by
            rcases Nat.lt_or_ge q j with h | h
            · exact HP.out q h
            · obtain rfl : q = j := by omega
              rw [HSB.out]; exact he')
          clear HSB HP ND XD x0 x1 k0 k1 P0 P1 HXY
          go_wp2
          go_roundw
          case rel => exact ⟨j + 1, by omega, by go_num, HQ3.out, HBD.out⟩
          case measure => simp [intOf]; omega
      · obtain rfl : j = ts.length := by omega
        have ho : oddT ts xs = none := odd_end HP.out
        rw [HSO.out] at ho
        have HN : Hid (V = false ∧ L = []) := hideP (by
          obtain ⟨e1, e2⟩ := oddV_yes HOK.out
          rw [HOV.out, HOL.out, e1, e2, ho]; exact ⟨rfl, rfl⟩)
        have HB := hideP (fun o => (Xr.out.next (below_one wr o)).B)
        have HR := hideP (fun t => (RowS.new wr t).down Xr.out.B.size)
        clear HP HBr Xr Nr Ir ho
        go_wp2
        go_ret2
        exact ⟨wr.heap.size, 0, 0, by rw [HN.out.1, HN.out.2]; rfl, by rw [HN.out.2]; exact HR.out _, HB.out _⟩

end Go.Proofs.YtiaeffpjcinilaaDoor
