/- Walk of laws.FnFlowOk: it returns true. -/
import Derived.Test.YtljnjpjnadlmhaaWRowsQ
import Derived.Test.YtljnjpjnadlmhaaPartMathGA
import Derived.Test.YtljnjpjnadlmhaaLWayOk
import Derived.Test.YtljnjpjnadlmhaaWLo
namespace Go.Proofs.Ytljnjpjnadlmhaa
open Go.RowKit
set_option linter.unusedVariables false

theorem implFlowOk_n (v : Bool) (K : Int) (ao bo : Option Addr) (cap cap2 n : Nat) (ts : List (Int × Int)) (xss : List (List Int)) (a b : Int) (w : World) (hn : ts.length ≤ 1099511627776) (ht : TiesIn w w.heap.size ao ts) (hl : xss.length ≤ 1099511627776) (hx : RowsI w w.heap.size bo xss) (hnn : xss.length = n) (h : flowB K ts a b xss = v) :
    Calls Try.prog 8 #[.agg #[.int .i64 K, .slice ao ts.length cap], .int .i64 a, .int .i64 b, .slice bo n cap2] w fun e w' => e = .returned (.bool v) ∧ Below w.heap.size w w' := by
  rw [← hnn, ← h]; exact implFlowOk_any K ao bo cap cap2 ts xss a b w hn ht hl hx
theorem back_take {xss : List (List Int)} {m j : Nat} (hj : j < xss.length) (hm : m + j + 1 = xss.length) : (xss.reverse.map List.reverse).take (m + 1) = (xss.reverse.map List.reverse).take m ++ [(xss.getD j []).reverse] := by
  have hl : m < (xss.reverse.map List.reverse).length := by simp; omega
  rw [List.take_succ_eq_append_getElem hl]
  congr 1
  have e : (xss.reverse.map List.reverse)[m] = (xss.getD j []).reverse := by
    rw [List.getElem_map, List.getElem_reverse, List.getD_eq_getElem?_getD, List.getElem?_eq_getElem hj]
    simp only [Option.getD_some]
    congr 2
    omega
  rw [e]
set_option maxHeartbeats 3200000 in
theorem flowOk_walk (bo : Option Addr) (n cap : Nat) (bo2 : Option Addr) (n2 cap2 : Nat) (w : World) (hb : BytesIn w bo n) (hnil : bo = none → n = 0 ∧ cap = 0) (hc : n ≤ cap) (hm : cap ≤ maxLen) (hb2 : BytesIn w bo2 n2) (hnil2 : bo2 = none → n2 = 0 ∧ cap2 = 0) (hc2 : n2 ≤ cap2) (hm2 : cap2 ≤ maxLen) :
    Calls Try.prog 3 #[.slice bo n cap, .slice bo2 n2 cap2] w fun e w' => e = .returned (.bool true) ∧ Below w.heap.size w w' := by
  have hn' : n ≤ 9223372036854775807 := by unfold maxLen at hm; omega
  have hn2' : n2 ≤ 9223372036854775807 := by unfold maxLen at hm2; omega
  clear hb2 hnil2 hc2 hm2
  by_cases hl : 1048576 < n
  · have hl' : (1048576 : Int) < (n : Int) := by omega
    go_enter Try.func3, Try.ntmps3
    go_wp2
    go_ret
    exact ⟨rfl, Below.refl _ _⟩
  have hl' : decide ((1048576 : Int) < (n : Int)) = false := by simp; omega
  by_cases hl2 : 1048576 < n2
  · have hl2' : (1048576 : Int) < (n2 : Int) := by omega
    go_enter Try.func3, Try.ntmps3
    go_wp2
    go_ret
    exact ⟨rfl, Below.refl _ _⟩
  have hl2' : decide ((1048576 : Int) < (n2 : Int)) = false := by simp; omega
  go_enter Try.func3, Try.ntmps3
  go_wp2_with fail
  refine (drawFlowOk_any bo n cap _ hb hnil hc hm).mono ?_
  rintro e w1 ⟨K, ao, cap', ts, a, b, co, capC, xss, rfl, hroom, D1⟩
  have hn : ts.length ≤ 1099511627776 := by have := D1.short; omega
  have hn3 : xss.length ≤ 1099511627776 := by have := D1.few; omega
  have hfew := D1.few
  have HB1 := hideP D1.bel
  have LN := D1.net
  have LU := D1.rows
  clear D1
  have HB1a := hideP (HB1.out.trans ((below_one w1 (.cells #[.int .i64 K, .slice ao ts.length cap'] 25)).mono HB1.out.size))
  have N1a := hideP (NetV.new (K := K) (cap := cap') 25 LN)
  have U1a : Hid (RowsI (w1.alloc (.cells #[.int .i64 K, .slice ao ts.length cap'] 25)) (w1.alloc (.cells #[.int .i64 K, .slice ao ts.length cap'] 25)).heap.size co xss) := (LU.below (below_one _ _) (Nat.le_refl _)).wide (by simp)
  clear LN LU HB1
  obtain ⟨ok, hok⟩ : ∃ v, v = flowB K ts a b xss := ⟨_, rfl⟩
  have HOK : Hid (flowB K ts a b xss = ok) := hok.symm
  clear hok
  obtain ⟨l, hll⟩ : ∃ l, xss.length = l := ⟨_, rfl⟩
  have HL := hideP hll
  rw [hll] at hroom hn3 hfew ⊢
  clear hll
  go_wp2_with fail
  refine (implFlowOk_n ok K ao co cap' capC l ts xss a b _ hn N1a.out.ties (by have := HL.out; omega) U1a.out HL.out HOK.out).mono ?_
  rintro e w2 ⟨rfl, hb2⟩
  have N2 := hideP (N1a.out.next hb2)
  have U2 := hideP ((U1a.out.below hb2 (Nat.le_refl _)).wide hb2.size)
  have HB2 := hideP (HB1a.out.trans (hb2.mono HB1a.out.size))
  clear hb2 N1a U1a HB1a
  have n0 := N2.out.c0
  have n1 := N2.out.c1
  have hokk : (ok != ok) = false := by simp
  have hoke : (ok == ok) = true := by simp
  go_wp2_with fail
  refine (specFlowOk_v ok K ao co cap' capC l ts xss a b _ hn N2.out.ties (by have := HL.out; omega) U2.out HL.out HOK.out).mono ?_
  rintro e w3 ⟨rfl, hb3⟩
  have N3 := hideP (N2.out.next hb3)
  have U3 := hideP ((U2.out.below hb3 (Nat.le_refl _)).wide hb3.size)
  have HB3 := hideP (HB2.out.trans (hb3.mono HB2.out.size))
  clear hb3 N2 U2 HB2 n0 n1
  have n0 := N3.out.c0
  have n1 := N3.out.c1
  cases ok with
  | false =>
    go_wp2_with fail
    refine (specFlowOk_v false K ao co cap' capC l ts xss a b _ hn N3.out.ties (by have := HL.out; omega) U3.out HL.out HOK.out).mono ?_
    rintro e w4 ⟨rfl, hb4⟩
    have HB4 := hideP (HB3.out.trans (hb4.mono HB3.out.size))
    clear hb4
    go_wp2
    go_ret
    exact ⟨rfl, HB4.out⟩
  | true =>
  by_cases hz : l = 0
  · subst hz
    go_wp2_with fail
    refine (specFlowOk_v true K ao co cap' capC 0 ts xss a b _ hn N3.out.ties (by have := HL.out; omega) U3.out HL.out HOK.out).mono ?_
    rintro e w4 ⟨rfl, hb4⟩
    have HB4 := hideP (HB3.out.trans (hb4.mono HB3.out.size))
    clear hb4
    go_wp2
    go_ret
    exact ⟨rfl, HB4.out⟩
  obtain ⟨k, hk⟩ : ∃ k : Nat, k = n2 % l := ⟨_, rfl⟩
  have hkl : k < l := by rw [hk]; exact Nat.mod_lt _ (by omega)
  have hmod : (n2 : Int) % (l : Int) = (k : Int) := by rw [hk]; exact (Int.natCast_emod n2 l).symm
  have hmt : Int.tmod (n2 : Int) (l : Int) = (k : Int) := by rw [Int.tmod_eq_emod_of_nonneg (show (0 : Int) ≤ (n2 : Int) by omega)]; exact hmod
  have hzi : ((l : Int) == 0) = false := by rw [beq_eq_false_iff_ne]; omega
  have hz0 : ¬ ((l : Int) = 0) := by omega
  have hwl : IntKind.i64.wrap ((l : Int) - 1) = (l : Int) - 1 := by rw [IntKind.wrap_i64]; omega
  have hwr : IntKind.i64.wrap ((n2 : Int) - (n2 : Int)) = 0 := by simp [IntKind.wrap_i64]
  obtain ⟨i1, hj, hy0, hy1, hy2⟩ := info_parts Try.infoRow2
  have HI : Hid (Try.prog.info? 30 = some i1 ∧ i1.zero = some (.slice none 0 0) ∧ i1.size = 1 ∧ i1.bytes = 24) := ⟨hj, hy0, hy1, hy2⟩
  clear hj hy0 hy1 hy2 hmod hk
  obtain ⟨g, off, hco⟩ : ∃ g off, co = some ⟨g, off, none⟩ := by
    obtain ⟨g, off, _, _, e, _⟩ := U3.out 0 (by have := HL.out; omega)
    exact ⟨g, off, e⟩
  subst hco
  obtain ⟨vs, hgr, hgl, hcells⟩ := U3.out.vals (fun i hi => by have := flow_short HOK.out i hi; omega)
  have hg3 := hgl (by have := HL.out; omega)
  have HGR := hideP hgr
  have HCELLS := hideP hcells
  have hvl : vs.length = l := by rw [hgr.1]; exact HL.out
  have HVL := hideP hvl
  have hS0 : ∀ t : TypeId, Hid ((w3.alloc (.cells #[] t)).ownsRow w3.heap.size t 1 (.slice (some ⟨w3.heap.size, 0, none⟩) 0 0) 0 []) := fun t => hideP (World.ownsRow_lit w3 #[] 0 (base := w3.heap.size) (e := t) (size := 1) (Nat.le_refl _) (by simp) rfl)
  clear hgr hcells hgl hvl n0 n1
  go_wp2
  obtain ⟨S0, hSS⟩ : ∃ s, s = w3.heap.size := ⟨_, rfl⟩
  have HSS := hideP hSS
  rw [← hSS] at hS0 ⊢
  clear hSS
  go_loopw [11, 12] (fun v i wr => ∃ (m g' c' : Nat) (vb : List Value), m ≤ l ∧ i = .int .i64 ((l : Int) - 1 - (m : Int)) ∧ v = .slice (some ⟨g', 0, none⟩) m c' ∧ wr.ownsRow S0 30 1 (.slice (some ⟨g', 0, none⟩) m c') m vb ∧ GoodR wr 0 wr.heap.size (fun k => k = g') vb ((xss.reverse.map List.reverse).take m) ∧ Below S0 w3 wr)
    (fun _ i _ => (intOf i + 1).toNat)
  case atStart => exact ⟨0, S0, 0, [], Nat.zero_le _, by simp, rfl, (hS0 _).out, GoodR.nil _ _ _ _, by rw [HSS.out]; exact below_one _ _⟩
  case round =>
    clear hS0
    obtain ⟨m, g', c', vb, hml, rfl, rfl, hO, hG, hB⟩ := hrel
    have HO := hideP hO
    have HG := hideP hG
    have HBW := hideP hB
    clear hO hG hB
    have B3 : Hid (Below w3.heap.size w3 wr) := hideP (by rw [← HSS.out]; exact HBW.out)
    by_cases hlt : m < l
    · obtain ⟨j, hj⟩ : ∃ j : Nat, (l : Int) - 1 - (m : Int) = (j : Int) := ⟨l - 1 - m, by omega⟩
      rw [hj]
      have hj0 : (0 : Int) ≤ (j : Int) := by omega
      have hjl : j < l := by omega
      have hjl' : (j : Int) < (l : Int) := by omega
      have hmj : m + j + 1 = l := by omega
      obtain ⟨g2, off2, bq, cq, e, h1, e00, h3, h4, h5⟩ := U3.out j (by have := HL.out; omega)
      cases e
      have e0 := (B3.out.cell (p := ⟨g, off + j, none⟩) h1).trans e00
      have hq8 := flow_short HOK.out j (by have := HL.out; omega)
      obtain ⟨xq, hxq⟩ : ∃ x, x = xss.getD j [] := ⟨_, rfl⟩
      rw [← hxq] at e0 h5 hq8
      have HXQ := hideP hxq
      have Y0 := hideP ((h5.below B3.out (Nat.le_refl _)).wide B3.out.size)
      clear e00 h3 h4 h5 hxq hj
      go_wp2_with fail
      refine (loBack_v bq cq xq.length xq _ rfl (by omega) Y0.out).mono ?_
      rintro e w6 ⟨g7, off7, cap7, rfl, hz7, hcap7, _, hb6⟩
      have O6 : Hid (w6.ownsRow S0 30 1 (.slice (some ⟨g', 0, none⟩) m c') m vb) := hideP (own_nx HO.out hb6)
      have hgl' : g' < wr.heap.size := by
        rcases HO.out.2 with ⟨h', _⟩ | ⟨g9, cap9, cur, h', _, hb9, _⟩
        · simp at h'
        · simp only [Value.slice.injEq, Option.some.injEq, Addr.mk.injEq, and_true, true_and] at h'
          obtain ⟨rfl, _⟩ := h'
          exact (Array.getElem?_eq_some_iff.1 hb9).1
      have hgS : S0 ≤ g' := own_ge HO.out g' rfl
      have hz7l := hz7.lo
      have hs6 := hb6.size
      have G6 := hideP (HG.out.rebase (S' := w6.heap.size) (bad' := fun k => k = g') ((Stay.first wr (fun k => k = g')).next hb6) hs6 (fun b _ hn => hn))
      have hzl : xq.reverse.length = xq.length := List.length_reverse
      have GZ := hideP ((hz7.good (bad := fun k => k = g') (by omega) (by omega)).down (lo' := 0) (Nat.zero_le _))
      have G7 := hideP (G6.out.snoc GZ.out)
      have BW6 := hideP (HBW.out.trans (hb6.mono (by have := HBW.out.size; have := HSS.out; omega)))
      have HU1 : Hid (∀ x ∈ [Value.slice (some ⟨g7, off7, none⟩) xq.length cap7], x.oneCell' = true) := hideP (fun x hx => by simp at hx; rw [hx]; rfl)
      have hSw6 : S0 ≤ w6.heap.size := by omega
      clear hb6 hz7 G6 GZ HO HG HBW B3 e0 Y0
      go_wp2_with (at_builtin; refine wpList_appn (by rfl) _ _ 26 (by rfl) S0 30 i1 (.slice none 0 0) 1 24 Try.underlying26 HI.out.1 HI.out.2.1 HI.out.2.2.1 HI.out.2.2.2 rfl (by decide) (.slice (some ⟨g', 0, none⟩) m c') m vb (by rfl) (by simp) (O6.out.alloc _) (m + 1) ⟨_, 0, none⟩ 1 1 rfl [.slice (some ⟨g7, off7, none⟩) xq.length cap7] (by rfl) rfl (World.news_of_block (cs := #[.slice (some ⟨g7, off7, none⟩) xq.length cap7]) (t := 30) (fr := (0, 0)) (heap_alloc_new w6 _)) HU1.out (by unfold maxLen; omega) (by omega) (by simp; omega) ?_)
      intro gN cN wb hown hgrow hnew
      have ST8 := (Stay.first w6 (fun k => k = g')).grown (below_one w6 _) hgrow (fun k e => Or.inr (by simp [Value.ownBlock] at e; omega))
      have G8 : Hid (GoodR wb 0 wb.heap.size (fun k => k = gN) (vb ++ [.slice (some ⟨g7, off7, none⟩) xq.length cap7]) ((xss.reverse.map List.reverse).take (m + 1))) := hideP (by
        rw [back_take (j := j) (by have := HL.out; omega) (by rw [HL.out]; exact hmj), ← HXQ.out]
        have := G7.out.rebase (S' := wb.heap.size) (bad' := fun k => k = gN) ST8 ST8.size (fun b hb hn => by
          show ¬ b = gN
          have hn' : b ≠ g' := hn
          rcases hnew with q | q
          · simp [Value.ownBlock] at q; omega
          · first | omega | (simp at q; omega))
        rw [hzl] at this
        exact this)
      have O8 := hideP hown
      have B8 := hideP ((BW6.out.alloc hSw6 _).grown hgrow (by simp; omega) (fun k e => by simp [Value.ownBlock] at e; omega))
      clear hown hgrow hnew ST8 G7 O6 BW6
      go_wp2
      go_roundw
      case rel => exact ⟨m + 1, gN, cN, _, by omega, by go_num, rfl, O8.out, G8.out, B8.out⟩
      case measure => (simp [intOf] <;> omega)
    · obtain rfl : m = l := by omega
      have hm1 : (m : Int) - 1 - (m : Int) = -1 := by omega
      rw [hm1]
      have N5 := hideP (N3.out.next B3.out)
      have hRB : (xss.reverse.map List.reverse).length = m := by rw [List.length_map, List.length_reverse]; exact HL.out
      have etk : (xss.reverse.map List.reverse).take m = xss.reverse.map List.reverse := List.take_of_length_le (by omega)
      have HGB : Hid (GoodR wr 0 wr.heap.size (fun k => k = g') vb (xss.reverse.map List.reverse)) := hideP (by have := HG.out; rw [etk] at this; exact this)
      have hadd : ∀ j : Nat, (⟨g, off, none⟩ : Addr).add j = ⟨g, off + j, none⟩ := fun j => by unfold Addr.add; split <;> simp_all
      have DW : Hid (∀ W, Below wr.heap.size wr W → Below w3.heap.size w3 W) := hideP (fun W hb => B3.out.trans (hb.mono B3.out.size))
      have PC3 : Hid (∀ W, Below wr.heap.size wr W → ∀ j u, vs[j]? = some u → W.cell? ((⟨g, off, none⟩ : Addr).add j) = some u) := hideP (fun W hb j u hj => by
        have h0 := HCELLS.out j u hj
        rw [hadd] at h0 ⊢
        exact ((DW.out W hb).cell (p := ⟨g, off + j, none⟩) hg3).trans h0)
      obtain ⟨uk, huk, hgk⟩ := HGR.out.2 k (by have := HL.out; omega)
      have HGK := hideP hgk
      obtain ⟨xk, hxk⟩ : ∃ x, x = xss.getD k [] := ⟨_, rfl⟩
      rw [← hxk] at hgk HGK
      obtain ⟨bk, ck, rfl, _⟩ := hgk
      have HXK := hideP hxk
      have hkm : xss.getD k [] ∈ xss := by
        have hk' : k < xss.length := by have := HL.out; omega
        rw [List.getD_eq_getElem?_getD, List.getElem?_eq_getElem hk']; exact List.getElem_mem hk'
      have HF1 := hideP (flow_sub HOK.out k)
      have HF2 := hideP (flow_back HOK.out)
      have HF3 : Hid (flowB K ts a b (xss ++ [xk]) = false) := hideP (by rw [HXK.out]; exact flow_twice HOK.out hkm)
      have PT1 : Hid (∀ (W : World) (gB cB : Nat), Below wr.heap.size wr W → W.ownsRow wr.heap.size 30 1 (.slice (some ⟨gB, 0, none⟩) (k + (m - (k + 1))) cB) (k + (m - (k + 1))) ([] ++ vs.take k ++ vs.drop (k + 1)) → Calls Try.prog 8 #[.agg #[.int .i64 K, .slice ao ts.length cap'], .int .i64 a, .int .i64 b, .slice (some ⟨gB, 0, none⟩) (k + (m - (k + 1))) cB] W fun e w' => e = .returned (.bool true) ∧ Below W.heap.size W w') := hideP (fun W gB cB hb h2 =>
        implFlowOk_n true K ao _ cap' cB _ ts (xss.take k ++ xss.drop (k + 1)) a b W hn (N5.out.next hb).ties (by have := HL.out; simp; omega) (((HGR.out.take k).append (HGR.out.drop (k + 1))).rowsI (Stay.of_below (DW.out W hb)) h2) (by have := HL.out; simp; omega) HF1.out)
      have PT2 : Hid (∀ W : World, Below wr.heap.size wr W → Calls Try.prog 8 #[.agg #[.int .i64 K, .slice ao ts.length cap'], .int .i64 b, .int .i64 a, .slice (some ⟨g', 0, none⟩) m c'] W fun e w' => e = .returned (.bool true) ∧ Below W.heap.size W w') := hideP (fun W hb =>
        implFlowOk_n true K ao _ cap' c' m ts (xss.reverse.map List.reverse) b a W hn (N5.out.next hb).ties (by omega) (HGB.out.rowsI ((Stay.first wr (fun k => k = g')).next hb) (own_nx HO.out hb)) hRB HF2.out)
      have PT3 : Hid (∀ (W : World) (gD cD : Nat), Below wr.heap.size wr W → (∃ bs, W.ownsRow bs 30 1 (.slice (some ⟨gD, 0, none⟩) (m + 1) cD) (m + 1) ([] ++ vs ++ [(Value.slice bk xk.length ck)])) → Calls Try.prog 8 #[.agg #[.int .i64 K, .slice ao ts.length cap'], .int .i64 a, .int .i64 b, .slice (some ⟨gD, 0, none⟩) (m + 1) cD] W fun e w' => e = .returned (.bool false) ∧ Below W.heap.size W w') := hideP (fun W gD cD hb h2 =>
        let ⟨_, h2⟩ := h2
        implFlowOk_n false K ao _ cap' cD _ ts (xss ++ [xk]) a b W hn (N5.out.next hb).ties (by have := HL.out; simp; omega) ((HGR.out.snoc HGK.out).rowsI (Stay.of_below (DW.out W hb)) h2) (by have := HL.out; simp; omega) HF3.out)
      have HT1 : Hid ((vs.take k).length = k * 1) := hideP (by rw [List.length_take, HVL.out]; omega)
      have HT2 : Hid ((vs.drop (k + 1)).length = (m - (k + 1)) * 1) := hideP (by rw [List.length_drop, HVL.out]; omega)
      have HVM : Hid (vs.length = m * 1) := hideP (by rw [HVL.out]; omega)
      have HO1 := hideP (HGR.out.take k).one
      have HO2 := hideP (HGR.out.drop (k + 1)).one
      have HO3 := hideP HGR.out.one
      have HU1 : Hid (∀ x ∈ [(Value.slice bk xk.length ck)], x.oneCell' = true) := hideP (fun x hx => by simp at hx; rw [hx]; rfl)
      have PC1 : Hid (∀ W, Below wr.heap.size wr W → ∀ j u, (vs.take k)[j]? = some u → W.cell? ((⟨g, off, none⟩ : Addr).add j) = some u) := hideP (fun W hb j u hj => PC3.out W hb j u (by
        rw [List.getElem?_take] at hj
        split at hj
        · exact hj
        · cases hj))
      obtain ⟨ad, had, hpc2⟩ : ∃ ad : Addr, (∀ inst : Decidable (capC = k + 1), @ite (Option Addr) (capC = k + 1) inst (some ⟨g, off, none⟩) (some ⟨g, off + (k + 1), none⟩) = some ad) ∧ ∀ W', Below wr.heap.size wr W' → ∀ j u, (vs.drop (k + 1))[j]? = some u → W'.cell? (ad.add j) = some u := by
        by_cases hcc : capC = k + 1
        · refine ⟨⟨g, off, none⟩, fun _ => if_pos hcc, fun W' hb j u hj => ?_⟩
          have h0 : (vs.drop (k + 1)).length = 0 := by rw [HT2.out]; omega
          rw [List.length_eq_zero_iff.1 h0] at hj
          simp at hj
        · refine ⟨⟨g, off + (k + 1), none⟩, fun _ => if_neg hcc, fun W' hb j u hj => ?_⟩
          rw [List.getElem?_drop] at hj
          have := PC3.out W' hb (k + 1 + j) u hj
          rw [hadd] at this
          have hadd2 : (⟨g, off + (k + 1), none⟩ : Addr).add j = ⟨g, off + (k + 1) + j, none⟩ := by unfold Addr.add; split <;> simp_all
          rw [hadd2, show off + (k + 1) + j = off + (k + 1 + j) by omega]; exact this
      have PC2 := hideP hpc2
      have HAD := hideP had
      have HELD : Hid (∀ W, Below wr.heap.size wr W → W.cell? ⟨w1.heap.size, 0, none⟩ = some (.int .i64 K) ∧ W.cell? ⟨w1.heap.size, 1, none⟩ = some (.slice ao ts.length cap') ∧ W.cell? ⟨g, off + k, none⟩ = some (Value.slice bk xk.length ck)) := hideP (fun W hb => ⟨(N5.out.next hb).c0, (N5.out.next hb).c1, by have := PC3.out W hb k _ huk; rw [hadd] at this; exact this⟩)
      have B0 : Hid (Below wr.heap.size wr wr.drew) := (Below.refl _ _).drew
      have bE : Hid (Below wr.heap.size wr (wr.drew.alloc (.cells #[] 30))) := hideP (B0.out.alloc (Nat.le_refl _) _)
      have EMP : Hid ((wr.drew.alloc (.cells #[] 30)).ownsRow wr.heap.size 30 1 (.slice (some ⟨wr.heap.size, 0, none⟩) 0 0) 0 []) := hideP (World.ownsRow_lit wr.drew #[] 0 (base := wr.heap.size) (e := 30) (size := 1) (Nat.le_refl _) (by simp) rfl)
      have HBX := hideP HB3.out
      have hcp1 : (k : Int) ≤ (capC : Int) := by omega
      have hcp2 : (m : Int) ≤ (capC : Int) := by omega
      have hcp4 : k ≤ capC := by omega
      have hk0 : (0 : Int) ≤ (k : Int) := by omega
      have hk1 : (k : Int) < (m : Int) := by omega
      have hk2 : (k : Int) ≤ (m : Int) := by omega
      have hk3 : (k : Int) + 1 ≤ (m : Int) := by omega
      have hw1 : IntKind.i64.wrap ((k : Int) + 1) = (k : Int) + 1 := by rw [IntKind.wrap_i64]; omega
      have hcp6 : (0 : Int) ≤ (k : Int) + 1 := by omega
      have hcp7 : (k : Int) + 1 ≤ (capC : Int) := by omega
      have hcp5 : k + 1 ≤ m := by omega
      clear hlt hRB etk hadd huk HGK hxk hkm HGB HG HO hpc2 had HXK hm1
      go_wp2
      go_region_held3 (fun w' => w'.cell? ⟨w1.heap.size, 0, none⟩ = some (.int .i64 K) ∧ w'.cell? ⟨w1.heap.size, 1, none⟩ = some (.slice ao ts.length cap') ∧ w'.cell? ⟨g, off + k, none⟩ = some (Value.slice bk xk.length ck)) (first | exact HELD.out _ bI.out | exact HELD.out _ bD.out | exact HELD.out _ (HX.out _ bC.out) | exact HELD.out _ (HX.out _ (bC.out.alloc bC.out.size _)) | exact HELD.out _ (HX.out _ RR.out.bCT) | exact HELD.out _ (HX.out _ RR.out.bTC) | exact HELD.out _ (HX.out _ RR.out.bC) | exact HELD.out _ (HX.out _ RR.out.bT) | exact HELD.out _ bH.out | exact HELD.out _ bG.out | exact HELD.out _ bB.out | exact HELD.out _ bA.out | exact HELD.out _ bE.out | exact HELD.out _ B0.out) (first | (go_at_call 8; (with_reducible refine (PT3.out _ gD cD bD.out ⟨_, OD.out⟩).mono ?_); rintro e wI ⟨rfl, hbI⟩; have bI : Hid (Below wr.heap.size wr wI) := hideP (bD.out.trans (hbI.mono bD.out.size)); clear hbI; go_simp) | (go_at_call 8; (with_reducible refine (PT2.out _ bG.out).mono ?_); rintro e wH ⟨rfl, hbH⟩; have bH : Hid (Below wr.heap.size wr wH) := hideP (bG.out.trans (hbH.mono bG.out.size)); have RR := hideP (Rooms0.of wH (Value.slice bk xk.length ck)); have HX : Hid (∀ W, Below wH.heap.size wH W → Below wr.heap.size wr W) := hideP (fun W hb => bH.out.trans (hb.mono bH.out.size)); clear hbH; go_simp) | (go_at_call 8; (with_reducible refine (PT1.out _ gB cB bB.out OB.out).mono ?_); rintro e wG ⟨rfl, hbG⟩; have bG : Hid (Below wr.heap.size wr wG) := hideP (bB.out.trans (hbG.mono bB.out.size)); clear hbG; go_simp) | (refine step_appn (by rfl) _ _ _ (by rfl) wH.heap.size 30 i1 (.slice none 0 0) 1 24 Try.underlying26 HI.out.1 HI.out.2.1 HI.out.2.2.1 HI.out.2.2.2 rfl (by decide) (.slice (some ⟨gC, 0, none⟩) m cC) m ([] ++ vs) (by rfl) (by simp) (by first | exact OC.out | exact OC.out.alloc _) (m + 1) ⟨_, 0, none⟩ 1 1 rfl [(Value.slice bk xk.length ck)] (by rfl) rfl (by first | exact World.news_of_block (cs := #[(Value.slice bk xk.length ck)]) (t := 30) (fr := (0, 0)) TK.out | exact World.news_of_block (cs := #[(Value.slice bk xk.length ck)]) (t := 30) (fr := (0, 0)) (heap_alloc_new wC _)) HU1.out (by unfold maxLen; omega) (by omega) (by first | exact bC.out.size | exact (bC.out.alloc bC.out.size _).size) ?_; intro gD cD wD hownD hgrowD _; have OD := hideP hownD; have bD : Hid (Below wr.heap.size wr wD) := (by first | exact hideP (HX.out _ (bC.out.grown hgrowD bC.out.size (own_ge OC.out))) | exact hideP (HX.out _ ((bC.out.alloc bC.out.size _).grown hgrowD (bC.out.alloc bC.out.size _).size (own_ge OC.out)))); clear hownD hgrowD) | (refine step_appn (by rfl) _ _ _ (by rfl) wH.heap.size 30 i1 (.slice none 0 0) 1 24 Try.underlying26 HI.out.1 HI.out.2.1 HI.out.2.2.1 HI.out.2.2.2 rfl (by decide) (.slice (some ⟨wH.heap.size, 0, none⟩) 0 0) 0 [] (by rfl) (by simp) (by first | exact RR.out.i1 | exact RR.out.i2) m ⟨g, off, none⟩ m capC (Nat.zero_add _) vs (by rfl) HVM.out (by first | exact PC3.out _ (HX.out _ RR.out.bC) | exact PC3.out _ (HX.out _ RR.out.bCT) | exact PC3.out _ (HX.out _ RR.out.bTC)) HO3.out (by unfold maxLen; omega) (by omega) (by first | exact RR.out.bC.size | exact RR.out.bCT.size | exact RR.out.bTC.size) ?_; intro gC cC wC hownC hgrowC _; have OC := hideP hownC; have bC : Hid (Below wH.heap.size wH wC) := (by first | exact hideP (RR.out.bCT.grown hgrowC RR.out.bCT.size (by intro z e; simp [Value.ownBlock] at e; omega)) | exact hideP (RR.out.bTC.grown hgrowC RR.out.bTC.size (by intro z e; simp [Value.ownBlock] at e; omega)) | exact hideP (RR.out.bC.grown hgrowC RR.out.bC.size (by intro z e; simp [Value.ownBlock] at e; omega))); (first | (have TK : Hid (wC.heap[wH.heap.size + 1]? = some (.cells #[(Value.slice bk xk.length ck)] 30 (0, 0))) := hideP (temp_behind hgrowC)) | (have TK : Hid (wC.heap[wH.heap.size]? = some (.cells #[(Value.slice bk xk.length ck)] 30 (0, 0))) := hideP (temp_ahead hgrowC)) | (have TK : Hid True := trivial)); clear hownC hgrowC) | (refine step_appn (by rfl) _ _ _ (by rfl) wH.heap.size 30 i1 (.slice none 0 0) 1 24 Try.underlying26 HI.out.1 HI.out.2.1 HI.out.2.2.1 HI.out.2.2.2 rfl (by decide) (.slice (some ⟨wH.heap.size + 1, 0, none⟩) 0 0) 0 [] (by rfl) (by simp) RR.out.i3 m ⟨g, off, none⟩ m capC (Nat.zero_add _) vs (by rfl) HVM.out (by first | exact PC3.out _ (HX.out _ RR.out.bC) | exact PC3.out _ (HX.out _ RR.out.bCT) | exact PC3.out _ (HX.out _ RR.out.bTC)) HO3.out (by unfold maxLen; omega) (by omega) (by first | exact RR.out.bC.size | exact RR.out.bCT.size | exact RR.out.bTC.size) ?_; intro gC cC wC hownC hgrowC _; have OC := hideP hownC; have bC : Hid (Below wH.heap.size wH wC) := (by first | exact hideP (RR.out.bCT.grown hgrowC RR.out.bCT.size (by intro z e; simp [Value.ownBlock] at e; omega)) | exact hideP (RR.out.bTC.grown hgrowC RR.out.bTC.size (by intro z e; simp [Value.ownBlock] at e; omega)) | exact hideP (RR.out.bC.grown hgrowC RR.out.bC.size (by intro z e; simp [Value.ownBlock] at e; omega))); (first | (have TK : Hid (wC.heap[wH.heap.size + 1]? = some (.cells #[(Value.slice bk xk.length ck)] 30 (0, 0))) := hideP (temp_behind hgrowC)) | (have TK : Hid (wC.heap[wH.heap.size]? = some (.cells #[(Value.slice bk xk.length ck)] 30 (0, 0))) := hideP (temp_ahead hgrowC)) | (have TK : Hid True := trivial)); clear hownC hgrowC) | (refine step_appn (by rfl) _ _ _ (by rfl) wr.heap.size 30 i1 (.slice none 0 0) 1 24 Try.underlying26 HI.out.1 HI.out.2.1 HI.out.2.2.1 HI.out.2.2.2 rfl (by decide) (.slice (some ⟨gA, 0, none⟩) k cA) k ([] ++ vs.take k) (by rfl) (by simp) OA.out (k + (m - (k + 1))) ad (m - (k + 1)) (capC - (k + 1)) rfl (vs.drop (k + 1)) (by exact congrArg (fun z => Value.slice z (m - (k + 1)) (capC - (k + 1))) (HAD.out _)) HT2.out (PC2.out _ bA.out) HO2.out (by unfold maxLen; omega) (by omega) bA.out.size ?_; intro gB cB wB hownB hgrowB _; have OB := hideP hownB; have bB : Hid (Below wr.heap.size wr wB) := hideP (bA.out.grown hgrowB bA.out.size (own_ge OA.out)); clear hownB hgrowB) | (refine step_appn (by rfl) _ _ _ (by rfl) wr.heap.size 30 i1 (.slice none 0 0) 1 24 Try.underlying26 HI.out.1 HI.out.2.1 HI.out.2.2.1 HI.out.2.2.2 rfl (by decide) (.slice (some ⟨wr.heap.size, 0, none⟩) 0 0) 0 [] (by rfl) (by simp) EMP.out k ⟨g, off, none⟩ k capC (Nat.zero_add _) (vs.take k) (by rfl) HT1.out (PC1.out _ bE.out) HO1.out (by unfold maxLen; omega) (by omega) bE.out.size ?_; intro gA cA wA hownA hgrowA _; have OA := hideP hownA; have bA : Hid (Below wr.heap.size wr wA) := hideP (bE.out.grown hgrowA bE.out.size (own_ge EMP.out)); clear hownA hgrowA))
      all_goals (have HBF : Hid (Below w.heap.size w wI) := hideP (HBX.out.trans ((DW.out _ bI.out).mono HBX.out.size)); go_wp2 <;> (go_ret; exact ⟨rfl, HBF.out⟩))

end Go.Proofs.Ytljnjpjnadlmhaa
