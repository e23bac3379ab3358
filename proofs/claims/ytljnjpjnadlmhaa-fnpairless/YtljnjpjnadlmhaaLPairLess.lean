/- Walk of laws.FnPairLess: it returns true. -/
import Derived.Test.YtljnjpjnadlmhaaWDrawPr
import Derived.Test.YtljnjpjnadlmhaaMathPB
import Derived.Test.YtljnjpjnadlmhaaWLo
import Derived.Test.YtljnjpjnadlmhaaWArgB
namespace Go.Proofs.Ytljnjpjnadlmhaa
open Go.RowKit
set_option linter.unusedVariables false

theorem implPairOk_v (v : Bool) (K : Int) (ao bo : Option Addr) (cap cap2 n : Nat) (ts us : List (Int × Int)) (w : World) (hn : ts.length ≤ 1099511627776) (ht : TiesIn w w.heap.size ao ts) (hn2 : us.length ≤ 1099511627776) (hu : TiesIn w w.heap.size bo us) (hnn : us.length = n) (h : pairB K ts us = v) :
    Calls Try.prog 12 #[.agg #[.int .i64 K, .slice ao ts.length cap], .slice bo n cap2] w fun e w' => e = .returned (.bool v) ∧ Below w.heap.size w w' := by
  rw [← hnn, ← h]; exact implPairOk_any K ao bo cap cap2 ts us w hn ht hn2 hu
set_option maxHeartbeats 3200000 in
theorem pairLess_walk (bo : Option Addr) (n cap : Nat) (bo2 : Option Addr) (n2 cap2 : Nat) (w : World) (hb : BytesIn w bo n) (hnil : bo = none → n = 0 ∧ cap = 0) (hc : n ≤ cap) (hm : cap ≤ maxLen) (hb2 : BytesIn w bo2 n2) (hnil2 : bo2 = none → n2 = 0 ∧ cap2 = 0) (hc2 : n2 ≤ cap2) (hm2 : cap2 ≤ maxLen) :
    Calls Try.prog 4 #[.slice bo n cap, .slice bo2 n2 cap2] w fun e w' => e = .returned (.bool true) ∧ Below w.heap.size w w' := by
  have hn' : n ≤ 9223372036854775807 := by unfold maxLen at hm; omega
  have hn2' : n2 ≤ 9223372036854775807 := by unfold maxLen at hm2; omega
  clear hb2 hnil2 hc2 hm2
  by_cases hl : 1048576 < n
  · have hl' : (1048576 : Int) < (n : Int) := by omega
    go_enter Try.func4, Try.ntmps4
    go_wp2
    go_ret
    exact ⟨rfl, Below.refl _ _⟩
  have hl' : decide ((1048576 : Int) < (n : Int)) = false := by simp; omega
  by_cases hl2 : 1048576 < n2
  · have hl2' : (1048576 : Int) < (n2 : Int) := by omega
    go_enter Try.func4, Try.ntmps4
    go_wp2
    go_ret
    exact ⟨rfl, Below.refl _ _⟩
  have hl2' : decide ((1048576 : Int) < (n2 : Int)) = false := by simp; omega
  go_enter Try.func4, Try.ntmps4
  go_wp2_with fail
  refine (drawPairOk_any bo n cap _ hb hnil hc hm).mono ?_
  rintro e w1 ⟨K, ao, cap', ts, co, capC, us, rfl, hroom, D1⟩
  have hn : ts.length ≤ 1099511627776 := by have := D1.short; omega
  have hfew := D1.few
  have HB1 := hideP D1.bel
  have LN := D1.net
  have LU := D1.list
  clear D1
  have HB1a := hideP (HB1.out.trans ((below_one w1 (.cells #[.int .i64 K, .slice ao ts.length cap'] 25)).mono HB1.out.size))
  have N1a := hideP (NetV.new (K := K) (cap := cap') 25 LN)
  have U1a : Hid (TiesIn (w1.alloc (.cells #[.int .i64 K, .slice ao ts.length cap'] 25)) (w1.alloc (.cells #[.int .i64 K, .slice ao ts.length cap'] 25)).heap.size co us) := (LU.below (below_one _ _) (Nat.le_refl _)).wide (by simp)
  clear LN LU HB1
  obtain ⟨ok, hok⟩ : ∃ v, v = pairB K ts us := ⟨_, rfl⟩
  have HOK : Hid (pairB K ts us = ok) := hok.symm
  clear hok
  obtain ⟨l, hll⟩ : ∃ l, us.length = l := ⟨_, rfl⟩
  have HL := hideP hll
  rw [hll] at hroom hfew ⊢
  clear hll
  go_wp2_with fail
  refine (implPairOk_v ok K ao co cap' capC l ts us _ hn N1a.out.ties (by have := HL.out; omega) U1a.out HL.out HOK.out).mono ?_
  rintro e w2 ⟨rfl, hb2⟩
  have N2 := hideP (N1a.out.next hb2)
  have U2 := hideP ((U1a.out.below hb2 (Nat.le_refl _)).wide hb2.size)
  have HB2 := hideP (HB1a.out.trans (hb2.mono HB1a.out.size))
  clear hb2 N1a U1a HB1a
  have n0 := N2.out.c0
  have n1 := N2.out.c1
  have hokk : (ok != ok) = false := by simp
  have hoke : (ok == ok) = true := by simp
  go_wp2_with fail
  refine (specPairOk_v ok K ao co cap' capC l ts us _ hn N2.out.ties (by have := HL.out; omega) U2.out HL.out HOK.out).mono ?_
  rintro e wr ⟨rfl, hb3⟩
  have N3 := hideP (N2.out.next hb3)
  have U3 := hideP ((U2.out.below hb3 (Nat.le_refl _)).wide hb3.size)
  have HB3 := hideP (HB2.out.trans (hb3.mono HB2.out.size))
  clear hb3 N2 U2 HB2 n0 n1
  have n0 := N3.out.c0
  have n1 := N3.out.c1
  cases ok with
  | false =>
    go_wp2_with fail
    refine (specPairOk_v false K ao co cap' capC l ts us _ hn N3.out.ties (by have := HL.out; omega) U3.out HL.out HOK.out).mono ?_
    rintro e w4 ⟨rfl, hb4⟩
    have HB4 := hideP (HB3.out.trans (hb4.mono HB3.out.size))
    clear hb4
    go_wp2
    go_ret
    exact ⟨rfl, HB4.out⟩
  | true =>
  by_cases hz : l = 0
  · subst hz
    go_wp2_with fail
    refine (specPairOk_v true K ao co cap' capC 0 ts us _ hn N3.out.ties (by have := HL.out; omega) U3.out HL.out HOK.out).mono ?_
    rintro e w4 ⟨rfl, hb4⟩
    have HB4 := hideP (HB3.out.trans (hb4.mono HB3.out.size))
    clear hb4
    go_wp2
    go_ret
    exact ⟨rfl, HB4.out⟩
  obtain ⟨k, hk⟩ : ∃ k : Nat, k = n2 % l := ⟨_, rfl⟩
  have hkl : k < l := by rw [hk]; exact Nat.mod_lt _ (by omega)
  have hmod : (n2 : Int) % (l : Int) = (k : Int) := by rw [hk]; exact (Int.natCast_emod n2 l).symm
  have hmt : Int.tmod (n2 : Int) (l : Int) = (k : Int) := by rw [Int.tmod_eq_emod_of_nonneg (show (0 : Int) ≤ (n2 : Int) by omega)]; exact hmod
  have hzi : ((l : Int) == 0) = false := by rw [beq_eq_false_iff_ne]; omega
  have hz0 : ¬ ((l : Int) = 0) := by omega
  obtain ⟨i1, hj, hy0, hy1, hy2⟩ := info_parts Try.infoTie
  have HI : Hid (Try.prog.info? 37 = some i1 ∧ i1.zero = some (.agg #[.int .i64 0, .int .i64 0]) ∧ i1.size = 2 ∧ i1.bytes = 16) := ⟨hj, hy0, hy1, hy2⟩
  clear hj hy0 hy1 hy2 hmod hk
  obtain ⟨g, off, rfl, hgw, e0, e1⟩ := U3.out k (by have := HL.out; omega)
  obtain ⟨x, hx⟩ : ∃ x, x = tA us k := ⟨_, rfl⟩
  obtain ⟨y, hy⟩ : ∃ x, x = tB us k := ⟨_, rfl⟩
  rw [← hx] at e0
  rw [← hy] at e1
  have hlen64 := pair_short HOK.out
  have HF1 := hideP (pair_sub HOK.out k)
  have HF3 : Hid (pairB K ts (us ++ [(x, y)]) = false) := hideP (by rw [hx, hy]; exact pair_twice (by have := HL.out; omega))
  have PT1 : Hid (∀ (W : World) (gB cB : Nat), Below wr.heap.size wr W → W.ownsRow wr.heap.size 37 2 (.slice (some ⟨gB, 0, none⟩) (k + (l - (k + 1))) cB) (k + (l - (k + 1))) (tlist [] ++ tlist (us.take k) ++ tlist (us.drop (k + 1))) → Calls Try.prog 12 #[.agg #[.int .i64 K, .slice ao ts.length cap'], .slice (some ⟨gB, 0, none⟩) (k + (l - (k + 1))) cB] W fun e w' => e = .returned (.bool true) ∧ Below W.heap.size W w') := hideP (fun W gB cB hb h2 => by
    have e : tlist [] ++ tlist (us.take k) ++ tlist (us.drop (k + 1)) = tlist (us.take k ++ us.drop (k + 1)) := by rw [tlist_app]; rfl
    rw [e] at h2
    have hl : (us.take k ++ us.drop (k + 1)).length = k + (l - (k + 1)) := by have := HL.out; simp; omega
    exact implPairOk_v true K ao _ cap' cB _ ts (us.take k ++ us.drop (k + 1)) W hn (N3.out.next hb).ties (by omega) (own_tl h2 hl) hl HF1.out)
  have PT3 : Hid (∀ (W : World) (gD cD : Nat), Below wr.heap.size wr W → (∃ bs, W.ownsRow bs 37 2 (.slice (some ⟨gD, 0, none⟩) (l + 1) cD) (l + 1) (tlist (us ++ [(x, y)]))) → Calls Try.prog 12 #[.agg #[.int .i64 K, .slice ao ts.length cap'], .slice (some ⟨gD, 0, none⟩) (l + 1) cD] W fun e w' => e = .returned (.bool false) ∧ Below W.heap.size W w') := hideP (fun W gD cD hb h2 => by
    obtain ⟨_, h2⟩ := h2
    have hl : (us ++ [(x, y)]).length = l + 1 := by have := HL.out; simp; omega
    exact implPairOk_v false K ao _ cap' cD _ ts (us ++ [(x, y)]) W hn (N3.out.next hb).ties (by omega) (own_tl h2 hl) hl HF3.out)
  have HT1 : Hid ((tlist (us.take k)).length = k * 2) := hideP (by
    have : (us.take k).length = k := by rw [List.length_take]; have := HL.out; omega
    rw [tlist_len, this])
  have HT2 : Hid ((tlist (us.drop (k + 1))).length = (l - (k + 1)) * 2) := hideP (by rw [tlist_len, List.length_drop, HL.out])
  have HTM : Hid ((tlist us).length = l * 2) := hideP (by rw [tlist_len, HL.out])
  have UB : Hid (∀ W, Below wr.heap.size wr W → TiesIn W W.heap.size (some ⟨g, off, none⟩) us) := hideP (fun W hb => (U3.out.below hb (Nat.le_refl _)).wide hb.size)
  have PC1 : Hid (∀ W', Below wr.heap.size wr W' → ∀ j u, (tlist (us.take k))[j]? = some u → W'.cell? ((⟨g, off, none⟩ : Addr).add j) = some u) := fun W' hb => by
    have := (UB.out W' hb).piece 0 k (by have := HL.out; omega)
    simpa using this
  have PC3 : Hid (∀ W', Below wr.heap.size wr W' → ∀ j u, (tlist us)[j]? = some u → W'.cell? ((⟨g, off, none⟩ : Addr).add j) = some u) := fun W' hb => by
    have := (UB.out W' hb).piece 0 us.length (by omega)
    simpa using this
  obtain ⟨ad, had, hpc2⟩ : ∃ ad : Addr, (∀ inst : Decidable (capC = k + 1), @ite (Option Addr) (capC = k + 1) inst (some ⟨g, off, none⟩) (some ⟨g, off + (k + 1) * 2, none⟩) = some ad) ∧ ∀ W', Below wr.heap.size wr W' → ∀ j u, (tlist (us.drop (k + 1)))[j]? = some u → W'.cell? (ad.add j) = some u := by
    by_cases hcc : capC = k + 1
    · refine ⟨⟨g, off, none⟩, fun _ => if_pos hcc, fun W' hb j u hj => ?_⟩
      have h0 : (tlist (us.drop (k + 1))).length = 0 := by rw [HT2.out]; omega
      rw [List.length_eq_zero_iff.1 h0] at hj
      simp at hj
    · refine ⟨⟨g, off + (k + 1) * 2, none⟩, fun _ => if_neg hcc, fun W' hb => ?_⟩
      have := (UB.out W' hb).piece (k + 1) (us.length - (k + 1)) (by have := HL.out; omega)
      rwa [List.take_of_length_le (by simp)] at this
  have PC2 := hideP hpc2
  have HAD := hideP had
  have HELD : Hid (∀ W, Below wr.heap.size wr W → W.cell? ⟨w1.heap.size, 0, none⟩ = some (.int .i64 K) ∧ W.cell? ⟨w1.heap.size, 1, none⟩ = some (.slice ao ts.length cap') ∧ W.cell? ⟨g, off + k * 2, none⟩ = some (.int .i64 x) ∧ W.cell? ⟨g, off + k * 2 + 1, none⟩ = some (.int .i64 y)) := hideP (fun W hb => ⟨(N3.out.next hb).c0, (N3.out.next hb).c1, (hb.cell (p := ⟨g, off + k * 2, none⟩) hgw).trans e0, (hb.cell (p := ⟨g, off + k * 2 + 1, none⟩) hgw).trans e1⟩)
  have B0 : Hid (Below wr.heap.size wr wr.drew) := (Below.refl _ _).drew
  have bE : Hid (Below wr.heap.size wr (wr.drew.alloc (.cells #[] 37))) := hideP (B0.out.alloc (Nat.le_refl _) _)
  have EMP : Hid ((wr.drew.alloc (.cells #[] 37)).ownsRow wr.heap.size 37 2 (.slice (some ⟨wr.heap.size, 0, none⟩) 0 0) 0 (tlist [])) := hideP (own_empty wr.drew 37 wr.heap.size (Nat.le_refl _))
  have HBX := hideP HB3.out
  have hcp1 : (k : Int) ≤ (capC : Int) := by omega
  have hcp2 : (l : Int) ≤ (capC : Int) := by omega
  have hcp4 : k ≤ capC := by omega
  have hk0 : (0 : Int) ≤ (k : Int) := by omega
  have hk1 : (k : Int) < (l : Int) := by omega
  have hk2 : (k : Int) ≤ (l : Int) := by omega
  have hk3 : (k : Int) + 1 ≤ (l : Int) := by omega
  have hw1 : IntKind.i64.wrap ((k : Int) + 1) = (k : Int) + 1 := by rw [IntKind.wrap_i64]; omega
  have hcp6 : (0 : Int) ≤ (k : Int) + 1 := by omega
  have hcp7 : (k : Int) + 1 ≤ (capC : Int) := by omega
  have hcp5 : k + 1 ≤ l := by omega
  clear hx hy hpc2 had n0 n1 e0 e1
  go_wp2
  go_region_held3 (fun w' => w'.cell? ⟨w1.heap.size, 0, none⟩ = some (.int .i64 K) ∧ w'.cell? ⟨w1.heap.size, 1, none⟩ = some (.slice ao ts.length cap') ∧ w'.cell? ⟨g, off + k * 2, none⟩ = some (.int .i64 x) ∧ w'.cell? ⟨g, off + k * 2 + 1, none⟩ = some (.int .i64 y)) (first | exact HELD.out _ bI.out | exact HELD.out _ bD.out | exact HELD.out _ (HX.out _ bC.out) | exact HELD.out _ (HX.out _ (bC.out.alloc bC.out.size _)) | exact HELD.out _ (HX.out _ RR.out.bCT) | exact HELD.out _ (HX.out _ RR.out.bTC) | exact HELD.out _ (HX.out _ RR.out.bC) | exact HELD.out _ (HX.out _ RR.out.bT) | exact HELD.out _ bH.out | exact HELD.out _ bB.out | exact HELD.out _ bA.out | exact HELD.out _ bE.out | exact HELD.out _ B0.out) (first | (go_at_call 12; (with_reducible refine (PT3.out _ gD cD bD.out ⟨_, OD.out⟩).mono ?_); rintro e wI ⟨rfl, hbI⟩; have bI : Hid (Below wr.heap.size wr wI) := hideP (bD.out.trans (hbI.mono bD.out.size)); clear hbI; go_simp) | (go_at_call 12; (with_reducible refine (PT1.out _ gB cB bB.out OB.out).mono ?_); rintro e wH ⟨rfl, hbH⟩; have bH : Hid (Below wr.heap.size wr wH) := hideP (bB.out.trans (hbH.mono bB.out.size)); have RR := hideP (RoomsT.of wH x y); have HX : Hid (∀ W, Below wH.heap.size wH W → Below wr.heap.size wr W) := hideP (fun W hb => bH.out.trans (hb.mono bH.out.size)); clear hbH; go_simp) | (refine step_appn (by rfl) _ _ _ (by rfl) wH.heap.size 37 i1 (.agg #[.int .i64 0, .int .i64 0]) 2 16 Try.underlying23 HI.out.1 HI.out.2.1 HI.out.2.2.1 HI.out.2.2.2 rfl (by decide) (.slice (some ⟨gC, 0, none⟩) l cC) l (tlist [] ++ tlist us) (by rfl) (by simp) (by first | exact OC.out | exact OC.out.alloc _) (l + 1) ⟨_, 0, none⟩ 1 1 rfl [.int .i64 x, .int .i64 y] (by rfl) rfl (by first | exact World.news_of_block (cs := #[.int .i64 x, .int .i64 y]) (t := 37) (fr := (0, 0)) TK.out | exact World.news_of_block (cs := #[.int .i64 x, .int .i64 y]) (t := 37) (fr := (0, 0)) (heap_alloc_new wC _)) (by simp [Value.oneCell']) (by unfold maxLen; omega) (by omega) (by first | exact bC.out.size | exact (bC.out.alloc bC.out.size _).size) ?_; intro gD cD wD hownD hgrowD _; have OD : Hid (wD.ownsRow wH.heap.size 37 2 (.slice (some ⟨gD, 0, none⟩) (l + 1) cD) (l + 1) (tlist (us ++ [(x, y)]))) := hideP (by rw [tlist_app]; exact hownD); have bD : Hid (Below wr.heap.size wr wD) := (by first | exact hideP (HX.out _ (bC.out.grown hgrowD bC.out.size (own_ge OC.out))) | exact hideP (HX.out _ ((bC.out.alloc bC.out.size _).grown hgrowD (bC.out.alloc bC.out.size _).size (own_ge OC.out)))); clear hownD hgrowD) | (refine step_appn (by rfl) _ _ _ (by rfl) wH.heap.size 37 i1 (.agg #[.int .i64 0, .int .i64 0]) 2 16 Try.underlying23 HI.out.1 HI.out.2.1 HI.out.2.2.1 HI.out.2.2.2 rfl (by decide) (.slice (some ⟨wH.heap.size, 0, none⟩) 0 0) 0 (tlist []) (by rfl) (by simp) (by first | exact RR.out.i1 | exact RR.out.i2) l ⟨g, off, none⟩ l capC (Nat.zero_add _) (tlist us) (by rfl) HTM.out (by first | exact PC3.out _ (HX.out _ RR.out.bC) | exact PC3.out _ (HX.out _ RR.out.bCT) | exact PC3.out _ (HX.out _ RR.out.bTC)) (tlist_one us) (by unfold maxLen; omega) (by omega) (by first | exact RR.out.bC.size | exact RR.out.bCT.size | exact RR.out.bTC.size) ?_; intro gC cC wC hownC hgrowC _; have OC := hideP hownC; have bC : Hid (Below wH.heap.size wH wC) := (by first | exact hideP (RR.out.bCT.grown hgrowC RR.out.bCT.size (by intro z e; simp [Value.ownBlock] at e; omega)) | exact hideP (RR.out.bTC.grown hgrowC RR.out.bTC.size (by intro z e; simp [Value.ownBlock] at e; omega)) | exact hideP (RR.out.bC.grown hgrowC RR.out.bC.size (by intro z e; simp [Value.ownBlock] at e; omega))); (first | (have TK : Hid (wC.heap[wH.heap.size + 1]? = some (.cells #[.int .i64 x, .int .i64 y] 37 (0, 0))) := hideP (tempT_behind hgrowC)) | (have TK : Hid (wC.heap[wH.heap.size]? = some (.cells #[.int .i64 x, .int .i64 y] 37 (0, 0))) := hideP (tempT_ahead hgrowC)) | (have TK : Hid True := trivial)); clear hownC hgrowC) | (refine step_appn (by rfl) _ _ _ (by rfl) wH.heap.size 37 i1 (.agg #[.int .i64 0, .int .i64 0]) 2 16 Try.underlying23 HI.out.1 HI.out.2.1 HI.out.2.2.1 HI.out.2.2.2 rfl (by decide) (.slice (some ⟨wH.heap.size + 1, 0, none⟩) 0 0) 0 (tlist []) (by rfl) (by simp) RR.out.i3 l ⟨g, off, none⟩ l capC (Nat.zero_add _) (tlist us) (by rfl) HTM.out (by first | exact PC3.out _ (HX.out _ RR.out.bC) | exact PC3.out _ (HX.out _ RR.out.bCT) | exact PC3.out _ (HX.out _ RR.out.bTC)) (tlist_one us) (by unfold maxLen; omega) (by omega) (by first | exact RR.out.bC.size | exact RR.out.bCT.size | exact RR.out.bTC.size) ?_; intro gC cC wC hownC hgrowC _; have OC := hideP hownC; have bC : Hid (Below wH.heap.size wH wC) := (by first | exact hideP (RR.out.bCT.grown hgrowC RR.out.bCT.size (by intro z e; simp [Value.ownBlock] at e; omega)) | exact hideP (RR.out.bTC.grown hgrowC RR.out.bTC.size (by intro z e; simp [Value.ownBlock] at e; omega)) | exact hideP (RR.out.bC.grown hgrowC RR.out.bC.size (by intro z e; simp [Value.ownBlock] at e; omega))); (first | (have TK : Hid (wC.heap[wH.heap.size + 1]? = some (.cells #[.int .i64 x, .int .i64 y] 37 (0, 0))) := hideP (tempT_behind hgrowC)) | (have TK : Hid (wC.heap[wH.heap.size]? = some (.cells #[.int .i64 x, .int .i64 y] 37 (0, 0))) := hideP (tempT_ahead hgrowC)) | (have TK : Hid True := trivial)); clear hownC hgrowC) | (refine step_appn (by rfl) _ _ _ (by rfl) wr.heap.size 37 i1 (.agg #[.int .i64 0, .int .i64 0]) 2 16 Try.underlying23 HI.out.1 HI.out.2.1 HI.out.2.2.1 HI.out.2.2.2 rfl (by decide) (.slice (some ⟨gA, 0, none⟩) k cA) k (tlist [] ++ tlist (us.take k)) (by rfl) (by simp) OA.out (k + (l - (k + 1))) ad (l - (k + 1)) (capC - (k + 1)) rfl (tlist (us.drop (k + 1))) (by exact congrArg (fun z => Value.slice z (l - (k + 1)) (capC - (k + 1))) (HAD.out _)) HT2.out (PC2.out _ bA.out) (tlist_one _) (by unfold maxLen; omega) (by omega) bA.out.size ?_; intro gB cB wB hownB hgrowB _; have OB := hideP hownB; have bB : Hid (Below wr.heap.size wr wB) := hideP (bA.out.grown hgrowB bA.out.size (own_ge OA.out)); clear hownB hgrowB) | (refine step_appn (by rfl) _ _ _ (by rfl) wr.heap.size 37 i1 (.agg #[.int .i64 0, .int .i64 0]) 2 16 Try.underlying23 HI.out.1 HI.out.2.1 HI.out.2.2.1 HI.out.2.2.2 rfl (by decide) (.slice (some ⟨wr.heap.size, 0, none⟩) 0 0) 0 (tlist []) (by rfl) (by simp) EMP.out k ⟨g, off, none⟩ k capC (Nat.zero_add _) (tlist (us.take k)) (by rfl) HT1.out (PC1.out _ bE.out) (tlist_one _) (by unfold maxLen; omega) (by omega) bE.out.size ?_; intro gA cA wA hownA hgrowA _; have OA := hideP hownA; have bA : Hid (Below wr.heap.size wr wA) := hideP (bE.out.grown hgrowA bE.out.size (own_ge EMP.out)); clear hownA hgrowA))
  all_goals (have HBF : Hid (Below w.heap.size w wI) := hideP (HBX.out.trans (bI.out.mono HBX.out.size)); go_wp2 <;> (go_ret; exact ⟨rfl, HBF.out⟩))
end Go.Proofs.Ytljnjpjnadlmhaa
