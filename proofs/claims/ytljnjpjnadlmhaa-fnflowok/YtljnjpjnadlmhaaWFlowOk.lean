/- Walk of impl.FlowOk. -/
import Derived.Test.YtljnjpjnadlmhaaPartWEnds
import Derived.Test.YtljnjpjnadlmhaaPartWRowsI
import Derived.Test.YtljnjpjnadlmhaaPartWOne
import Derived.Test.YtljnjpjnadlmhaaPartWWhere
import Derived.Test.YtljnjpjnadlmhaaPartMathR
namespace Go.Proofs.Ytljnjpjnadlmhaa
open Go.RowKit
set_option linter.unusedVariables false

def natL (xs : List Int) : List Nat := xs.map Int.toNat
/-- ways from one knot to another one, none over a tie over which something goes -/
def goodW (K : Int) (ts : List (Int × Int)) (a b : Int) : (Nat → Nat → Int) → List (List Int) → Bool
  | _, [] => true
  | F, xs :: r => fromB K ts a b xs && !metB F (natL xs) && goodW K ts a b (goW F (natL xs)) r
def flowB (K : Int) (ts : List (Int × Int)) (a b : Int) (xss : List (List Int)) : Bool := twoB K ts a b && decide (xss.length ≤ 8) && goodW K ts a b (fun _ _ => 0) xss
structure NatW (xs : List Int) : Prop where
  pos : 0 < (natL xs).length
  len : (natL xs).length = xs.length
  le : (natL xs).length ≤ 8
  lt : ∀ z, z ∈ natL xs → z < 8
  nd : (natL xs).Nodup
  eq : ∀ i, i < xs.length → xi xs i = (((natL xs).getD i 0 : Nat) : Int)
theorem way_natI {K : Int} {ts : List (Int × Int)} {xs : List Int} (h : wayB K ts xs = true) : NatW xs := by
  have W := wayB_iff.1 h
  have hK8 := (okB_iff.1 W.ok).2.1
  have hlen : (natL xs).length = xs.length := by simp [natL]
  have hk : ∀ i, i < xs.length → 0 ≤ xi xs i ∧ xi xs i < K := fun i hi => by
    have := W.knot i hi
    unfold knotB at this
    rw [Bool.and_eq_true, decide_eq_true_eq, decide_eq_true_eq] at this
    exact this
  have hg : ∀ i, i < xs.length → (natL xs).getD i 0 = (xi xs i).toNat := fun i hi => by
    unfold natL xi
    rw [List.getD_eq_getElem?_getD, List.getD_eq_getElem?_getD, List.getElem?_map, List.getElem?_eq_getElem hi]; rfl
  have heq : ∀ i, i < xs.length → xi xs i = (((natL xs).getD i 0 : Nat) : Int) := fun i hi => by rw [hg i hi]; have := hk i hi; omega
  have hlt : ∀ i, i < (natL xs).length → (natL xs).getD i 0 < 8 := fun i hi => by rw [hlen] at hi; have := hk i hi; have := heq i hi; omega
  have hne : ∀ i j, i < j → j < (natL xs).length → (natL xs).getD i 0 ≠ (natL xs).getD j 0 := fun i j hij hj e => by
    rw [hlen] at hj
    refine W.one i j hij hj ?_
    rw [heq i (by omega), heq j hj, e]
  refine ⟨by rw [hlen]; exact W.pos, hlen, pigeon 8 _ (fun i => (natL xs).getD i 0) hlt hne, fun z hz => ?_, ?_, heq⟩
  · obtain ⟨i, hi, e⟩ := List.mem_iff_getElem.1 hz
    have := hlt i hi
    rw [List.getD_eq_getElem?_getD, List.getElem?_eq_getElem hi] at this
    rw [← e]; exact this
  · rw [List.nodup_iff_pairwise_ne, List.pairwise_iff_getElem]
    intro i j hi hj hij e
    refine hne i j hij hj ?_
    rw [List.getD_eq_getElem?_getD, List.getD_eq_getElem?_getD, List.getElem?_eq_getElem hi, List.getElem?_eq_getElem hj, e]
theorem isFromTo_v (v : Bool) (K : Int) (ao bo : Option Addr) (cap cap2 n : Nat) (ts : List (Int × Int)) (xs : List Int) (a b : Int) (w : World) (hl : xs.length = n) (hn : ts.length ≤ 1099511627776) (ht : TiesIn w w.heap.size ao ts) (hxn : n ≤ 1099511627776) (hcap : n ≤ cap2) (hx : IntsIn w w.heap.size bo xs) (h : fromB K ts a b xs = v) :
    Calls Try.prog 29 #[.agg #[.int .i64 K, .slice ao ts.length cap], .int .i64 a, .int .i64 b, .slice bo n cap2] w fun e w' => e = .returned (.bool v) ∧ Below w.heap.size w w' := by
  subst hl; rw [← h]; exact isFromTo_any K ao bo cap cap2 ts xs a b w hn ht hxn hcap hx
theorem goodW_drop {K : Int} {ts : List (Int × Int)} {a b : Int} {F : Nat → Nat → Int} {xss : List (List Int)} {k : Nat} (h : k < xss.length) : goodW K ts a b F (xss.drop k) = (fromB K ts a b (xss.getD k []) && !metB F (natL (xss.getD k [])) && goodW K ts a b (goW F (natL (xss.getD k []))) (xss.drop (k + 1))) := by
  rw [List.drop_eq_getElem_cons h]
  have e : xss.getD k [] = xss[k] := by rw [List.getD_eq_getElem?_getD, List.getElem?_eq_getElem h]; rfl
  rw [e]; rfl
set_option maxHeartbeats 3200000 in
theorem implFlowOk_any (K : Int) (ao bo : Option Addr) (cap cap2 : Nat) (ts : List (Int × Int)) (xss : List (List Int)) (a b : Int) (w : World) (hn : ts.length ≤ 1099511627776) (ht : TiesIn w w.heap.size ao ts) (hl : xss.length ≤ 1099511627776) (hx : RowsI w w.heap.size bo xss) :
    Calls Try.prog 8 #[.agg #[.int .i64 K, .slice ao ts.length cap], .int .i64 a, .int .i64 b, .slice bo xss.length cap2] w fun e w' => e = .returned (.bool (flowB K ts a b xss)) ∧ Below w.heap.size w w' := by
  have HT := hideP ht
  have HXR := hideP hx
  clear ht hx
  have X0 := fun (t : TypeId) => Bx.start w K (.slice ao ts.length cap) t
  have HX0 := hideP X0
  clear X0
  obtain ⟨p, hp⟩ : ∃ p, p = twoB K ts a b := ⟨_, rfl⟩
  have HP := hideP hp
  obtain ⟨r, hr⟩ : ∃ r, flowB K ts a b xss = r := ⟨_, rfl⟩
  have HR := hideP hr
  obtain ⟨m, hm⟩ : ∃ m, xss.length = m := ⟨_, rfl⟩
  have HM := hideP hm
  rw [hr, hm]
  rw [hm] at hl
  clear hp hr hm
  go_enter Try.func8, Try.ntmps8
  go_wp2_with fail
  refine (twoKnots_any K ao cap ts a b _ hn ((HT.out.below (HX0.out _).B (Nat.le_refl _)).wide (Nat.le_of_lt (HX0.out _).lt))).mono ?_
  rw [← HP.out]
  rintro e w2 ⟨rfl, hb1⟩
  have X2 := hideP ((HX0.out _).next hb1)
  clear hb1 HX0
  cases p with
  | false =>
    have HF : Hid (r = false) := hideP (by rw [← HR.out]; unfold flowB; rw [← HP.out]; rfl)
    have HB := hideP X2.out.B
    clear X2
    go_wp2
    go_ret
    exact ⟨by rw [HF.out]; rfl, HB.out⟩
  | true =>
    by_cases h8 : m ≤ 8
    · have h8b : decide ((8 : Int) < (m : Int)) = false := by simp; omega
      have HG : Hid (goodW K ts a b (fun _ _ => 0) xss = r) := hideP (by rw [← HR.out]; unfold flowB; rw [← HP.out, HM.out, decide_eq_true h8]; rfl)
      have F0 := hideP (Fm.first w2)
      have TT := hideP (Turned.refl w2.heap.size (w2.heap.size + 1) (w2.alloc (.map #[] 0)))
      have hmk : ∀ u : World, (Instr.makeMap 64 none).run Try.prog u = .ok (.map (some u.heap.size)) (u.alloc (.map #[] 0)) := fun _ => rfl
      go_wp2
      go_loopw [31] (fun i wr => ∃ (k n : Nat) (F : Nat → Nat → Int), k ≤ m ∧ i = .int .i64 (k : Int) ∧ n ≤ 8 * k ∧ Fm wr w2.heap.size n F ∧ (∀ x y, F y x = - F x y) ∧ (∀ u v, -1 ≤ F u v ∧ F u v ≤ 1) ∧ goodW K ts a b F (xss.drop k) = r ∧ Below w2.heap.size w2 wr)
        (fun i _ => m - (intOf i).toNat)
      case atStart => exact ⟨0, 0, _, Nat.zero_le _, rfl, by omega, F0.out, fun _ _ => rfl, fun _ _ => by omega, HG.out, below_one _ _⟩
      case round =>
        obtain ⟨k, n, F, hk, rfl, hnk, hF, ha, hbd, hg, hB⟩ := hrel
        have HF := hideP hF
        have HA := hideP ha
        have HBD := hideP hbd
        have HBr := hideP hB
        have Xr := hideP (X2.out.next hB)
        have hgd := fun (h : k < xss.length) => (goodW_drop (K := K) (ts := ts) (a := a) (b := b) (F := F) h).symm.trans hg
        clear hF ha hbd hB
        by_cases hlt : k < m
        · have hk1 : (k : Int) < (m : Int) := by omega
          have hk0 : (0 : Int) ≤ (k : Int) := by omega
          have hgk := hgd (by rw [HM.out]; exact hlt)
          obtain ⟨g, off, bo2, cap3, rfl, hgw, e00, hc1, hc2, hI⟩ := HXR.out k (by rw [HM.out]; exact hlt)
          have e0 := (Xr.out.B.cell (p := ⟨g, off + k, none⟩) hgw).trans e00
          clear e00
          obtain ⟨xs, hxs⟩ : ∃ xs, xs = xss.getD k [] := ⟨_, rfl⟩
          rw [← hxs] at hgk e0 hc1 hc2 hI
          have HI := hideP hI
          obtain ⟨l, hl2⟩ : ∃ l, xs.length = l := ⟨_, rfl⟩
          have HL := hideP hl2
          rw [hl2] at e0 hc1 hc2
          have HGK := hideP hgk
          have c0 := Xr.out.c0
          have c1 := Xr.out.c1
          have hwr : w.heap.size ≤ wr.heap.size := Xr.out.B.size
          clear hgk hgd hg hxs hI hl2
          cases hv : fromB K ts a b xs with
          | false =>
            have HV := hideP hv
            have HN : Hid (r = false) := hideP (by rw [← HGK.out, hv]; rfl)
            clear hv
            go_wp2_with fail
            refine (isFromTo_v false K ao _ cap cap3 l ts xs a b _ HL.out hn ((HT.out.below Xr.out.B (Nat.le_refl _)).wide hwr) hc2 hc1 ((HI.out.below Xr.out.B (Nat.le_refl _)).wide hwr) HV.out).mono ?_
            rintro e w5 ⟨rfl, hb5⟩
            have HB := hideP (Xr.out.next hb5).B
            clear hb5
            go_wp2
            go_ret
            exact ⟨by rw [HN.out]; rfl, HB.out⟩
          | true =>
            have HV := hideP hv
            have hway : wayB K ts xs = true := by
              have := hv
              unfold fromB at this
              simp only [Bool.and_eq_true] at this
              exact this.1.1
            have N := hideP (way_natI hway)
            have HGK2 : Hid ((!metB F (natL xs) && goodW K ts a b (goW F (natL xs)) (xss.drop (k + 1))) = r) := hideP (by rw [← HGK.out, hv, Bool.true_and])
            have hlq : (natL xs).length = l := N.out.len.trans HL.out
            obtain ⟨q, hq⟩ : ∃ q, q = natL xs := ⟨_, rfl⟩
            have HQ := hideP hq
            rw [← hq] at hlq HGK2
            obtain ⟨g2, off2, rfl, hg2, _⟩ := HI.out 0 (by have := N.out.pos; have := N.out.len; omega)
            have HCC : Hid (∀ W, Below w.heap.size w W → ∀ i, i < q.length → W.cell? ⟨g2, off2 + i, none⟩ = some (.int .i64 ((q.getD i 0 : Nat) : Int))) := hideP (fun W hb i hi => by
              have hil : i < xs.length := by rw [← N.out.len, ← hq]; exact hi
              obtain ⟨g3, off3, e3, h3, h4⟩ := (HI.out.below hb (Nat.le_refl _)) i hil
              cases e3
              rw [h4, N.out.eq i hil, ← hq])
            clear hv hway HGK hq
            go_wp2_with fail
            refine (isFromTo_v true K ao _ cap cap3 l ts xs a b _ HL.out hn ((HT.out.below Xr.out.B (Nat.le_refl _)).wide hwr) hc2 hc1 ((HI.out.below Xr.out.B (Nat.le_refl _)).wide hwr) HV.out).mono ?_
            rintro e w5 ⟨rfl, hb5⟩
            have X5 := hideP (Xr.out.next hb5)
            have F5 := hideP (HF.out.next hb5)
            have B5 := hideP (HBr.out.trans (hb5.mono HBr.out.size))
            have hg5 : g2 < w5.heap.size := Nat.lt_of_lt_of_le hg2 X5.out.B.size
            clear hb5 Xr HF HBr c0 c1
            subst hlq
            cases hmt : metB F q with
            | true =>
              have HMT := hideP hmt
              have HN : Hid (r = false) := hideP (by rw [← HGK2.out, hmt]; rfl)
              clear hmt
              go_wp2_with fail
              refine (meets_any w2.heap.size n F g2 off2 cap3 q _ (by rw [HQ.out]; exact N.out.le) (by rw [HQ.out]; exact N.out.pos) (by rw [HQ.out]; exact N.out.lt) (by rw [HQ.out]; exact N.out.nd) hg5 F5.out (HCC.out _ X5.out.B)).mono ?_
              rw [HMT.out]
              rintro e w6 ⟨rfl, hb6⟩
              have HB := hideP (X5.out.next hb6).B
              clear hb6
              go_wp2
              go_ret
              exact ⟨by rw [HN.out]; rfl, HB.out⟩
            | false =>
              have HMT := hideP hmt
              have HGN : Hid (goodW K ts a b (goW F q) (xss.drop (k + 1)) = r) := hideP (by rw [← HGK2.out, hmt]; rfl)
              have HOFF := hideP (goW_off q F HA.out (by rw [HQ.out]; exact N.out.nd) ((met_off HA.out q).1 hmt))
              clear hmt HGK2
              go_wp2_with fail
              refine (meets_any w2.heap.size n F g2 off2 cap3 q _ (by rw [HQ.out]; exact N.out.le) (by rw [HQ.out]; exact N.out.pos) (by rw [HQ.out]; exact N.out.lt) (by rw [HQ.out]; exact N.out.nd) hg5 F5.out (HCC.out _ X5.out.B)).mono ?_
              rw [HMT.out]
              rintro e w6 ⟨rfl, hb6⟩
              have X6 := hideP (X5.out.next hb6)
              have F6 := hideP (F5.out.next hb6)
              have B6 := hideP (B5.out.trans (hb6.mono B5.out.size))
              have hg6 : g2 < w6.heap.size := Nat.lt_of_lt_of_le hg2 X6.out.B.size
              have hgB : g2 ≠ w2.heap.size := by have := X2.out.B.size; omega
              clear hb6 X5 F5 B5
              go_wp2_with fail
              refine (send_any w2.heap.size n F g2 off2 cap3 q _ (by rw [HQ.out]; exact N.out.le) (by rw [HQ.out]; exact N.out.pos) (by rw [HQ.out]; exact N.out.lt) (by rw [HQ.out]; exact N.out.nd) hg6 hgB (by omega) HBD.out F6.out (HCC.out _ X6.out.B)).mono ?_
              rintro e w7 ⟨rfl, F7, T7⟩
              have HF7 := hideP F7
              have B7 := hideP (B6.out.trans (T7.under (Nat.le_refl _) B6.out.size))
              have hq8 : q.length ≤ 8 := by rw [HQ.out]; exact N.out.le
              clear F7 T7 X6 F6 B6
              go_wp2
              exact ⟨⟨k + 1, n + q.length, goW F q, by omega, by go_num, by omega, HF7.out, HOFF.out.1, fun u v => (HOFF.out.2 u v).2 (HBD.out u v), HGN.out, B7.out⟩, by simp [intOf]; omega⟩
        · obtain rfl : k = m := by omega
          have HN : Hid (r = true) := hideP (by rw [← hg, List.drop_eq_nil_of_le (by rw [HM.out]; exact Nat.le_refl _)]; rfl)
          have HB := hideP Xr.out.B
          clear hgd hg Xr
          go_wp2
          go_ret
          exact ⟨by rw [HN.out]; rfl, HB.out⟩
    · have h8b : decide ((8 : Int) < (m : Int)) = true := by simp; omega
      have HF : Hid (r = false) := hideP (by rw [← HR.out]; unfold flowB; rw [HM.out, decide_eq_false h8]; simp)
      have HB := hideP X2.out.B
      clear X2
      go_wp2
      go_ret
      exact ⟨by rw [HF.out]; rfl, HB.out⟩

end Go.Proofs.Ytljnjpjnadlmhaa
