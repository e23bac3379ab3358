/- Texts put together: WFlowOk, MathGA, MathGB, MathGC, WFlowOkS, MathGD. -/
import Derived.Test.YtljnjpjnadlmhaaDoorPartWEnds
import Derived.Test.YtljnjpjnadlmhaaDoorPartWRowsI
import Derived.Test.YtljnjpjnadlmhaaDoorPartMathFP
import Derived.Test.YtljnjpjnadlmhaaDoorPartWMost
import Derived.Test.YtljnjpjnadlmhaaDoorPartMathR
import Derived.Test.YtljnjpjnadlmhaaDoorPartMathE
import Derived.Test.YtljnjpjnadlmhaaDoorPartMathFN
/- Walk of impl.FlowOk. -/
namespace Go.Proofs.YtljnjpjnadlmhaaDoor
open Go.RowKit
set_option linter.unusedVariables false

def natL (xs : List Int) : List Nat := xs.map Int.toNat
/-- ways from one knot to another one, none over a tie over which something goes -/
def goodW (K : Int) (ts : List (Int × Int)) (a b : Int) : (Nat → Nat → Int) → List (List Int) → Bool
  | _, [] => true
  | F, xs :: r => fromB K ts a b xs && !metB F (natL xs) && goodW K ts a b (goW F (natL xs)) r
def flowB (K : Int) (ts : List (Int × Int)) (a b : Int) (xss : List (List Int)) : Bool := twoB K ts a b && decide (xss.length ≤ 8) && goodW K ts a b (fun _ _ => 0) xss
structure NatW (xs : List Int) : Prop where
  pos : 0 < (natL xs).length
  len : (natL xs).length = xs.length
  le : (natL xs).length ≤ 8
  lt : ∀ z, z ∈ natL xs → z < 8
  nd : (natL xs).Nodup
  eq : ∀ i, i < xs.length → xi xs i = (((natL xs).getD i 0 : Nat) : Int)
theorem way_natI {K : Int} {ts : List (Int × Int)} {xs : List Int} (h : wayB K ts xs = true) : NatW xs := by
  have W := wayB_iff.1 h
  have hK8 := (okB_iff.1 W.ok).2.1
  have hlen : (natL xs).length = xs.length := by simp [natL]
  have hk : ∀ i, i < xs.length → 0 ≤ xi xs i ∧ xi xs i < K := fun i hi => by
    have := W.knot i hi
    unfold knotB at this
    rw [Bool.and_eq_true, decide_eq_true_eq, decide_eq_true_eq] at this
    exact this
  have hg : ∀ i, i < xs.length → (natL xs).getD i 0 = (xi xs i).toNat := fun i hi => by
    unfold natL xi
    rw [List.getD_eq_getElem?_getD, List.getD_eq_getElem?_getD, List.getElem?_map, List.getElem?_eq_getElem hi]; rfl
  have heq : ∀ i, i < xs.length → xi xs i = (((natL xs).getD i 0 : Nat) : Int) := fun i hi => by rw [hg i hi]; have := hk i hi; omega
  have hlt : ∀ i, i < (natL xs).length → (natL xs).getD i 0 < 8 := fun i hi => by rw [hlen] at hi; have := hk i hi; have := heq i hi; omega
  have hne : ∀ i j, i < j → j < (natL xs).length → (natL xs).getD i 0 ≠ (natL xs).getD j 0 := fun i j hij hj e => by
    rw [hlen] at hj
    refine W.one i j hij hj ?_
    rw [heq i (by omega), heq j hj, e]
  refine ⟨by rw [hlen]; exact W.pos, hlen, pigeon 8 _ (fun i => (natL xs).getD i 0) hlt hne, fun z hz => ?_, ?_, heq⟩
  · obtain ⟨i, hi, e⟩ := List.mem_iff_getElem.1 hz
    have := hlt i hi
    rw [List.getD_eq_getElem?_getD, List.getElem?_eq_getElem hi] at this
    rw [← e]; exact this
  · rw [List.nodup_iff_pairwise_ne, List.pairwise_iff_getElem]
    intro i j hi hj hij e
    refine hne i j hij hj ?_
    rw [List.getD_eq_getElem?_getD, List.getD_eq_getElem?_getD, List.getElem?_eq_getElem hi, List.getElem?_eq_getElem hj, e]
theorem isFromTo_v (v : Bool) (K : Int) (ao bo : Option Addr) (cap cap2 n : Nat) (ts : List (Int × Int)) (xs : List Int) (a b : Int) (w : World) (hl : xs.length = n) (hn : ts.length ≤ 1099511627776) (ht : TiesIn w w.heap.size ao ts) (hxn : n ≤ 1099511627776) (hcap : n ≤ cap2) (hx : IntsIn w w.heap.size bo xs) (h : fromB K ts a b xs = v) :
    Calls Tryd.prog 22 #[.agg #[.int .i64 K, .slice ao ts.length cap], .int .i64 a, .int .i64 b, .slice bo n cap2] w fun e w' => e = .returned (.bool v) ∧ Below w.heap.size w w' := by
  subst hl; rw [← h]; exact isFromTo_any K ao bo cap cap2 ts xs a b w hn ht hxn hcap hx
theorem goodW_drop {K : Int} {ts : List (Int × Int)} {a b : Int} {F : Nat → Nat → Int} {xss : List (List Int)} {k : Nat} (h : k < xss.length) : goodW K ts a b F (xss.drop k) = (fromB K ts a b (xss.getD k []) && !metB F (natL (xss.getD k [])) && goodW K ts a b (goW F (natL (xss.getD k []))) (xss.drop (k + 1))) := by
  rw [List.drop_eq_getElem_cons h]
  have e : xss.getD k [] = xss[k] := by rw [List.getD_eq_getElem?_getD, List.getElem?_eq_getElem h]; rfl
  rw [e]; rfl
set_option maxHeartbeats 3200000 in
theorem implFlowOk_any (K : Int) (ao bo : Option Addr) (cap cap2 : Nat) (ts : List (Int × Int)) (xss : List (List Int)) (a b : Int) (w : World) (hn : ts.length ≤ 1099511627776) (ht : TiesIn w w.heap.size ao ts) (hl : xss.length ≤ 1099511627776) (hx : RowsI w w.heap.size bo xss) :
    Calls Tryd.prog 6 #[.agg #[.int .i64 K, .slice ao ts.length cap], .int .i64 a, .int .i64 b, .slice bo xss.length cap2] w fun e w' => e = .returned (.bool (flowB K ts a b xss)) ∧ Below w.heap.size w w' := by
  have HT := hideP ht
  have HXR := hideP hx
  clear ht hx
  have X0 := fun (t : TypeId) => Bx.start w K (.slice ao ts.length cap) t
  have HX0 := hideP X0
  clear X0
  obtain ⟨p, hp⟩ : ∃ p, p = twoB K ts a b := ⟨_, rfl⟩
  have HP := hideP hp
  obtain ⟨r, hr⟩ : ∃ r, flowB K ts a b xss = r := ⟨_, rfl⟩
  have HR := hideP hr
  obtain ⟨m, hm⟩ : ∃ m, xss.length = m := ⟨_, rfl⟩
  have HM := hideP hm
  rw [hr, hm]
  rw [hm] at hl
  clear hp hr hm
  go_enter Tryd.func6, Tryd.ntmps6
  go_wp2_with fail
  refine (twoKnots_any K ao cap ts a b _ hn ((HT.out.below (HX0.out _).B (Nat.le_refl _)).wide (Nat.le_of_lt (HX0.out _).lt))).mono ?_
  rw [← HP.out]
  rintro e w2 ⟨rfl, hb1⟩
  have X2 := hideP ((HX0.out _).next hb1)
  clear hb1 HX0
  cases p with
  | false =>
    have HF : Hid (r = false) := hideP (by rw [← HR.out]; unfold flowB; rw [← HP.out]; rfl)
    have HB := hideP X2.out.B
    clear X2
    go_wp2
    go_ret
    exact ⟨by rw [HF.out]; rfl, HB.out⟩
  | true =>
    by_cases h8 : m ≤ 8
    · have h8b : decide ((8 : Int) < (m : Int)) = false := by simp; omega
      have HG : Hid (goodW K ts a b (fun _ _ => 0) xss = r) := hideP (by rw [← HR.out]; unfold flowB; rw [← HP.out, HM.out, decide_eq_true h8]; rfl)
      have F0 := hideP (Fm.first w2)
      have TT := hideP (Turned.refl w2.heap.size (w2.heap.size + 1) (w2.alloc (.map #[] 0)))
      have hmk : ∀ u : World, (Instr.makeMap 51 none).run Tryd.prog u = .ok (.map (some u.heap.size)) (u.alloc (.map #[] 0)) := fun _ => rfl
      go_wp2
      go_loopw [31] (fun i wr => ∃ (k n : Nat) (F : Nat → Nat → Int), k ≤ m ∧ i = .int .i64 (k : Int) ∧ n ≤ 8 * k ∧ Fm wr w2.heap.size n F ∧ (∀ x y, F y x = - F x y) ∧ (∀ u v, -1 ≤ F u v ∧ F u v ≤ 1) ∧ goodW K ts a b F (xss.drop k) = r ∧ Below w2.heap.size w2 wr)
        (fun i _ => m - (intOf i).toNat)
      case atStart => exact ⟨0, 0, _, Nat.zero_le _, rfl, by omega, F0.out, fun _ _ => rfl, fun _ _ => by omega, HG.out, below_one _ _⟩
      case round =>
        obtain ⟨k, n, F, hk, rfl, hnk, hF, ha, hbd, hg, hB⟩ := hrel
        have HF := hideP hF
        have HA := hideP ha
        have HBD := hideP hbd
        have HBr := hideP hB
        have Xr := hideP (X2.out.next hB)
        have hgd := fun (h : k < xss.length) => (goodW_drop (K := K) (ts := ts) (a := a) (b := b) (F := F) h).symm.trans hg
        clear hF ha hbd hB
        by_cases hlt : k < m
        · have hk1 : (k : Int) < (m : Int) := by omega
          have hk0 : (0 : Int) ≤ (k : Int) := by omega
          have hgk := hgd (by rw [HM.out]; exact hlt)
          obtain ⟨g, off, bo2, cap3, rfl, hgw, e00, hc1, hc2, hI⟩ := HXR.out k (by rw [HM.out]; exact hlt)
          have e0 := (Xr.out.B.cell (p := ⟨g, off + k, none⟩) hgw).trans e00
          clear e00
          obtain ⟨xs, hxs⟩ : ∃ xs, xs = xss.getD k [] := ⟨_, rfl⟩
          rw [← hxs] at hgk e0 hc1 hc2 hI
          have HI := hideP hI
          obtain ⟨l, hl2⟩ : ∃ l, xs.length = l := ⟨_, rfl⟩
          have HL := hideP hl2
          rw [hl2] at e0 hc1 hc2
          have HGK := hideP hgk
          have c0 := Xr.out.c0
          have c1 := Xr.out.c1
          have hwr : w.heap.size ≤ wr.heap.size := Xr.out.B.size
          clear hgk hgd hg hxs hI hl2
          cases hv : fromB K ts a b xs with
          | false =>
            have HV := hideP hv
            have HN : Hid (r = false) := hideP (by rw [← HGK.out, hv]; rfl)
            clear hv
            go_wp2_with fail
            refine (isFromTo_v false K ao _ cap cap3 l ts xs a b _ HL.out hn ((HT.out.below Xr.out.B (Nat.le_refl _)).wide hwr) hc2 hc1 ((HI.out.below Xr.out.B (Nat.le_refl _)).wide hwr) HV.out).mono ?_
            rintro e w5 ⟨rfl, hb5⟩
            have HB := hideP (Xr.out.next hb5).B
            clear hb5
            go_wp2
            go_ret
            exact ⟨by rw [HN.out]; rfl, HB.out⟩
          | true =>
            have HV := hideP hv
            have hway : wayB K ts xs = true := by
              have := hv
              unfold fromB at this
              simp only [Bool.and_eq_true] at this
              exact this.1.1
            have N := hideP (way_natI hway)
            have HGK2 : Hid ((!metB F (natL xs) && goodW K ts a b (goW F (natL xs)) (xss.drop (k + 1))) = r) := hideP (by rw [← HGK.out, hv, Bool.true_and])
            have hlq : (natL xs).length = l := N.out.len.trans HL.out
            obtain ⟨q, hq⟩ : ∃ q, q = natL xs := ⟨_, rfl⟩
            have HQ := hideP hq
            rw [← hq] at hlq HGK2
            obtain ⟨g2, off2, rfl, hg2, _⟩ := HI.out 0 (by have := N.out.pos; have := N.out.len; omega)
            have HCC : Hid (∀ W, Below w.heap.size w W → ∀ i, i < q.length → W.cell? ⟨g2, off2 + i, none⟩ = some (.int .i64 ((q.getD i 0 : Nat) : Int))) := hideP (fun W hb i hi => by
              have hil : i < xs.length := by rw [← N.out.len, ← hq]; exact hi
              obtain ⟨g3, off3, e3, h3, h4⟩ := (HI.out.below hb (Nat.le_refl _)) i hil
              cases e3
              rw [h4, N.out.eq i hil, ← hq])
            clear hv hway HGK hq
            go_wp2_with fail
            refine (isFromTo_v true K ao _ cap cap3 l ts xs a b _ HL.out hn ((HT.out.below Xr.out.B (Nat.le_refl _)).wide hwr) hc2 hc1 ((HI.out.below Xr.out.B (Nat.le_refl _)).wide hwr) HV.out).mono ?_
            rintro e w5 ⟨rfl, hb5⟩
            have X5 := hideP (Xr.out.next hb5)
            have F5 := hideP (HF.out.next hb5)
            have B5 := hideP (HBr.out.trans (hb5.mono HBr.out.size))
            have hg5 : g2 < w5.heap.size := Nat.lt_of_lt_of_le hg2 X5.out.B.size
            clear hb5 Xr HF HBr c0 c1
            subst hlq
            cases hmt : metB F q with
            | true =>
              have HMT := hideP hmt
              have HN : Hid (r = false) := hideP (by rw [← HGK2.out, hmt]; rfl)
              clear hmt
              go_wp2_with fail
              refine (meets_any w2.heap.size n F g2 off2 cap3 q _ (by rw [HQ.out]; exact N.out.le) (by rw [HQ.out]; exact N.out.pos) (by rw [HQ.out]; exact N.out.lt) (by rw [HQ.out]; exact N.out.nd) hg5 F5.out (HCC.out _ X5.out.B)).mono ?_
              rw [HMT.out]
              rintro e w6 ⟨rfl, hb6⟩
              have HB := hideP (X5.out.next hb6).B
              clear hb6
              go_wp2
              go_ret
              exact ⟨by rw [HN.out]; rfl, HB.out⟩
            | false =>
              have HMT := hideP hmt
              have HGN : Hid (goodW K ts a b (goW F q) (xss.drop (k + 1)) = r) := hideP (by rw [← HGK2.out, hmt]; rfl)
              have HOFF := hideP (goW_off q F HA.out (by rw [HQ.out]; exact N.out.nd) ((met_off HA.out q).1 hmt))
              clear hmt HGK2
              go_wp2_with fail
              refine (meets_any w2.heap.size n F g2 off2 cap3 q _ (by rw [HQ.out]; exact N.out.le) (by rw [HQ.out]; exact N.out.pos) (by rw [HQ.out]; exact N.out.lt) (by rw [HQ.out]; exact N.out.nd) hg5 F5.out (HCC.out _ X5.out.B)).mono ?_
              rw [HMT.out]
              rintro e w6 ⟨rfl, hb6⟩
              have X6 := hideP (X5.out.next hb6)
              have F6 := hideP (F5.out.next hb6)
              have B6 := hideP (B5.out.trans (hb6.mono B5.out.size))
              have hg6 : g2 < w6.heap.size := Nat.lt_of_lt_of_le hg2 X6.out.B.size
              have hgB : g2 ≠ w2.heap.size := by have := X2.out.B.size; omega
              clear hb6 X5 F5 B5
              go_wp2_with fail
              refine (send_any w2.heap.size n F g2 off2 cap3 q _ (by rw [HQ.out]; exact N.out.le) (by rw [HQ.out]; exact N.out.pos) (by rw [HQ.out]; exact N.out.lt) (by rw [HQ.out]; exact N.out.nd) hg6 hgB (by omega) HBD.out F6.out (HCC.out _ X6.out.B)).mono ?_
              rintro e w7 ⟨rfl, F7, T7⟩
              have HF7 := hideP F7
              have B7 := hideP (B6.out.trans (T7.under (Nat.le_refl _) B6.out.size))
              have hq8 : q.length ≤ 8 := by rw [HQ.out]; exact N.out.le
              clear F7 T7 X6 F6 B6
              go_wp2
              exact ⟨⟨k + 1, n + q.length, goW F q, by omega, by go_num, by omega, HF7.out, HOFF.out.1, fun u v => (HOFF.out.2 u v).2 (HBD.out u v), HGN.out, B7.out⟩, by simp [intOf]; omega⟩
        · obtain rfl : k = m := by omega
          have HN : Hid (r = true) := hideP (by rw [← hg, List.drop_eq_nil_of_le (by rw [HM.out]; exact Nat.le_refl _)]; rfl)
          have HB := hideP Xr.out.B
          clear hgd hg Xr
          go_wp2
          go_ret
          exact ⟨by rw [HN.out]; rfl, HB.out⟩
    · have h8b : decide ((8 : Int) < (m : Int)) = true := by simp; omega
      have HF : Hid (r = false) := hideP (by rw [← HR.out]; unfold flowB; rw [HM.out, decide_eq_false h8]; simp)
      have HB := hideP X2.out.B
      clear X2
      go_wp2
      go_ret
      exact ⟨by rw [HF.out]; rfl, HB.out⟩

end Go.Proofs.YtljnjpjnadlmhaaDoor

/- Mathematics of flows: ways are good one behind the other just if no two of them go over one tie. -/
namespace Go.Proofs.YtljnjpjnadlmhaaDoor
set_option linter.unusedVariables false

theorem onP_symm {p : List Nat} {u v : Nat} (h : onP p u v) : onP p v u := by
  rw [onP_iff] at h ⊢
  obtain ⟨k, hk, h | h⟩ := h
  · exact ⟨k, hk, Or.inr h⟩
  · exact ⟨k, hk, Or.inl h⟩
/-- no tie is of both ways -/
def Apart2 (p q : List Nat) : Prop := ∀ u v, onP p u v → ¬ onP q u v
theorem off_sent {F : Nat → Nat → Int} (ha : ∀ x y, F y x = - F x y) {q : List Nat} (hn : q.Nodup) (ho : offP F q) (p : List Nat) : offP (goW F q) p ↔ offP F p ∧ Apart2 q p := by
  have hg := (goW_off q F ha hn ho).2
  rw [offP_iff, offP_iff]
  constructor
  · intro h
    refine ⟨fun k hk => ?_, fun u v hq hp => ?_⟩
    · have h1 := h k hk
      have h2 := (hg (p.getD k 0) (p.getD (k + 1) 0)).1
      by_cases e : F (p.getD k 0) (p.getD (k + 1) 0) = 0
      · exact e
      · exact absurd h1 (h2.2 (Or.inl e))
    · obtain ⟨k, hk, e | e⟩ := (onP_iff p).1 hp
      · have h1 := h k hk
        rw [e.1, e.2] at h1
        exact (hg u v).1.2 (Or.inr hq) h1
      · have h1 := h k hk
        rw [e.1, e.2] at h1
        exact (hg v u).1.2 (Or.inr (onP_symm hq)) h1
  · rintro ⟨h1, h2⟩ k hk
    by_cases e : goW F q (p.getD k 0) (p.getD (k + 1) 0) = 0
    · exact e
    · rcases (hg _ _).1.1 e with h | h
      · exact absurd (h1 k hk) h
      · exact absurd ((onP_iff p).2 ⟨k, hk, Or.inl ⟨rfl, rfl⟩⟩) (h2 _ _ h)
theorem from_nat {K : Int} {ts : List (Int × Int)} {a b : Int} {xs : List Int} (h : fromB K ts a b xs = true) : NatW xs := by
  unfold fromB at h
  simp only [Bool.and_eq_true] at h
  exact way_natI h.1.1
theorem good_iff {K : Int} {ts : List (Int × Int)} {a b : Int} : ∀ (xss : List (List Int)) (F : Nat → Nat → Int), (∀ x y, F y x = - F x y) →
    (goodW K ts a b F xss = true ↔ (∀ xs, xs ∈ xss → fromB K ts a b xs = true) ∧ (∀ xs, xs ∈ xss → offP F (natL xs)) ∧ xss.Pairwise (fun p q => Apart2 (natL p) (natL q)))
  | [], F, _ => ⟨fun _ => ⟨fun _ h => (by cases h), fun _ h => (by cases h), List.Pairwise.nil⟩, fun _ => rfl⟩
  | xs :: r, F, ha => by
    show (fromB K ts a b xs && !metB F (natL xs) && goodW K ts a b (goW F (natL xs)) r) = true ↔ _
    rw [Bool.and_eq_true, Bool.and_eq_true, Bool.not_eq_true', List.pairwise_cons]
    constructor
    · rintro ⟨⟨h1, h2⟩, h3⟩
      have N := from_nat h1
      have ho := (met_off ha _).1 h2
      obtain ⟨i1, i2, i3⟩ := (good_iff r _ (goW_off _ F ha N.nd ho).1).1 h3
      refine ⟨fun ys hy => ?_, fun ys hy => ?_, fun ys hy => ((off_sent ha N.nd ho _).1 (i2 ys hy)).2, i3⟩
      · rcases List.mem_cons.1 hy with rfl | hy
        · exact h1
        · exact i1 ys hy
      · rcases List.mem_cons.1 hy with rfl | hy
        · exact ho
        · exact ((off_sent ha N.nd ho _).1 (i2 ys hy)).1
    · rintro ⟨h1, h2, h3, h4⟩
      have hx := h1 xs (by simp)
      have N := from_nat hx
      have ho := h2 xs (by simp)
      refine ⟨⟨hx, (met_off ha _).2 ho⟩, (good_iff r _ (goW_off _ F ha N.nd ho).1).2 ⟨fun ys hy => h1 ys (List.mem_cons_of_mem _ hy), fun ys hy => (off_sent ha N.nd ho _).2 ⟨h2 ys (List.mem_cons_of_mem _ hy), h3 ys hy⟩, h4⟩⟩

end Go.Proofs.YtljnjpjnadlmhaaDoor

/- Mathematics of flows: no two ways go over one tie just if each tie is gone over once at most. -/
namespace Go.Proofs.YtljnjpjnadlmhaaDoor
set_option linter.unusedVariables false

theorem few_pairwise {α : Type} (f : α → Bool) : ∀ l : List α, (l.filter f).length ≤ 1 ↔ l.Pairwise (fun p q => ¬ (f p = true ∧ f q = true))
  | [] => ⟨fun _ => List.Pairwise.nil, fun _ => by simp⟩
  | a :: r => by
    have ih := few_pairwise f r
    rw [List.pairwise_cons]
    cases ha : f a with
    | false =>
      rw [List.filter_cons_of_neg (by simp [ha])]
      constructor
      · intro h
        exact ⟨fun q _ e => (by cases e.1), ih.1 h⟩
      · rintro ⟨_, h⟩
        exact ih.2 h
    | true =>
      rw [List.filter_cons_of_pos ha, List.length_cons]
      constructor
      · intro h
        have hz : r.filter f = [] := List.length_eq_zero_iff.1 (by omega)
        refine ⟨fun q hq e => ?_, ih.1 (by rw [hz]; simp)⟩
        have := List.filter_eq_nil_iff.1 hz q hq
        exact this e.2
      · rintro ⟨h, _⟩
        have hz : r.filter f = [] := List.filter_eq_nil_iff.2 (fun q hq e => h q hq ⟨rfl, e⟩)
        rw [hz]; simp
theorem tieOf_pair {u v x y : Nat} (hxy : x < y) : tieOf (u : Int) (v : Int) = ((x : Int), (y : Int)) ↔ (u = x ∧ v = y) ∨ (u = y ∧ v = x) := by
  unfold tieOf
  simp only [Prod.mk.injEq]
  omega
theorem uses_nat {xs : List Int} (N : NatW xs) {x y : Nat} (hxy : x < y) : usesB xs ((x : Int), (y : Int)) = true ↔ onP (natL xs) x y := by
  rw [onP_iff]
  unfold usesB
  rw [List.any_eq_true]
  constructor
  · rintro ⟨k, hk, h⟩
    rw [List.mem_range] at hk
    rw [Bool.and_eq_true, decide_eq_true_eq, decide_eq_true_eq] at h
    obtain ⟨h1, h2⟩ := h
    obtain ⟨j, rfl⟩ : ∃ j, k = j + 1 := ⟨k - 1, by omega⟩
    rw [Nat.add_sub_cancel, N.eq j (by omega), N.eq (j + 1) hk, tieOf_pair hxy] at h2
    exact ⟨j, by rw [N.len]; exact hk, h2⟩
  · rintro ⟨k, hk, h⟩
    rw [N.len] at hk
    refine ⟨k + 1, List.mem_range.2 hk, ?_⟩
    rw [Bool.and_eq_true, decide_eq_true_eq, decide_eq_true_eq, Nat.add_sub_cancel, N.eq k (by omega), N.eq (k + 1) hk, tieOf_pair hxy]
    exact ⟨by omega, h⟩
/-- a way's ties are of the net -/
theorem from_tie {K : Int} {ts : List (Int × Int)} {a b : Int} {xs : List Int} (h : fromB K ts a b xs = true) {u v : Nat} (hu : onP (natL xs) u v) : tieOf (u : Int) (v : Int) ∈ ts := by
  have N := from_nat h
  unfold fromB at h
  simp only [Bool.and_eq_true] at h
  have W := wayB_iff.1 h.1.1
  obtain ⟨k, hk, e⟩ := (onP_iff _).1 hu
  rw [N.len] at hk
  have ht := (hasB_mem W.ok).1 (W.tie k hk)
  rw [N.eq k (by omega), N.eq (k + 1) hk] at ht
  rcases e with e | e
  · rw [e.1, e.2] at ht; exact ht
  · rw [e.1, e.2, tieOf_turn] at ht; exact ht
theorem apart_iff {K : Int} {ts : List (Int × Int)} {a b : Int} (hok : okB K ts = true) {xss : List (List Int)} (hf : ∀ xs, xs ∈ xss → fromB K ts a b xs = true) : xss.Pairwise (fun p q => Apart2 (natL p) (natL q)) ↔ ∀ t, t ∈ ts → (xss.filter (fun xs => usesB xs t)).length ≤ 1 := by
  constructor
  · intro h t ht
    obtain ⟨x, y, hxy, _, e, _, _⟩ := tie_form hok ht
    subst e
    rw [few_pairwise]
    rw [List.pairwise_iff_getElem] at h ⊢
    intro i j hi hj hij hh
    have Ni := from_nat (hf _ (List.getElem_mem hi))
    have Nj := from_nat (hf _ (List.getElem_mem hj))
    exact h i j hi hj hij x y ((uses_nat Ni hxy).1 hh.1) ((uses_nat Nj hxy).1 hh.2)
  · intro h
    rw [List.pairwise_iff_getElem]
    intro i j hi hj hij u v h1 h2
    have Ni := from_nat (hf _ (List.getElem_mem hi))
    have Nj := from_nat (hf _ (List.getElem_mem hj))
    have ht := from_tie (hf _ (List.getElem_mem hi)) h1
    have hp := (few_pairwise _ _).1 (h _ ht)
    rw [List.pairwise_iff_getElem] at hp
    refine hp i j hi hj hij ?_
    obtain ⟨x, y, hxy, _, e, _, _⟩ := tie_form hok ht
    rw [e]
    have hp2 := (tieOf_pair hxy).1 e
    rcases hp2 with ⟨rfl, rfl⟩ | ⟨rfl, rfl⟩
    · exact ⟨(uses_nat Ni hxy).2 h1, (uses_nat Nj hxy).2 h2⟩
    · exact ⟨(uses_nat Ni hxy).2 (onP_symm h1), (uses_nat Nj hxy).2 (onP_symm h2)⟩

end Go.Proofs.YtljnjpjnadlmhaaDoor

/- Mathematics of flows: what impl.FlowOk tells is what the specification tells. -/
namespace Go.Proofs.YtljnjpjnadlmhaaDoor
set_option linter.unusedVariables false

/-- how many ways go over a tie -/
def usedN (xss : List (List Int)) (t : Int × Int) : Nat := (xss.filter (fun xs => usesB xs t)).length
theorem flow_is (K : Int) (ts : List (Int × Int)) (a b : Int) (xss : List (List Int)) : flowB K ts a b xss = (twoB K ts a b && decide (xss.length ≤ 8) && xss.all (fromB K ts a b) && ts.all (fun t => decide (usedN xss t ≤ 1))) := by
  unfold flowB
  cases h2 : twoB K ts a b with
  | false => rfl
  | true =>
    have hok : okB K ts = true := by
      unfold twoB at h2
      simp only [Bool.and_eq_true] at h2
      exact h2.1.1.1
    rw [Bool.true_and, Bool.and_assoc]
    congr 1
    rw [Bool.eq_iff_iff, good_iff xss _ (fun _ _ => rfl), Bool.and_eq_true, List.all_eq_true, List.all_eq_true]
    constructor
    · rintro ⟨h1, _, h3⟩
      exact ⟨h1, fun t ht => decide_eq_true ((apart_iff hok h1).1 h3 t ht)⟩
    · rintro ⟨h1, h3⟩
      refine ⟨h1, fun xs _ => (offP_iff _).2 (fun k hk => rfl), (apart_iff hok h1).2 (fun t ht => of_decide_eq_true (h3 t ht))⟩

end Go.Proofs.YtljnjpjnadlmhaaDoor

/- Walk of spec.FlowOk. -/
namespace Go.Proofs.YtljnjpjnadlmhaaDoor
open Go.RowKit
set_option linter.unusedVariables false

theorem ends_v (v : Bool) (K : Int) (ao bo : Option Addr) (cap cap2 n : Nat) (ts : List (Int × Int)) (xs : List Int) (a b : Int) (w : World) (hl : xs.length = n) (hn : ts.length ≤ 1099511627776) (ht : TiesIn w w.heap.size ao ts) (hxn : n ≤ 1099511627776) (hcap : n ≤ cap2) (hx : IntsIn w w.heap.size bo xs) (h : fromB K ts a b xs = v) :
    Calls Tryd.prog 33 #[.agg #[.int .i64 K, .slice ao ts.length cap], .int .i64 a, .int .i64 b, .slice bo n cap2] w fun e w' => e = .returned (.bool v) ∧ Below w.heap.size w w' := by
  subst hl; rw [← h]; exact ends_any K ao bo cap cap2 ts xs a b w hn ht hxn hcap hx
set_option maxHeartbeats 3200000 in
theorem specFlowOk_any (K : Int) (ao bo : Option Addr) (cap cap2 : Nat) (ts : List (Int × Int)) (xss : List (List Int)) (a b : Int) (w : World) (hn : ts.length ≤ 1099511627776) (ht : TiesIn w w.heap.size ao ts) (hl : xss.length ≤ 1099511627776) (hx : RowsI w w.heap.size bo xss) :
    Calls Tryd.prog 9 #[.agg #[.int .i64 K, .slice ao ts.length cap], .int .i64 a, .int .i64 b, .slice bo xss.length cap2] w fun e w' => e = .returned (.bool (flowB K ts a b xss)) ∧ Below w.heap.size w w' := by
  have HT := hideP ht
  have HXR := hideP hx
  clear ht hx
  have X0 := fun (t : TypeId) => Bx.start w K (.slice ao ts.length cap) t
  have HX0 := hideP X0
  clear X0
  obtain ⟨r, hr⟩ : ∃ r, flowB K ts a b xss = r := ⟨_, rfl⟩
  have HR := hideP ((flow_is K ts a b xss).symm.trans hr)
  obtain ⟨m, hm⟩ : ∃ m, xss.length = m := ⟨_, rfl⟩
  have HM := hideP hm
  obtain ⟨va, hva⟩ : ∃ v, (okB K ts && knotB a K) = v := ⟨_, rfl⟩
  obtain ⟨vb, hvb⟩ : ∃ v, (okB K ts && knotB b K) = v := ⟨_, rfl⟩
  have HVA := hideP hva
  have HVB := hideP hvb
  have HTW : Hid (twoB K ts a b = (va && vb && decide (a ≠ b))) := hideP (by
    rw [← hva, ← hvb]; unfold twoB
    cases okB K ts <;> cases knotB a K <;> cases knotB b K <;> rfl)
  rw [hr, hm]
  rw [hm] at hl
  clear hr hm hva hvb
  go_enter Tryd.func9, Tryd.ntmps9
  go_wp2_with fail
  refine (l1Knot_v va K ao cap ts a _ hn ((HT.out.below (HX0.out _).B (Nat.le_refl _)).wide (Nat.le_of_lt (HX0.out _).lt)) HVA.out).mono ?_
  rintro e w2 ⟨rfl, hb1⟩
  have X2 := hideP ((HX0.out _).next hb1)
  have c0 := X2.out.c0
  have c1 := X2.out.c1
  clear hb1 HX0
  cases va with
  | false =>
    have HF : Hid (r = false) := hideP (by rw [← HR.out, HTW.out]; rfl)
    have HB := hideP X2.out.B
    clear X2
    go_wp2
    go_ret
    exact ⟨by rw [HF.out]; rfl, HB.out⟩
  | true =>
    go_wp2_with fail
    refine (l1Knot_v vb K ao cap ts b _ hn ((HT.out.below X2.out.B (Nat.le_refl _)).wide X2.out.B.size) HVB.out).mono ?_
    rintro e w3 ⟨rfl, hb3⟩
    have X3 := hideP (X2.out.next hb3)
    clear hb3 c0 c1 X2
    have c0 := X3.out.c0
    have c1 := X3.out.c1
    cases vb with
    | false =>
      have HF : Hid (r = false) := hideP (by rw [← HR.out, HTW.out]; rfl)
      have HB := hideP X3.out.B
      clear X3
      go_wp2
      go_ret
      exact ⟨by rw [HF.out]; rfl, HB.out⟩
    | true =>
      by_cases hab : a = b
      · have habb : (a == b) = true := by simp [hab]
        have HF : Hid (r = false) := hideP (by rw [← HR.out, HTW.out, decide_eq_false (by simp [hab])]; rfl)
        have HB := hideP X3.out.B
        clear X3 hab
        go_wp2
        go_ret
        exact ⟨by rw [HF.out]; rfl, HB.out⟩
      · have habb : (a == b) = false := by simp [hab]
        by_cases h8 : m ≤ 8
        · have h8b : decide ((8 : Int) < (m : Int)) = false := by simp; omega
          have HRR : Hid ((xss.all (fromB K ts a b) && ts.all (fun t => decide (usedN xss t ≤ 1))) = r) := hideP (by rw [← HR.out, HTW.out, HM.out, decide_eq_true hab, decide_eq_true h8]; rfl)
          clear hab HR
          go_wp2
          go_loopw [9] (fun iv wr => ∃ k : Nat, k ≤ m ∧ iv = .int .i64 (k : Int) ∧ (∀ j, j < k → fromB K ts a b (xss.getD j []) = true) ∧ Bx w wr K (.slice ao ts.length cap)) (fun iv _ => m - (intOf iv).toNat)
          case atStart => exact ⟨0, Nat.zero_le _, rfl, fun j hj => by omega, X3.out⟩
          case round =>
            obtain ⟨k, hk, rfl, hpre, hX⟩ := hrel
            have HPR := hideP hpre
            have Xr := hideP hX
            clear hpre hX c0 c1
            have c0 := Xr.out.c0
            have c1 := Xr.out.c1
            by_cases hlt : k < m
            · have hk1 : (k : Int) < (m : Int) := by omega
              have hk0 : (0 : Int) ≤ (k : Int) := by omega
              obtain ⟨g, off, bo2, cap3, rfl, hgw, e00, hc1, hc2, hI⟩ := HXR.out k (by rw [HM.out]; exact hlt)
              have e0 := (Xr.out.B.cell (p := ⟨g, off + k, none⟩) hgw).trans e00
              obtain ⟨xs, hxs⟩ : ∃ xs, xss.getD k [] = xs := ⟨_, rfl⟩
              have HXS := hideP hxs
              rw [hxs] at e0 hc1 hc2 hI
              obtain ⟨l, hl2⟩ : ∃ l, xs.length = l := ⟨_, rfl⟩
              have HL := hideP hl2
              rw [hl2] at e0 hc1 hc2
              obtain ⟨v, hv⟩ : ∃ v, fromB K ts a b xs = v := ⟨_, rfl⟩
              have HV := hideP hv
              have XD := hideP (Xr.out.next (Below.refl _ _).drew)
              have TD := hideP ((HT.out.below XD.out.B (Nat.le_refl _)).wide XD.out.B.size)
              have ID := hideP ((hI.below XD.out.B (Nat.le_refl _)).wide XD.out.B.size)
              have hwl := Xr.out.lt
              have hgr : g < wr.heap.size := Nat.lt_of_lt_of_le hgw Xr.out.B.size
              clear e00 hxs hI hl2 hv
              go_wp2
              go_region_held3 (fun w' => w'.cell? ⟨w.heap.size, 0, none⟩ = some (.int .i64 K) ∧ w'.cell? ⟨w.heap.size, 1, none⟩ = some (.slice ao ts.length cap) ∧ w'.cell? ⟨g, off + k, none⟩ = some (.slice bo2 l cap3)) (first | exact ⟨c0, c1, e0⟩ | exact ⟨(hb7.cell (p := ⟨w.heap.size, 0, none⟩) hwl).trans c0, (hb7.cell (p := ⟨w.heap.size, 1, none⟩) hwl).trans c1, (hb7.cell (p := ⟨g, off + k, none⟩) hgr).trans e0⟩) (first | (go_at_call 33; refine (ends_v v K ao bo2 cap cap3 l ts xs a b _ HL.out hn TD.out hc2 hc1 ID.out HV.out).mono ?_; rintro e w7 ⟨rfl, hb7⟩))
              have X7 := hideP (XD.out.next hb7)
              clear hb7 XD TD ID
              cases v with
              | false =>
                have HF : Hid (r = false) := hideP (by
                  rw [← HRR.out]
                  have : xss.all (fromB K ts a b) = false := by
                    rw [List.all_eq_false]
                    have hkl : k < xss.length := by rw [HM.out]; exact hlt
                    refine ⟨xss[k], List.getElem_mem hkl, ?_⟩
                    have e : xss[k] = xs := by rw [← HXS.out, List.getD_eq_getElem?_getD, List.getElem?_eq_getElem hkl]; rfl
                    rw [e, HV.out]; simp
                  rw [this]; rfl)
                have HB := hideP X7.out.B
                clear X7
                go_wp2
                go_ret
                exact ⟨by rw [HF.out]; rfl, HB.out⟩
              | true =>
                have HP2 : Hid (∀ j, j < k + 1 → fromB K ts a b (xss.getD j []) = true) := hideP (fun j hj => by
                  rcases Nat.lt_or_ge j k with h | h
                  · exact HPR.out j h
                  · obtain rfl : j = k := by omega
                    rw [HXS.out]; exact HV.out)
                go_wp2
                exact ⟨⟨k + 1, by omega, by go_num, HP2.out, X7.out⟩, by simp [intOf]; omega⟩
            · obtain rfl : k = m := by omega
              have HRT : Hid (ts.all (fun t => decide (usedN xss t ≤ 1)) = r) := hideP (by
                rw [← HRR.out]
                have : xss.all (fromB K ts a b) = true := by
                  rw [List.all_eq_true]
                  intro xs hxs
                  obtain ⟨j, hj, e⟩ := List.mem_iff_getElem.1 hxs
                  have := HPR.out j (by rw [HM.out] at hj; exact hj)
                  rw [List.getD_eq_getElem?_getD, List.getElem?_eq_getElem hj] at this
                  rw [← e]; exact this
                rw [this, Bool.true_and])
              clear HPR HRR
              go_wp2
              go_loopw [10] (fun iv wr2 => ∃ i : Nat, i ≤ ts.length ∧ iv = .int .i64 (i : Int) ∧ (∀ j, j < i → usedN xss (tA ts j, tB ts j) ≤ 1) ∧ Bx w wr2 K (.slice ao ts.length cap)) (fun iv _ => ts.length - (intOf iv).toNat)
              case atStart => exact ⟨0, Nat.zero_le _, rfl, fun j hj => by omega, Xr.out⟩
              case round =>
                clear c0 c1 Xr
                obtain ⟨i, hi, rfl, hpre, hX⟩ := hrel
                have HPR := hideP hpre
                have Xr := hideP hX
                clear hpre hX
                have c0 := Xr.out.c0
                have c1 := Xr.out.c1
                by_cases hil : i < ts.length
                · have hi1 : (i : Int) < (ts.length : Int) := by omega
                  have hi0 : (0 : Int) ≤ (i : Int) := by omega
                  obtain ⟨t, ht⟩ : ∃ t, (tA ts i, tB ts i) = t := ⟨_, rfl⟩
                  have HTT := hideP ht
                  obtain ⟨t1, ht1⟩ : ∃ x, tA ts i = x := ⟨_, rfl⟩
                  obtain ⟨t2, ht2⟩ : ∃ x, tB ts i = x := ⟨_, rfl⟩
                  have HT12 : Hid (t = (t1, t2)) := hideP (by rw [← ht, ht1, ht2])
                  have HC1 := hideP ht1
                  have HC2 := hideP ht2
                  clear ht ht1 ht2
                  go_wp2
                  go_loopw [11, 12] (fun uv kv wr3 => ∃ k2 : Nat, k2 ≤ k ∧ kv = .int .i64 (k2 : Int) ∧ uv = .int .i64 ((usedN (xss.take k2) t : Nat) : Int) ∧ Bx w wr3 K (.slice ao ts.length cap)) (fun _ kv _ => k - (intOf kv).toNat)
                  case atStart => exact ⟨0, Nat.zero_le _, rfl, rfl, Xr.out⟩
                  case round =>
                    clear c0 c1 Xr
                    obtain ⟨k2, hk2, rfl, rfl, hX⟩ := hrel
                    have Xr := hideP hX
                    clear hX
                    have c0 := Xr.out.c0
                    have c1 := Xr.out.c1
                    have hul : usedN (xss.take k2) t ≤ k2 := by
                      unfold usedN
                      refine Nat.le_trans (List.length_filter_le _ _) ?_
                      rw [List.length_take]; omega
                    obtain ⟨u, hu⟩ : ∃ u, usedN (xss.take k2) t = u := ⟨_, rfl⟩
                    have HU := hideP hu
                    rw [hu] at hul ⊢
                    clear hu
                    by_cases hlt2 : k2 < k
                    · have hk1 : (k2 : Int) < (k : Int) := by omega
                      have hk0 : (0 : Int) ≤ (k2 : Int) := by omega
                      obtain ⟨g, off, bo2, cap3, rfl, hgw, e00, hc1, hc2, hI⟩ := HXR.out k2 (by rw [HM.out]; exact hlt2)
                      have e0 := (Xr.out.B.cell (p := ⟨g, off + k2, none⟩) hgw).trans e00
                      obtain ⟨xs, hxs⟩ : ∃ xs, xss.getD k2 [] = xs := ⟨_, rfl⟩
                      have HXS := hideP hxs
                      rw [hxs] at e0 hc2 hI
                      obtain ⟨l, hl2⟩ : ∃ l, xs.length = l := ⟨_, rfl⟩
                      have HL := hideP hl2
                      rw [hl2] at e0 hc2
                      obtain ⟨gT, offT, rfl, hgT, d0, d1⟩ := (HT.out.below Xr.out.B (Nat.le_refl _)) i hil
                      rw [HC1.out] at d0
                      rw [HC2.out] at d1
                      obtain ⟨v, hv⟩ : ∃ v, usesB xs t = v := ⟨_, rfl⟩
                      have HV := hideP hv
                      have HNX : Hid (usedN (xss.take (k2 + 1)) t = u + (if v = true then 1 else 0)) := hideP (by
                        have hkl : k2 < xss.length := by rw [HM.out]; exact hlt2
                        have e : xss[k2] = xs := by rw [← hxs, List.getD_eq_getElem?_getD, List.getElem?_eq_getElem hkl]; rfl
                        rw [← HU.out]
                        unfold usedN
                        rw [List.take_add_one, List.getElem?_eq_getElem hkl, List.filter_append, List.length_append, e]
                        cases v <;> simp [hv])
                      have XD := hideP (Xr.out.next (Below.refl _ _).drew)
                      have ID := hideP ((hI.below XD.out.B (Nat.le_refl _)).wide XD.out.B.size)
                      have hwl := Xr.out.lt
                      have hgr : g < wr.heap.size := Nat.lt_of_lt_of_le hgw Xr.out.B.size
                      have hgTl : gT < wr.heap.size := Nat.lt_of_lt_of_le hgT Xr.out.B.size
                      have UV : Hid (∀ W, IntsIn W W.heap.size bo2 xs → Calls Tryd.prog 34 #[.slice bo2 l cap3, .agg #[.int .i64 t1, .int .i64 t2]] W fun e w' => e = .returned (.bool v) ∧ Below W.heap.size W w') := hideP (fun W h => by
                        have := uses_any bo2 cap3 xs t1 t2 W (by rw [HL.out]; exact hc2) h
                        rw [HL.out, ← HT12.out, HV.out] at this
                        exact this)
                      clear e00 hxs hI hl2 hv hgT hgw
                      go_wp2
                      go_region_held3 (fun w' => w'.cell? ⟨w.heap.size, 0, none⟩ = some (.int .i64 K) ∧ w'.cell? ⟨w.heap.size, 1, none⟩ = some (.slice (some ⟨gT, offT, none⟩) ts.length cap) ∧ w'.cell? ⟨g, off + k2, none⟩ = some (.slice bo2 l cap3) ∧ w'.cell? ⟨gT, offT + i * 2, none⟩ = some (.int .i64 t1) ∧ w'.cell? ⟨gT, offT + i * 2 + 1, none⟩ = some (.int .i64 t2)) (first | exact ⟨c0, c1, e0, d0, d1⟩ | exact ⟨(hb7.cell (p := ⟨w.heap.size, 0, none⟩) hwl).trans c0, (hb7.cell (p := ⟨w.heap.size, 1, none⟩) hwl).trans c1, (hb7.cell (p := ⟨g, off + k2, none⟩) hgr).trans e0, (hb7.cell (p := ⟨gT, offT + i * 2, none⟩) hgTl).trans d0, (hb7.cell (p := ⟨gT, offT + i * 2 + 1, none⟩) hgTl).trans d1⟩) (first | (go_at_call 34; refine (UV.out _ ID.out).mono ?_; rintro e w7 ⟨rfl, hb7⟩))
                      have X7 := hideP (XD.out.next hb7)
                      have hwu : IntKind.i64.wrap ((u : Int) + 1) = (u : Int) + 1 := by rw [IntKind.wrap_i64]; omega
                      clear hb7 XD ID UV
                      cases v with
                      | false =>
                        go_wp2
                        exact ⟨⟨k2 + 1, by omega, by go_num, by rw [HNX.out]; rfl, X7.out⟩, by simp [intOf]; omega⟩
                      | true =>
                        go_wp2
                        exact ⟨⟨k2 + 1, by omega, by go_num, by rw [HNX.out]; rfl, X7.out⟩, by simp [intOf]; omega⟩
                    · obtain rfl : k2 = k := by omega
                      have HU2 : Hid (usedN xss t = u) := hideP (by rw [← HU.out, List.take_of_length_le (by rw [HM.out]; exact Nat.le_refl _)])
                      by_cases hu1 : 1 < u
                      · have hu1' : (1 : Int) < (u : Int) := by omega
                        have HF : Hid (r = false) := hideP (by
                          rw [← HRT.out, List.all_eq_false]
                          refine ⟨ts[i], List.getElem_mem hil, ?_⟩
                          have e : ts[i] = t := by rw [← HTT.out, tA_get ts i hil, tB_get ts i hil]
                          rw [e, HU2.out]; simp; omega)
                        have HB := hideP Xr.out.B
                        clear Xr
                        go_wp2
                        go_ret
                        exact ⟨by rw [HF.out]; rfl, HB.out⟩
                      · have hu1' : decide ((1 : Int) < (u : Int)) = false := by simp; omega
                        have HP2 : Hid (∀ j, j < i + 1 → usedN xss (tA ts j, tB ts j) ≤ 1) := hideP (fun j hj => by
                          rcases Nat.lt_or_ge j i with h | h
                          · exact HPR.out j h
                          · obtain rfl : j = i := by omega
                            rw [HTT.out, HU2.out]; omega)
                        go_wp2
                        exact ⟨⟨i + 1, by omega, by go_num, HP2.out, Xr.out⟩, by simp [intOf]; omega⟩
                · obtain rfl : i = ts.length := by omega
                  have HF : Hid (r = true) := hideP (by
                    rw [← HRT.out, List.all_eq_true]
                    intro t ht
                    obtain ⟨j, hj, e⟩ := List.mem_iff_getElem.1 ht
                    have := HPR.out j hj
                    rw [tA_get ts j hj, tB_get ts j hj] at this
                    rw [← e]; exact decide_eq_true this)
                  have HB := hideP Xr.out.B
                  clear Xr
                  go_wp2
                  go_ret
                  exact ⟨by rw [HF.out]; rfl, HB.out⟩
        · have h8b : decide ((8 : Int) < (m : Int)) = true := by simp; omega
          have HF : Hid (r = false) := hideP (by rw [← HR.out, HTW.out, HM.out, decide_eq_false h8]; simp)
          have HB := hideP X3.out.B
          clear X3 hab
          go_wp2
          go_ret
          exact ⟨by rw [HF.out]; rfl, HB.out⟩

end Go.Proofs.YtljnjpjnadlmhaaDoor

/- Ways that have no tie twice are no more than the most. -/
namespace Go.Proofs.YtljnjpjnadlmhaaDoor
set_option linter.unusedVariables false

theorem canW_of_on {T : Nat → Nat → Bool} {F : Nat → Nat → Int} : ∀ (p : List Nat), (∀ u v, onP p u v → T u v = true ∧ F u v < 1) → canW T F p
  | [], _ => trivial
  | [_], _ => trivial
  | x :: y :: r, h => ⟨(h x y (Or.inl ⟨rfl, rfl⟩)).1, (h x y (Or.inl ⟨rfl, rfl⟩)).2, canW_of_on (y :: r) (fun u v hu => h u v (Or.inr (Or.inr hu)))⟩
theorem off_on {F : Nat → Nat → Int} (ha : ∀ x y, F y x = - F x y) : ∀ (p : List Nat) (u v : Nat), offP F p → onP p u v → F u v = 0
  | [], _, _, _, h => absurd h (fun h => h)
  | [_], _, _, _, h => absurd h (fun h => h)
  | x :: y :: r, u, v, ho, h => by
    rcases h with ⟨rfl, rfl⟩ | ⟨rfl, rfl⟩ | h
    · exact ho.1
    · rw [ha x y, ho.1]; rfl
    · exact off_on ha (y :: r) u v ho.2 h
theorem ways_flow {K : Int} {ts : List (Int × Int)} {a b : Nat} (hab : a ≠ b) : ∀ (xss : List (List Int)) (F : Nat → Nat → Int) (v : Int), Flw (tieNB ts) a b F v → goodW K ts (a : Int) (b : Int) F xss = true → ∃ F', Flw (tieNB ts) a b F' (v + (xss.length : Int)) := by
  intro xss
  induction xss with
  | nil => intro F v h _; exact ⟨F, by simpa using h⟩
  | cons xs r ih =>
    intro F v h hg
    unfold goodW at hg
    rw [Bool.and_eq_true, Bool.and_eq_true, Bool.not_eq_true'] at hg
    obtain ⟨⟨h1, h2⟩, h3⟩ := hg
    have N := from_nat h1
    have hoff := (met_off h.anti (natL xs)).1 h2
    have hcan : canW (tieNB ts) F (natL xs) := canW_of_on _ (fun u w hu => by
      have ht := from_tie h1 hu
      have hz := off_on h.anti _ u w hoff hu
      exact ⟨(tieNB_mem _ _ _).2 ht, by omega⟩)
    have hf : natL xs ≠ [] := by intro e; have := N.pos; rw [e] at this; simp at this
    unfold fromB at h1
    simp only [Bool.and_eq_true, decide_eq_true_eq] at h1
    have hl := N.len
    have hp := N.pos
    have hp2 : 0 < xs.length := by omega
    have e0 : (natL xs).getD 0 0 = a := by have := N.eq 0 (by omega); have h2 := h1.1.2; omega
    have e1 : (natL xs).getD (xs.length - 1) 0 = b := by have := N.eq (xs.length - 1) (by omega); have h2 := h1.2; omega
    obtain ⟨y, p, hyp⟩ : ∃ y p, natL xs = y :: p := by
      cases hh : natL xs with
      | nil => exact absurd hh hf
      | cons y p => exact ⟨y, p, rfl⟩
    have hy : y = a := by rw [hyp] at e0; simpa using e0
    subst hy
    have hlast : (y :: p).getLast (by simp) = b := by
      rw [List.getLast_eq_getElem]
      rw [hyp] at e1 hl
      have : xs.length - 1 < (y :: p).length := by omega
      rw [List.getD_eq_getElem?_getD, List.getElem?_eq_getElem this] at e1
      simp only [Option.getD_some] at e1
      rw [← e1]
      congr 1; omega
    have hlt := N.lt
    have hnd := N.nd
    rw [hyp] at hcan hlt hnd h3
    have hm := h.more (tieNB_turn ts) hlt hnd hlast hab hcan
    obtain ⟨F', hF'⟩ := ih _ _ hm h3
    refine ⟨F', ?_⟩
    have e : v + ((xs :: r).length : Int) = v + 1 + (r.length : Int) := by simp; omega
    rw [e]; exact hF'
/-- ways that have no tie twice are no more than the most -/
theorem ways_most {K : Int} {ts : List (Int × Int)} {a b : Nat} (ha : a < 8) (hab : a ≠ b) {xss : List (List Int)} (h : flowB K ts (a : Int) (b : Int) xss = true) : (xss.length : Int) ≤ flowV ts a b := by
  unfold flowB at h
  rw [Bool.and_eq_true] at h
  obtain ⟨F', hF⟩ := ways_flow hab xss _ 0 (Flw.none (tieNB ts) a b) h.2
  obtain ⟨_, _, S, h1, h2, h3⟩ := flowN_is (tieNB_turn ts) ha hab
  have := flow_le hF ha h1 h2
  show (xss.length : Int) ≤ flowN (tieNB ts) a b
  omega

end Go.Proofs.YtljnjpjnadlmhaaDoor
