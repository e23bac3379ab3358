/- Texts put together: WEnds, WMeets, WMeets2, WUses. -/
import Derived.Test.YtljnjpjnadlmhaaWWayOk
import Derived.Test.YtljnjpjnadlmhaaPartWWayOk2
import Derived.Test.YtljnjpjnadlmhaaPartWRows
import Derived.Test.YtljnjpjnadlmhaaPartWFull
import Derived.Test.YtljnjpjnadlmhaaPartMathR
import Derived.Test.YtljnjpjnadlmhaaPartWSpecAdd
import Derived.Test.YtljnjpjnadlmhaaPartWInts
import Derived.Deep.RegionHeld3
/- Walks of impl.isFromTo and spec.l13Ends. -/
namespace Go.Proofs.Ytljnjpjnadlmhaa
open Go.RowKit
set_option linter.unusedVariables false

/-- a way from one knot to another one -/
def fromB (K : Int) (ts : List (Int × Int)) (a b : Int) (xs : List Int) : Bool := wayB K ts xs && decide (xi xs 0 = a) && decide (xi xs (xs.length - 1) = b)
theorem way_pos {K : Int} {ts : List (Int × Int)} {xs : List Int} (h : wayB K ts xs = true) : 0 < xs.length := by
  cases xs with
  | nil => rw [wayB_nil rfl] at h; cases h
  | cons x xs => simp
set_option maxHeartbeats 1600000 in
theorem isFromTo_any (K : Int) (ao bo : Option Addr) (cap cap2 : Nat) (ts : List (Int × Int)) (xs : List Int) (a b : Int) (w : World) (hn : ts.length ≤ 1099511627776) (ht : TiesIn w w.heap.size ao ts) (hxn : xs.length ≤ 1099511627776) (hcap : xs.length ≤ cap2) (hx : IntsIn w w.heap.size bo xs) :
    Calls Try.prog 29 #[.agg #[.int .i64 K, .slice ao ts.length cap], .int .i64 a, .int .i64 b, .slice bo xs.length cap2] w fun e w' => e = .returned (.bool (fromB K ts a b xs)) ∧ Below w.heap.size w w' := by
  have X0 := fun (t : TypeId) => Bx.start w K (.slice ao ts.length cap) t
  have HX0 := hideP X0
  have HTI := hideP ht
  have HXI := hideP hx
  obtain ⟨r, hr⟩ : ∃ r, fromB K ts a b xs = r := ⟨_, rfl⟩
  have HRR := hideP hr
  obtain ⟨v, hv⟩ : ∃ v, wayB K ts xs = v := ⟨_, rfl⟩
  have HV := hideP hv
  obtain ⟨m, hm⟩ : ∃ m, xs.length = m := ⟨_, rfl⟩
  have HM := hideP hm
  rw [hr, hm]
  rw [hm] at hxn hcap
  have CW : Hid (∀ W : World, TiesIn W W.heap.size ao ts → IntsIn W W.heap.size bo xs → Calls Try.prog 52 #[.agg #[.int .i64 K, .slice ao ts.length cap], .slice bo m cap2] W fun e w'' => e = .returned (.bool v) ∧ Below W.heap.size W w'') := hideP fun W h1 h2 => by
    have := implWayOk_any K ao bo cap cap2 ts xs W hn h1 (by rw [HM.out]; omega) (by rw [HM.out]; omega) h2
    rw [HM.out, HV.out] at this
    exact this
  clear X0 ht hx hr hv hm
  go_enter Try.func29, Try.ntmps29
  go_wp2_with fail
  refine (CW.out _ ((HTI.out.below (HX0.out _).B (Nat.le_refl _)).wide (HX0.out _).B.size) ((HXI.out.below (HX0.out _).B (Nat.le_refl _)).wide (HX0.out _).B.size)).mono ?_
  rintro e w1 ⟨rfl, hb1⟩
  have HX := hideP ((HX0.out _).next hb1)
  have I1 := hideP ((HXI.out.below HX.out.B (Nat.le_refl _)).wide HX.out.B.size)
  have HB := hideP HX.out.B
  clear hb1 HX0 HTI HXI CW
  cases v with
  | false =>
    have HR : Hid (r = false) := hideP (by rw [← HRR.out]; unfold fromB; rw [HV.out]; rfl)
    clear I1
    go_wp2
    go_ret
    exact ⟨by rw [HR.out]; rfl, HB.out⟩
  | true =>
    have hpos := way_pos HV.out
    rw [HM.out] at hpos
    obtain ⟨t, rfl⟩ : ∃ t, m = t + 1 := ⟨m - 1, by omega⟩
    obtain ⟨g, off, rfl, hg, e0⟩ := I1.out 0 (by rw [HM.out]; omega)
    obtain ⟨g2, off2, eg, _, e1⟩ := I1.out t (by rw [HM.out]; omega)
    cases eg
    obtain ⟨x, hx⟩ : ∃ x, xi xs 0 = x := ⟨_, rfl⟩
    obtain ⟨y, hy⟩ : ∃ y, xi xs t = y := ⟨_, rfl⟩
    have HXY : Hid (fromB K ts a b xs = (decide (x = a) && decide (y = b))) := hideP (by unfold fromB; rw [HV.out, HM.out, hx, Nat.add_sub_cancel, hy]; rfl)
    rw [hx, Nat.add_zero] at e0
    rw [hy] at e1
    clear hx hy hpos I1
    by_cases h1 : x = a
    · by_cases h2 : y = b
      · have HR : Hid (r = true) := hideP (by rw [← HRR.out, HXY.out, decide_eq_true h1, decide_eq_true h2]; rfl)
        subst h1
        subst h2
        go_wp2
        go_ret
        exact ⟨by rw [HR.out]; rfl, HB.out⟩
      · have HR : Hid (r = false) := hideP (by rw [← HRR.out, HXY.out, decide_eq_false h2]; simp)
        have h2b : (y == b) = false := by simp [h2]
        subst h1
        go_wp2
        go_ret
        exact ⟨by rw [HR.out]; rfl, HB.out⟩
    · have HR : Hid (r = false) := hideP (by rw [← HRR.out, HXY.out, decide_eq_false h1]; rfl)
      have h1b : (x == a) = false := by simp [h1]
      go_wp2
      go_ret
      exact ⟨by rw [HR.out]; rfl, HB.out⟩
set_option maxHeartbeats 1600000 in
theorem ends_any (K : Int) (ao bo : Option Addr) (cap cap2 : Nat) (ts : List (Int × Int)) (xs : List Int) (a b : Int) (w : World) (hn : ts.length ≤ 1099511627776) (ht : TiesIn w w.heap.size ao ts) (hxn : xs.length ≤ 1099511627776) (hcap : xs.length ≤ cap2) (hx : IntsIn w w.heap.size bo xs) :
    Calls Try.prog 33 #[.agg #[.int .i64 K, .slice ao ts.length cap], .int .i64 a, .int .i64 b, .slice bo xs.length cap2] w fun e w' => e = .returned (.bool (fromB K ts a b xs)) ∧ Below w.heap.size w w' := by
  have X0 := fun (t : TypeId) => Bx.start w K (.slice ao ts.length cap) t
  have HX0 := hideP X0
  have HTI := hideP ht
  have HXI := hideP hx
  obtain ⟨r, hr⟩ : ∃ r, fromB K ts a b xs = r := ⟨_, rfl⟩
  have HRR := hideP hr
  obtain ⟨v, hv⟩ : ∃ v, wayB K ts xs = v := ⟨_, rfl⟩
  have HV := hideP hv
  obtain ⟨m, hm⟩ : ∃ m, xs.length = m := ⟨_, rfl⟩
  have HM := hideP hm
  rw [hr, hm]
  rw [hm] at hxn hcap
  have CW : Hid (∀ W : World, TiesIn W W.heap.size ao ts → IntsIn W W.heap.size bo xs → Calls Try.prog 56 #[.agg #[.int .i64 K, .slice ao ts.length cap], .slice bo m cap2] W fun e w'' => e = .returned (.bool v) ∧ Below W.heap.size W w'') := hideP fun W h1 h2 => by
    have := specWayOk_any K ao bo cap cap2 ts xs W hn h1 (by rw [HM.out]; omega) (by rw [HM.out]; omega) h2
    rw [HM.out, HV.out] at this
    exact this
  clear X0 ht hx hr hv hm
  go_enter Try.func33, Try.ntmps33
  go_wp2_with fail
  refine (CW.out _ ((HTI.out.below (HX0.out _).B (Nat.le_refl _)).wide (HX0.out _).B.size) ((HXI.out.below (HX0.out _).B (Nat.le_refl _)).wide (HX0.out _).B.size)).mono ?_
  rintro e w1 ⟨rfl, hb1⟩
  have HX := hideP ((HX0.out _).next hb1)
  have I1 := hideP ((HXI.out.below HX.out.B (Nat.le_refl _)).wide HX.out.B.size)
  have HB := hideP HX.out.B
  clear hb1 HX0 HTI HXI CW
  cases v with
  | false =>
    have HR : Hid (r = false) := hideP (by rw [← HRR.out]; unfold fromB; rw [HV.out]; rfl)
    clear I1
    go_wp2
    go_ret
    exact ⟨by rw [HR.out]; rfl, HB.out⟩
  | true =>
    have hpos := way_pos HV.out
    rw [HM.out] at hpos
    obtain ⟨t, rfl⟩ : ∃ t, m = t + 1 := ⟨m - 1, by omega⟩
    obtain ⟨g, off, rfl, hg, e0⟩ := I1.out 0 (by rw [HM.out]; omega)
    obtain ⟨g2, off2, eg, _, e1⟩ := I1.out t (by rw [HM.out]; omega)
    cases eg
    obtain ⟨x, hx⟩ : ∃ x, xi xs 0 = x := ⟨_, rfl⟩
    obtain ⟨y, hy⟩ : ∃ y, xi xs t = y := ⟨_, rfl⟩
    have HXY : Hid (fromB K ts a b xs = (decide (x = a) && decide (y = b))) := hideP (by unfold fromB; rw [HV.out, HM.out, hx, Nat.add_sub_cancel, hy]; rfl)
    rw [hx, Nat.add_zero] at e0
    rw [hy] at e1
    clear hx hy hpos I1
    by_cases h1 : x = a
    · by_cases h2 : y = b
      · have HR : Hid (r = true) := hideP (by rw [← HRR.out, HXY.out, decide_eq_true h1, decide_eq_true h2]; rfl)
        subst h1
        subst h2
        go_wp2
        go_ret
        exact ⟨by rw [HR.out]; rfl, HB.out⟩
      · have HR : Hid (r = false) := hideP (by rw [← HRR.out, HXY.out, decide_eq_false h2]; simp)
        have h2b : (y == b) = false := by simp [h2]
        subst h1
        go_wp2
        go_ret
        exact ⟨by rw [HR.out]; rfl, HB.out⟩
    · have HR : Hid (r = false) := hideP (by rw [← HRR.out, HXY.out, decide_eq_false h1]; rfl)
      have h1b : (x == a) = false := by simp [h1]
      go_wp2
      go_ret
      exact ⟨by rw [HR.out]; rfl, HB.out⟩

end Go.Proofs.Ytljnjpjnadlmhaa

/- Walk of impl.flow.meets. -/
namespace Go.Proofs.Ytljnjpjnadlmhaa
open Go.RowKit
set_option linter.unusedVariables false

/-- what goes over a way's k-th step -/
def overP (F : Nat → Nat → Int) (p : List Nat) (k : Nat) : Int := F (min (p.getD (k - 1) 0) (p.getD k 0)) (max (p.getD (k - 1) 0) (p.getD k 0))
/-- something goes over a tie of a way -/
def metB (F : Nat → Nat → Int) (p : List Nat) : Bool := (List.range p.length).any fun k => decide (1 ≤ k) && decide (overP F p k ≠ 0)
theorem met_at {F : Nat → Nat → Int} {p : List Nat} {k : Nat} (h1 : 1 ≤ k) (hk : k < p.length) (h : overP F p k ≠ 0) : metB F p = true := by
  unfold metB
  rw [List.any_eq_true]
  exact ⟨k, List.mem_range.2 hk, by rw [decide_eq_true h1, decide_eq_true h]; rfl⟩
theorem met_no {F : Nat → Nat → Int} {p : List Nat} (h : ∀ k, 1 ≤ k → k < p.length → overP F p k = 0) : metB F p = false := by
  unfold metB
  rw [List.any_eq_false]
  intro k hk
  by_cases h1 : 1 ≤ k
  · rw [h k h1 (List.mem_range.1 hk)]; simp
  · rw [decide_eq_false h1]; simp
set_option maxRecDepth 100000 in
set_option maxHeartbeats 1600000 in
theorem meets_any (B n : Nat) (F : Nat → Nat → Int) (g off cap : Nat) (p : List Nat) (w : World) (hp8 : p.length ≤ 8) (hp0 : 0 < p.length) (hlt : ∀ z, z ∈ p → z < 8) (hnd : p.Nodup) (hg : g < w.heap.size)
    (hf : Fm w B n F) (hc : ∀ i, i < p.length → w.cell? ⟨g, off + i, none⟩ = some (.int .i64 ((p.getD i 0 : Nat) : Int))) :
    Calls Try.prog 30 #[.map (some B), .slice (some ⟨g, off, none⟩) p.length cap] w fun e w' => e = .returned (.bool (metB F p)) ∧ Below w.heap.size w w' := by
  have HC := hideP hc
  have HLT := hideP hlt
  have HND := hideP hnd
  have HF0 := hideP hf
  have hB := hf.lt
  obtain ⟨r, hr⟩ : ∃ r, metB F p = r := ⟨_, rfl⟩
  have HR := hideP hr
  rw [hr]
  clear hf hc hlt hnd hr
  go_enter Try.func30, Try.ntmps30
  go_wp2
  go_loopw [5] (fun i wr => ∃ k : Nat, 1 ≤ k ∧ k ≤ p.length ∧ i = .int .i64 (k : Int) ∧ (∀ j, 1 ≤ j → j < k → overP F p j = 0) ∧ Below w.heap.size w wr)
    (fun i _ => p.length - (intOf i).toNat)
  case atStart => exact ⟨1, Nat.le_refl _, hp0, rfl, fun j h1 h2 => by omega, Below.refl _ _⟩
  case round =>
    obtain ⟨k, hk1, hk, rfl, hP, hBr⟩ := hrel
    have HP := hideP hP
    have HBr := hideP hBr
    have HF := hideP (HF0.out.below hBr hB)
    clear hP hBr
    by_cases hlt : k < p.length
    · obtain ⟨x, hx⟩ : ∃ x, x = p.getD (k - 1) 0 := ⟨_, rfl⟩
      obtain ⟨y, hy⟩ : ∃ y, y = p.getD k 0 := ⟨_, rfl⟩
      obtain ⟨j, hj⟩ : ∃ j, j = k - 1 := ⟨k - 1, rfl⟩
      have hov : overP F p k = F (min x y) (max x y) := by unfold overP; rw [← hx, ← hy]
      rw [← hj] at hx
      have hjk : k = j + 1 := by omega
      have e0 : wr.cell? ⟨g, off + j, none⟩ = some (.int .i64 (x : Int)) := by rw [hx, HBr.out.cell (p := ⟨g, off + j, none⟩) hg]; exact HC.out j (by omega)
      have e1 : wr.cell? ⟨g, off + k, none⟩ = some (.int .i64 (y : Int)) := by rw [hy, HBr.out.cell (p := ⟨g, off + k, none⟩) hg]; exact HC.out k hlt
      have hgr : g < wr.heap.size := Nat.lt_of_lt_of_le hg HBr.out.size
      have hBrr : B < wr.heap.size := Nat.lt_of_lt_of_le hB HBr.out.size
      have hx8 : x < 8 := by rw [hx, List.getD_eq_getElem?_getD, List.getElem?_eq_getElem (by omega)]; exact HLT.out _ (List.getElem_mem _)
      have hy8 : y < 8 := by rw [hy, List.getD_eq_getElem?_getD, List.getElem?_eq_getElem hlt]; exact HLT.out _ (List.getElem_mem _)
      have hxy : x ≠ y := by
        rw [hx, hy, List.getD_eq_getElem?_getD, List.getD_eq_getElem?_getD, List.getElem?_eq_getElem (show j < p.length by omega), List.getElem?_eq_getElem hlt]
        exact List.pairwise_iff_getElem.1 HND.out j k (by omega) hlt (by omega)
      obtain ⟨c, hcc⟩ : ∃ c, c = F (min x y) (max x y) := ⟨_, rfl⟩
      have L0 := hideP ((HF.out.below (Below.refl wr.heap.size wr).drew hBrr).look hx8 hy8 hxy)
      have L1 := hideP (fun W (hb : Below wr.heap.size wr W) => (HF.out.below hb hBrr).look hx8 hy8 hxy)
      rw [← hcc] at L0 L1 hov
      have HOV := hideP hov
      have i0 : (0 : Int) ≤ (j : Int) := by omega
      have i1 : (j : Int) < (p.length : Int) := by omega
      have i2 : (0 : Int) ≤ (k : Int) := by omega
      have i3 : (k : Int) < (p.length : Int) := by omega
      have i4 : IntKind.i64.wrap ((k : Int) - 1) = (j : Int) := by
        rw [show (k : Int) - 1 = (j : Int) by omega]
        rw [IntKind.wrap_i64]; omega
      have HE : Hid (∀ W, Below wr.heap.size wr W → W.cell? ⟨g, off + j, none⟩ = some (.int .i64 (x : Int)) ∧ W.cell? ⟨g, off + k, none⟩ = some (.int .i64 (y : Int)) ∧ (Instr.lookup 64 (.map (some B)) (.agg #[.int .i64 (min (x : Int) (y : Int)), .int .i64 (max (x : Int) (y : Int))]) false).run Try.prog W = .ok (.int .i64 c) W) := hideP (fun W hb => ⟨(hb.cell (p := ⟨g, off + j, none⟩) hgr).trans e0, (hb.cell (p := ⟨g, off + k, none⟩) hgr).trans e1, L1.out W hb⟩)
      have b0 : Below wr.heap.size wr wr.drew := (Below.refl _ _).drew
      clear hx hy hj hjk hov hcc hx8 hy8 hxy HF e0 e1 L0 L1 HLT HND HC
      go_wp2
      go_region_held3 (fun w' => w'.cell? ⟨g, off + j, none⟩ = some (.int .i64 (x : Int)) ∧ w'.cell? ⟨g, off + k, none⟩ = some (.int .i64 (y : Int)) ∧ (Instr.lookup 64 (.map (some B)) (.agg #[.int .i64 (min (x : Int) (y : Int)), .int .i64 (max (x : Int) (y : Int))]) false).run Try.prog w' = .ok (.int .i64 c) w') (first | exact HE.out _ b1 | exact HE.out _ b0) (first | (go_at_call 53; refine (tieOf_any _ _ _).mono ?_; rintro e w1 ⟨rfl, bz⟩; have b1 : Below wr.heap.size wr w1 := b0.trans bz))
      have B1 := hideP (HBr.out.trans (b1.mono HBr.out.size))
      clear b1 b0 HE
      by_cases hc0 : c = 0
      · have hcb : (c != 0) = false := by simp [hc0]
        have HP2 : Hid (∀ j, 1 ≤ j → j < k + 1 → overP F p j = 0) := hideP (fun j h1 h2 => by
          rcases Nat.lt_or_ge j k with h | h
          · exact HP.out j h1 h
          · obtain rfl : j = k := by omega
            rw [HOV.out]; exact hc0)
        clear hc0 HOV HP
        go_wp2
        go_roundw
        case measure => (simp [intOf] <;> omega)
        case rel => exact ⟨k + 1, by omega, by omega, by go_num, HP2.out, B1.out⟩
      · have hcb : (c != 0) = true := by simp [hc0]
        have HN : Hid (r = true) := hideP (by rw [← HR.out]; exact met_at hk1 hlt (by rw [HOV.out]; exact hc0))
        clear hc0 HOV HP
        go_wp2
        go_ret
        exact ⟨by rw [HN.out]; rfl, B1.out⟩
    · obtain rfl : k = p.length := by omega
      have HN : Hid (r = false) := hideP (by rw [← HR.out]; exact met_no HP.out)
      clear HP HF
      go_wp2
      go_ret
      exact ⟨by rw [HN.out]; rfl, HBr.out⟩

end Go.Proofs.Ytljnjpjnadlmhaa

/- What impl.flow.meets tells: that something goes over a way's ties. -/
namespace Go.Proofs.Ytljnjpjnadlmhaa
set_option linter.unusedVariables false

theorem offP_iff {F : Nat → Nat → Int} : ∀ (p : List Nat), offP F p ↔ ∀ k, k + 1 < p.length → F (p.getD k 0) (p.getD (k + 1) 0) = 0
  | [] => ⟨fun _ k hk => absurd hk (by simp), fun _ => trivial⟩
  | [_] => ⟨fun _ k hk => absurd hk (by simp), fun _ => trivial⟩
  | x :: y :: r => by
    have ih := offP_iff (F := F) (y :: r)
    constructor
    · rintro ⟨h1, h2⟩ k hk
      cases k with
      | zero => exact h1
      | succ k => exact ih.1 h2 k (by simpa using hk)
    · intro h
      exact ⟨h 0 (by simp), ih.2 (fun k hk => h (k + 1) (by simpa using hk))⟩
theorem onP_iff {u v : Nat} : ∀ (p : List Nat), onP p u v ↔ ∃ k, k + 1 < p.length ∧ ((p.getD k 0 = u ∧ p.getD (k + 1) 0 = v) ∨ (p.getD k 0 = v ∧ p.getD (k + 1) 0 = u))
  | [] => ⟨fun h => h.elim, fun ⟨k, hk, _⟩ => absurd hk (by simp)⟩
  | [_] => ⟨fun h => h.elim, fun ⟨k, hk, _⟩ => absurd hk (by simp)⟩
  | x :: y :: r => by
    have ih := onP_iff (u := u) (v := v) (y :: r)
    constructor
    · rintro (h | h | h)
      · exact ⟨0, by simp, Or.inl h⟩
      · exact ⟨0, by simp, Or.inr h⟩
      · obtain ⟨k, hk, e⟩ := ih.1 h
        exact ⟨k + 1, by simpa using hk, e⟩
    · rintro ⟨k, hk, e⟩
      cases k with
      | zero =>
        rcases e with e | e
        · exact Or.inl e
        · exact Or.inr (Or.inl e)
      | succ k => exact Or.inr (Or.inr (ih.2 ⟨k, by simpa using hk, e⟩))
theorem over_zero {F : Nat → Nat → Int} (ha : ∀ x y, F y x = - F x y) (p : List Nat) (k : Nat) : overP F p (k + 1) = 0 ↔ F (p.getD k 0) (p.getD (k + 1) 0) = 0 := by
  unfold overP
  rw [Nat.add_sub_cancel]
  generalize p.getD k 0 = a
  generalize p.getD (k + 1) 0 = b
  rcases Nat.le_total a b with h | h
  · rw [Nat.min_eq_left h, Nat.max_eq_right h]
  · rw [Nat.min_eq_right h, Nat.max_eq_left h, ha a b]; omega
theorem met_off {F : Nat → Nat → Int} (ha : ∀ x y, F y x = - F x y) (p : List Nat) : metB F p = false ↔ offP F p := by
  rw [offP_iff]
  constructor
  · intro h k hk
    rw [← over_zero ha]
    by_cases e : overP F p (k + 1) = 0
    · exact e
    · rw [met_at (by omega) hk e] at h; cases h
  · intro h
    refine met_no (fun k h1 hk => ?_)
    obtain ⟨j, rfl⟩ : ∃ j, k = j + 1 := ⟨k - 1, by omega⟩
    rw [over_zero ha]
    exact h j hk

end Go.Proofs.Ytljnjpjnadlmhaa

/- Walk of spec.l21Uses. -/
namespace Go.Proofs.Ytljnjpjnadlmhaa
open Go.RowKit
set_option linter.unusedVariables false

/-- a way goes over a tie -/
def usesB (xs : List Int) (t : Int × Int) : Bool := (List.range xs.length).any fun k => decide (1 ≤ k) && decide (tieOf (xi xs (k - 1)) (xi xs k) = t)
theorem uses_at {xs : List Int} {t : Int × Int} {k : Nat} (h1 : 1 ≤ k) (hk : k < xs.length) (h : tieOf (xi xs (k - 1)) (xi xs k) = t) : usesB xs t = true := by
  unfold usesB
  rw [List.any_eq_true]
  exact ⟨k, List.mem_range.2 hk, by rw [decide_eq_true h1, decide_eq_true h]; rfl⟩
theorem uses_no {xs : List Int} {t : Int × Int} (h : ∀ k, 1 ≤ k → k < xs.length → tieOf (xi xs (k - 1)) (xi xs k) ≠ t) : usesB xs t = false := by
  unfold usesB
  rw [List.any_eq_false]
  intro k hk
  by_cases h1 : 1 ≤ k
  · rw [decide_eq_false (h k h1 (List.mem_range.1 hk))]; simp
  · rw [decide_eq_false h1]; simp
set_option maxHeartbeats 1600000 in
theorem uses_any (bo : Option Addr) (cap : Nat) (xs : List Int) (t1 t2 : Int) (w : World) (hxn : xs.length ≤ 1099511627776) (hx : IntsIn w w.heap.size bo xs) :
    Calls Try.prog 34 #[.slice bo xs.length cap, .agg #[.int .i64 t1, .int .i64 t2]] w fun e w' => e = .returned (.bool (usesB xs (t1, t2))) ∧ Below w.heap.size w w' := by
  have HXI := hideP hx
  obtain ⟨r, hr⟩ : ∃ r, usesB xs (t1, t2) = r := ⟨_, rfl⟩
  have HR := hideP hr
  obtain ⟨m, hm⟩ : ∃ m, xs.length = m := ⟨_, rfl⟩
  have HM := hideP hm
  rw [hr, hm]
  rw [hm] at hxn
  clear hx hr hm
  go_enter Try.func34, Try.ntmps34
  go_wp2
  go_loopw [5] (fun i wr => ∃ k : Nat, 1 ≤ k ∧ k ≤ m + 1 ∧ i = .int .i64 (k : Int) ∧ (∀ j, 1 ≤ j → j < k → j < m → tieOf (xi xs (j - 1)) (xi xs j) ≠ (t1, t2)) ∧ Below w.heap.size w wr ∧ wr.cell? ⟨w.heap.size, 0, none⟩ = some (.int .i64 t1) ∧ wr.cell? ⟨w.heap.size, 1, none⟩ = some (.int .i64 t2) ∧ w.heap.size < wr.heap.size)
    (fun i _ => m - (intOf i).toNat)
  case atStart => exact ⟨1, Nat.le_refl _, by omega, rfl, fun j h1 h2 => by omega, below_one _ _, by simp, by simp, by simp⟩
  case round =>
    obtain ⟨k, hk1, hk, rfl, hP, hBr, t0, t1', hwl⟩ := hrel
    have HP := hideP hP
    have HBr := hideP hBr
    clear hP hBr
    by_cases hlt : k < m
    · obtain ⟨j, hj⟩ : ∃ j, j = k - 1 := ⟨k - 1, rfl⟩
      obtain ⟨x, hx⟩ : ∃ x, x = xi xs (k - 1) := ⟨_, rfl⟩
      obtain ⟨y, hy⟩ : ∃ y, y = xi xs k := ⟨_, rfl⟩
      have HTI : Hid (tieOf (xi xs (k - 1)) (xi xs k) = (min x y, max x y)) := hideP (by rw [hx, hy]; rfl)
      rw [← hj] at hx
      obtain ⟨g, off, rfl, hg, e0⟩ := (HXI.out.below HBr.out (Nat.le_refl _)) j (by rw [HM.out]; omega)
      obtain ⟨g2, off2, eg, _, e1⟩ := (HXI.out.below HBr.out (Nat.le_refl _)) k (by rw [HM.out]; omega)
      cases eg
      rw [← hx] at e0
      rw [← hy] at e1
      have hgr : g < wr.heap.size := Nat.lt_of_lt_of_le hg HBr.out.size
      have i0 : (0 : Int) ≤ (j : Int) := by omega
      have i1 : (j : Int) < (m : Int) := by omega
      have i2 : (0 : Int) ≤ (k : Int) := by omega
      have i3 : (k : Int) < (m : Int) := by omega
      have i4 : IntKind.i64.wrap ((k : Int) - 1) = (j : Int) := by
        rw [show (k : Int) - 1 = (j : Int) by omega]
        rw [IntKind.wrap_i64]; omega
      have b0 : Below wr.heap.size wr wr.drew := (Below.refl _ _).drew
      have HE : Hid (∀ W, Below wr.heap.size wr W → W.cell? ⟨g, off + j, none⟩ = some (.int .i64 x) ∧ W.cell? ⟨g, off + k, none⟩ = some (.int .i64 y) ∧ W.cell? ⟨w.heap.size, 0, none⟩ = some (.int .i64 t1) ∧ W.cell? ⟨w.heap.size, 1, none⟩ = some (.int .i64 t2)) := hideP (fun W hb => ⟨(hb.cell (p := ⟨g, off + j, none⟩) hgr).trans e0, (hb.cell (p := ⟨g, off + k, none⟩) hgr).trans e1, (hb.cell (p := ⟨w.heap.size, 0, none⟩) hwl).trans t0, (hb.cell (p := ⟨w.heap.size, 1, none⟩) hwl).trans t1'⟩)
      have HT2 := hideP t0
      have HT3 := hideP t1'
      clear hx hy hj e0 e1 t0 t1'
      obtain ⟨lo, hlo⟩ : ∃ lo, lo = min x y := ⟨_, rfl⟩
      obtain ⟨hi, hhi⟩ : ∃ hi, hi = max x y := ⟨_, rfl⟩
      have HL : Hid (∀ W, Calls Try.prog 57 #[.int .i64 x, .int .i64 y] W fun e w' => e = .returned (.agg #[.int .i64 lo, .int .i64 hi]) ∧ Below W.heap.size W w') := hideP (fun W => by
        refine (l1Tie_any x y W).mono ?_
        rintro e w' ⟨rfl, rfl⟩
        exact ⟨by rw [hlo, hhi], below_one _ _⟩)
      rw [← hlo, ← hhi] at HTI
      clear hlo hhi HT2 HT3
      by_cases h1 : lo = t1
      · subst h1
        by_cases h2 : hi = t2
        · subst h2
          go_wp2
          go_region_held3 (fun w' => w'.cell? ⟨g, off + j, none⟩ = some (.int .i64 x) ∧ w'.cell? ⟨g, off + k, none⟩ = some (.int .i64 y) ∧ w'.cell? ⟨w.heap.size, 0, none⟩ = some (.int .i64 lo) ∧ w'.cell? ⟨w.heap.size, 1, none⟩ = some (.int .i64 hi)) (first | exact HE.out _ b1 | exact HE.out _ b0) (first | (go_at_call 57; refine (HL.out _).mono ?_; rintro e w1 ⟨rfl, hw1⟩; have b1 : Below wr.heap.size wr w1 := b0.trans hw1; clear hw1))
          have B1 := hideP (HBr.out.trans (b1.mono HBr.out.size))
          have s0 := (HE.out _ b1).2.2.1
          have s1 := (HE.out _ b1).2.2.2
          have hwl1 : w.heap.size < w1.heap.size := Nat.lt_of_lt_of_le hwl b1.size
          have HN : Hid (r = true) := hideP (by rw [← HR.out]; exact uses_at hk1 (by rw [HM.out]; exact hlt) HTI.out)
          clear HTI HP b1 b0 HE HL s0 s1
          go_wp2
          go_ret
          exact ⟨by rw [HN.out]; rfl, B1.out⟩
        · have h2b : (hi == t2) = false := by simp [h2]
          have HNE : ¬ hi = t2 := h2
          go_wp2
          go_region_held3 (fun w' => w'.cell? ⟨g, off + j, none⟩ = some (.int .i64 x) ∧ w'.cell? ⟨g, off + k, none⟩ = some (.int .i64 y) ∧ w'.cell? ⟨w.heap.size, 0, none⟩ = some (.int .i64 lo) ∧ w'.cell? ⟨w.heap.size, 1, none⟩ = some (.int .i64 t2)) (first | exact HE.out _ b1 | exact HE.out _ b0) (first | (go_at_call 57; refine (HL.out _).mono ?_; rintro e w1 ⟨rfl, hw1⟩; have b1 : Below wr.heap.size wr w1 := b0.trans hw1; clear hw1))
          have B1 := hideP (HBr.out.trans (b1.mono HBr.out.size))
          have s0 := (HE.out _ b1).2.2.1
          have s1 := (HE.out _ b1).2.2.2
          have hwl1 : w.heap.size < w1.heap.size := Nat.lt_of_lt_of_le hwl b1.size
          have HP2 : Hid (∀ j, 1 ≤ j → j < k + 1 → j < m → tieOf (xi xs (j - 1)) (xi xs j) ≠ (lo, t2)) := hideP (fun j h1 h2 h3 => by
            rcases Nat.lt_or_ge j k with h | h
            · exact HP.out j h1 h h3
            · obtain rfl : j = k := by omega
              rw [HTI.out]; intro e; cases e; exact HNE rfl)
          clear HTI HP b1 b0 HE HL
          go_wp2
          go_roundw
          case measure => (simp [intOf] <;> omega)
          case rel => exact ⟨k + 1, by omega, by omega, by go_num, HP2.out, B1.out, s0, s1, hwl1⟩
      · have h1b : (lo == t1) = false := by simp [h1]
        have HNE : ¬ lo = t1 := h1
        go_wp2
        go_region_held3 (fun w' => w'.cell? ⟨g, off + j, none⟩ = some (.int .i64 x) ∧ w'.cell? ⟨g, off + k, none⟩ = some (.int .i64 y) ∧ w'.cell? ⟨w.heap.size, 0, none⟩ = some (.int .i64 t1) ∧ w'.cell? ⟨w.heap.size, 1, none⟩ = some (.int .i64 t2)) (first | exact HE.out _ b1 | exact HE.out _ b0) (first | (go_at_call 57; refine (HL.out _).mono ?_; rintro e w1 ⟨rfl, hw1⟩; have b1 : Below wr.heap.size wr w1 := b0.trans hw1; clear hw1))
        have B1 := hideP (HBr.out.trans (b1.mono HBr.out.size))
        have s0 := (HE.out _ b1).2.2.1
        have s1 := (HE.out _ b1).2.2.2
        have hwl1 : w.heap.size < w1.heap.size := Nat.lt_of_lt_of_le hwl b1.size
        have HP2 : Hid (∀ j, 1 ≤ j → j < k + 1 → j < m → tieOf (xi xs (j - 1)) (xi xs j) ≠ (t1, t2)) := hideP (fun j h1 h2 h3 => by
          rcases Nat.lt_or_ge j k with h | h
          · exact HP.out j h1 h h3
          · obtain rfl : j = k := by omega
            rw [HTI.out]; intro e; cases e; exact HNE rfl)
        clear HTI HP b1 b0 HE HL
        go_wp2
        go_roundw
        case measure => (simp [intOf] <;> omega)
        case rel => exact ⟨k + 1, by omega, by omega, by go_num, HP2.out, B1.out, s0, s1, hwl1⟩
    · have HN : Hid (r = false) := hideP (by rw [← HR.out]; exact uses_no (fun j h1 h2 => HP.out j h1 (by rw [HM.out] at h2; omega) (by rw [HM.out] at h2; exact h2)))
      clear HP
      go_wp2
      go_ret
      exact ⟨by rw [HN.out]; rfl, HBr.out⟩

end Go.Proofs.Ytljnjpjnadlmhaa
