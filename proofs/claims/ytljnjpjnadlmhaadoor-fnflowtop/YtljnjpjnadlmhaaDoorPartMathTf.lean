/- Texts put together: MathTf, WLo. -/
import Derived.Test.YtljnjpjnadlmhaaDoorPartMathT
import Derived.Test.YtljnjpjnadlmhaaDoorPartWLeaf
import Derived.Test.YtljnjpjnadlmhaaDoorPartMath
import Derived.Test.YtljnjpjnadlmhaaDoorPartWReach
import Derived.BigRegion
/- Plain mathematics of trees: no tree stands ahead of the one that is told. No program stands here. -/
namespace Go.Proofs.YtljnjpjnadlmhaaDoor
set_option linter.unusedVariables false

theorem treeTo_grow {ts : List (Int × Int)} {t : Int × Int} : ∀ m k, t ∈ treeTo ts m → t ∈ treeTo ts (m + k) := by
  intro m k
  induction k with
  | zero => exact fun h => h
  | succ k ih =>
    intro h
    have := ih h
    show t ∈ treeTo ts (m + k + 1)
    cases e : takeB ts (m + k)
    · rw [treeTo_no e]; exact this
    · rw [treeTo_yes e]; exact List.mem_append_left _ this
theorem treeTo_has {ts : List (Int × Int)} {p : Nat} (hp : p < ts.length) (h : takeB ts p = true) : ts[p] ∈ treeTo ts ts.length := by
  have h1 : ts[p] ∈ treeTo ts (p + 1) := by
    rw [treeTo_yes h, tA_get ts p hp, tB_get ts p hp]; simp
  have := treeTo_grow (p + 1) (ts.length - (p + 1)) h1
  rwa [show p + 1 + (ts.length - (p + 1)) = ts.length by omega] at this
/-- where two rows part, the first is not ahead -/
def NoLess (xs ys : List (Int × Int)) : Prop := ∀ i, i < xs.length → i < ys.length → (∀ j, j < i → tA xs j = tA ys j ∧ tB xs j = tB ys j) → ¬ (tA xs i = tA ys i ∧ tB xs i = tB ys i) → lessB (tA xs i) (tB xs i) (tA ys i) (tB ys i) = false
theorem treeOk_parts {K : Int} {ts us : List (Int × Int)} (h : treeOkB K ts us = true) : okB K ts = true ∧ okB K us = true ∧ (∀ t, t ∈ us → t ∈ ts) ∧ (∀ i, i < us.length → takeB us i = true) := by
  unfold treeOkB at h
  simp only [Bool.and_eq_true, decide_eq_true_eq] at h
  obtain ⟨⟨⟨⟨h1, h2⟩, h3⟩, h4⟩, h5⟩ := h
  have hsub := sub_iff.1 h3
  exact ⟨h1, h2, hsub, (treeM_all h2).1 ((treeOk_eq h1 h2 hsub).2 ⟨h4, h5⟩).1⟩
theorem tree_first {K : Int} {ts us : List (Int × Int)} (h : treeOkB K ts us = true) : NoLess us (treeTs K ts) := by
  obtain ⟨hok, hus, hsub, hall⟩ := treeOk_parts h
  rw [treeTs_yes hok]
  obtain ⟨k0, k8, hs⟩ := ok_parts hok
  obtain ⟨_, _, hsu⟩ := ok_parts hus
  have hst := treeTo_srt k8 hs ts.length (Nat.le_refl _)
  intro i hiu hit hpre hne
  obtain ⟨tr, htr⟩ : ∃ tr, tr = treeTo ts ts.length := ⟨_, rfl⟩
  rw [← htr] at hit hpre hne hst ⊢
  have hpre' : ∀ j (hj : j < i), us[j]'(by omega) = tr[j]'(by omega) := by
    intro j hj
    have := hpre j hj
    rw [tA_get us j (by omega), tB_get us j (by omega), tA_get tr j (by omega), tB_get tr j (by omega)] at this
    exact Prod.ext this.1 this.2
  rw [← Bool.not_eq_true, tA_get us i hiu, tB_get us i hiu, tA_get tr i hit, tB_get tr i hit]
  intro hl
  have hlt : ix us[i] < ix tr[i] := (idx_less (hsu.1 _ (List.getElem_mem _)) (hst.1 _ (List.getElem_mem _)) k8).1 hl
  have pu := List.pairwise_iff_getElem.1 hsu.2
  have pt := List.pairwise_iff_getElem.1 hst.2
  have ps := List.pairwise_iff_getElem.1 hs.2
  -- what stands in the tree ahead of that tie stands among the first i
  have low : ∀ j (hj : j < tr.length), ix tr[j] < ix tr[i] → j < i := by
    intro j hj hx
    apply Decidable.byContradiction
    intro hc
    by_cases e : j = i
    · subst e; omega
    · have := pt i j hit hj (by omega); omega
  obtain ⟨p, hp, ep⟩ := List.mem_iff_getElem.1 (hsub us[i] (List.getElem_mem _))
  have hno : takeB ts p = false := by
    cases e : takeB ts p
    · rfl
    · exfalso
      have hm := treeTo_has hp e
      rw [ep, ← htr] at hm
      obtain ⟨j, hj, ej⟩ := List.mem_iff_getElem.1 hm
      have hji := low j hj (by rw [ej]; exact hlt)
      have h1 := hpre' j hji
      have := pu j i (by omega) hiu hji
      rw [h1, ej] at this
      omega
  have htop := takeB_no hno
  rw [tA_get ts p hp, tB_get ts p hp, ep, ← tree_forest ts p] at htop
  have hcn := (forest_cn _ _ _ _).1 htop
  have hcu : Cn (Tied us i) us[i].1.toNat us[i].2.toNat := by
    refine hcn.mono ?_
    rintro x y ⟨q, hq, e1, e2⟩
    have hm : (treeTo ts p)[q] ∈ treeTo ts p := List.getElem_mem _
    obtain ⟨r, hr, hrp, er, _⟩ := treeTo_mem ts p (by omega) _ hm
    have hm2 : (treeTo ts p)[q] ∈ tr := by
      have := treeTo_grow p (ts.length - p) hm
      rw [show p + (ts.length - p) = ts.length by omega, ← htr] at this
      exact this
    obtain ⟨j, hj, ej⟩ := List.mem_iff_getElem.1 hm2
    have hji : j < i := by
      apply low j hj
      rw [ej, er]
      have := ps r p hr hp hrp
      rw [ep] at this
      omega
    refine ⟨j, hji, ?_, ?_⟩
    · rw [tA_get us j (by omega), hpre' j hji, ej, ← tA_get _ q hq]; exact e1
    · rw [tB_get us j (by omega), hpre' j hji, ej, ← tB_get _ q hq]; exact e2
  have htu := (forest_cn us i _ _).2 hcu
  have := takeB_yes (hall i hiu)
  rw [tA_get us i hiu, tB_get us i hiu] at this
  exact this htu

end Go.Proofs.YtljnjpjnadlmhaaDoor

/- Nets in variables of a law; walks of laws.loTies, loNet, loHas, loTie. -/
namespace Go.Proofs.YtljnjpjnadlmhaaDoor
open Go.RowKit
set_option linter.unusedVariables false

/-- a net in a variable: its two cells, its ties -/
structure NetV (w : World) (A : Nat) (K : Int) (ao : Option Addr) (cap : Nat) (ts : List (Int × Int)) : Prop where
  c0 : w.cell? ⟨A, 0, none⟩ = some (.int .i64 K)
  c1 : w.cell? ⟨A, 1, none⟩ = some (.slice ao ts.length cap)
  lt : A < w.heap.size
  ties : TiesIn w w.heap.size ao ts
theorem NetV.next {w w' : World} {A : Nat} {K : Int} {ao : Option Addr} {cap : Nat} {ts : List (Int × Int)} (h : NetV w A K ao cap ts) (hb : Below w.heap.size w w') : NetV w' A K ao cap ts :=
  ⟨(hb.cell (p := ⟨A, 0, none⟩) h.lt).trans h.c0, (hb.cell (p := ⟨A, 1, none⟩) h.lt).trans h.c1, Nat.lt_of_lt_of_le h.lt hb.size, (h.ties.below hb (Nat.le_refl _)).wide hb.size⟩
theorem NetV.new {w : World} {K : Int} {ao : Option Addr} {cap : Nat} {ts : List (Int × Int)} (t : TypeId) (h : TiesIn w w.heap.size ao ts) : NetV (w.alloc (.cells #[.int .i64 K, .slice ao ts.length cap] t)) w.heap.size K ao cap ts :=
  ⟨by simp, by simp, by simp, (h.below (below_one _ _) (Nat.le_refl _)).wide (by simp)⟩

set_option maxHeartbeats 400000 in
theorem loTies_same (a1 a2 : Option Addr) (cap1 cap2 : Nat) (ts : List (Int × Int)) (w : World) (hn : ts.length ≤ 1099511627776) (h1 : TiesIn w w.heap.size a1 ts) (h2 : TiesIn w w.heap.size a2 ts) :
    Calls Tryd.prog 10 #[.slice a1 ts.length cap1, .slice a2 ts.length cap2] w fun e w' => e = .returned (.bool true) ∧ Below w.heap.size w w' := by
  obtain ⟨n, hnn⟩ : ∃ n, n = ts.length := ⟨_, rfl⟩
  have HN : Hid (n = ts.length) := hnn
  rw [← hnn] at hn ⊢
  clear hnn
  go_enter Tryd.func10, Tryd.ntmps10
  go_wp2
  go_loopw [5] (fun i wr => ∃ k : Nat, k ≤ n ∧ i = .int .i64 k ∧ Below w.heap.size w wr)
    (fun i _ => n - (intOf i).toNat)
  case atStart => exact ⟨0, Nat.zero_le _, rfl, Below.refl _ _⟩
  case round =>
    obtain ⟨k, hk, rfl, hbel⟩ := hrel
    by_cases hlt : k < n
    · obtain ⟨b, off, rfl, hbw, c0, c1⟩ := h1 k (by rw [← HN.out]; exact hlt)
      obtain ⟨b2, off2, rfl, hbw2, e0, e1⟩ := h2 k (by rw [← HN.out]; exact hlt)
      have c0' : wr.cell? ⟨b, off + k * 2, none⟩ = some (.int .i64 (tA ts k)) := (hbel.cell (p := ⟨b, off + k * 2, none⟩) hbw).trans c0
      have c1' : wr.cell? ⟨b, off + k * 2 + 1, none⟩ = some (.int .i64 (tB ts k)) := (hbel.cell (p := ⟨b, off + k * 2 + 1, none⟩) hbw).trans c1
      have e0' : wr.cell? ⟨b2, off2 + k * 2, none⟩ = some (.int .i64 (tA ts k)) := (hbel.cell (p := ⟨b2, off2 + k * 2, none⟩) hbw2).trans e0
      have e1' : wr.cell? ⟨b2, off2 + k * 2 + 1, none⟩ = some (.int .i64 (tB ts k)) := (hbel.cell (p := ⟨b2, off2 + k * 2 + 1, none⟩) hbw2).trans e1
      obtain ⟨x, hx⟩ : ∃ x, x = tA ts k := ⟨_, rfl⟩
      obtain ⟨y, hy⟩ : ∃ y, y = tB ts k := ⟨_, rfl⟩
      rw [← hx] at c0' e0'; rw [← hy] at c1' e1'
      have hk0 : (0 : Int) ≤ (k : Int) := by omega
      have hk1 : (k : Int) < (n : Int) := by omega
      clear c0 c1 e0 e1 hx hy h1 h2
      go_wp2
      go_region
      go_wp2
      go_roundw
      case rel => exact ⟨k + 1, by omega, by go_num, hbel.drew⟩
      case measure => simp [intOf]; omega
    · have hkn : k = n := by omega
      subst hkn
      go_wp2
      go_ret
      exact ⟨rfl, hbel⟩



end Go.Proofs.YtljnjpjnadlmhaaDoor
