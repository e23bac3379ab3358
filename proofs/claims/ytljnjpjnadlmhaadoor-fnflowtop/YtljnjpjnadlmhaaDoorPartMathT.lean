/- Texts put together: MathT, MathTk, WTree, WTreeS, WLo, MathTf. -/
import Derived.Test.YtljnjpjnadlmhaaDoorPartWForest
import Derived.Test.YtljnjpjnadlmhaaDoorPartWSpecOk
import Derived.Test.YtljnjpjnadlmhaaDoorPartWReach2
import Derived.Laws.OwnMore
import Derived.Test.YtljnjpjnadlmhaaDoorPartWLeaf
import Derived.Test.YtljnjpjnadlmhaaDoorPartMath
import Derived.Test.YtljnjpjnadlmhaaDoorPartWReach
import Derived.BigRegion
/- Plain mathematics of trees: which ties are taken. No program stands here. -/
namespace Go.Proofs.YtljnjpjnadlmhaaDoor
set_option linter.unusedVariables false

theorem join_id {f : Nat → Nat} (hl : Low f) {a b : Nat} (h : top f a = top f b) : join f a b = f := by
  funext k
  unfold join
  by_cases e : k = max (top f a) (top f b)
  · rw [if_pos e]
    have : k = top f a := by omega
    rw [this, top_is hl]; omega
  · rw [if_neg e]
/-- whether the i-th tie joins two parts of those ahead -/
def takeB (ts : List (Int × Int)) (i : Nat) : Bool := joinB (forest ts i) (tA ts i).toNat (tB ts i).toNat
/-- those of the first m ties that are taken -/
def treeTo (ts : List (Int × Int)) : Nat → List (Int × Int)
  | 0 => []
  | m + 1 => if takeB ts m = true then treeTo ts m ++ [(tA ts m, tB ts m)] else treeTo ts m
theorem treeTo_yes {ts : List (Int × Int)} {m : Nat} (h : takeB ts m = true) : treeTo ts (m + 1) = treeTo ts m ++ [(tA ts m, tB ts m)] := by simp [treeTo, h]
theorem treeTo_no {ts : List (Int × Int)} {m : Nat} (h : takeB ts m = false) : treeTo ts (m + 1) = treeTo ts m := by simp [treeTo, h]
theorem treeTo_len (ts : List (Int × Int)) : ∀ m, (treeTo ts m).length ≤ m := by
  intro m
  induction m with
  | zero => simp [treeTo]
  | succ m ih =>
    cases h : takeB ts m
    · rw [treeTo_no h]; omega
    · rw [treeTo_yes h]; simp; omega
theorem treeTo_mem (ts : List (Int × Int)) : ∀ m, m ≤ ts.length → ∀ t, t ∈ treeTo ts m → ∃ i, ∃ h : i < ts.length, i < m ∧ t = ts[i] ∧ takeB ts i = true := by
  intro m
  induction m with
  | zero => intro _ t ht; simp [treeTo] at ht
  | succ m ih =>
    intro hm t ht
    cases h : takeB ts m
    · rw [treeTo_no h] at ht
      obtain ⟨i, h1, h2, h3⟩ := ih (by omega) t ht
      exact ⟨i, h1, by omega, h3⟩
    · rw [treeTo_yes h, List.mem_append, List.mem_singleton] at ht
      rcases ht with ht | ht
      · obtain ⟨i, h1, h2, h3⟩ := ih (by omega) t ht
        exact ⟨i, h1, by omega, h3⟩
      · exact ⟨m, by omega, by omega, by rw [ht, tA_get ts m (by omega), tB_get ts m (by omega)], h⟩
theorem treeTo_srt {K : Int} {ts : List (Int × Int)} (hK : K ≤ 8) (hs : Srt K ts) : ∀ m, m ≤ ts.length → Srt K (treeTo ts m) := by
  intro m
  induction m with
  | zero => intro _; exact ⟨fun t ht => by simp [treeTo] at ht, by simp [treeTo]⟩
  | succ m ih =>
    intro hm
    obtain ⟨h1, h2⟩ := ih (by omega)
    cases h : takeB ts m
    · rw [treeTo_no h]; exact ⟨h1, h2⟩
    · rw [treeTo_yes h]
      have hmem : (tA ts m, tB ts m) = ts[m]'(by omega) := by rw [tA_get ts m (by omega), tB_get ts m (by omega)]
      refine ⟨fun t ht => ?_, ?_⟩
      · rw [List.mem_append, List.mem_singleton] at ht
        rcases ht with ht | ht
        · exact h1 t ht
        · rw [ht, hmem]; exact hs.1 _ (List.getElem_mem _)
      · rw [List.pairwise_append]
        refine ⟨h2, List.pairwise_singleton _ _, fun x hx y hy => ?_⟩
        rw [List.mem_singleton] at hy
        obtain ⟨i, hi1, hi2, rfl, _⟩ := treeTo_mem ts m (by omega) x hx
        rw [hy, hmem]
        exact List.pairwise_iff_getElem.1 hs.2 i m hi1 (by omega) hi2
theorem tA_app (us : List (Int × Int)) (t : Int × Int) : tA (us ++ [t]) us.length = t.1 ∧ tB (us ++ [t]) us.length = t.2 := by
  simp [tA, tB]
theorem tA_pre (us : List (Int × Int)) (t : Int × Int) {i : Nat} (h : i < us.length) : tA (us ++ [t]) i = tA us i ∧ tB (us ++ [t]) i = tB us i := by
  simp [tA, tB, List.getElem?_append_left h]
theorem forest_pre {ts us : List (Int × Int)} : ∀ m, (∀ i, i < m → tA ts i = tA us i ∧ tB ts i = tB us i) → forest ts m = forest us m := by
  intro m
  induction m with
  | zero => intro _; rfl
  | succ m ih =>
    intro h
    show join (forest ts m) _ _ = join (forest us m) _ _
    rw [ih (fun i hi => h i (by omega)), (h m (by omega)).1, (h m (by omega)).2]
theorem forest_app (us : List (Int × Int)) (t : Int × Int) : forest (us ++ [t]) (us ++ [t]).length = join (forest us us.length) t.1.toNat t.2.toNat := by
  have hl : (us ++ [t]).length = us.length + 1 := by simp
  rw [hl]
  show join (forest (us ++ [t]) us.length) _ _ = _
  rw [forest_pre us.length (fun i hi => tA_pre us t hi), (tA_app us t).1, (tA_app us t).2]
/-- the parts by those taken are the parts by all -/
theorem tree_forest (ts : List (Int × Int)) : ∀ m, forest (treeTo ts m) (treeTo ts m).length = forest ts m := by
  intro m
  induction m with
  | zero => rfl
  | succ m ih =>
    show _ = join (forest ts m) (tA ts m).toNat (tB ts m).toNat
    cases h : takeB ts m
    · rw [treeTo_no h, ih]
      have : top (forest ts m) (tA ts m).toNat = top (forest ts m) (tB ts m).toNat := by
        apply Decidable.byContradiction
        intro hne
        have : takeB ts m = true := decide_eq_true hne
        rw [this] at h; exact Bool.noConfusion h
      exact (join_id (forest_low ts m) this).symm
    · rw [treeTo_yes h, forest_app, ih]
def treeTs (K : Int) (ts : List (Int × Int)) : List (Int × Int) := if okB K ts = true then treeTo ts ts.length else []
theorem treeTs_yes {K : Int} {ts : List (Int × Int)} (h : okB K ts = true) : treeTs K ts = treeTo ts ts.length := if_pos h
theorem treeTs_no {K : Int} {ts : List (Int × Int)} (h : okB K ts = false) : treeTs K ts = [] := by simp [treeTs, h]
theorem treeTs_len (K : Int) (ts : List (Int × Int)) : (treeTs K ts).length ≤ 64 := by
  cases h : okB K ts
  · rw [treeTs_no h]; simp
  · rw [treeTs_yes h]
    have := ok_short (okB_iff.1 h)
    have := treeTo_len ts ts.length
    omega
theorem treeTo_ok {K : Int} {ts : List (Int × Int)} (h : okB K ts = true) {m : Nat} (hm : m ≤ ts.length) : okB K (treeTo ts m) = true := by
  obtain ⟨k0, k8, hs⟩ := ok_parts h
  exact okB_iff.2 (ok_srt.2 ⟨k0, k8, treeTo_srt k8 hs m hm⟩)
theorem treeTs_ok {K : Int} {ts : List (Int × Int)} (h : okB K ts = true) : okB K (treeTs K ts) = true := by rw [treeTs_yes h]; exact treeTo_ok h (Nat.le_refl _)
theorem bits_app {m : Nat} {ts : List (Int × Int)} (h : BitsOf m ts) (t : Int × Int) : BitsOf (m ||| 2 ^ ix t) (ts ++ [t]) := by
  intro j
  rw [Nat.testBit_or, Bool.or_eq_true, h j, Nat.testBit_two_pow, decide_eq_true_eq]
  constructor
  · rintro (⟨x, hx, e⟩ | e)
    · exact ⟨x, List.mem_append_left _ hx, e⟩
    · exact ⟨t, by simp, e⟩
  · rintro ⟨x, hx, e⟩
    rcases List.mem_append.1 hx with hx' | hx'
    · exact Or.inl ⟨x, hx', e⟩
    · rw [List.mem_singleton] at hx'; subst hx'; exact Or.inr e
theorem pbit_ix {K : Int} (hK : K ≤ 8) {a b : Int} (h : TieOk K a b) : pbit a b = 2 ^ ix (a, b) := by
  obtain ⟨h1, h2, h3⟩ := h
  have e1 : min a b = a := by omega
  have e2 : max a b = b := by omega
  rw [pbit_yes (by omega) (by omega) (by omega), e1, e2]; rfl
/-- the taken ties as bits -/
def treeM (ts : List (Int × Int)) (m : Nat) : Nat := maskN (treeTo ts m) (treeTo ts m).length
theorem mask_pre {ts us : List (Int × Int)} : ∀ m, (∀ i, i < m → tA ts i = tA us i ∧ tB ts i = tB us i) → maskN ts m = maskN us m := by
  intro m
  induction m with
  | zero => intro _; rfl
  | succ m ih =>
    intro h
    show maskN ts m ||| _ = maskN us m ||| _
    rw [ih (fun i hi => h i (by omega)), (h m (by omega)).1, (h m (by omega)).2]
theorem treeM_yes {K : Int} (hK : K ≤ 8) {ts : List (Int × Int)} {m : Nat} (h : takeB ts m = true) (ht : TieOk K (tA ts m) (tB ts m)) : treeM ts (m + 1) = treeM ts m ||| pbit (tA ts m) (tB ts m) := by
  unfold treeM
  rw [treeTo_yes h]
  have hl : (treeTo ts m ++ [(tA ts m, tB ts m)]).length = (treeTo ts m).length + 1 := by simp
  rw [hl]
  show maskN _ _ ||| pb _ _ = _
  rw [mask_pre _ (fun i hi => tA_pre (treeTo ts m) (tA ts m, tB ts m) hi), (tA_app (treeTo ts m) (tA ts m, tB ts m)).1, (tA_app (treeTo ts m) (tA ts m, tB ts m)).2, pbit_ix hK ht]
  rfl
theorem treeM_no {ts : List (Int × Int)} {m : Nat} (h : takeB ts m = false) : treeM ts (m + 1) = treeM ts m := by unfold treeM; rw [treeTo_no h]
theorem treeM_set {K : Int} {ts : List (Int × Int)} (h : okB K ts = true) {m : Nat} (hm : m ≤ ts.length) : treeM ts m = setN K (treeTo ts m) := by
  rw [setN_yes (treeTo_ok h hm)]; rfl
theorem treeM_lt {K : Int} {ts : List (Int × Int)} (h : okB K ts = true) {m : Nat} (hm : m ≤ ts.length) : treeM ts m < 2 ^ 64 := by
  rw [treeM_set h hm]; exact setN_lt _ _

end Go.Proofs.YtljnjpjnadlmhaaDoor

/- Plain mathematics of trees: which ties are a tree of a net. No program stands here. -/
namespace Go.Proofs.YtljnjpjnadlmhaaDoor
set_option linter.unusedVariables false

theorem cntF_id : ∀ n, cntF (fun k => k) n = n := by
  intro n
  induction n with
  | zero => rfl
  | succ n ih => simp only [cntF]; rw [ih, if_pos (top_fix rfl)]
theorem takeB_no {ts : List (Int × Int)} {m : Nat} (h : takeB ts m = false) : top (forest ts m) (tA ts m).toNat = top (forest ts m) (tB ts m).toNat := by
  apply Decidable.byContradiction
  intro hne
  have : takeB ts m = true := decide_eq_true hne
  rw [this] at h; exact Bool.noConfusion h
theorem takeB_yes {ts : List (Int × Int)} {m : Nat} (h : takeB ts m = true) : top (forest ts m) (tA ts m).toNat ≠ top (forest ts m) (tB ts m).toNat := of_decide_eq_true h
/-- a part less a tie that is taken -/
theorem tree_cnt {K : Int} {us : List (Int × Int)} (h : NetOk K us) : ∀ m, m ≤ us.length → cntF (forest us m) K.toNat + (treeTo us m).length = K.toNat := by
  intro m
  induction m with
  | zero => intro _; show cntF (fun k => k) K.toNat + 0 = K.toNat; rw [cntF_id]; omega
  | succ m ih =>
    intro hm
    have h1 := ih (by omega)
    obtain ⟨q1, q2, q3⟩ := (h.2.2 m (by omega)).1
    show cntF (join (forest us m) (tA us m).toNat (tB us m).toNat) K.toNat + _ = _
    cases e : takeB us m
    · rw [treeTo_no e, join_same (forest_low us m) (takeB_no e)]; exact h1
    · rw [treeTo_yes e]
      have := join_less (forest_low us m) (takeB_yes e) (n := K.toNat) (by omega) (by omega)
      simp only [List.length_append, List.length_singleton]
      omega
theorem treeTo_all {us : List (Int × Int)} : ∀ m, m ≤ us.length → (∀ i, i < m → takeB us i = true) → treeTo us m = us.take m := by
  intro m
  induction m with
  | zero => intro _ _; simp [treeTo]
  | succ m ih =>
    intro hm h
    rw [treeTo_yes (h m (by omega)), ih (by omega) (fun i hi => h i (by omega)), List.take_add_one]
    have : us[m]? = some us[m] := List.getElem?_eq_getElem (by omega)
    rw [this, tA_get us m (by omega), tB_get us m (by omega)]
    rfl
theorem treeTo_full {us : List (Int × Int)} : ∀ m, (treeTo us m).length = m → ∀ i, i < m → takeB us i = true := by
  intro m
  induction m with
  | zero => intro _ i hi; omega
  | succ m ih =>
    intro h i hi
    have hl := treeTo_len us m
    cases e : takeB us m
    · rw [treeTo_no e] at h; omega
    · rw [treeTo_yes e] at h
      simp only [List.length_append, List.length_singleton] at h
      by_cases him : i = m
      · subst him; exact e
      · exact ih (by omega) i (by omega)
theorem treeM_all {K : Int} {us : List (Int × Int)} (h : okB K us = true) : treeM us us.length = setN K us ↔ ∀ i, i < us.length → takeB us i = true := by
  obtain ⟨k0, k8, hs⟩ := ok_parts h
  constructor
  · intro he i hi
    have hb : (treeM us us.length).testBit (ix us[i]) = true := by
      rw [he, setN_yes h]
      exact (mask_bitsOf us _).2 ⟨us[i], List.getElem_mem _, rfl⟩
    obtain ⟨t, ht, e⟩ := (mask_bitsOf (treeTo us us.length) _).1 hb
    obtain ⟨j, hj, _, rfl, hjt⟩ := treeTo_mem us us.length (Nat.le_refl _) t ht
    have hij : j = i := by
      apply Decidable.byContradiction
      intro hne
      have hp := List.pairwise_iff_getElem.1 hs.2
      rcases Nat.lt_or_gt_of_ne hne with h1 | h1
      · have := hp j i hj hi h1; omega
      · have := hp i j hi hj h1; omega
    subst hij
    exact hjt
  · intro ha
    have := treeTo_all us.length (Nat.le_refl _) ha
    rw [List.take_length] at this
    unfold treeM
    rw [this, setN_yes h]
theorem sub_tied {us ts : List (Int × Int)} (hsub : ∀ t, t ∈ us → t ∈ ts) (x y : Nat) (h : Tied us us.length x y) : Tied ts ts.length x y := by
  obtain ⟨i, hi, e1, e2⟩ := h
  obtain ⟨j, hj, e⟩ := List.mem_iff_getElem.1 (hsub us[i] (List.getElem_mem _))
  rw [tA_get us i hi] at e1
  rw [tB_get us i hi] at e2
  exact ⟨j, hj, by rw [tA_get ts j hj, e]; exact e1, by rw [tB_get ts j hj, e]; exact e2⟩
theorem cntF_sub {f g : Nat → Nat} : ∀ n, (∀ k, k < n → top g k = k → top f k = k) → cntF g n ≤ cntF f n ∧ (cntF g n = cntF f n → ∀ k, k < n → top f k = k → top g k = k) := by
  intro n
  induction n with
  | zero => intro _; exact ⟨Nat.le_refl _, fun _ k hk => by omega⟩
  | succ n ih =>
    intro h
    obtain ⟨h1, h2⟩ := ih (fun k hk => h k (by omega))
    have hn := h n (by omega)
    simp only [cntF]
    by_cases e1 : top g n = n
    · rw [if_pos e1, if_pos (hn e1)]
      refine ⟨by omega, fun he k hk hf => ?_⟩
      by_cases hkn : k = n
      · subst hkn; exact e1
      · exact h2 (by omega) k (by omega) hf
    · rw [if_neg e1]
      by_cases e2 : top f n = n
      · rw [if_pos e2]; exact ⟨by omega, fun he => by omega⟩
      · rw [if_neg e2]
        refine ⟨by omega, fun he k hk hf => ?_⟩
        by_cases hkn : k = n
        · subst hkn; exact absurd hf e2
        · exact h2 (by omega) k (by omega) hf
/-- fewer ties, as many parts: the same parts -/
theorem parts_same {us ts : List (Int × Int)} (hsub : ∀ t, t ∈ us → t ∈ ts) (n : Nat) : (∀ k, k < n → topN us k = topN ts k) ↔ cnt us n = cnt ts n := by
  rw [cnt_is, cnt_is]
  have hroot : ∀ k, top (forest ts ts.length) k = k → top (forest us us.length) k = k := by
    intro k h
    rw [top_self_iff] at h ⊢
    exact fun j hj hc => h j hj (hc.mono (sub_tied hsub))
  constructor
  · intro h
    exact cntF_congr n (fun k hk => by have := h k hk; unfold topN at this; rw [this])
  · intro h k hk
    have hb := (cntF_sub (f := forest us us.length) (g := forest ts ts.length) n (fun k _ => hroot k)).2 h.symm
    unfold topN
    have hl := forest_low us us.length
    have hr := top_top hl k
    have hrk := top_le hl k
    have h1 := hb (top (forest us us.length) k) (by omega) hr
    have hc : Cn (Tied us us.length) k (top (forest us us.length) k) := (forest_cn us us.length _ _).1 hr.symm
    have := (forest_cn ts ts.length _ _).2 (hc.mono (sub_tied hsub))
    rw [this, h1]
/-- ties of a net that hold all together, and none too many -/
def treeOkB (K : Int) (ts us : List (Int × Int)) : Bool := okB K ts && okB K us && us.all (fun t => tiedB ts t.1 t.2) && decide (cnt us K.toNat = cnt ts K.toNat) && decide (us.length + cnt ts K.toNat = K.toNat)
theorem sub_iff {us ts : List (Int × Int)} : us.all (fun t => tiedB ts t.1 t.2) = true ↔ ∀ t, t ∈ us → t ∈ ts := by
  rw [List.all_eq_true]
  exact ⟨fun h t ht => tied_mem.1 (h t ht), fun h t ht => tied_mem.2 (h t ht)⟩
theorem treeOk_eq {K : Int} {ts us : List (Int × Int)} (hok : okB K ts = true) (hus : okB K us = true) (hsub : ∀ t, t ∈ us → t ∈ ts) :
    (treeM us us.length = setN K us ∧ ∀ k, k < K.toNat → topN us k = topN ts k) ↔ (cnt us K.toNat = cnt ts K.toNat ∧ us.length + cnt ts K.toNat = K.toNat) := by
  rw [treeM_all hus, parts_same hsub]
  have hc := tree_cnt (okB_iff.1 hus) us.length (Nat.le_refl _)
  rw [← cnt_is] at hc
  have hl := treeTo_len us us.length
  constructor
  · rintro ⟨h1, h2⟩
    have := treeTo_all us.length (Nat.le_refl _) h1
    rw [this, List.take_length] at hc
    exact ⟨h2, by omega⟩
  · rintro ⟨h1, h2⟩
    exact ⟨treeTo_full us.length (by omega), h1⟩
theorem treeTo_mem' {ts : List (Int × Int)} {t : Int × Int} (h : t ∈ treeTo ts ts.length) : t ∈ ts := by
  obtain ⟨i, hi, _, rfl, _⟩ := treeTo_mem ts ts.length (Nat.le_refl _) t h
  exact List.getElem_mem _
/-- those that are taken are a tree -/
theorem tree_is {K : Int} {ts : List (Int × Int)} (h : okB K ts = true) : treeOkB K ts (treeTs K ts) = true ∧ (treeTs K ts).length + cnt ts K.toNat = K.toNat := by
  have hc := tree_cnt (okB_iff.1 h) ts.length (Nat.le_refl _)
  rw [← cnt_is] at hc
  have hl : (treeTs K ts).length + cnt ts K.toNat = K.toNat := by rw [treeTs_yes h]; omega
  have hs : (treeTs K ts).all (fun t => tiedB ts t.1 t.2) = true := by
    rw [sub_iff, treeTs_yes h]
    exact fun t ht => treeTo_mem' ht
  have he : cnt (treeTs K ts) K.toNat = cnt ts K.toNat := by
    rw [cnt_is, cnt_is, treeTs_yes h, tree_forest]
  refine ⟨?_, hl⟩
  rw [treeOkB, h, treeTs_ok h, hs, decide_eq_true he, decide_eq_true hl]
  rfl
theorem strike_sub {K : Int} {ts us : List (Int × Int)} (hok : okB K ts = true) (hus : okB K us = true) : strike (setN K us) (setN K ts) = 0 ↔ ∀ t, t ∈ us → t ∈ ts := by
  obtain ⟨k0, k8, hs⟩ := ok_parts hok
  obtain ⟨_, _, hs'⟩ := ok_parts hus
  have b1 : BitsOf (setN K us) us := by rw [setN_yes hus]; exact mask_bitsOf us
  have b2 : BitsOf (setN K ts) ts := by rw [setN_yes hok]; exact mask_bitsOf ts
  constructor
  · intro h t ht
    have hb : (strike (setN K us) (setN K ts)).testBit (ix t) = false := by rw [h]; simp
    rw [strike_bit _ _ _ (setN_lt _ _) (setN_lt _ _), (b1 (ix t)).2 ⟨t, ht, rfl⟩, Bool.true_and, Bool.not_eq_false'] at hb
    obtain ⟨x, hx, e⟩ := (b2 (ix t)).1 hb
    have := ix_inj k8 (hs.1 x hx) (hs'.1 t ht) e
    rw [← this]; exact hx
  · intro h
    apply Nat.eq_of_testBit_eq
    intro j
    rw [Nat.zero_testBit, strike_bit _ _ _ (setN_lt _ _) (setN_lt _ _)]
    cases e : (setN K us).testBit j
    · rfl
    · obtain ⟨t, ht, e2⟩ := (b1 j).1 e
      rw [(b2 j).2 ⟨t, h t ht, e2⟩]; rfl

end Go.Proofs.YtljnjpjnadlmhaaDoor

/- Walks of impl.treeOf and impl.TreeOf. -/
namespace Go.Proofs.YtljnjpjnadlmhaaDoor
open Go.RowKit
set_option linter.unusedVariables false

/-- a forest of the call's own in block A; all that was there is as it was -/
structure Gst (w wr : World) (A : Nat) (c : Nat → Value) : Prop where
  F : OwnI wr A 8 c
  B : Below w.heap.size w wr
  h : w.heap.size ≤ A
theorem Gst.next {w wr w' : World} {A : Nat} {c : Nat → Value} (h : Gst w wr A c) (hb : Below wr.heap.size wr w') : Gst w w' A c :=
  ⟨h.F.below hb h.F.2.2, h.B.trans (hb.mono h.B.size), h.h⟩
theorem Gst.turn {w wr w' : World} {A : Nat} {c c' : Nat → Value} (h : Gst w wr A c) (ht : Turned A (A + 1) wr w') (hF : OwnI w' A 8 c') : Gst w w' A c' :=
  ⟨hF, h.B.trans (ht.under h.h h.B.size), h.h⟩
end Go.Proofs.YtljnjpjnadlmhaaDoor

/- Walk of spec.TreeOf. -/
namespace Go.Proofs.YtljnjpjnadlmhaaDoor
open Go.RowKit
set_option linter.unusedVariables false

theorem clist_app (L : List (Int × Int)) (x : Int × Int) : clist (L ++ [x]) (L.length + 1) = clist L L.length ++ [.int .i64 x.1, .int .i64 x.2] := by
  rw [clist_succ, (tA_app L x).1, (tA_app L x).2]
  congr 1
  unfold clist
  apply List.map_congr_left
  intro j hj
  have hj' : j < L.length * 2 := by simpa using hj
  have := tA_pre L x (i := j / 2) (by omega)
  unfold tcell
  rw [this.1, this.2]
theorem own_next {w w' : World} {base : Nat} {e : TypeId} {size : Nat} {v : Value} {n : Nat} {xs : List Value} (h : w.ownsRow base e size v n xs) (hb : Below w.heap.size w w') : w'.ownsRow base e size v n xs := by
  refine h.kept (row := none) ⟨hb.os, hb.tape, hb.output, hb.size, fun k hk _ => hb.block k hk⟩ ?_
  cases v.ownBlock <;> simp
theorem own_ties {w : World} {base cap : Nat} {ao : Option Addr} {us : List (Int × Int)} (h : w.ownsRow base 63 2 (.slice ao us.length cap) us.length (clist us us.length)) : TiesIn w w.heap.size ao us := (OwnN.of_row h).ties (Nat.le_refl _)

end Go.Proofs.YtljnjpjnadlmhaaDoor

/- Nets in variables of a law; walks of laws.loTies, loNet, loHas, loTie. -/
namespace Go.Proofs.YtljnjpjnadlmhaaDoor
open Go.RowKit
set_option linter.unusedVariables false

/-- a net in a variable: its two cells, its ties -/
structure NetV (w : World) (A : Nat) (K : Int) (ao : Option Addr) (cap : Nat) (ts : List (Int × Int)) : Prop where
  c0 : w.cell? ⟨A, 0, none⟩ = some (.int .i64 K)
  c1 : w.cell? ⟨A, 1, none⟩ = some (.slice ao ts.length cap)
  lt : A < w.heap.size
  ties : TiesIn w w.heap.size ao ts
theorem NetV.next {w w' : World} {A : Nat} {K : Int} {ao : Option Addr} {cap : Nat} {ts : List (Int × Int)} (h : NetV w A K ao cap ts) (hb : Below w.heap.size w w') : NetV w' A K ao cap ts :=
  ⟨(hb.cell (p := ⟨A, 0, none⟩) h.lt).trans h.c0, (hb.cell (p := ⟨A, 1, none⟩) h.lt).trans h.c1, Nat.lt_of_lt_of_le h.lt hb.size, (h.ties.below hb (Nat.le_refl _)).wide hb.size⟩
theorem NetV.new {w : World} {K : Int} {ao : Option Addr} {cap : Nat} {ts : List (Int × Int)} (t : TypeId) (h : TiesIn w w.heap.size ao ts) : NetV (w.alloc (.cells #[.int .i64 K, .slice ao ts.length cap] t)) w.heap.size K ao cap ts :=
  ⟨by simp, by simp, by simp, (h.below (below_one _ _) (Nat.le_refl _)).wide (by simp)⟩

set_option maxHeartbeats 400000 in
theorem loTies_same (a1 a2 : Option Addr) (cap1 cap2 : Nat) (ts : List (Int × Int)) (w : World) (hn : ts.length ≤ 1099511627776) (h1 : TiesIn w w.heap.size a1 ts) (h2 : TiesIn w w.heap.size a2 ts) :
    Calls Tryd.prog 10 #[.slice a1 ts.length cap1, .slice a2 ts.length cap2] w fun e w' => e = .returned (.bool true) ∧ Below w.heap.size w w' := by
  obtain ⟨n, hnn⟩ : ∃ n, n = ts.length := ⟨_, rfl⟩
  have HN : Hid (n = ts.length) := hnn
  rw [← hnn] at hn ⊢
  clear hnn
  go_enter Tryd.func10, Tryd.ntmps10
  go_wp2
  go_loopw [5] (fun i wr => ∃ k : Nat, k ≤ n ∧ i = .int .i64 k ∧ Below w.heap.size w wr)
    (fun i _ => n - (intOf i).toNat)
  case atStart => exact ⟨0, Nat.zero_le _, rfl, Below.refl _ _⟩
  case round =>
    obtain ⟨k, hk, rfl, hbel⟩ := hrel
    by_cases hlt : k < n
    · obtain ⟨b, off, rfl, hbw, c0, c1⟩ := h1 k (by rw [← HN.out]; exact hlt)
      obtain ⟨b2, off2, rfl, hbw2, e0, e1⟩ := h2 k (by rw [← HN.out]; exact hlt)
      have c0' : wr.cell? ⟨b, off + k * 2, none⟩ = some (.int .i64 (tA ts k)) := (hbel.cell (p := ⟨b, off + k * 2, none⟩) hbw).trans c0
      have c1' : wr.cell? ⟨b, off + k * 2 + 1, none⟩ = some (.int .i64 (tB ts k)) := (hbel.cell (p := ⟨b, off + k * 2 + 1, none⟩) hbw).trans c1
      have e0' : wr.cell? ⟨b2, off2 + k * 2, none⟩ = some (.int .i64 (tA ts k)) := (hbel.cell (p := ⟨b2, off2 + k * 2, none⟩) hbw2).trans e0
      have e1' : wr.cell? ⟨b2, off2 + k * 2 + 1, none⟩ = some (.int .i64 (tB ts k)) := (hbel.cell (p := ⟨b2, off2 + k * 2 + 1, none⟩) hbw2).trans e1
      obtain ⟨x, hx⟩ : ∃ x, x = tA ts k := ⟨_, rfl⟩
      obtain ⟨y, hy⟩ : ∃ y, y = tB ts k := ⟨_, rfl⟩
      rw [← hx] at c0' e0'; rw [← hy] at c1' e1'
      have hk0 : (0 : Int) ≤ (k : Int) := by omega
      have hk1 : (k : Int) < (n : Int) := by omega
      clear c0 c1 e0 e1 hx hy h1 h2
      go_wp2
      go_region
      go_wp2
      go_roundw
      case rel => exact ⟨k + 1, by omega, by go_num, hbel.drew⟩
      case measure => simp [intOf]; omega
    · have hkn : k = n := by omega
      subst hkn
      go_wp2
      go_ret
      exact ⟨rfl, hbel⟩



end Go.Proofs.YtljnjpjnadlmhaaDoor

/- Plain mathematics of trees: no tree stands ahead of the one that is told. No program stands here. -/
namespace Go.Proofs.YtljnjpjnadlmhaaDoor
set_option linter.unusedVariables false

theorem treeTo_grow {ts : List (Int × Int)} {t : Int × Int} : ∀ m k, t ∈ treeTo ts m → t ∈ treeTo ts (m + k) := by
  intro m k
  induction k with
  | zero => exact fun h => h
  | succ k ih =>
    intro h
    have := ih h
    show t ∈ treeTo ts (m + k + 1)
    cases e : takeB ts (m + k)
    · rw [treeTo_no e]; exact this
    · rw [treeTo_yes e]; exact List.mem_append_left _ this
theorem treeTo_has {ts : List (Int × Int)} {p : Nat} (hp : p < ts.length) (h : takeB ts p = true) : ts[p] ∈ treeTo ts ts.length := by
  have h1 : ts[p] ∈ treeTo ts (p + 1) := by
    rw [treeTo_yes h, tA_get ts p hp, tB_get ts p hp]; simp
  have := treeTo_grow (p + 1) (ts.length - (p + 1)) h1
  rwa [show p + 1 + (ts.length - (p + 1)) = ts.length by omega] at this
/-- where two rows part, the first is not ahead -/
def NoLess (xs ys : List (Int × Int)) : Prop := ∀ i, i < xs.length → i < ys.length → (∀ j, j < i → tA xs j = tA ys j ∧ tB xs j = tB ys j) → ¬ (tA xs i = tA ys i ∧ tB xs i = tB ys i) → lessB (tA xs i) (tB xs i) (tA ys i) (tB ys i) = false
theorem treeOk_parts {K : Int} {ts us : List (Int × Int)} (h : treeOkB K ts us = true) : okB K ts = true ∧ okB K us = true ∧ (∀ t, t ∈ us → t ∈ ts) ∧ (∀ i, i < us.length → takeB us i = true) := by
  unfold treeOkB at h
  simp only [Bool.and_eq_true, decide_eq_true_eq] at h
  obtain ⟨⟨⟨⟨h1, h2⟩, h3⟩, h4⟩, h5⟩ := h
  have hsub := sub_iff.1 h3
  exact ⟨h1, h2, hsub, (treeM_all h2).1 ((treeOk_eq h1 h2 hsub).2 ⟨h4, h5⟩).1⟩
theorem tree_first {K : Int} {ts us : List (Int × Int)} (h : treeOkB K ts us = true) : NoLess us (treeTs K ts) := by
  obtain ⟨hok, hus, hsub, hall⟩ := treeOk_parts h
  rw [treeTs_yes hok]
  obtain ⟨k0, k8, hs⟩ := ok_parts hok
  obtain ⟨_, _, hsu⟩ := ok_parts hus
  have hst := treeTo_srt k8 hs ts.length (Nat.le_refl _)
  intro i hiu hit hpre hne
  obtain ⟨tr, htr⟩ : ∃ tr, tr = treeTo ts ts.length := ⟨_, rfl⟩
  rw [← htr] at hit hpre hne hst ⊢
  have hpre' : ∀ j (hj : j < i), us[j]'(by omega) = tr[j]'(by omega) := by
    intro j hj
    have := hpre j hj
    rw [tA_get us j (by omega), tB_get us j (by omega), tA_get tr j (by omega), tB_get tr j (by omega)] at this
    exact Prod.ext this.1 this.2
  rw [← Bool.not_eq_true, tA_get us i hiu, tB_get us i hiu, tA_get tr i hit, tB_get tr i hit]
  intro hl
  have hlt : ix us[i] < ix tr[i] := (idx_less (hsu.1 _ (List.getElem_mem _)) (hst.1 _ (List.getElem_mem _)) k8).1 hl
  have pu := List.pairwise_iff_getElem.1 hsu.2
  have pt := List.pairwise_iff_getElem.1 hst.2
  have ps := List.pairwise_iff_getElem.1 hs.2
  -- what stands in the tree ahead of that tie stands among the first i
  have low : ∀ j (hj : j < tr.length), ix tr[j] < ix tr[i] → j < i := by
    intro j hj hx
    apply Decidable.byContradiction
    intro hc
    by_cases e : j = i
    · subst e; omega
    · have := pt i j hit hj (by omega); omega
  obtain ⟨p, hp, ep⟩ := List.mem_iff_getElem.1 (hsub us[i] (List.getElem_mem _))
  have hno : takeB ts p = false := by
    cases e : takeB ts p
    · rfl
    · exfalso
      have hm := treeTo_has hp e
      rw [ep, ← htr] at hm
      obtain ⟨j, hj, ej⟩ := List.mem_iff_getElem.1 hm
      have hji := low j hj (by rw [ej]; exact hlt)
      have h1 := hpre' j hji
      have := pu j i (by omega) hiu hji
      rw [h1, ej] at this
      omega
  have htop := takeB_no hno
  rw [tA_get ts p hp, tB_get ts p hp, ep, ← tree_forest ts p] at htop
  have hcn := (forest_cn _ _ _ _).1 htop
  have hcu : Cn (Tied us i) us[i].1.toNat us[i].2.toNat := by
    refine hcn.mono ?_
    rintro x y ⟨q, hq, e1, e2⟩
    have hm : (treeTo ts p)[q] ∈ treeTo ts p := List.getElem_mem _
    obtain ⟨r, hr, hrp, er, _⟩ := treeTo_mem ts p (by omega) _ hm
    have hm2 : (treeTo ts p)[q] ∈ tr := by
      have := treeTo_grow p (ts.length - p) hm
      rw [show p + (ts.length - p) = ts.length by omega, ← htr] at this
      exact this
    obtain ⟨j, hj, ej⟩ := List.mem_iff_getElem.1 hm2
    have hji : j < i := by
      apply low j hj
      rw [ej, er]
      have := ps r p hr hp hrp
      rw [ep] at this
      omega
    refine ⟨j, hji, ?_, ?_⟩
    · rw [tA_get us j (by omega), hpre' j hji, ej, ← tA_get _ q hq]; exact e1
    · rw [tB_get us j (by omega), hpre' j hji, ej, ← tB_get _ q hq]; exact e2
  have htu := (forest_cn us i _ _).2 hcu
  have := takeB_yes (hall i hiu)
  rw [tA_get us i hiu, tB_get us i hiu] at this
  exact this htu

end Go.Proofs.YtljnjpjnadlmhaaDoor
