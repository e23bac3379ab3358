/- Texts put together: MathT, MathTk. -/
import Derived.Test.YtljnjpjnadlmhaaPartWForest
import Derived.Test.YtljnjpjnadlmhaaPartWSpecOk
import Derived.Test.YtljnjpjnadlmhaaPartWCount
/- Plain mathematics of trees: which ties are taken. No program stands here. -/
namespace Go.Proofs.Ytljnjpjnadlmhaa
set_option linter.unusedVariables false

theorem join_id {f : Nat → Nat} (hl : Low f) {a b : Nat} (h : top f a = top f b) : join f a b = f := by
  funext k
  unfold join
  by_cases e : k = max (top f a) (top f b)
  · rw [if_pos e]
    have : k = top f a := by omega
    rw [this, top_is hl]; omega
  · rw [if_neg e]
/-- whether the i-th tie joins two parts of those ahead -/
def takeB (ts : List (Int × Int)) (i : Nat) : Bool := joinB (forest ts i) (tA ts i).toNat (tB ts i).toNat
/-- those of the first m ties that are taken -/
def treeTo (ts : List (Int × Int)) : Nat → List (Int × Int)
  | 0 => []
  | m + 1 => if takeB ts m = true then treeTo ts m ++ [(tA ts m, tB ts m)] else treeTo ts m
theorem treeTo_yes {ts : List (Int × Int)} {m : Nat} (h : takeB ts m = true) : treeTo ts (m + 1) = treeTo ts m ++ [(tA ts m, tB ts m)] := by simp [treeTo, h]
theorem treeTo_no {ts : List (Int × Int)} {m : Nat} (h : takeB ts m = false) : treeTo ts (m + 1) = treeTo ts m := by simp [treeTo, h]
theorem treeTo_len (ts : List (Int × Int)) : ∀ m, (treeTo ts m).length ≤ m := by
  intro m
  induction m with
  | zero => simp [treeTo]
  | succ m ih =>
    cases h : takeB ts m
    · rw [treeTo_no h]; omega
    · rw [treeTo_yes h]; simp; omega
theorem treeTo_mem (ts : List (Int × Int)) : ∀ m, m ≤ ts.length → ∀ t, t ∈ treeTo ts m → ∃ i, ∃ h : i < ts.length, i < m ∧ t = ts[i] ∧ takeB ts i = true := by
  intro m
  induction m with
  | zero => intro _ t ht; simp [treeTo] at ht
  | succ m ih =>
    intro hm t ht
    cases h : takeB ts m
    · rw [treeTo_no h] at ht
      obtain ⟨i, h1, h2, h3⟩ := ih (by omega) t ht
      exact ⟨i, h1, by omega, h3⟩
    · rw [treeTo_yes h, List.mem_append, List.mem_singleton] at ht
      rcases ht with ht | ht
      · obtain ⟨i, h1, h2, h3⟩ := ih (by omega) t ht
        exact ⟨i, h1, by omega, h3⟩
      · exact ⟨m, by omega, by omega, by rw [ht, tA_get ts m (by omega), tB_get ts m (by omega)], h⟩
theorem treeTo_srt {K : Int} {ts : List (Int × Int)} (hK : K ≤ 8) (hs : Srt K ts) : ∀ m, m ≤ ts.length → Srt K (treeTo ts m) := by
  intro m
  induction m with
  | zero => intro _; exact ⟨fun t ht => by simp [treeTo] at ht, by simp [treeTo]⟩
  | succ m ih =>
    intro hm
    obtain ⟨h1, h2⟩ := ih (by omega)
    cases h : takeB ts m
    · rw [treeTo_no h]; exact ⟨h1, h2⟩
    · rw [treeTo_yes h]
      have hmem : (tA ts m, tB ts m) = ts[m]'(by omega) := by rw [tA_get ts m (by omega), tB_get ts m (by omega)]
      refine ⟨fun t ht => ?_, ?_⟩
      · rw [List.mem_append, List.mem_singleton] at ht
        rcases ht with ht | ht
        · exact h1 t ht
        · rw [ht, hmem]; exact hs.1 _ (List.getElem_mem _)
      · rw [List.pairwise_append]
        refine ⟨h2, List.pairwise_singleton _ _, fun x hx y hy => ?_⟩
        rw [List.mem_singleton] at hy
        obtain ⟨i, hi1, hi2, rfl, _⟩ := treeTo_mem ts m (by omega) x hx
        rw [hy, hmem]
        exact List.pairwise_iff_getElem.1 hs.2 i m hi1 (by omega) hi2
theorem tA_app (us : List (Int × Int)) (t : Int × Int) : tA (us ++ [t]) us.length = t.1 ∧ tB (us ++ [t]) us.length = t.2 := by
  simp [tA, tB]
theorem tA_pre (us : List (Int × Int)) (t : Int × Int) {i : Nat} (h : i < us.length) : tA (us ++ [t]) i = tA us i ∧ tB (us ++ [t]) i = tB us i := by
  simp [tA, tB, List.getElem?_append_left h]
theorem forest_pre {ts us : List (Int × Int)} : ∀ m, (∀ i, i < m → tA ts i = tA us i ∧ tB ts i = tB us i) → forest ts m = forest us m := by
  intro m
  induction m with
  | zero => intro _; rfl
  | succ m ih =>
    intro h
    show join (forest ts m) _ _ = join (forest us m) _ _
    rw [ih (fun i hi => h i (by omega)), (h m (by omega)).1, (h m (by omega)).2]
theorem forest_app (us : List (Int × Int)) (t : Int × Int) : forest (us ++ [t]) (us ++ [t]).length = join (forest us us.length) t.1.toNat t.2.toNat := by
  have hl : (us ++ [t]).length = us.length + 1 := by simp
  rw [hl]
  show join (forest (us ++ [t]) us.length) _ _ = _
  rw [forest_pre us.length (fun i hi => tA_pre us t hi), (tA_app us t).1, (tA_app us t).2]
/-- the parts by those taken are the parts by all -/
theorem tree_forest (ts : List (Int × Int)) : ∀ m, forest (treeTo ts m) (treeTo ts m).length = forest ts m := by
  intro m
  induction m with
  | zero => rfl
  | succ m ih =>
    show _ = join (forest ts m) (tA ts m).toNat (tB ts m).toNat
    cases h : takeB ts m
    · rw [treeTo_no h, ih]
      have : top (forest ts m) (tA ts m).toNat = top (forest ts m) (tB ts m).toNat := by
        apply Decidable.byContradiction
        intro hne
        have : takeB ts m = true := decide_eq_true hne
        rw [this] at h; exact Bool.noConfusion h
      exact (join_id (forest_low ts m) this).symm
    · rw [treeTo_yes h, forest_app, ih]
def treeTs (K : Int) (ts : List (Int × Int)) : List (Int × Int) := if okB K ts = true then treeTo ts ts.length else []
theorem treeTs_yes {K : Int} {ts : List (Int × Int)} (h : okB K ts = true) : treeTs K ts = treeTo ts ts.length := if_pos h
theorem treeTs_no {K : Int} {ts : List (Int × Int)} (h : okB K ts = false) : treeTs K ts = [] := by simp [treeTs, h]
theorem treeTs_len (K : Int) (ts : List (Int × Int)) : (treeTs K ts).length ≤ 64 := by
  cases h : okB K ts
  · rw [treeTs_no h]; simp
  · rw [treeTs_yes h]
    have := ok_short (okB_iff.1 h)
    have := treeTo_len ts ts.length
    omega
theorem treeTo_ok {K : Int} {ts : List (Int × Int)} (h : okB K ts = true) {m : Nat} (hm : m ≤ ts.length) : okB K (treeTo ts m) = true := by
  obtain ⟨k0, k8, hs⟩ := ok_parts h
  exact okB_iff.2 (ok_srt.2 ⟨k0, k8, treeTo_srt k8 hs m hm⟩)
theorem treeTs_ok {K : Int} {ts : List (Int × Int)} (h : okB K ts = true) : okB K (treeTs K ts) = true := by rw [treeTs_yes h]; exact treeTo_ok h (Nat.le_refl _)
theorem bits_app {m : Nat} {ts : List (Int × Int)} (h : BitsOf m ts) (t : Int × Int) : BitsOf (m ||| 2 ^ ix t) (ts ++ [t]) := by
  intro j
  rw [Nat.testBit_or, Bool.or_eq_true, h j, Nat.testBit_two_pow, decide_eq_true_eq]
  constructor
  · rintro (⟨x, hx, e⟩ | e)
    · exact ⟨x, List.mem_append_left _ hx, e⟩
    · exact ⟨t, by simp, e⟩
  · rintro ⟨x, hx, e⟩
    rcases List.mem_append.1 hx with hx' | hx'
    · exact Or.inl ⟨x, hx', e⟩
    · rw [List.mem_singleton] at hx'; subst hx'; exact Or.inr e
theorem pbit_ix {K : Int} (hK : K ≤ 8) {a b : Int} (h : TieOk K a b) : pbit a b = 2 ^ ix (a, b) := by
  obtain ⟨h1, h2, h3⟩ := h
  have e1 : min a b = a := by omega
  have e2 : max a b = b := by omega
  rw [pbit_yes (by omega) (by omega) (by omega), e1, e2]; rfl
/-- the taken ties as bits -/
def treeM (ts : List (Int × Int)) (m : Nat) : Nat := maskN (treeTo ts m) (treeTo ts m).length
theorem mask_pre {ts us : List (Int × Int)} : ∀ m, (∀ i, i < m → tA ts i = tA us i ∧ tB ts i = tB us i) → maskN ts m = maskN us m := by
  intro m
  induction m with
  | zero => intro _; rfl
  | succ m ih =>
    intro h
    show maskN ts m ||| _ = maskN us m ||| _
    rw [ih (fun i hi => h i (by omega)), (h m (by omega)).1, (h m (by omega)).2]
theorem treeM_yes {K : Int} (hK : K ≤ 8) {ts : List (Int × Int)} {m : Nat} (h : takeB ts m = true) (ht : TieOk K (tA ts m) (tB ts m)) : treeM ts (m + 1) = treeM ts m ||| pbit (tA ts m) (tB ts m) := by
  unfold treeM
  rw [treeTo_yes h]
  have hl : (treeTo ts m ++ [(tA ts m, tB ts m)]).length = (treeTo ts m).length + 1 := by simp
  rw [hl]
  show maskN _ _ ||| pb _ _ = _
  rw [mask_pre _ (fun i hi => tA_pre (treeTo ts m) (tA ts m, tB ts m) hi), (tA_app (treeTo ts m) (tA ts m, tB ts m)).1, (tA_app (treeTo ts m) (tA ts m, tB ts m)).2, pbit_ix hK ht]
  rfl
theorem treeM_no {ts : List (Int × Int)} {m : Nat} (h : takeB ts m = false) : treeM ts (m + 1) = treeM ts m := by unfold treeM; rw [treeTo_no h]
theorem treeM_set {K : Int} {ts : List (Int × Int)} (h : okB K ts = true) {m : Nat} (hm : m ≤ ts.length) : treeM ts m = setN K (treeTo ts m) := by
  rw [setN_yes (treeTo_ok h hm)]; rfl
theorem treeM_lt {K : Int} {ts : List (Int × Int)} (h : okB K ts = true) {m : Nat} (hm : m ≤ ts.length) : treeM ts m < 2 ^ 64 := by
  rw [treeM_set h hm]; exact setN_lt _ _

end Go.Proofs.Ytljnjpjnadlmhaa

/- Plain mathematics of trees: which ties are a tree of a net. No program stands here. -/
namespace Go.Proofs.Ytljnjpjnadlmhaa
set_option linter.unusedVariables false

theorem cntF_id : ∀ n, cntF (fun k => k) n = n := by
  intro n
  induction n with
  | zero => rfl
  | succ n ih => simp only [cntF]; rw [ih, if_pos (top_fix rfl)]
theorem takeB_no {ts : List (Int × Int)} {m : Nat} (h : takeB ts m = false) : top (forest ts m) (tA ts m).toNat = top (forest ts m) (tB ts m).toNat := by
  apply Decidable.byContradiction
  intro hne
  have : takeB ts m = true := decide_eq_true hne
  rw [this] at h; exact Bool.noConfusion h
theorem takeB_yes {ts : List (Int × Int)} {m : Nat} (h : takeB ts m = true) : top (forest ts m) (tA ts m).toNat ≠ top (forest ts m) (tB ts m).toNat := of_decide_eq_true h
/-- a part less a tie that is taken -/
theorem tree_cnt {K : Int} {us : List (Int × Int)} (h : NetOk K us) : ∀ m, m ≤ us.length → cntF (forest us m) K.toNat + (treeTo us m).length = K.toNat := by
  intro m
  induction m with
  | zero => intro _; show cntF (fun k => k) K.toNat + 0 = K.toNat; rw [cntF_id]; omega
  | succ m ih =>
    intro hm
    have h1 := ih (by omega)
    obtain ⟨q1, q2, q3⟩ := (h.2.2 m (by omega)).1
    show cntF (join (forest us m) (tA us m).toNat (tB us m).toNat) K.toNat + _ = _
    cases e : takeB us m
    · rw [treeTo_no e, join_same (forest_low us m) (takeB_no e)]; exact h1
    · rw [treeTo_yes e]
      have := join_less (forest_low us m) (takeB_yes e) (n := K.toNat) (by omega) (by omega)
      simp only [List.length_append, List.length_singleton]
      omega
theorem treeTo_all {us : List (Int × Int)} : ∀ m, m ≤ us.length → (∀ i, i < m → takeB us i = true) → treeTo us m = us.take m := by
  intro m
  induction m with
  | zero => intro _ _; simp [treeTo]
  | succ m ih =>
    intro hm h
    rw [treeTo_yes (h m (by omega)), ih (by omega) (fun i hi => h i (by omega)), List.take_add_one]
    have : us[m]? = some us[m] := List.getElem?_eq_getElem (by omega)
    rw [this, tA_get us m (by omega), tB_get us m (by omega)]
    rfl
theorem treeTo_full {us : List (Int × Int)} : ∀ m, (treeTo us m).length = m → ∀ i, i < m → takeB us i = true := by
  intro m
  induction m with
  | zero => intro _ i hi; omega
  | succ m ih =>
    intro h i hi
    have hl := treeTo_len us m
    cases e : takeB us m
    · rw [treeTo_no e] at h; omega
    · rw [treeTo_yes e] at h
      simp only [List.length_append, List.length_singleton] at h
      by_cases him : i = m
      · subst him; exact e
      · exact ih (by omega) i (by omega)
theorem treeM_all {K : Int} {us : List (Int × Int)} (h : okB K us = true) : treeM us us.length = setN K us ↔ ∀ i, i < us.length → takeB us i = true := by
  obtain ⟨k0, k8, hs⟩ := ok_parts h
  constructor
  · intro he i hi
    have hb : (treeM us us.length).testBit (ix us[i]) = true := by
      rw [he, setN_yes h]
      exact (mask_bitsOf us _).2 ⟨us[i], List.getElem_mem _, rfl⟩
    obtain ⟨t, ht, e⟩ := (mask_bitsOf (treeTo us us.length) _).1 hb
    obtain ⟨j, hj, _, rfl, hjt⟩ := treeTo_mem us us.length (Nat.le_refl _) t ht
    have hij : j = i := by
      apply Decidable.byContradiction
      intro hne
      have hp := List.pairwise_iff_getElem.1 hs.2
      rcases Nat.lt_or_gt_of_ne hne with h1 | h1
      · have := hp j i hj hi h1; omega
      · have := hp i j hi hj h1; omega
    subst hij
    exact hjt
  · intro ha
    have := treeTo_all us.length (Nat.le_refl _) ha
    rw [List.take_length] at this
    unfold treeM
    rw [this, setN_yes h]
theorem sub_tied {us ts : List (Int × Int)} (hsub : ∀ t, t ∈ us → t ∈ ts) (x y : Nat) (h : Tied us us.length x y) : Tied ts ts.length x y := by
  obtain ⟨i, hi, e1, e2⟩ := h
  obtain ⟨j, hj, e⟩ := List.mem_iff_getElem.1 (hsub us[i] (List.getElem_mem _))
  rw [tA_get us i hi] at e1
  rw [tB_get us i hi] at e2
  exact ⟨j, hj, by rw [tA_get ts j hj, e]; exact e1, by rw [tB_get ts j hj, e]; exact e2⟩
theorem cntF_sub {f g : Nat → Nat} : ∀ n, (∀ k, k < n → top g k = k → top f k = k) → cntF g n ≤ cntF f n ∧ (cntF g n = cntF f n → ∀ k, k < n → top f k = k → top g k = k) := by
  intro n
  induction n with
  | zero => intro _; exact ⟨Nat.le_refl _, fun _ k hk => by omega⟩
  | succ n ih =>
    intro h
    obtain ⟨h1, h2⟩ := ih (fun k hk => h k (by omega))
    have hn := h n (by omega)
    simp only [cntF]
    by_cases e1 : top g n = n
    · rw [if_pos e1, if_pos (hn e1)]
      refine ⟨by omega, fun he k hk hf => ?_⟩
      by_cases hkn : k = n
      · subst hkn; exact e1
      · exact h2 (by omega) k (by omega) hf
    · rw [if_neg e1]
      by_cases e2 : top f n = n
      · rw [if_pos e2]; exact ⟨by omega, fun he => by omega⟩
      · rw [if_neg e2]
        refine ⟨by omega, fun he k hk hf => ?_⟩
        by_cases hkn : k = n
        · subst hkn; exact absurd hf e2
        · exact h2 (by omega) k (by omega) hf
/-- fewer ties, as many parts: the same parts -/
theorem parts_same {us ts : List (Int × Int)} (hsub : ∀ t, t ∈ us → t ∈ ts) (n : Nat) : (∀ k, k < n → topN us k = topN ts k) ↔ cnt us n = cnt ts n := by
  rw [cnt_is, cnt_is]
  have hroot : ∀ k, top (forest ts ts.length) k = k → top (forest us us.length) k = k := by
    intro k h
    rw [top_self_iff] at h ⊢
    exact fun j hj hc => h j hj (hc.mono (sub_tied hsub))
  constructor
  · intro h
    exact cntF_congr n (fun k hk => by have := h k hk; unfold topN at this; rw [this])
  · intro h k hk
    have hb := (cntF_sub (f := forest us us.length) (g := forest ts ts.length) n (fun k _ => hroot k)).2 h.symm
    unfold topN
    have hl := forest_low us us.length
    have hr := top_top hl k
    have hrk := top_le hl k
    have h1 := hb (top (forest us us.length) k) (by omega) hr
    have hc : Cn (Tied us us.length) k (top (forest us us.length) k) := (forest_cn us us.length _ _).1 hr.symm
    have := (forest_cn ts ts.length _ _).2 (hc.mono (sub_tied hsub))
    rw [this, h1]
/-- ties of a net that hold all together, and none too many -/
def treeOkB (K : Int) (ts us : List (Int × Int)) : Bool := okB K ts && okB K us && us.all (fun t => tiedB ts t.1 t.2) && decide (cnt us K.toNat = cnt ts K.toNat) && decide (us.length + cnt ts K.toNat = K.toNat)
theorem sub_iff {us ts : List (Int × Int)} : us.all (fun t => tiedB ts t.1 t.2) = true ↔ ∀ t, t ∈ us → t ∈ ts := by
  rw [List.all_eq_true]
  exact ⟨fun h t ht => tied_mem.1 (h t ht), fun h t ht => tied_mem.2 (h t ht)⟩
theorem treeOk_eq {K : Int} {ts us : List (Int × Int)} (hok : okB K ts = true) (hus : okB K us = true) (hsub : ∀ t, t ∈ us → t ∈ ts) :
    (treeM us us.length = setN K us ∧ ∀ k, k < K.toNat → topN us k = topN ts k) ↔ (cnt us K.toNat = cnt ts K.toNat ∧ us.length + cnt ts K.toNat = K.toNat) := by
  rw [treeM_all hus, parts_same hsub]
  have hc := tree_cnt (okB_iff.1 hus) us.length (Nat.le_refl _)
  rw [← cnt_is] at hc
  have hl := treeTo_len us us.length
  constructor
  · rintro ⟨h1, h2⟩
    have := treeTo_all us.length (Nat.le_refl _) h1
    rw [this, List.take_length] at hc
    exact ⟨h2, by omega⟩
  · rintro ⟨h1, h2⟩
    exact ⟨treeTo_full us.length (by omega), h1⟩
theorem treeTo_mem' {ts : List (Int × Int)} {t : Int × Int} (h : t ∈ treeTo ts ts.length) : t ∈ ts := by
  obtain ⟨i, hi, _, rfl, _⟩ := treeTo_mem ts ts.length (Nat.le_refl _) t h
  exact List.getElem_mem _
/-- those that are taken are a tree -/
theorem tree_is {K : Int} {ts : List (Int × Int)} (h : okB K ts = true) : treeOkB K ts (treeTs K ts) = true ∧ (treeTs K ts).length + cnt ts K.toNat = K.toNat := by
  have hc := tree_cnt (okB_iff.1 h) ts.length (Nat.le_refl _)
  rw [← cnt_is] at hc
  have hl : (treeTs K ts).length + cnt ts K.toNat = K.toNat := by rw [treeTs_yes h]; omega
  have hs : (treeTs K ts).all (fun t => tiedB ts t.1 t.2) = true := by
    rw [sub_iff, treeTs_yes h]
    exact fun t ht => treeTo_mem' ht
  have he : cnt (treeTs K ts) K.toNat = cnt ts K.toNat := by
    rw [cnt_is, cnt_is, treeTs_yes h, tree_forest]
  refine ⟨?_, hl⟩
  rw [treeOkB, h, treeTs_ok h, hs, decide_eq_true he, decide_eq_true hl]
  rfl
theorem strike_sub {K : Int} {ts us : List (Int × Int)} (hok : okB K ts = true) (hus : okB K us = true) : strike (setN K us) (setN K ts) = 0 ↔ ∀ t, t ∈ us → t ∈ ts := by
  obtain ⟨k0, k8, hs⟩ := ok_parts hok
  obtain ⟨_, _, hs'⟩ := ok_parts hus
  have b1 : BitsOf (setN K us) us := by rw [setN_yes hus]; exact mask_bitsOf us
  have b2 : BitsOf (setN K ts) ts := by rw [setN_yes hok]; exact mask_bitsOf ts
  constructor
  · intro h t ht
    have hb : (strike (setN K us) (setN K ts)).testBit (ix t) = false := by rw [h]; simp
    rw [strike_bit _ _ _ (setN_lt _ _) (setN_lt _ _), (b1 (ix t)).2 ⟨t, ht, rfl⟩, Bool.true_and, Bool.not_eq_false'] at hb
    obtain ⟨x, hx, e⟩ := (b2 (ix t)).1 hb
    have := ix_inj k8 (hs.1 x hx) (hs'.1 t ht) e
    rw [← this]; exact hx
  · intro h
    apply Nat.eq_of_testBit_eq
    intro j
    rw [Nat.zero_testBit, strike_bit _ _ _ (setN_lt _ _) (setN_lt _ _)]
    cases e : (setN K us).testBit j
    · rfl
    · obtain ⟨t, ht, e2⟩ := (b1 j).1 e
      rw [(b2 j).2 ⟨t, h t ht, e2⟩]; rfl

end Go.Proofs.Ytljnjpjnadlmhaa
