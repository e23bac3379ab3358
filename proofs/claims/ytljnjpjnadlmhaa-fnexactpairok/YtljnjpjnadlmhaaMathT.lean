/- Plain mathematics of trees: which ties are taken. No program stands here. -/
import Derived.Test.YtljnjpjnadlmhaaWForest
import Derived.Test.YtljnjpjnadlmhaaWBase
namespace Go.Proofs.Ytljnjpjnadlmhaa
set_option linter.unusedVariables false

theorem join_id {f : Nat → Nat} (hl : Low f) {a b : Nat} (h : top f a = top f b) : join f a b = f := by
  funext k
  unfold join
  by_cases e : k = max (top f a) (top f b)
  · rw [if_pos e]
    have : k = top f a := by omega
    rw [this, top_is hl]; omega
  · rw [if_neg e]
/-- whether the i-th tie joins two parts of those ahead -/
def takeB (ts : List (Int × Int)) (i : Nat) : Bool := joinB (forest ts i) (tA ts i).toNat (tB ts i).toNat
/-- those of the first m ties that are taken -/
def treeTo (ts : List (Int × Int)) : Nat → List (Int × Int)
  | 0 => []
  | m + 1 => if takeB ts m = true then treeTo ts m ++ [(tA ts m, tB ts m)] else treeTo ts m
theorem treeTo_yes {ts : List (Int × Int)} {m : Nat} (h : takeB ts m = true) : treeTo ts (m + 1) = treeTo ts m ++ [(tA ts m, tB ts m)] := by simp [treeTo, h]
theorem treeTo_no {ts : List (Int × Int)} {m : Nat} (h : takeB ts m = false) : treeTo ts (m + 1) = treeTo ts m := by simp [treeTo, h]
theorem treeTo_len (ts : List (Int × Int)) : ∀ m, (treeTo ts m).length ≤ m := by
  intro m
  induction m with
  | zero => simp [treeTo]
  | succ m ih =>
    cases h : takeB ts m
    · rw [treeTo_no h]; omega
    · rw [treeTo_yes h]; simp; omega
theorem treeTo_mem (ts : List (Int × Int)) : ∀ m, m ≤ ts.length → ∀ t, t ∈ treeTo ts m → ∃ i, ∃ h : i < ts.length, i < m ∧ t = ts[i] ∧ takeB ts i = true := by
  intro m
  induction m with
  | zero => intro _ t ht; simp [treeTo] at ht
  | succ m ih =>
    intro hm t ht
    cases h : takeB ts m
    · rw [treeTo_no h] at ht
      obtain ⟨i, h1, h2, h3⟩ := ih (by omega) t ht
      exact ⟨i, h1, by omega, h3⟩
    · rw [treeTo_yes h, List.mem_append, List.mem_singleton] at ht
      rcases ht with ht | ht
      · obtain ⟨i, h1, h2, h3⟩ := ih (by omega) t ht
        exact ⟨i, h1, by omega, h3⟩
      · exact ⟨m, by omega, by omega, by rw [ht, tA_get ts m (by omega), tB_get ts m (by omega)], h⟩
theorem treeTo_srt {K : Int} {ts : List (Int × Int)} (hK : K ≤ 8) (hs : Srt K ts) : ∀ m, m ≤ ts.length → Srt K (treeTo ts m) := by
  intro m
  induction m with
  | zero => intro _; exact ⟨fun t ht => by simp [treeTo] at ht, by simp [treeTo]⟩
  | succ m ih =>
    intro hm
    obtain ⟨h1, h2⟩ := ih (by omega)
    cases h : takeB ts m
    · rw [treeTo_no h]; exact ⟨h1, h2⟩
    · rw [treeTo_yes h]
      have hmem : (tA ts m, tB ts m) = ts[m]'(by omega) := by rw [tA_get ts m (by omega), tB_get ts m (by omega)]
      refine ⟨fun t ht => ?_, ?_⟩
      · rw [List.mem_append, List.mem_singleton] at ht
        rcases ht with ht | ht
        · exact h1 t ht
        · rw [ht, hmem]; exact hs.1 _ (List.getElem_mem _)
      · rw [List.pairwise_append]
        refine ⟨h2, List.pairwise_singleton _ _, fun x hx y hy => ?_⟩
        rw [List.mem_singleton] at hy
        obtain ⟨i, hi1, hi2, rfl, _⟩ := treeTo_mem ts m (by omega) x hx
        rw [hy, hmem]
        exact List.pairwise_iff_getElem.1 hs.2 i m hi1 (by omega) hi2
theorem tA_app (us : List (Int × Int)) (t : Int × Int) : tA (us ++ [t]) us.length = t.1 ∧ tB (us ++ [t]) us.length = t.2 := by
  simp [tA, tB]
theorem tA_pre (us : List (Int × Int)) (t : Int × Int) {i : Nat} (h : i < us.length) : tA (us ++ [t]) i = tA us i ∧ tB (us ++ [t]) i = tB us i := by
  simp [tA, tB, List.getElem?_append_left h]
theorem forest_pre {ts us : List (Int × Int)} : ∀ m, (∀ i, i < m → tA ts i = tA us i ∧ tB ts i = tB us i) → forest ts m = forest us m := by
  intro m
  induction m with
  | zero => intro _; rfl
  | succ m ih =>
    intro h
    show join (forest ts m) _ _ = join (forest us m) _ _
    rw [ih (fun i hi => h i (by omega)), (h m (by omega)).1, (h m (by omega)).2]
theorem forest_app (us : List (Int × Int)) (t : Int × Int) : forest (us ++ [t]) (us ++ [t]).length = join (forest us us.length) t.1.toNat t.2.toNat := by
  have hl : (us ++ [t]).length = us.length + 1 := by simp
  rw [hl]
  show join (forest (us ++ [t]) us.length) _ _ = _
  rw [forest_pre us.length (fun i hi => tA_pre us t hi), (tA_app us t).1, (tA_app us t).2]
/-- the parts by those taken are the parts by all -/
theorem tree_forest (ts : List (Int × Int)) : ∀ m, forest (treeTo ts m) (treeTo ts m).length = forest ts m := by
  intro m
  induction m with
  | zero => rfl
  | succ m ih =>
    show _ = join (forest ts m) (tA ts m).toNat (tB ts m).toNat
    cases h : takeB ts m
    · rw [treeTo_no h, ih]
      have : top (forest ts m) (tA ts m).toNat = top (forest ts m) (tB ts m).toNat := by
        apply Decidable.byContradiction
        intro hne
        have : takeB ts m = true := decide_eq_true hne
        rw [this] at h; exact Bool.noConfusion h
      exact (join_id (forest_low ts m) this).symm
    · rw [treeTo_yes h, forest_app, ih]
def treeTs (K : Int) (ts : List (Int × Int)) : List (Int × Int) := if okB K ts = true then treeTo ts ts.length else []
theorem treeTs_yes {K : Int} {ts : List (Int × Int)} (h : okB K ts = true) : treeTs K ts = treeTo ts ts.length := if_pos h
theorem treeTs_no {K : Int} {ts : List (Int × Int)} (h : okB K ts = false) : treeTs K ts = [] := by simp [treeTs, h]
theorem treeTs_len (K : Int) (ts : List (Int × Int)) : (treeTs K ts).length ≤ 64 := by
  cases h : okB K ts
  · rw [treeTs_no h]; simp
  · rw [treeTs_yes h]
    have := ok_short (okB_iff.1 h)
    have := treeTo_len ts ts.length
    omega
theorem treeTo_ok {K : Int} {ts : List (Int × Int)} (h : okB K ts = true) {m : Nat} (hm : m ≤ ts.length) : okB K (treeTo ts m) = true := by
  obtain ⟨k0, k8, hs⟩ := ok_parts h
  exact okB_iff.2 (ok_srt.2 ⟨k0, k8, treeTo_srt k8 hs m hm⟩)
theorem treeTs_ok {K : Int} {ts : List (Int × Int)} (h : okB K ts = true) : okB K (treeTs K ts) = true := by rw [treeTs_yes h]; exact treeTo_ok h (Nat.le_refl _)
theorem bits_app {m : Nat} {ts : List (Int × Int)} (h : BitsOf m ts) (t : Int × Int) : BitsOf (m ||| 2 ^ ix t) (ts ++ [t]) := by
  intro j
  rw [Nat.testBit_or, Bool.or_eq_true, h j, Nat.testBit_two_pow, decide_eq_true_eq]
  constructor
  · rintro (⟨x, hx, e⟩ | e)
    · exact ⟨x, List.mem_append_left _ hx, e⟩
    · exact ⟨t, by simp, e⟩
  · rintro ⟨x, hx, e⟩
    rcases List.mem_append.1 hx with hx' | hx'
    · exact Or.inl ⟨x, hx', e⟩
    · rw [List.mem_singleton] at hx'; subst hx'; exact Or.inr e
theorem pbit_ix {K : Int} (hK : K ≤ 8) {a b : Int} (h : TieOk K a b) : pbit a b = 2 ^ ix (a, b) := by
  obtain ⟨h1, h2, h3⟩ := h
  have e1 : min a b = a := by omega
  have e2 : max a b = b := by omega
  rw [pbit_yes (by omega) (by omega) (by omega), e1, e2]; rfl
/-- the taken ties as bits -/
def treeM (ts : List (Int × Int)) (m : Nat) : Nat := maskN (treeTo ts m) (treeTo ts m).length
theorem mask_pre {ts us : List (Int × Int)} : ∀ m, (∀ i, i < m → tA ts i = tA us i ∧ tB ts i = tB us i) → maskN ts m = maskN us m := by
  intro m
  induction m with
  | zero => intro _; rfl
  | succ m ih =>
    intro h
    show maskN ts m ||| _ = maskN us m ||| _
    rw [ih (fun i hi => h i (by omega)), (h m (by omega)).1, (h m (by omega)).2]
theorem treeM_yes {K : Int} (hK : K ≤ 8) {ts : List (Int × Int)} {m : Nat} (h : takeB ts m = true) (ht : TieOk K (tA ts m) (tB ts m)) : treeM ts (m + 1) = treeM ts m ||| pbit (tA ts m) (tB ts m) := by
  unfold treeM
  rw [treeTo_yes h]
  have hl : (treeTo ts m ++ [(tA ts m, tB ts m)]).length = (treeTo ts m).length + 1 := by simp
  rw [hl]
  show maskN _ _ ||| pb _ _ = _
  rw [mask_pre _ (fun i hi => tA_pre (treeTo ts m) (tA ts m, tB ts m) hi), (tA_app (treeTo ts m) (tA ts m, tB ts m)).1, (tA_app (treeTo ts m) (tA ts m, tB ts m)).2, pbit_ix hK ht]
  rfl
theorem treeM_no {ts : List (Int × Int)} {m : Nat} (h : takeB ts m = false) : treeM ts (m + 1) = treeM ts m := by unfold treeM; rw [treeTo_no h]
theorem treeM_set {K : Int} {ts : List (Int × Int)} (h : okB K ts = true) {m : Nat} (hm : m ≤ ts.length) : treeM ts m = setN K (treeTo ts m) := by
  rw [setN_yes (treeTo_ok h hm)]; rfl
theorem treeM_lt {K : Int} {ts : List (Int × Int)} (h : okB K ts = true) {m : Nat} (hm : m ≤ ts.length) : treeM ts m < 2 ^ 64 := by
  rw [treeM_set h hm]; exact setN_lt _ _

end Go.Proofs.Ytljnjpjnadlmhaa
