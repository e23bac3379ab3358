/- Texts put together: MathFU, MathFV, MathFY. -/
import Derived.Test.YtljnjpjnadlmhaaDoorPartMathFR
import Derived.Test.YtljnjpjnadlmhaaDoorPartMathT
/- Plain mathematics of flows: the fewest ties that part two knots, taken tie by tie. No program stands here. -/
namespace Go.Proofs.YtljnjpjnadlmhaaDoor
set_option linter.unusedVariables false

/-- the ties that are taken, going through a row, out of what is left: each without which there is one way less -/
noncomputable def cutG (a b : Nat) : List (Int × Int) → List (Int × Int) → List (Int × Int)
  | [], _ => []
  | t :: r, left => if flowV (minusT left t) a b < flowV left a b then t :: cutG a b r (minusT left t) else cutG a b r left
/-- what is left behind that -/
noncomputable def leftG (a b : Nat) : List (Int × Int) → List (Int × Int) → List (Int × Int)
  | [], left => left
  | t :: r, left => if flowV (minusT left t) a b < flowV left a b then leftG a b r (minusT left t) else leftG a b r left
def KnT (t : Int × Int) : Prop := 0 ≤ t.1 ∧ t.1 < t.2 ∧ t.2 < 8
theorem leftG_sub (a b : Nat) : ∀ (r left : List (Int × Int)), ∀ t, t ∈ leftG a b r left → t ∈ left := by
  intro r
  induction r with
  | nil => intro left t h; exact h
  | cons s r ih =>
    intro left t h
    unfold leftG at h
    split at h
    · exact (mem_minus.1 (ih _ t h)).1
    · exact ih _ t h
theorem cutG_sub (a b : Nat) : ∀ (r left : List (Int × Int)), ∀ t, t ∈ cutG a b r left → t ∈ r := by
  intro r
  induction r with
  | nil => intro left t h; exact h
  | cons s r ih =>
    intro left t h
    unfold cutG at h
    split at h
    · rcases List.mem_cons.1 h with e | e
      · rw [e]; simp
      · exact List.mem_cons_of_mem _ (ih _ t e)
    · exact List.mem_cons_of_mem _ (ih _ t h)
/-- as many ways less are left as ties were taken -/
theorem leftG_len {a b : Nat} (ha : a < 8) (hab : a ≠ b) : ∀ (r left : List (Int × Int)), (∀ t, t ∈ r → KnT t) → flowV (leftG a b r left) a b + ((cutG a b r left).length : Int) = flowV left a b := by
  intro r
  induction r with
  | nil => intro left _; show flowV left a b + ((0 : Nat) : Int) = _; omega
  | cons s r ih =>
    intro left h
    have hs := h s (by simp)
    unfold KnT at hs
    unfold leftG cutG
    split
    · rename_i q
      have e := ih (minusT left s) (fun t ht => h t (List.mem_cons_of_mem _ ht))
      have l := flowV_less left s (a := a) (b := b) ha hab hs.1 hs.2.1 hs.2.2
      rw [List.length_cons]; omega
    · exact ih left (fun t ht => h t (List.mem_cons_of_mem _ ht))
/-- what was not taken is in what is left; what was taken isn't -/
theorem leftG_mem {a b : Nat} : ∀ (r left : List (Int × Int)) t, t ∈ leftG a b r left ↔ t ∈ left ∧ t ∉ cutG a b r left := by
  intro r
  induction r with
  | nil => intro left t; exact ⟨fun h => ⟨h, by simp [cutG]⟩, fun h => h.1⟩
  | cons s r ih =>
    intro left t
    unfold leftG cutG
    split
    · rw [ih, mem_minus, List.mem_cons, not_or]
      exact ⟨fun h => ⟨h.1.1, h.1.2, h.2⟩, fun h => ⟨⟨h.1, h.2.1⟩, h.2.2⟩⟩
    · exact ih left t
/-- ties that are put back let so many ways more be at most -/
theorem flowV_back {a b : Nat} (ha : a < 8) (hab : a ≠ b) (cs : List (Int × Int)) (hc : ∀ t, t ∈ cs → KnT t) {us vs : List (Int × Int)} (h : ∀ t, t ∈ vs → t ∈ us ∨ t ∈ cs) : flowV vs a b ≤ flowV us a b + (cs.length : Int) := by
  have e1 := flowV_off (ts := vs) (us := cs) (a := a) (b := b) ha hab hc
  have e2 := flowV_up (ts := us) (us := offTs vs cs) (fun t ht => by
    have := (mem_off t).1 ht
    rcases h t this.1 with q | q
    · exact q
    · exact absurd q this.2) (a := a) (b := b) ha hab
  omega
/-- a tie that was passed over is of no fewest ties of what is left -/
theorem leftG_over {a b : Nat} (ha : a < 8) (hab : a ≠ b) : ∀ (r left : List (Int × Int)), (∀ t, t ∈ r → KnT t) → ∀ t, t ∈ r → t ∈ leftG a b r left → flowV (leftG a b r left) a b ≤ flowV (minusT (leftG a b r left) t) a b := by
  intro r
  induction r with
  | nil => intro left _ t ht; cases ht
  | cons s r ih =>
    intro left h t ht hl
    have hr : ∀ t, t ∈ r → KnT t := fun t ht => h t (List.mem_cons_of_mem _ ht)
    have e : leftG a b (s :: r) left = if flowV (minusT left s) a b < flowV left a b then leftG a b r (minusT left s) else leftG a b r left := rfl
    rw [e] at hl ⊢
    by_cases q : flowV (minusT left s) a b < flowV left a b
    · rw [if_pos q] at hl ⊢
      by_cases q2 : t ∈ r
      · exact ih _ hr t q2 hl
      · have : t = s := by rcases List.mem_cons.1 ht with z | z; exact z; exact absurd z q2
        rw [this] at hl
        exact absurd rfl (mem_minus.1 (leftG_sub a b r _ s hl)).2
    · rw [if_neg q] at hl ⊢
      by_cases q2 : t ∈ r
      · exact ih _ hr t q2 hl
      · have hts : t = s := by rcases List.mem_cons.1 ht with z | z; exact z; exact absurd z q2
        subst hts
        have e1 := leftG_len (a := a) (b := b) ha hab r left hr
        have e2 := flowV_back (a := a) (b := b) ha hab (cutG a b r left) (fun u hu => hr u (cutG_sub a b r left u hu)) (us := minusT (leftG a b r left) t) (vs := minusT left t) (fun u hu => by
          have hm := mem_minus.1 hu
          by_cases z : u ∈ cutG a b r left
          · exact Or.inr z
          · exact Or.inl (mem_minus.2 ⟨(leftG_mem r left u).2 ⟨hm.1, z⟩, hm.2⟩))
        omega
/-- where all ties were gone through none is left that could go -/
theorem leftG_none {K : Int} {ts : List (Int × Int)} (hok : okB K ts = true) {a b : Nat} (ha : a < 8) (hb : b < 8) (hab : a ≠ b) : flowV (leftG a b ts ts) a b = 0 := by
  have hk : ∀ t, t ∈ ts → KnT t := fun t ht => by
    have hs : TieOk K t.1 t.2 := (srt_of_good (okB_iff.1 hok).2.1 (okB_iff.1 hok).2.2).1 t ht
    have := (okB_iff.1 hok).2.1
    unfold TieOk at hs
    exact ⟨hs.1, hs.2.1, by omega⟩
  have h0 := flowV_nonneg (leftG a b ts ts) (a := a) (b := b) ha hab
  rcases Int.lt_or_le 0 (flowV (leftG a b ts ts) a b) with hp | hp
  · exfalso
    obtain ⟨L, hL⟩ : ∃ L, L = leftG a b ts ts := ⟨_, rfl⟩
    rw [← hL] at hp
    obtain ⟨_, S, s1, s2, s3⟩ := (flowN_is (tieNB_turn L) (a := a) (b := b) ha hab).2
    have hc : 0 < cutN (tieNB L) S := by rw [← s3]; exact hp
    obtain ⟨x, hx, hx1⟩ := su_pos (n := 8) (f := fun x => su 8 (fun y => if (S x && !S y && tieNB L x y) = true then 1 else 0)) (fun i _ => su_nonneg (fun j _ => by split <;> omega)) hc
    obtain ⟨y, hy, hy1⟩ := su_pos (n := 8) (f := fun y => if (S x && !S y && tieNB L x y) = true then (1 : Int) else 0) (fun i _ => by split <;> omega) hx1
    have hq : (S x && !S y && tieNB L x y) = true := by
      by_cases q : (S x && !S y && tieNB L x y) = true
      · exact q
      · rw [if_neg q] at hy1; omega
    simp only [Bool.and_eq_true, Bool.not_eq_true'] at hq
    obtain ⟨⟨q1, q2⟩, q3⟩ := hq
    have hm := (tieNB_mem L x y).1 q3
    have hmt : tieOf (x : Int) (y : Int) ∈ ts := leftG_sub a b ts ts _ (by rw [← hL]; exact hm)
    have hU : tieNB (minusT L (tieOf (x : Int) (y : Int))) x y = false := by
      cases e : tieNB (minusT L (tieOf (x : Int) (y : Int))) x y with
      | false => rfl
      | true => exact absurd rfl (mem_minus.1 ((tieNB_mem _ x y).1 e)).2
    have hcl : cutN (tieNB (minusT L (tieOf (x : Int) (y : Int)))) S + 1 ≤ cutN (tieNB L) S := cut_less (T := tieNB L) (fun u v => tieNB_up (fun t ht => (mem_minus.1 ht).1) u v) hx hy q1 q2 q3 hU
    have hle := flowN_le (tieNB_turn (minusT L (tieOf (x : Int) (y : Int)))) ha hab (S := S) s1 s2
    have ho := leftG_over (a := a) (b := b) ha hab ts ts hk _ hmt (by rw [← hL]; exact hm)
    rw [← hL] at ho
    have e1 : flowV (minusT L (tieOf (x : Int) (y : Int))) a b = flowN (tieNB (minusT L (tieOf (x : Int) (y : Int)))) a b := rfl
    have e2 : flowV L a b = flowN (tieNB L) a b := rfl
    omega
  · omega
/-- as many ties are taken as ways there are -/
theorem cutG_len {K : Int} {ts : List (Int × Int)} (hok : okB K ts = true) {a b : Nat} (ha : a < 8) (hb : b < 8) (hab : a ≠ b) : ((cutG a b ts ts).length : Int) = flowV ts a b := by
  have hk : ∀ t, t ∈ ts → KnT t := fun t ht => by
    have hs : TieOk K t.1 t.2 := (srt_of_good (okB_iff.1 hok).2.1 (okB_iff.1 hok).2.2).1 t ht
    have := (okB_iff.1 hok).2.1
    unfold TieOk at hs
    exact ⟨hs.1, hs.2.1, by omega⟩
  have e1 := leftG_len (a := a) (b := b) ha hab ts ts hk
  have e2 := leftG_none hok ha hb hab
  omega

theorem leftG_snoc (a b : Nat) (t : Int × Int) : ∀ (r left : List (Int × Int)), leftG a b (r ++ [t]) left = if flowV (minusT (leftG a b r left) t) a b < flowV (leftG a b r left) a b then minusT (leftG a b r left) t else leftG a b r left := by
  intro r
  induction r with
  | nil => intro left; rfl
  | cons s r ih =>
    intro left
    show leftG a b (s :: (r ++ [t])) left = _
    have e : ∀ q, leftG a b (s :: q) left = if flowV (minusT left s) a b < flowV left a b then leftG a b q (minusT left s) else leftG a b q left := fun q => rfl
    rw [e, e r]
    by_cases h : flowV (minusT left s) a b < flowV left a b
    · rw [if_pos h, if_pos h]; exact ih _
    · rw [if_neg h, if_neg h]; exact ih _
theorem cutG_snoc (a b : Nat) (t : Int × Int) : ∀ (r left : List (Int × Int)), cutG a b (r ++ [t]) left = if flowV (minusT (leftG a b r left) t) a b < flowV (leftG a b r left) a b then cutG a b r left ++ [t] else cutG a b r left := by
  intro r
  induction r with
  | nil => intro left; rfl
  | cons s r ih =>
    intro left
    show cutG a b (s :: (r ++ [t])) left = _
    have e : ∀ q, cutG a b (s :: q) left = if flowV (minusT left s) a b < flowV left a b then s :: cutG a b q (minusT left s) else cutG a b q left := fun q => rfl
    have e2 : ∀ q, leftG a b (s :: q) left = if flowV (minusT left s) a b < flowV left a b then leftG a b q (minusT left s) else leftG a b q left := fun q => rfl
    rw [e, e r, e2 r]
    by_cases h : flowV (minusT left s) a b < flowV left a b
    · rw [if_pos h, if_pos h, if_pos h, ih]
      split <;> rfl
    · rw [if_neg h, if_neg h, if_neg h]; exact ih _
theorem leftG_ok {K : Int} {ts : List (Int × Int)} {a b : Nat} : ∀ (r left : List (Int × Int)), okB K left = true → okB K (leftG a b r left) = true := by
  intro r
  induction r with
  | nil => intro left h; exact h
  | cons s r ih =>
    intro left h
    unfold leftG
    split
    · exact ih _ (minus_ok h s)
    · exact ih _ h

end Go.Proofs.YtljnjpjnadlmhaaDoor

/- Plain mathematics of flows: the fewest ties that part two knots, as the program goes: the set of what is left, tie by tie, and the set of what was taken. No program stands here. -/
namespace Go.Proofs.YtljnjpjnadlmhaaDoor
set_option linter.unusedVariables false

/-- a tie struck out of the set -/
theorem minus_bits {K : Int} {ts : List (Int × Int)} (h : okB K ts = true) (t : Int × Int) (ht : t.1 < t.2) : strike (setN K ts) (pbit t.1 t.2) = setN K (minusT ts t) := by
  apply Nat.eq_of_testBit_eq
  intro j
  obtain ⟨k0, k8, hs⟩ := ok_parts h
  have e := bits_strike k8 hs.1 (setN_lt K ts) (set_bitsOf h) t.1 t.2 j
  have g : ts.filter (other (tieOf t.1 t.2)) = minusT ts t := by
    have q : tieOf t.1 t.2 = t := by
      unfold tieOf
      rw [Int.min_def, Int.max_def, if_pos (by omega), if_pos (by omega)]
    rw [q]; rfl
  rw [g] at e
  rw [Bool.eq_iff_iff, e, set_bitsOf (minus_ok h t) j]
theorem cutG_list (a b : Nat) : ∀ (r left : List (Int × Int)), List.Sublist (cutG a b r left) r := by
  intro r
  induction r with
  | nil => intro left; exact List.Sublist.refl _
  | cons s r ih =>
    intro left
    unfold cutG
    split
    · exact (ih _).cons_cons s
    · exact (ih _).cons s
theorem cutG_ok {K : Int} {ts : List (Int × Int)} (h : okB K ts = true) (a b : Nat) (left : List (Int × Int)) : okB K (cutG a b ts left) = true := by
  obtain ⟨k0, k8, hs⟩ := ok_parts h
  have hl := cutG_list a b ts left
  exact ok_of_srt k0 k8 ⟨fun t ht => hs.1 t (hl.subset ht), hs.2.sublist hl⟩
/-- what isn't left is what was taken -/
theorem cutG_off {K : Int} {ts : List (Int × Int)} (h : okB K ts = true) (a b : Nat) : offTs ts (leftG a b ts ts) = cutG a b ts ts := by
  obtain ⟨k0, k8, hs⟩ := ok_parts h
  refine srt_ext k8 _ _ (ok_parts (off_ok h _)).2.2 (ok_parts (cutG_ok h a b ts)).2.2 (fun t => ?_)
  rw [mem_off, leftG_mem]
  constructor
  · rintro ⟨h1, h2⟩
    by_cases q : t ∈ cutG a b ts ts
    · exact q
    · exact absurd ⟨h1, q⟩ h2
  · intro q
    exact ⟨cutG_sub a b ts ts t q, fun z => z.2 q⟩
theorem cutG_bits {K : Int} {ts : List (Int × Int)} (h : okB K ts = true) (a b : Nat) : strike (setN K ts) (setN K (leftG a b ts ts)) = setN K (cutG a b ts ts) := by
  rw [off_bits h (leftG_ok (ts := ts) ts ts h), cutG_off h]
/-- the row that is left behind the first ties -/
noncomputable def leftI (ts : List (Int × Int)) (a b i : Nat) : List (Int × Int) := leftG a b (ts.take i) ts
theorem leftI_zero (ts : List (Int × Int)) (a b : Nat) : leftI ts a b 0 = ts := rfl
theorem leftI_all (ts : List (Int × Int)) (a b : Nat) : leftI ts a b ts.length = leftG a b ts ts := by unfold leftI; rw [List.take_length]
theorem leftI_ok {K : Int} {ts : List (Int × Int)} (h : okB K ts = true) (a b i : Nat) : okB K (leftI ts a b i) = true := leftG_ok (ts := ts) _ _ h
theorem leftI_succ {ts : List (Int × Int)} {a b i : Nat} (hi : i < ts.length) : leftI ts a b (i + 1) = if flowV (minusT (leftI ts a b i) ts[i]) a b < flowV (leftI ts a b i) a b then minusT (leftI ts a b i) ts[i] else leftI ts a b i := by
  unfold leftI
  rw [List.take_succ_eq_append_getElem hi, leftG_snoc]
/-- a tie that is taken: one way less -/
theorem leftI_one {K : Int} {ts : List (Int × Int)} (hok : okB K ts = true) {a b i : Nat} (ha : a < 8) (hab : a ≠ b) (hi : i < ts.length) (h : flowV (minusT (leftI ts a b i) ts[i]) a b < flowV (leftI ts a b i) a b) : flowV (leftI ts a b i) a b - 1 = flowV (minusT (leftI ts a b i) ts[i]) a b := by
  have hs : TieOk K ts[i].1 ts[i].2 := (srt_of_good (okB_iff.1 hok).2.1 (okB_iff.1 hok).2.2).1 _ (List.getElem_mem hi)
  have k8 := (okB_iff.1 hok).2.1
  unfold TieOk at hs
  have l := flowV_less (leftI ts a b i) ts[i] (a := a) (b := b) ha hab hs.1 hs.2.1 (by omega)
  omega

end Go.Proofs.YtljnjpjnadlmhaaDoor

/- Plain mathematics of flows: the fewest ties part both, none of them can be left out, and no other fewest ones stand ahead. No program stands here. -/
namespace Go.Proofs.YtljnjpjnadlmhaaDoor
set_option linter.unusedVariables false

theorem kn_all {K : Int} {ts : List (Int × Int)} (hok : okB K ts = true) : ∀ t, t ∈ ts → KnT t := fun t ht => by
  have hs := (ok_parts hok).2.2.1 t ht
  have := (ok_parts hok).2.1
  unfold TieOk at hs
  exact ⟨hs.1, hs.2.1, by omega⟩
theorem off_cut {K : Int} {ts : List (Int × Int)} (h : okB K ts = true) (a b : Nat) : offTs ts (cutG a b ts ts) = leftG a b ts ts := by
  refine srt_ext (ok_parts h).2.1 _ _ (ok_parts (off_ok h _)).2.2 (ok_parts (leftG_ok (ts := ts) ts ts h)).2.2 (fun t => ?_)
  rw [mem_off, leftG_mem]
/-- the fewest ties part both -/
theorem cutG_parts {K : Int} {ts : List (Int × Int)} {a b : Nat} (h : twoB K ts (a : Int) (b : Int) = true) (ha : a < 8) (hb : b < 8) (hab : a ≠ b) : partsB K ts (a : Int) (b : Int) (cutG a b ts ts) = true := by
  have hok := (knot_nat' h).1
  rw [partsB_yes h (cutG_ok hok a b ts) (fun t ht => cutG_sub a b ts ts t ht)]
  show (!reachB (offTs ts (cutG a b ts ts)) a b) = true
  rw [off_cut hok, Bool.not_eq_true']
  exact (flowV_zero (leftG_ok (ts := ts) ts ts hok) ha hb hab).1 (leftG_none hok ha hb hab)
/-- fewer ties don't part both -/
theorem parts_few {K : Int} {ts us : List (Int × Int)} {a b : Nat} (ha : a < 8) (hb : b < 8) (h : (us.length : Int) < flowV ts a b) : partsB K ts (a : Int) (b : Int) us = false := by
  cases e : partsB K ts (a : Int) (b : Int) us with
  | false => rfl
  | true => have := parts_le ha hb e; omega
/-- with one of the fewest ties cut one way less is left -/
theorem flow_cut_tie {K : Int} {ts : List (Int × Int)} (hok : okB K ts = true) {a b : Nat} (ha : a < 8) (hb : b < 8) (hab : a ≠ b) {t : Int × Int} (ht : t ∈ cutG a b ts ts) : flowV (minusT ts t) a b = flowV ts a b - 1 := by
  have hm := cutG_sub a b ts ts t ht
  have hk := kn_all hok t hm
  unfold KnT at hk
  have h1 := flowV_less ts t (a := a) (b := b) ha hab hk.1 hk.2.1 hk.2.2
  have hl := cutG_len hok ha hb hab
  have hz := leftG_none hok ha hb hab
  obtain ⟨c, hc⟩ : ∃ c, c = cutG a b ts ts := ⟨_, rfl⟩
  rw [← hc] at ht hl
  have hsub : ∀ u, u ∈ c → KnT u := fun u hu => kn_all hok u (by rw [hc] at hu; exact cutG_sub a b ts ts u hu)
  have h2 := flowV_back (a := a) (b := b) ha hab (c.erase t) (fun u hu => hsub u (List.mem_of_mem_erase hu)) (us := leftG a b ts ts) (vs := minusT ts t) (fun u hu => by
    have hq := mem_minus.1 hu
    by_cases z : u ∈ c
    · exact Or.inr ((List.mem_erase_of_ne hq.2).2 z)
    · exact Or.inl ((leftG_mem ts ts u).2 ⟨hq.1, by rw [← hc]; exact z⟩))
  have h3 : (c.erase t).length = c.length - 1 := List.length_erase_of_mem ht
  have h4 : 0 < c.length := List.length_pos_of_mem ht
  omega
/-- no other row of so few ties that parts both stands ahead -/
theorem cutG_first {a b : Nat} (ha : a < 8) (hab : a ≠ b) : ∀ (r left us : List (Int × Int)), (∀ t, t ∈ r → KnT t) → r.Pairwise (fun s t => lessT s t = true) → us.Pairwise (fun s t => lessT s t = true) → (∀ t, t ∈ us → t ∈ r) → flowV (offTs left us) a b ≤ 0 → (us.length : Int) ≤ flowV left a b → NoLess us (cutG a b r left) := by
  intro r
  induction r with
  | nil =>
    intro left us _ _ _ hs _ _ i hi
    cases us with
    | nil => simp at hi
    | cons u us => exact absurd (hs u (by simp)) (by simp)
  | cons s r ih =>
    intro left us hk hr hu hs hz hl
    rw [List.pairwise_cons] at hr
    have hk' : ∀ t, t ∈ r → KnT t := fun t ht => hk t (List.mem_cons_of_mem _ ht)
    have e : cutG a b (s :: r) left = if flowV (minusT left s) a b < flowV left a b then s :: cutG a b r (minusT left s) else cutG a b r left := rfl
    rw [e]
    cases us with
    | nil => intro i hi; simp at hi
    | cons u us =>
      rw [List.pairwise_cons] at hu
      have hks := hk s (by simp)
      unfold KnT at hks
      have hlen : (((u :: us).length : Nat) : Int) = (us.length : Int) + 1 := by simp
      rw [hlen] at hl
      have hus : u = s → ∀ t, t ∈ us → t ∈ r := fun q t ht => by
        rcases List.mem_cons.1 (hs t (List.mem_cons_of_mem _ ht)) with z | z
        · have := hu.1 t ht
          rw [q, z] at this
          unfold lessT at this
          rw [lessB_iff] at this; omega
        · exact z
      have hoff : u = s → ∀ t, t ∈ offTs (minusT left s) us ↔ t ∈ offTs left (u :: us) := fun q t => by
        rw [mem_off, mem_off, mem_minus, List.mem_cons, not_or, q]
        exact ⟨fun h => ⟨h.1.1, h.1.2, h.2⟩, fun h => ⟨⟨h.1, h.2.1⟩, h.2.2⟩⟩
      by_cases g : flowV (minusT left s) a b < flowV left a b
      · rw [if_pos g]
        have h1 := flowV_less left s (a := a) (b := b) ha hab hks.1 hks.2.1 hks.2.2
        by_cases q : u = s
        · have hz' : flowV (offTs (minusT left s) us) a b ≤ 0 := Int.le_trans (flowV_up (fun t ht => (hoff q t).1 ht) ha hab) hz
          have hn := ih (minusT left s) us hk' hr.2 hu.2 (hus q) hz' (by omega)
          subst q
          intro i hi hi2 hp hne
          cases i with
          | zero => exact absurd ⟨rfl, rfl⟩ hne
          | succ i =>
            exact hn i (by simpa using hi) (by simpa using hi2) (fun j hj => by have := hp (j + 1) (by omega); simpa [tA, tB] using this) (by simpa [tA, tB] using hne)
        · have hur : u ∈ r := by
            rcases List.mem_cons.1 (hs u (by simp)) with z | z
            · exact absurd z q
            · exact z
          have hlt := hr.1 u hur
          intro i hi hi2 hp hne
          cases i with
          | zero =>
            show lessB u.1 u.2 s.1 s.2 = false
            unfold lessT at hlt
            rw [lessB_iff] at hlt
            rw [← Bool.not_eq_true, lessB_iff]; omega
          | succ i =>
            have h0 := hp 0 (by omega)
            have h0' : u.1 = s.1 ∧ u.2 = s.2 := by simpa [tA, tB] using h0
            exact absurd (Prod.ext h0'.1 h0'.2) q
      · rw [if_neg g]
        have hq : u ≠ s := fun q => by
          have h3 := flowV_off (ts := minusT left s) (us := us) (a := a) (b := b) ha hab (fun t ht => hk t (hs t (List.mem_cons_of_mem _ ht)))
          have h4 : flowV (offTs (minusT left s) us) a b ≤ 0 := Int.le_trans (flowV_up (fun t ht => (hoff q t).1 ht) ha hab) hz
          omega
        have hsr : ∀ t, t ∈ u :: us → t ∈ r := fun t ht => by
          rcases List.mem_cons.1 (hs t ht) with z | z
          · exfalso
            subst z
            rcases List.mem_cons.1 ht with y | y
            · exact hq y.symm
            · have hlt := hu.1 t y
              have hur : u ∈ r := by
                rcases List.mem_cons.1 (hs u (by simp)) with z | z
                · exact absurd z hq
                · exact z
              have hlt2 := hr.1 u hur
              unfold lessT at hlt hlt2
              rw [lessB_iff] at hlt hlt2; omega
          · exact z
        exact ih left (u :: us) hk' hr.2 (List.pairwise_cons.2 hu) hsr hz (by rw [hlen]; exact hl)
theorem srt_less {K : Int} (hK : K ≤ 8) {ts : List (Int × Int)} (h : Srt K ts) : ts.Pairwise (fun s t => lessT s t = true) := by
  refine List.Pairwise.imp_of_mem ?_ h.2
  intro s t hs ht hlt
  have h1 := h.1 s hs
  have h2 := h.1 t ht
  unfold TieOk at h1 h2
  unfold lessT
  rw [lessB_iff]
  unfold ix idx at hlt
  omega
/-- no ties that part both, and are as few, stand ahead of the fewest that are told -/
theorem cut_first {K : Int} {ts us : List (Int × Int)} {a b : Nat} (ha : a < 8) (hb : b < 8) (hp : partsB K ts (a : Int) (b : Int) us = true) (hl : us.length = (cutG a b ts ts).length) : NoLess us (cutG a b ts ts) := by
  have hp' := hp
  unfold partsB at hp'
  simp only [Bool.and_eq_true, Bool.not_eq_true'] at hp'
  obtain ⟨⟨⟨h1, h2⟩, h3⟩, h4⟩ := hp'
  obtain ⟨hok, hab⟩ := knot_nat' h1
  have hsub : ∀ t, t ∈ us → t ∈ ts := fun t ht => by
    have := List.all_eq_true.1 h3 t ht
    simpa using this
  have hz : flowV (offTs ts us) a b = 0 := (flowV_zero (off_ok hok us) ha hb hab).2 h4
  have hc := cutG_len hok ha hb hab
  exact cutG_first ha hab ts ts us (kn_all hok) (srt_less (ok_parts hok).2.1 (ok_parts hok).2.2) (srt_less (ok_parts h2).2.1 (ok_parts h2).2.2) hsub (by omega) (by omega)

end Go.Proofs.YtljnjpjnadlmhaaDoor
