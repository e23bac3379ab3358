/- Plain mathematics of tree rings: the ties that are not in the tree, and the ring of each. No program stands here. -/
import Derived.Test.YtiaeffpjcinilaaDoorMathAA
import Derived.Test.YtiaeffpjcinilaaDoorPartMathT
import Derived.Test.YtiaeffpjcinilaaDoorPartMathE
namespace Go.Proofs.YtiaeffpjcinilaaDoor
set_option linter.unusedVariables false

/-- the ties that the tree does not have -/
def restTs (K : Int) (ts : List (Int × Int)) : List (Int × Int) := if okB K ts = true then ts.filter (fun t => !decide (t ∈ treeTs K ts)) else []
theorem restTs_yes {K : Int} {ts : List (Int × Int)} (h : okB K ts = true) : restTs K ts = ts.filter (fun t => !decide (t ∈ treeTs K ts)) := if_pos h
theorem restTs_no {K : Int} {ts : List (Int × Int)} (h : okB K ts = false) : restTs K ts = [] := if_neg (by simp [h])
theorem restTs_ok {K : Int} {ts : List (Int × Int)} (h : okB K ts = true) : okB K (restTs K ts) = true := by
  obtain ⟨k0, k8, hs⟩ := ok_parts h
  rw [restTs_yes h]
  exact ok_of_srt k0 k8 (srt_filter hs _)
theorem restTs_len (K : Int) (ts : List (Int × Int)) : (restTs K ts).length ≤ 64 := by
  cases h : okB K ts
  · rw [restTs_no h]; simp
  · exact ok_short (okB_iff.1 (restTs_ok h))
theorem mem_restTs {K : Int} {ts : List (Int × Int)} (h : okB K ts = true) (t : Int × Int) : t ∈ restTs K ts ↔ t ∈ ts ∧ t ∉ treeTs K ts := by
  rw [restTs_yes h, List.mem_filter]
  simp
theorem tree_mem {K : Int} {ts : List (Int × Int)} (h : okB K ts = true) {t : Int × Int} (ht : t ∈ treeTs K ts) : t ∈ ts := by
  rw [treeTs_yes h] at ht; exact treeTo_mem' ht
/-- the set without the tree -/
theorem rest_bits {K : Int} {ts : List (Int × Int)} (h : okB K ts = true) : BitsOf (strike (setN K ts) (setN K (treeTs K ts))) (restTs K ts) := by
  intro j
  obtain ⟨k0, k8, hs⟩ := ok_parts h
  rw [strike_bit _ _ _ (setN_lt _ _) (setN_lt _ _), Bool.and_eq_true, set_bitsOf h j, Bool.not_eq_true', ← Bool.not_eq_true, set_bitsOf (treeTs_ok h) j]
  constructor
  · rintro ⟨⟨t, ht, rfl⟩, hno⟩
    exact ⟨t, (mem_restTs h t).2 ⟨ht, fun hb => hno ⟨t, hb, rfl⟩⟩, rfl⟩
  · rintro ⟨t, ht, rfl⟩
    obtain ⟨h1, h2⟩ := (mem_restTs h t).1 ht
    refine ⟨⟨t, h1, rfl⟩, ?_⟩
    rintro ⟨s, hs', e⟩
    have : s = t := ix_inj k8 (hs.1 s (tree_mem h hs')) (hs.1 t h1) e
    subst this
    exact h2 hs'
theorem tree_trn {K : Int} {ts : List (Int × Int)} (h : okB K ts = true) : Trn K (treeTs K ts) K.toNat :=
  trn_of (treeTs_ok h) (tree_parts (tree_is h).1).2.2.2.2
theorem tree_top {K : Int} {ts : List (Int × Int)} (h : okB K ts = true) {k : Nat} (hk : k < K.toNat) : topN (treeTs K ts) k = topN ts k := (tree_parts (tree_is h).1).2.2.1 k hk
/-- a tie that the tree does not have -/
structure Rst (K : Int) (ts : List (Int × Int)) (t : Int × Int) (x y : Nat) : Prop where
  lt : x < y
  kn : y < K.toNat
  eq : t = ((x : Int), (y : Int))
  top : topN (treeTs K ts) y = topN (treeTs K ts) x
  way : Wy (treeTs K ts) y x (findB K (treeTs K ts) (y : Int) (x : Int))
  same : findB 8 (treeTs K ts) (y : Int) (x : Int) = findB K (treeTs K ts) (y : Int) (x : Int)
theorem rst_of {K : Int} {ts : List (Int × Int)} (h : okB K ts = true) {t : Int × Int} (ht : t ∈ ts) : ∃ x y : Nat, Rst K ts t x y := by
  obtain ⟨k0, k8, hs⟩ := ok_parts h
  obtain ⟨x, y, hxy, hy8, e, _, hh⟩ := tie_form h ht
  have hyK : y < K.toNat := by have := (hs.1 t ht).2.2; rw [e] at this; simp at this; omega
  have htop : topN (treeTs K ts) y = topN (treeTs K ts) x := by
    rw [tree_top h hyK, tree_top h (by omega)]
    exact (tie_top h (by rw [hasB_ok h] at hh; exact hh)).symm
  have T := tree_trn h
  exact ⟨x, y, hxy, hyK, e, htop, T.find hyK (by omega) htop (by omega), T.find8 hyK (by omega) htop (by omega)⟩
/-- the rings -/
def ringsB (K : Int) (ts : List (Int × Int)) : List (List Nat) := (restTs K ts).map fun t => findB K (treeTs K ts) t.2 t.1
theorem ringsB_len (K : Int) (ts : List (Int × Int)) : (ringsB K ts).length = (restTs K ts).length := by simp [ringsB]
theorem ringsB_no {K : Int} {ts : List (Int × Int)} (h : okB K ts = false) : ringsB K ts = [] := by unfold ringsB; rw [restTs_no h]; rfl
theorem ringsB_mem {K : Int} {ts : List (Int × Int)} {q : List Nat} (hq : q ∈ ringsB K ts) : 0 < q.length ∧ q.length ≤ 8 := by
  cases h : okB K ts
  · rw [ringsB_no h] at hq; cases hq
  · obtain ⟨t, ht, rfl⟩ := List.mem_map.1 hq
    obtain ⟨x, y, R⟩ := rst_of h ((mem_restTs h t).1 ht).1
    have e := R.eq
    have W := R.way
    subst e
    exact ⟨W.pos, W.le⟩
theorem ringsB_take {K : Int} {ts : List (Int × Int)} {i : Nat} (hi : i < (restTs K ts).length) : (ringsB K ts).take (i + 1) = (ringsB K ts).take i ++ [findB K (treeTs K ts) (tB (restTs K ts) i) (tA (restTs K ts) i)] := by
  have hl : i < (ringsB K ts).length := by rw [ringsB_len]; exact hi
  rw [List.take_add_one, List.getElem?_eq_getElem hl]
  congr 1
  simp [ringsB, tA, tB, hi]

end Go.Proofs.YtiaeffpjcinilaaDoor
