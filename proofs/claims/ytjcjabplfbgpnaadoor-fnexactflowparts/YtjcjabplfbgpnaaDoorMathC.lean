/- Plain mathematics of parts: counted; a tie more. No program stands here. -/
import Derived.Test.YtjcjabplfbgpnaaDoorPartWCount
import Derived.Test.YtjcjabplfbgpnaaDoorMathL
namespace Go.Proofs.YtjcjabplfbgpnaaDoor
set_option linter.unusedVariables false

theorem tied_mem_iff (ts : List (Int × Int)) (x y : Nat) : Tied ts ts.length x y ↔ ∃ t, t ∈ ts ∧ t.1.toNat = x ∧ t.2.toNat = y := by
  constructor
  · rintro ⟨i, hi, e1, e2⟩; exact ⟨(tA ts i, tB ts i), mem_at hi, e1, e2⟩
  · rintro ⟨t, ht, e1, e2⟩
    obtain ⟨i, hi, e⟩ := List.mem_iff_getElem.1 ht
    exact ⟨i, hi, by rw [tA_get ts i hi, e]; exact e1, by rw [tB_get ts i hi, e]; exact e2⟩
/-- a tie more: one part less just if both were in two -/
theorem cnt_add {K : Int} {ts : List (Int × Int)} {a b : Int} (h : addB K ts a b = true) :
    cnt (addTs K ts a b) K.toNat + (if reachB ts a.toNat b.toNat = true then 0 else 1) = cnt ts K.toNat := by
  obtain ⟨hok, a0, a1, b0, b1, hab, hno⟩ := addB_yes h
  have eus := addTs_yes h
  obtain ⟨us', hus'⟩ : ∃ us', us' = ts ++ [tieOf a b] := ⟨_, rfl⟩
  have hlen : us'.length = ts.length + 1 := by rw [hus']; simp
  have hc : cnt (addTs K ts a b) K.toNat = cnt us' K.toNat := by
    rw [cnt_is, cnt_is]
    refine cntF_congr _ (fun k _ => ?_)
    rw [top_self_iff, top_self_iff]
    have hE : ∀ x y, Tied (addTs K ts a b) (addTs K ts a b).length x y ↔ Tied us' us'.length x y := by
      intro x y
      rw [tied_mem_iff, tied_mem_iff]
      have hm : ∀ t, t ∈ addTs K ts a b ↔ t ∈ us' := by
        intro t
        rw [eus, mem_ins, hus', List.mem_append, List.mem_singleton]
        exact ⟨fun h => h.elim Or.inr Or.inl, fun h => h.elim Or.inr Or.inl⟩
      exact ⟨fun ⟨t, h1, h2⟩ => ⟨t, (hm t).1 h1, h2⟩, fun ⟨t, h1, h2⟩ => ⟨t, (hm t).2 h1, h2⟩⟩
    exact ⟨fun h j hj hc => h j hj ((Cn.iff hE j k).2 hc), fun h j hj hc => h j hj ((Cn.iff hE j k).1 hc)⟩
  have hpre : ∀ i, i < ts.length → tA us' i = tA ts i ∧ tB us' i = tB ts i := by
    intro i hi
    have : us'[i]? = ts[i]? := by rw [hus']; exact List.getElem?_append_left hi
    simp only [tA, tB, List.getD_eq_getElem?_getD, this, and_self]
  have hlast : tA us' ts.length = min a b ∧ tB us' ts.length = max a b := by
    have : us'[ts.length]? = some (tieOf a b) := by rw [hus']; simp
    simp only [tA, tB, List.getD_eq_getElem?_getD, this, Option.getD_some, tieOf, and_self]
  have hf : forest us' us'.length = join (forest ts ts.length) (min a b).toNat (max a b).toNat := by
    rw [hlen]
    show join (forest us' ts.length) (tA us' ts.length).toNat (tB us' ts.length).toNat = _
    rw [forest_same ts.length hpre, hlast.1, hlast.2]
  rw [hc, cnt_is, hf, cnt_is]
  have hl := forest_low ts ts.length
  have hr : reachB ts a.toNat b.toNat = decide (top (forest ts ts.length) (min a b).toNat = top (forest ts ts.length) (max a b).toNat) := by
    unfold reachB
    by_cases hm : a ≤ b
    · rw [Int.min_eq_left hm, Int.max_eq_right hm]
      by_cases e : top (forest ts ts.length) b.toNat = top (forest ts ts.length) a.toNat
      · rw [decide_eq_true e, decide_eq_true e.symm]
      · rw [decide_eq_false e, decide_eq_false (fun x => e x.symm)]
    · rw [Int.min_eq_right (by omega), Int.max_eq_left (by omega)]
  by_cases e : top (forest ts ts.length) (min a b).toNat = top (forest ts ts.length) (max a b).toNat
  · rw [hr, decide_eq_true e, if_pos rfl, join_same hl e]; rfl
  · rw [hr, decide_eq_false e, if_neg (by simp)]
    exact join_less hl e (by omega) (by omega)

end Go.Proofs.YtjcjabplfbgpnaaDoor
