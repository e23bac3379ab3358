/- Plain mathematics of bridges: with one cut the others are still such. No program stands here. -/
import Derived.Test.YtiaeffpjcinilaaDoorPartMathE
namespace Go.Proofs.YtiaeffpjcinilaaDoor
set_option linter.unusedVariables false

/-- a tie more in a net: what hangs together then -/
theorem cn_more {G : Nat → Nat → Prop} {p q : Nat} {E : Nat → Nat → Prop} (hE : ∀ a b, E a b → G a b ∨ G b a ∨ (a = p ∧ b = q) ∨ (a = q ∧ b = p)) {x : Nat} : ∀ {k : Nat}, Cn E x k → Cn G x k ∨ (Cn G x p ∧ Cn G q k) ∨ (Cn G x q ∧ Cn G p k) := by
  intro k hc
  have one : ∀ a b, Cn G x a ∨ (Cn G x p ∧ Cn G q a) ∨ (Cn G x q ∧ Cn G p a) → (G a b ∨ G b a ∨ (a = p ∧ b = q) ∨ (a = q ∧ b = p)) → Cn G x b ∨ (Cn G x p ∧ Cn G q b) ∨ (Cn G x q ∧ Cn G p b) := by
    intro a b ih hs
    rcases hs with h | h | ⟨rfl, rfl⟩ | ⟨rfl, rfl⟩
    · rcases ih with i | i | i
      · exact Or.inl (i.fwd h)
      · exact Or.inr (Or.inl ⟨i.1, i.2.fwd h⟩)
      · exact Or.inr (Or.inr ⟨i.1, i.2.fwd h⟩)
    · rcases ih with i | i | i
      · exact Or.inl (i.bwd h)
      · exact Or.inr (Or.inl ⟨i.1, i.2.bwd h⟩)
      · exact Or.inr (Or.inr ⟨i.1, i.2.bwd h⟩)
    · rcases ih with i | i | i
      · exact Or.inr (Or.inl ⟨i, Cn.refl _⟩)
      · exact Or.inr (Or.inl ⟨i.1, Cn.refl _⟩)
      · exact Or.inl i.1
    · rcases ih with i | i | i
      · exact Or.inr (Or.inr ⟨i, Cn.refl _⟩)
      · exact Or.inl i.1
      · exact Or.inr (Or.inr ⟨i.1, Cn.refl _⟩)
  induction hc with
  | refl => exact Or.inl (Cn.refl _)
  | fwd _ e ih => exact one _ _ ih (hE _ _ e)
  | bwd _ e ih =>
    refine one _ _ ih ?_
    rcases hE _ _ e with h | h | ⟨rfl, rfl⟩ | ⟨rfl, rfl⟩
    · exact Or.inr (Or.inl h)
    · exact Or.inl h
    · exact Or.inr (Or.inr (Or.inr ⟨rfl, rfl⟩))
    · exact Or.inr (Or.inr (Or.inl ⟨rfl, rfl⟩))
/-- with a bridge cut no other tie that was none becomes one -/
theorem nb_stays {E : Nat → Nat → Prop} (G : Gr E) {p q x y : Nat} (hb : ¬ Nb E p q) (hne : ¬ (x = p ∧ y = q) ∧ ¬ (x = q ∧ y = p)) (he : E x y) (hn : Nb E x y) : Nb (But E p q) x y := by
  have h := cn_more (G := But (But E p q) x y) (p := p) (q := q) (E := But E x y) (fun a b hab => by
    by_cases e1 : a = p ∧ b = q
    · exact Or.inr (Or.inr (Or.inl e1))
    · by_cases e2 : a = q ∧ b = p
      · exact Or.inr (Or.inr (Or.inr e2))
      · exact Or.inl ⟨⟨hab.1, e1, e2⟩, hab.2⟩) hn
  have sub : ∀ a b, But (But E p q) x y a b → But E p q a b := fun a b r => r.1
  have hxy : But E p q x y := ⟨he, hne.1, hne.2⟩
  rcases h with h | h | h
  · exact h
  · exact absurd (((Cn.mono sub h.1).symm.fwd hxy).trans (Cn.mono sub h.2).symm) hb
  · exact absurd ((Cn.mono sub h.2).trans ((((Cn.mono sub h.1).symm.fwd hxy)).symm)) hb
/-- the ties of a net with one cut -/
theorem EE_cut {K : Int} {ts : List (Int × Int)} {p q : Nat} (hh : hasB K ts (p : Int) (q : Int) = true) (x y : Nat) : EE (cutTs K ts p q) x y ↔ But (EE ts) p q x y := by
  have e := cutTs_yes (show cutB K ts (p : Int) (q : Int) = true from hh)
  show tieNB (cutTs K ts p q) x y = true ↔ tieNB ts x y = true ∧ ¬ (x = p ∧ y = q) ∧ ¬ (x = q ∧ y = p)
  rw [tieNB_mem, tieNB_mem, e, List.mem_filter]
  have : other (tieOf (p : Int) (q : Int)) (tieOf (x : Int) (y : Int)) = true ↔ ¬ (x = p ∧ y = q) ∧ ¬ (x = q ∧ y = p) := by
    unfold other
    rw [decide_eq_true_eq, ne_eq, tieOf_nat]
    constructor
    · intro h; exact ⟨fun r => h (Or.inl r), fun r => h (Or.inr r)⟩
    · rintro ⟨h1, h2⟩ (r | r)
      · exact h1 r
      · exact h2 r
  rw [this]
/-- with a bridge cut just the others are bridges -/
theorem br_cut {K : Int} {ts : List (Int × Int)} (hok : okB K ts = true) {t : Int × Int} (ht : t ∈ brTs K ts) (s : Int × Int) : s ∈ brTs K (cutTs K ts t.1 t.2) ↔ s ∈ brTs K ts ∧ s ≠ t := by
  obtain ⟨h1, h2⟩ := (mem_brTs hok t).1 ht
  obtain ⟨p, q, hpq, _, rfl, eo, hh⟩ := tie_form hok h1
  have hC := cutOut (show cutB K ts (p : Int) (q : Int) = true from hh)
  have hnb := (bridge_nb hh).1 h2
  have e := cutTs_yes (show cutB K ts (p : Int) (q : Int) = true from hh)
  have mem : ∀ s, s ∈ cutTs K ts (p : Int) (q : Int) ↔ s ∈ ts ∧ s ≠ ((p : Int), (q : Int)) := fun s => by
    rw [e, List.mem_filter]; simp only at eo; rw [eo]; unfold other; rw [decide_eq_true_eq]
  show s ∈ brTs K (cutTs K ts (p : Int) (q : Int)) ↔ _
  rw [mem_brTs hC.ok, mem_brTs hok, mem]
  constructor
  · rintro ⟨⟨a1, a2⟩, a3⟩
    refine ⟨⟨a1, ?_⟩, a2⟩
    obtain ⟨x, y, hxy, _, rfl, es, hs⟩ := tie_form hok a1
    have hs' : hasB K (cutTs K ts (p : Int) (q : Int)) (x : Int) (y : Int) = true := by rw [hasB_mem hC.ok]; simp only at es; rw [es]; exact (mem _).2 ⟨a1, a2⟩
    have hno := (bridge_nb hs').1 a3
    rw [bridge_nb hs]
    intro hn
    apply hno
    have hne : ¬ (x = p ∧ y = q) ∧ ¬ (x = q ∧ y = p) := ⟨fun r => a2 (by rw [r.1, r.2]), fun r => by omega⟩
    have hexy : EE ts x y := (tieNB_mem ts x y).2 (by simp only at es; rw [es]; exact a1)
    have := nb_stays (EE.gr (okB_iff.1 hok)) hnb hne hexy hn
    exact nb_mono (fun a b r => (EE_cut hh a b).2 r) this
  · rintro ⟨⟨a1, a3⟩, a2⟩
    refine ⟨⟨a1, a2⟩, ?_⟩
    obtain ⟨x, y, hxy, _, rfl, es, hs⟩ := tie_form hok a1
    have hs' : hasB K (cutTs K ts (p : Int) (q : Int)) (x : Int) (y : Int) = true := by rw [hasB_mem hC.ok]; simp only at es; rw [es]; exact (mem _).2 ⟨a1, a2⟩
    rw [bridge_nb hs']
    exact fun hn => (bridge_nb hs).1 a3 (nb_mono (fun a b r => ((EE_cut hh a b).1 r).1) hn)
theorem br_cut_row {K : Int} {ts : List (Int × Int)} (hok : okB K ts = true) {k : Nat} (hk : k < (brTs K ts).length) :
    brTs K (cutTs K ts (tA (brTs K ts) k) (tB (brTs K ts) k)) = (brTs K ts).take k ++ (brTs K ts).drop (k + 1) := by
  obtain ⟨k0, k8, hs⟩ := ok_parts (brTs_ok hok)
  have hm := mem_at hk
  have h1 := ((mem_brTs hok _).1 hm).1
  obtain ⟨p, q, hpq, _, et, eo, hh⟩ := tie_form hok h1
  simp only [Prod.mk.injEq] at et
  have hC : okB K (cutTs K ts (tA (brTs K ts) k) (tB (brTs K ts) k)) = true := by rw [et.1, et.2]; exact (cutOut (show cutB K ts (p : Int) (q : Int) = true from hh)).ok
  obtain ⟨_, _, hs2⟩ := ok_parts (brTs_ok hC)
  have hsub : ((brTs K ts).take k ++ (brTs K ts).drop (k + 1)).Sublist (brTs K ts) := by
    have := (List.Sublist.refl ((brTs K ts).take k)).append (List.drop_sublist 1 ((brTs K ts).drop k))
    rw [List.drop_drop, List.take_append_drop] at this
    exact this
  have hp := List.pairwise_iff_getElem.1 hs.2
  refine srt_ext k8 _ _ hs2 ⟨fun t ht => hs.1 t (hsub.subset ht), hs.2.sublist hsub⟩ (fun s => ?_)
  rw [br_cut hok hm s]
  have hsplit : brTs K ts = (brTs K ts).take k ++ (tA (brTs K ts) k, tB (brTs K ts) k) :: (brTs K ts).drop (k + 1) := by
    have h3 : (brTs K ts).drop k = (brTs K ts)[k] :: (brTs K ts).drop (k + 1) := List.drop_eq_getElem_cons hk
    rw [tA_get _ _ hk, tB_get _ _ hk]
    show brTs K ts = (brTs K ts).take k ++ (brTs K ts)[k] :: (brTs K ts).drop (k + 1)
    rw [← h3, List.take_append_drop]
  obtain ⟨tt, htt⟩ : ∃ tt, tt = (tA (brTs K ts) k, tB (brTs K ts) k) := ⟨_, rfl⟩
  have hpw := hs.2
  rw [hsplit, ← htt] at hpw
  rw [← htt] at hsplit ⊢
  rw [List.pairwise_append, List.pairwise_cons] at hpw
  constructor
  · rintro ⟨h1, h2⟩
    rw [hsplit] at h1
    rcases List.mem_append.1 h1 with h | h
    · exact List.mem_append_left _ h
    · rcases List.mem_cons.1 h with h | h
      · exact absurd h h2
      · exact List.mem_append_right _ h
  · intro h
    refine ⟨hsub.subset h, fun e => ?_⟩
    subst e
    rcases List.mem_append.1 h with h | h
    · have := hpw.2.2 _ h _ List.mem_cons_self; omega
    · have := hpw.2.1.1 _ h; omega

end Go.Proofs.YtiaeffpjcinilaaDoor
