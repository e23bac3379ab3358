/- Pairs without one are pairs; with one twice they are none. -/
import Derived.Test.YtljnjpjnadlmhaaMathPA
namespace Go.Proofs.Ytljnjpjnadlmhaa
set_option linter.unusedVariables false

theorem srt_sub {K : Int} {us vs : List (Int × Int)} (h : Srt K us) (hs : vs.Sublist us) : Srt K vs := ⟨fun t ht => h.1 t (hs.subset ht), h.2.sublist hs⟩
theorem srt_ties {K : Int} {us : List (Int × Int)} (hK : K ≤ 8) (h : Srt K us) : ∀ i, i < us.length → TieOk 8 (tA us i) (tB us i) := fun i hi => by
  have := h.1 us[i] (List.getElem_mem hi)
  rw [tA_get us i hi, tB_get us i hi]
  exact ⟨this.1, this.2.1, by have := this.2.2; omega⟩
theorem pair_iff {K : Int} {ts us : List (Int × Int)} : pairB K ts us = true ↔ okB K ts = true ∧ (0 ≤ K ∧ K ≤ 8 ∧ Srt K us) ∧ (∀ t, t ∈ us → t ∈ ts) ∧ us.Pairwise freeOf := by
  unfold pairB
  simp only [Bool.and_eq_true]
  rw [sub_iff, okB_iff (K := K) (ts := us), ok_srt]
  constructor
  · rintro ⟨⟨⟨h1, h2⟩, h3⟩, h4⟩
    exact ⟨h1, h2, h3, (lone_pw (srt_ties h2.2.1 h2.2.2)).1 h4⟩
  · rintro ⟨h1, h2, h3, h4⟩
    exact ⟨⟨⟨h1, h2⟩, h3⟩, (lone_pw (srt_ties h2.2.1 h2.2.2)).2 h4⟩
theorem pair_sub {K : Int} {ts us : List (Int × Int)} (h : pairB K ts us = true) (k : Nat) : pairB K ts (us.take k ++ us.drop (k + 1)) = true := by
  obtain ⟨h1, ⟨h2, h3, h4⟩, h5, h6⟩ := pair_iff.1 h
  have hs : (us.take k ++ us.drop (k + 1)).Sublist us := by
    have h5 : (us.drop (k + 1)).Sublist (us.drop k) := by
      rw [← List.drop_drop]; exact List.drop_sublist _ _
    have := (List.Sublist.refl (us.take k)).append h5
    rwa [List.take_append_drop] at this
  exact pair_iff.2 ⟨h1, ⟨h2, h3, srt_sub h4 hs⟩, fun t ht => h5 t (hs.subset ht), h6.sublist hs⟩
theorem pair_twice {K : Int} {ts us : List (Int × Int)} {k : Nat} (hk : k < us.length) : pairB K ts (us ++ [(tA us k, tB us k)]) = false := by
  rw [← Bool.not_eq_true]
  intro hf
  obtain ⟨_, ⟨_, _, h4⟩, _, _⟩ := pair_iff.1 hf
  have hp := (List.pairwise_append.1 h4.2).2.2 us[k] (List.getElem_mem hk) (tA us k, tB us k) (by simp)
  rw [tA_get us k hk, tB_get us k hk] at hp
  exact Nat.lt_irrefl _ hp
theorem pair_short {K : Int} {ts us : List (Int × Int)} (h : pairB K ts us = true) : us.length ≤ 64 := by
  obtain ⟨_, h2, _, _⟩ := pair_iff.1 h
  exact ok_short (ok_srt.2 h2)

end Go.Proofs.Ytljnjpjnadlmhaa
