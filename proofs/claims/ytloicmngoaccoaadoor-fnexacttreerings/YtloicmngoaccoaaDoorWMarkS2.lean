/- Rows of rows of numbers, marked and held as a whole. -/
import Derived.Test.YtloicmngoaccoaaDoorWMarkS
import Derived.Test.YtloicmngoaccoaaDoorWAllS
namespace Go.Proofs.YtloicmngoaccoaaDoor
open Go.RowKit
set_option linter.unusedVariables false

/-- rows in blocks of their own, behind a row of them -/
structure Mk (W : World) (lo hi G : Nat) (gs cs : Nat → Nat) (ps : List (List Nat)) (f : Nat → Nat → Value) : Prop where
  G0 : lo ≤ G
  G1 : G < hi
  out : OwnI W G ps.length (rowV ps gs cs)
  row : ∀ i, i < ps.length → lo ≤ gs i ∧ gs i < hi ∧ gs i ≠ G ∧ OwnI W (gs i) (wayAt ps i).length (f i)
  ne : ∀ i j, i < j → j < ps.length → gs i ≠ gs j
theorem Mk.next {W W' : World} {lo hi G : Nat} {gs cs : Nat → Nat} {ps : List (List Nat)} {f : Nat → Nat → Value} (h : Mk W lo hi G gs cs ps f) (hb : Below W.heap.size W W') : Mk W' lo hi G gs cs ps f :=
  ⟨h.G0, h.G1, h.out.below hb h.out.2.2, fun i hi => ⟨(h.row i hi).1, (h.row i hi).2.1, (h.row i hi).2.2.1, (h.row i hi).2.2.2.below hb (h.row i hi).2.2.2.2.2⟩, h.ne⟩
theorem Mk.turn {W W' : World} {lo hi G l r : Nat} {gs cs : Nat → Nat} {ps : List (List Nat)} {f : Nat → Nat → Value} (h : Mk W lo hi G gs cs ps f) (ht : Turned l r W W') (hr : hi ≤ l ∨ r ≤ lo) : Mk W' lo hi G gs cs ps f :=
  ⟨h.G0, h.G1, h.out.turn ht (by have := h.G0; have := h.G1; omega), fun i hi => ⟨(h.row i hi).1, (h.row i hi).2.1, (h.row i hi).2.2.1, (h.row i hi).2.2.2.turn ht (by have := (h.row i hi).1; have := (h.row i hi).2.1; omega)⟩, h.ne⟩
def Rw2 (W : World) (lo hi : Nat) (ao : Option Addr) (ps : List (List Nat)) (f : Nat → Nat → Value) : Prop :=
  ps = [] ∨ ∃ G gs cs, ao = some ⟨G, 0, none⟩ ∧ Mk W lo hi G gs cs ps f
theorem Rw2.next {W W' : World} {lo hi : Nat} {ao : Option Addr} {ps : List (List Nat)} {f : Nat → Nat → Value} (h : Rw2 W lo hi ao ps f) (hb : Below W.heap.size W W') : Rw2 W' lo hi ao ps f := by
  rcases h with h | ⟨G, gs, cs, h1, h2⟩
  · exact Or.inl h
  · exact Or.inr ⟨G, gs, cs, h1, h2.next hb⟩
theorem Rw2.turn {W W' : World} {lo hi l r : Nat} {ao : Option Addr} {ps : List (List Nat)} {f : Nat → Nat → Value} (h : Rw2 W lo hi ao ps f) (ht : Turned l r W W') (hr : hi ≤ l ∨ r ≤ lo) : Rw2 W' lo hi ao ps f := by
  rcases h with h | ⟨G, gs, cs, h1, h2⟩
  · exact Or.inl h
  · exact Or.inr ⟨G, gs, cs, h1, h2.turn ht hr⟩
def wayF (ps : List (List Nat)) (i : Nat) : Nat → Value := pcellN (pn (wayAt ps i))
theorem Rw2.seen {W : World} {lo hi : Nat} {ao : Option Addr} {ps : List (List Nat)} (h : Rw2 W lo hi ao ps (wayF ps)) (hp : ∀ q, q ∈ ps → 0 < q.length ∧ q.length ≤ 8) : AllV W ao ps := ⟨fun i hi => by
  rcases h with h | ⟨G, gs, cs, h1, h2⟩
  · rw [h] at hi; simp at hi
  have hm : ps.getD i [] ∈ ps := by simp [hi]
  have hc : wayAt ps i = ps.getD i [] := clip_is (hp _ hm).1 (hp _ hm).2
  have hr := (h2.row i hi).2.2.2
  unfold wayF at hr
  rw [hc] at hr
  refine ⟨G, 0, gs i, cs i, h1, h2.out.2.2, ?_, fun j hj => ⟨gs i, 0, rfl, hr.2.2, by rw [Nat.zero_add]; exact hr.1 j hj⟩⟩
  rw [Nat.zero_add, h2.out.1 i hi]
  unfold rowV
  rw [hc]⟩
theorem AllR.own {W : World} {lo : Nat} {ao : Option Addr} {ps : List (List Nat)} (h : AllR W lo ao ps) (hp : ∀ q, q ∈ ps → 0 < q.length ∧ q.length ≤ 8) : Rw2 W lo W.heap.size ao ps (wayF ps) := by
  rcases h with ⟨h1, _⟩ | ⟨G, gs, cs, h1, h2, h3, h4, h5⟩
  · exact Or.inl h1
  refine Or.inr ⟨G, gs, cs, h1, h2, h3.2.2, h3, fun i hi => ?_, h4.ne⟩
  have hm : ps.getD i [] ∈ ps := by simp [hi]
  have hc : wayAt ps i = ps.getD i [] := clip_is (hp _ hm).1 (hp _ hm).2
  have hr := h4.row i hi
  unfold rowV at hr
  obtain ⟨ow, hlo, hlt⟩ := row_own hr rfl (by rw [hc]; exact (hp _ hm).1)
  exact ⟨hlo, hlt, h5 i hi, ow⟩
theorem Acc.own {W : World} {lo G C : Nat} {ps : List (List Nat)} {gs cs : Nat → Nat} (h : Acc W lo G C ps gs cs) (hp : ∀ q, q ∈ ps → 0 < q.length ∧ q.length ≤ 8) : Rw2 W lo W.heap.size (some ⟨G, 0, none⟩) ps (wayF ps) := by
  refine Or.inr ⟨G, gs, cs, rfl, h.lt.1, h.lt.2, ⟨fun i hi => ?_, fun j => h.out.frozenAt j, h.lt.2⟩, fun i hi => ?_, h.row.ne⟩
  · rw [h.out.cellAt i (by omega)]
    unfold rowVs
    rw [List.getElem?_map, List.getElem?_range hi]; rfl
  · have hm : ps.getD i [] ∈ ps := by simp [hi]
    have hc : wayAt ps i = ps.getD i [] := clip_is (hp _ hm).1 (hp _ hm).2
    have hr := h.row.row i hi
    unfold rowV at hr
    obtain ⟨ow, hlo, hlt⟩ := row_own hr rfl (by rw [hc]; exact (hp _ hm).1)
    refine ⟨hlo, hlt, fun e => ?_, ow⟩
    obtain ⟨_, _, h1, _⟩ := row_type (g := gs i) (c := cs i) hr rfl
    obtain ⟨_, _, h2, _⟩ := row_type (g := G) (c := C) h.out rfl
    rw [e, h2] at h1; simp at h1
/-- the number at which the i-th row's marks begin -/
def stK (ps : List (List Nat)) : Nat → Nat
  | 0 => 1
  | i + 1 => stK ps i + (wayAt ps i).length
def markF (ps : List (List Nat)) (i : Nat) : Nat → Value := kmark (stK ps i)
theorem stK_le (ps : List (List Nat)) (h : ∀ i, i < ps.length → (wayAt ps i).length ≤ 8) : ∀ i, i ≤ ps.length → stK ps i ≤ 1 + 8 * i
  | 0, _ => by simp [stK]
  | i + 1, hi => by have := stK_le ps h i (by omega); have := h i (by omega); simp only [stK]; omega
set_option maxHeartbeats 800000 in
theorem markIntSS_any (lo hi : Nat) (ao : Option Addr) (cap : Nat) (ps : List (List Nat)) (f : Nat → Nat → Value) (w : World) (h20 : ps.length ≤ 20000000) (h8 : ∀ i, i < ps.length → (wayAt ps i).length ≤ 8) (h : Rw2 w lo hi ao ps f) :
    Calls Tryd.prog 39 #[.slice ao ps.length cap, .int .i64 1] w fun e w' => e = .returned (.int .i64 (stK ps ps.length : Int)) ∧ Rw2 w' lo hi ao ps (markF ps) ∧ Turned lo hi w w' := by
  have HST := hideP (stK_le ps h8)
  have H8 := hideP h8
  rcases h with rfl | ⟨G, gs, cs, rfl, hM⟩
  · clear H8 h8 HST h20
    go_enter Tryd.func39, Tryd.ntmps39
    go_wp2
    go_loopw [1, 5] (fun q i wr => q = .int .i64 1 ∧ i = .int .i64 0 ∧ Turned lo hi w wr) (fun _ i _ => 0)
    case atStart => exact ⟨rfl, rfl, Turned.refl _ _ _⟩
    case round =>
      obtain ⟨rfl, rfl, ht⟩ := hrel
      go_wp2
      go_ret
      exact ⟨rfl, Or.inl rfl, ht⟩
  clear h8
  have HM := hideP hM
  clear hM
  go_enter Tryd.func39, Tryd.ntmps39
  go_wp2
  go_loopw [1, 5] (fun q i wr => ∃ k : Nat, k ≤ ps.length ∧ i = .int .i64 k ∧ q = .int .i64 (stK ps k : Int) ∧ Mk wr lo hi G gs cs ps (fun i => if i < k then markF ps i else f i) ∧ Turned lo hi w wr) (fun _ i _ => ps.length - (intOf i).toNat)
  case atStart => exact ⟨0, Nat.zero_le _, rfl, rfl, ⟨HM.out.G0, HM.out.G1, HM.out.out, fun i hi => by simpa using HM.out.row i hi, HM.out.ne⟩, Turned.refl _ _ _⟩
  case round =>
    clear HM
    obtain ⟨k, hk, rfl, rfl, hM, ht⟩ := hrel
    have HM := hideP hM
    have HT := hideP ht
    clear hM ht
    by_cases hlt : k < ps.length
    · have hcell := HM.out.out.1 k hlt
      unfold rowV at hcell
      obtain ⟨g, hg⟩ : ∃ g, g = gs k := ⟨_, rfl⟩
      obtain ⟨m, hm⟩ : ∃ m, m = (wayAt ps k).length := ⟨_, rfl⟩
      obtain ⟨s, hs⟩ : ∃ s, s = stK ps k := ⟨_, rfl⟩
      have hs8 : s ≤ 400000000 := by rw [hs]; have := HST.out k hk; omega
      have hm8 : m ≤ 8 := by rw [hm]; exact H8.out k hlt
      have hrow := (HM.out.row k hlt).2.2.2
      rw [← hg, ← hm] at hcell hrow
      rw [← hs]
      have HROW := hideP hrow
      have HG := hideP hg
      have HMM := hideP hm
      have HSS := hideP hs
      have hk0 : (0 : Int) ≤ (k : Int) := by omega
      have hk1 : (k : Int) < (ps.length : Int) := by omega
      clear hrow hg hm hs
      go_wp2_with fail
      refine (markIntS_k g m _ s _ _ hm8 hs8 HROW.out).mono ?_
      rintro e w5 ⟨rfl, hO5, ht5⟩
      have M5 : Hid (Mk w5 lo hi G gs cs ps (fun i => if i < k + 1 then markF ps i else f i)) := by
        have hr := HM.out.row k hlt
        refine ⟨HM.out.G0, HM.out.G1, HM.out.out.turn ht5 (by have := hr.2.2.1; rw [← HG.out] at this; omega), fun i hi => ?_, HM.out.ne⟩
        have hi' := HM.out.row i hi
        refine ⟨hi'.1, hi'.2.1, hi'.2.2.1, ?_⟩
        by_cases e : i = k
        · subst e
          rw [if_pos (by omega), ← HG.out, ← HMM.out]
          unfold markF
          rw [← HSS.out]; exact hO5
        · have hne : gs i ≠ g := by
            rw [HG.out]
            rcases Nat.lt_or_gt_of_ne e with h | h
            · exact HM.out.ne i k h hlt
            · exact fun q => HM.out.ne k i h hi q.symm
          have hx := hi'.2.2.2.turn ht5 (by omega)
          by_cases h1 : i < k
          · rw [if_pos (by omega)]; simpa [h1] using hx
          · rw [if_neg (by omega)]; simpa [h1] using hx
      have T5 : Hid (Turned lo hi w w5) := by
        have hr := HM.out.row k hlt
        rw [← HG.out] at hr
        exact ⟨ht5.os.trans HT.out.os, ht5.tape.trans HT.out.tape, ht5.output.trans HT.out.output, Nat.le_trans HT.out.size ht5.size, fun i hi' ho' => (ht5.block i (Nat.lt_of_lt_of_le hi' HT.out.size) (by omega)).trans (HT.out.block i hi' ho')⟩
      have HQ : Hid ((s : Int) + (m : Int) = (stK ps (k + 1) : Int)) := by show _ = _; simp only [stK]; rw [← HSS.out, ← HMM.out]; omega
      clear hO5 ht5 HM HT HROW hcell
      go_wp2
      go_roundw
      case rel => exact ⟨k + 1, by omega, by go_num, by rw [HQ.out], M5.out, T5.out⟩
      case measure => simp [intOf]; omega
    · obtain rfl : k = ps.length := by omega
      have F : Hid (Rw2 wr lo hi (some ⟨G, 0, none⟩) ps (markF ps)) := Or.inr ⟨G, gs, cs, rfl, HM.out.G0, HM.out.G1, HM.out.out, fun i hi => by simpa [hi] using HM.out.row i hi, HM.out.ne⟩
      clear HM
      go_wp2
      go_ret
      exact ⟨rfl, F.out, HT.out⟩

end Go.Proofs.YtloicmngoaccoaaDoor
