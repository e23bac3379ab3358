/- Walks of markTieS, heldTieS, markNet, heldNet; rows that a call owns, wherever they lie. -/
import Derived.Test.YtkbcaffhdaoalaaDoorWLaw
import Derived.Test.YtkbcaffhdaoalaaDoorWAdd
namespace Go.Proofs.YtkbcaffhdaoalaaDoor
open Go.RowKit
set_option linter.unusedVariables false

/-- a slice of n ties, nil where n is 0, or a row of its own in a block from lo to below hi, f j at cell j -/
def OwnN (w : World) (lo hi : Nat) (ao : Option Addr) (n : Nat) (f : Nat → Value) : Prop :=
  (n = 0 ∧ ao = none) ∨ ∃ g, ao = some ⟨g, 0, none⟩ ∧ lo ≤ g ∧ g < hi ∧ OwnT w g n f
theorem OwnN.of_row {w : World} {base n cap : Nat} {ao : Option Addr} {ts : List (Int × Int)} (h : w.ownsRow base 32 2 (.slice ao n cap) n (clist ts n)) : OwnN w base w.heap.size ao n (tcell ts) := by
  rcases h.2 with ⟨e, e0⟩ | ⟨g, cap', cur, e, hg, hh, rest⟩
  · simp only [Value.slice.injEq] at e
    exact Or.inl ⟨e0, e.1⟩
  · simp only [Value.slice.injEq] at e
    obtain ⟨rfl, _, rfl⟩ := e
    have hlt : g < w.heap.size := (Array.getElem?_eq_some_iff.1 hh).1
    exact Or.inr ⟨g, rfl, hg, hlt, fun j hj => by rw [h.cellAt j hj, clist_get ts n j hj], fun j => h.frozenAt j, hlt⟩
theorem OwnN.of_T {w : World} {lo hi g n : Nat} {f : Nat → Value} (h : OwnT w g n f) (h1 : lo ≤ g) (h2 : g < hi) : OwnN w lo hi (some ⟨g, 0, none⟩) n f := Or.inr ⟨g, rfl, h1, h2, h⟩
theorem OwnN.next {w w' : World} {lo hi n : Nat} {ao : Option Addr} {f : Nat → Value} (h : OwnN w lo hi ao n f) (hb : Below w.heap.size w w') : OwnN w' lo hi ao n f := by
  rcases h with h | ⟨g, e, h1, h2, h3⟩
  · exact Or.inl h
  · exact Or.inr ⟨g, e, h1, h2, h3.below hb h3.2.2⟩
theorem OwnT.of_block {w w' : World} {g n : Nat} {f : Nat → Value} (h : OwnT w g n f) (e : w'.heap[g]? = w.heap[g]?) (hs : w.heap.size ≤ w'.heap.size) : OwnT w' g n f :=
  ⟨fun j hj => (World.cell?_of_block (a := ⟨g, j, none⟩) e).trans (h.1 j hj), fun j => (World.frozen?_of_block (a := ⟨g, j, none⟩) e).trans (h.2.1 j), Nat.lt_of_lt_of_le h.2.2 hs⟩
/-- blocks from lo to below hi may have turned, and others came; nothing else -/
structure Turned (lo hi : Nat) (w w' : World) : Prop where
  os : w'.os = w.os
  tape : w'.tape = w.tape
  output : w'.output = w.output
  size : w.heap.size ≤ w'.heap.size
  block : ∀ k, k < w.heap.size → k < lo ∨ hi ≤ k → w'.heap[k]? = w.heap[k]?
theorem Turned.refl (lo hi : Nat) (w : World) : Turned lo hi w w := ⟨rfl, rfl, rfl, Nat.le_refl _, fun _ _ _ => rfl⟩
theorem Turned.of_grown {lo hi r : Nat} {w w' : World} (h : w.grownBy w' (some r)) (h1 : lo ≤ r) (h2 : r < hi) : Turned lo hi w w' := ⟨h.os, h.tape, h.output, h.size, fun k hk ho => h.block k hk (by simp; omega)⟩
theorem Turned.cell {lo hi : Nat} {w w' : World} (h : Turned lo hi w w') {p : Addr} (hp : p.block < w.heap.size) (ho : p.block < lo ∨ hi ≤ p.block) : w'.cell? p = w.cell? p := World.cell?_of_block (h.block p.block hp ho)
theorem OwnN.aside {w w' : World} {lo hi l h n : Nat} {ao : Option Addr} {f : Nat → Value} (ho : OwnN w lo hi ao n f) (ht : Turned l h w w') (hr : hi ≤ l ∨ h ≤ lo) : OwnN w' lo hi ao n f := by
  rcases ho with ho | ⟨g, e, h1, h2, h3⟩
  · exact Or.inl ho
  · exact Or.inr ⟨g, e, h1, h2, h3.of_block (ht.block g h3.2.2 (by omega)) ht.size⟩
theorem OwnN.ties {w : World} {lo hi : Nat} {ao : Option Addr} {ts : List (Int × Int)} (h : OwnN w lo hi ao ts.length (tcell ts)) {B : Nat} (hB : hi ≤ B) : TiesIn w B ao ts := by
  rcases h with ⟨h, _⟩ | ⟨g, rfl, h1, h2, h3⟩
  · intro i hi; omega
  · exact h3.ties (by omega)
def mcell (k0 : Int) (j : Nat) : Value := .int .i64 (k0 + j)
def mfill (k0 : Int) (f : Nat → Value) (k j : Nat) : Value := if j < k * 2 then mcell k0 j else f j
theorem mfill_step (k0 : Int) (f : Nat → Value) (n k j : Nat) (hk : k < n) (hj : j < n * 2) :
    (if j = k * 2 + 1 then Value.int .i64 (k0 + (k * 2 + 1 : Nat)) else if j = k * 2 then .int .i64 (k0 + (k * 2 : Nat)) else mfill k0 f k j) = mfill k0 f (k + 1) j := by
  by_cases h1 : j = k * 2 + 1
  · subst h1; rw [if_pos rfl, mfill, if_pos (by omega)]; rfl
  · rw [if_neg h1]
    by_cases h2 : j = k * 2
    · subst h2; rw [if_pos rfl, mfill, if_pos (by omega)]; rfl
    · rw [if_neg h2]
      unfold mfill
      by_cases h3 : j < k * 2
      · rw [if_pos h3, if_pos (by omega)]
      · rw [if_neg h3, if_neg (by omega)]

theorem grown_refl (w : World) (r : Option Nat) : w.grownBy w r := ⟨rfl, rfl, rfl, Nat.le_refl _, fun _ _ _ => rfl⟩
theorem grown_set {w w1 : World} {r : Nat} (h : w.grownBy w1 (some r)) (j : Nat) (u : Value) : w.grownBy (w1.setCell ⟨r, j, none⟩ u) (some r) :=
  ⟨h.os, h.tape, h.output, by simpa using h.size, fun k hk hne => by
    rw [Below.heap_setCell w1 ⟨r, j, none⟩ u k (by simpa using hne)]; exact h.block k hk hne⟩

set_option maxHeartbeats 800000 in
theorem markRow (g n cap : Nat) (f : Nat → Value) (w : World) (hn : n ≤ 1099511627776) (ho : OwnT w g n f) :
    Calls Tryd.prog 51 #[.slice (some ⟨g, 0, none⟩) n cap, .int .i64 1] w fun e w' => e = .returned (.int .i64 (1 + (n * 2 : Nat))) ∧ OwnT w' g n (mcell 1) ∧ w.grownBy w' (some g) := by
  go_enter Tryd.func51, Tryd.ntmps51
  go_wp2
  go_loopw [1, 5] (fun q i wr => ∃ k : Nat, k ≤ n ∧ i = .int .i64 k ∧ q = .int .i64 (1 + (k * 2 : Nat)) ∧ OwnT wr g n (mfill 1 f k) ∧ w.grownBy wr (some g)) (fun _ i _ => n - (intOf i).toNat)
  case atStart => exact ⟨0, Nat.zero_le _, rfl, rfl, ho.congr (fun j hj => by simp [mfill]), grown_refl _ _⟩
  case round =>
    obtain ⟨k, hk, rfl, rfl, hown, hgr⟩ := hrel
    clear ho
    by_cases hlt : k < n
    · have d0 := hown.1 (k * 2) (by omega)
      have d1 := hown.1 (k * 2 + 1) (by omega)
      have f0 := hown.2.1 (k * 2)
      have f1 := hown.2.1 (k * 2 + 1)
      have e1 : (1 : Int) + ((k * 2 : Nat) : Int) = 1 + (k : Int) * 2 := by omega
      have e2 : (1 : Int) + ((k * 2 + 1 : Nat) : Int) = 1 + (k : Int) * 2 + 1 := by omega
      have HO : OwnT ((wr.setCell ⟨g, k * 2, none⟩ (.int .i64 (1 + (k : Int) * 2))).setCell ⟨g, k * 2 + 1, none⟩ (.int .i64 (1 + (k : Int) * 2 + 1))) g n (mfill 1 f (k + 1)) := by
        rw [← e2, ← e1]
        exact ((hown.set (i := k * 2) (by omega) (.int .i64 (1 + (k * 2 : Nat)))).set (i := k * 2 + 1) (by omega) (.int .i64 (1 + (k * 2 + 1 : Nat)))).congr (fun j hj => mfill_step 1 f n k j hlt hj)
      have HG : w.grownBy ((wr.setCell ⟨g, k * 2, none⟩ (.int .i64 (1 + (k : Int) * 2))).setCell ⟨g, k * 2 + 1, none⟩ (.int .i64 (1 + (k : Int) * 2 + 1))) (some g) := grown_set (grown_set hgr _ _) _ _
      have HO' := hideP HO
      have HG' := hideP HG
      clear HO HG e1 e2
      have hkb : (k : Int) < 1099511627776 := by omega
      clear hown hgr
      go_wp2
      go_roundw
      case rel => exact ⟨k + 1, by omega, by go_num, by go_num, HO'.out, HG'.out⟩
      case measure => simp [intOf]; omega
    · have hkn : k = n := by omega
      subst hkn
      have HO : Hid (OwnT wr g k (mcell 1)) := hown.congr (fun j hj => by simp [mfill, hj])
      clear hown
      go_wp2
      go_ret
      exact ⟨rfl, HO.out, hgr⟩

set_option maxHeartbeats 400000 in
theorem markNil (cap : Nat) (w : World) : Calls Tryd.prog 51 #[.slice none 0 cap, .int .i64 1] w fun e w' => e = .returned (.int .i64 1) ∧ w' = w := by
  go_enter Tryd.func51, Tryd.ntmps51
  go_wp2
  refine wp_loop_rounds 1 ?_
  rw [rounds_succ]
  go_wp2
  go_ret
  exact ⟨rfl, rfl⟩

/-- marks written into a row: behind it the row holds them, and nothing else has turned -/
theorem markTieS_any (lo hi : Nat) (ao : Option Addr) (n cap : Nat) (f : Nat → Value) (w : World) (hn : n ≤ 1099511627776) (ho : OwnN w lo hi ao n f) :
    Calls Tryd.prog 51 #[.slice ao n cap, .int .i64 1] w fun e w' => e = .returned (.int .i64 (1 + (n * 2 : Nat))) ∧ OwnN w' lo hi ao n (mcell 1) ∧ Turned lo hi w w' := by
  rcases ho with ⟨rfl, rfl⟩ | ⟨g, rfl, h1, h2, h3⟩
  · refine (markNil cap w).mono ?_
    rintro e w' ⟨rfl, rfl⟩
    exact ⟨rfl, Or.inl ⟨rfl, rfl⟩, Turned.refl _ _ _⟩
  · refine (markRow g n cap f w hn h3).mono ?_
    rintro e w' ⟨rfl, h4, h5⟩
    exact ⟨rfl, Or.inr ⟨g, rfl, h1, h2, h4⟩, Turned.of_grown h5 h1 h2⟩

set_option maxHeartbeats 800000 in
theorem heldTieS_any (lo hi : Nat) (ao : Option Addr) (n cap : Nat) (w : World) (hn : n ≤ 1099511627776) (ho : OwnN w lo hi ao n (mcell 1)) :
    Calls Tryd.prog 52 #[.slice ao n cap, .int .i64 1] w fun e w' => e = .returned (.int .i64 (1 + (n * 2 : Nat))) ∧ w' = w := by
  go_enter Tryd.func52, Tryd.ntmps52
  go_wp2
  go_loop [1, 5] (fun q i => ∃ k : Nat, k ≤ n ∧ i = .int .i64 k ∧ q = .int .i64 (1 + (k * 2 : Nat))) (fun _ i => n - (intOf i).toNat)
  case atStart => exact ⟨0, Nat.zero_le _, rfl, rfl⟩
  case round =>
    obtain ⟨k, hk, rfl, rfl⟩ := hrel
    by_cases hlt : k < n
    · rcases ho with ⟨h0, _⟩ | ⟨g, rfl, h1, h2, h3⟩
      · omega
      have d0 := h3.1 (k * 2) (by omega)
      have d1 := h3.1 (k * 2 + 1) (by omega)
      unfold mcell at d0 d1
      rw [show (1 : Int) + ((k * 2 : Nat) : Int) = 1 + (k : Int) * 2 by omega] at d0
      rw [show (1 : Int) + ((k * 2 + 1 : Nat) : Int) = 1 + (k : Int) * 2 + 1 by omega] at d1
      have hkb : (k : Int) < 1099511627776 := by omega
      clear h3
      go_wp2
      go_round
      case rel => exact ⟨k + 1, by omega, by go_num, by go_num⟩
      case measure => simp [intOf]; omega
    · have hkn : k = n := by omega
      subst hkn
      go_wp2
      go_ret
      exact ⟨rfl, rfl⟩

set_option maxHeartbeats 400000 in
theorem markNet_any (lo hi : Nat) (K : Int) (ao : Option Addr) (n cap : Nat) (f : Nat → Value) (w : World) (hn : n ≤ 1099511627776) (ho : OwnN w lo hi ao n f) :
    Calls Tryd.prog 29 #[.agg #[.int .i64 K, .slice ao n cap], .int .i64 1] w fun e w' => e = .returned (.int .i64 (1 + (n * 2 : Nat))) ∧ OwnN w' lo hi ao n (mcell 1) ∧ Turned lo hi w w' := by
  have ho1 := fun o => ho.next (below_one w o)
  go_enter Tryd.func29, Tryd.ntmps29
  go_wp2_with fail
  refine (markTieS_any lo hi ao n cap f _ hn (ho1 _)).mono ?_
  rintro e w1 ⟨rfl, ho2, hg⟩
  have hg' : Turned lo hi w w1 := by
    refine ⟨hg.os, hg.tape, hg.output, by have := hg.size; simp at this; omega, fun k hk hne => ?_⟩
    rw [hg.block k (by simp; omega) hne]; exact Below.heap_alloc _ _ _ hk
  clear hg
  go_wp2
  go_ret
  exact ⟨rfl, ho2, hg'⟩

set_option maxHeartbeats 400000 in
theorem heldNet_any (lo hi : Nat) (K : Int) (ao : Option Addr) (n cap : Nat) (w : World) (hn : n ≤ 1099511627776) (ho : OwnN w lo hi ao n (mcell 1)) :
    Calls Tryd.prog 30 #[.agg #[.int .i64 K, .slice ao n cap], .int .i64 1] w fun e w' => e = .returned (.int .i64 (1 + (n * 2 : Nat))) ∧ Below w.heap.size w w' := by
  have ho1 := fun o => ho.next (below_one w o)
  have hp : ¬ ((1 : Int) + ((n * 2 : Nat) : Int) < 0) := by omega
  go_enter Tryd.func30, Tryd.ntmps30
  go_wp2_with fail
  refine (heldTieS_any lo hi ao n cap _ hn (ho1 _)).mono ?_
  rintro e w1 ⟨rfl, rfl⟩
  go_wp2
  go_ret
  exact ⟨rfl, below_one _ _⟩

end Go.Proofs.YtkbcaffhdaoalaaDoor
