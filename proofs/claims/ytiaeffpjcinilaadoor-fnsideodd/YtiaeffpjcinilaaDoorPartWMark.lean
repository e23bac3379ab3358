/- Texts put together: WMark, WMarkB, WCame, WCamp. -/
import Derived.Test.YtiaeffpjcinilaaDoorPartWLeaf
import Derived.Test.YtiaeffpjcinilaaDoorPartWCount
import Derived.BigRegion
import Derived.Deep.RegionHeld3
/- Walks of markTieS, heldTieS, markNet, heldNet. -/
namespace Go.Proofs.YtiaeffpjcinilaaDoor
open Go.RowKit
set_option linter.unusedVariables false

def mcell (k0 : Int) (j : Nat) : Value := .int .i64 (k0 + j)
def mfill (k0 : Int) (f : Nat → Value) (k j : Nat) : Value := if j < k * 2 then mcell k0 j else f j
theorem mfill_step (k0 : Int) (f : Nat → Value) (n k j : Nat) (hk : k < n) (hj : j < n * 2) :
    (if j = k * 2 + 1 then Value.int .i64 (k0 + (k * 2 + 1 : Nat)) else if j = k * 2 then .int .i64 (k0 + (k * 2 : Nat)) else mfill k0 f k j) = mfill k0 f (k + 1) j := by
  by_cases h1 : j = k * 2 + 1
  · subst h1; rw [if_pos rfl, mfill, if_pos (by omega)]; rfl
  · rw [if_neg h1]
    by_cases h2 : j = k * 2
    · subst h2; rw [if_pos rfl, mfill, if_pos (by omega)]; rfl
    · rw [if_neg h2]
      unfold mfill
      by_cases h3 : j < k * 2
      · rw [if_pos h3, if_pos (by omega)]
      · rw [if_neg h3, if_neg (by omega)]
theorem grown_refl (w : World) (r : Option Nat) : w.grownBy w r := ⟨rfl, rfl, rfl, Nat.le_refl _, fun _ _ _ => rfl⟩
theorem grown_set {w w1 : World} {r : Nat} (h : w.grownBy w1 (some r)) (j : Nat) (u : Value) : w.grownBy (w1.setCell ⟨r, j, none⟩ u) (some r) :=
  ⟨h.os, h.tape, h.output, by simpa using h.size, fun k hk hne => by
    rw [Below.heap_setCell w1 ⟨r, j, none⟩ u k (by simpa using hne)]; exact h.block k hk hne⟩
set_option maxHeartbeats 800000 in
theorem markRow (g n cap : Nat) (f : Nat → Value) (w : World) (hn : n ≤ 1099511627776) (ho : OwnT w g n f) :
    Calls Tryd.prog 73 #[.slice (some ⟨g, 0, none⟩) n cap, .int .i64 1] w fun e w' => e = .returned (.int .i64 (1 + (n * 2 : Nat))) ∧ OwnT w' g n (mcell 1) ∧ w.grownBy w' (some g) := by
  go_enter Tryd.func73, Tryd.ntmps73
  go_wp2
  go_loopw [1, 5] (fun q i wr => ∃ k : Nat, k ≤ n ∧ i = .int .i64 k ∧ q = .int .i64 (1 + (k * 2 : Nat)) ∧ OwnT wr g n (mfill 1 f k) ∧ w.grownBy wr (some g)) (fun _ i _ => n - (intOf i).toNat)
  case atStart => exact ⟨0, Nat.zero_le _, rfl, rfl, ho.congr (fun j hj => by simp [mfill]), grown_refl _ _⟩
  case round =>
    obtain ⟨k, hk, rfl, rfl, hown, hgr⟩ := hrel
    clear ho
    by_cases hlt : k < n
    · have d0 := hown.1 (k * 2) (by omega)
      have d1 := hown.1 (k * 2 + 1) (by omega)
      have f0 := hown.2.1 (k * 2)
      have f1 := hown.2.1 (k * 2 + 1)
      have e1 : (1 : Int) + ((k * 2 : Nat) : Int) = 1 + (k : Int) * 2 := by omega
      have e2 : (1 : Int) + ((k * 2 + 1 : Nat) : Int) = 1 + (k : Int) * 2 + 1 := by omega
      have HO : OwnT ((wr.setCell ⟨g, k * 2, none⟩ (.int .i64 (1 + (k : Int) * 2))).setCell ⟨g, k * 2 + 1, none⟩ (.int .i64 (1 + (k : Int) * 2 + 1))) g n (mfill 1 f (k + 1)) := by
        rw [← e2, ← e1]
        exact ((hown.set (i := k * 2) (by omega) (.int .i64 (1 + (k * 2 : Nat)))).set (i := k * 2 + 1) (by omega) (.int .i64 (1 + (k * 2 + 1 : Nat)))).congr (fun j hj => mfill_step 1 f n k j hlt hj)
      have HG : w.grownBy ((wr.setCell ⟨g, k * 2, none⟩ (.int .i64 (1 + (k : Int) * 2))).setCell ⟨g, k * 2 + 1, none⟩ (.int .i64 (1 + (k : Int) * 2 + 1))) (some g) := grown_set (grown_set hgr _ _) _ _
      have HO' := hideP HO
      have HG' := hideP HG
      clear HO HG e1 e2
      have hkb : (k : Int) < 1099511627776 := by omega
      clear hown hgr
      go_wp2
      go_roundw
      case rel => exact ⟨k + 1, by omega, by go_num, by go_num, HO'.out, HG'.out⟩
      case measure => simp [intOf]; omega
    · have hkn : k = n := by omega
      subst hkn
      have HO : Hid (OwnT wr g k (mcell 1)) := hown.congr (fun j hj => by simp [mfill, hj])
      clear hown
      go_wp2
      go_ret
      exact ⟨rfl, HO.out, hgr⟩
set_option maxHeartbeats 400000 in
theorem markNil (cap : Nat) (w : World) : Calls Tryd.prog 73 #[.slice none 0 cap, .int .i64 1] w fun e w' => e = .returned (.int .i64 1) ∧ w' = w := by
  go_enter Tryd.func73, Tryd.ntmps73
  go_wp2
  refine wp_loop_rounds 1 ?_
  rw [rounds_succ]
  go_wp2
  go_ret
  exact ⟨rfl, rfl⟩
/-- marks written into a row: behind it the row holds them, and nothing else has turned -/
theorem markTieS_any (lo hi : Nat) (ao : Option Addr) (n cap : Nat) (f : Nat → Value) (w : World) (hn : n ≤ 1099511627776) (ho : OwnN w lo hi ao n f) :
    Calls Tryd.prog 73 #[.slice ao n cap, .int .i64 1] w fun e w' => e = .returned (.int .i64 (1 + (n * 2 : Nat))) ∧ OwnN w' lo hi ao n (mcell 1) ∧ Turned lo hi w w' := by
  rcases ho with ⟨rfl, rfl⟩ | ⟨g, rfl, h1, h2, h3⟩
  · refine (markNil cap w).mono ?_
    rintro e w' ⟨rfl, rfl⟩
    exact ⟨rfl, Or.inl ⟨rfl, rfl⟩, Turned.refl _ _ _⟩
  · refine (markRow g n cap f w hn h3).mono ?_
    rintro e w' ⟨rfl, h4, h5⟩
    exact ⟨rfl, Or.inr ⟨g, rfl, h1, h2, h4⟩, Turned.of_grown h5 h1 h2⟩
set_option maxHeartbeats 400000 in
theorem markNet_any (lo hi : Nat) (K : Int) (ao : Option Addr) (n cap : Nat) (f : Nat → Value) (w : World) (hn : n ≤ 1099511627776) (ho : OwnN w lo hi ao n f) :
    Calls Tryd.prog 38 #[.agg #[.int .i64 K, .slice ao n cap], .int .i64 1] w fun e w' => e = .returned (.int .i64 (1 + (n * 2 : Nat))) ∧ OwnN w' lo hi ao n (mcell 1) ∧ Turned lo hi w w' := by
  have ho1 := fun o => ho.next (below_one w o)
  go_enter Tryd.func38, Tryd.ntmps38
  go_wp2_with fail
  refine (markTieS_any lo hi ao n cap f _ hn (ho1 _)).mono ?_
  rintro e w1 ⟨rfl, ho2, hg⟩
  have hg' : Turned lo hi w w1 := by
    refine ⟨hg.os, hg.tape, hg.output, by have := hg.size; simp at this; omega, fun k hk hne => ?_⟩
    rw [hg.block k (by simp; omega) hne]; exact Below.heap_alloc _ _ _ hk
  clear hg
  go_wp2
  go_ret
  exact ⟨rfl, ho2, hg'⟩
end Go.Proofs.YtiaeffpjcinilaaDoor

/- Rows of bools and of numbers: compared, marked, held; walks of eqBoolS, markBoolS, heldBoolS, markIntS, heldIntS. -/
namespace Go.Proofs.YtiaeffpjcinilaaDoor
open Go.RowKit
set_option linter.unusedVariables false



set_option maxHeartbeats 800000 in
theorem markIntS_any (lo hi : Nat) (ao : Option Addr) (n cap : Nat) (f : Nat → Value) (w : World) (hn : n ≤ 1000) (ho : OwnR w lo hi ao n f) :
    Calls Tryd.prog 39 #[.slice ao n cap, .int .i64 1] w fun e w' => e = .returned (.int .i64 (1 + (n : Int))) ∧ OwnR w' lo hi ao n imark ∧ Turned lo hi w w' := by
  go_enter Tryd.func39, Tryd.ntmps39
  go_wp2
  go_loopw [1, 5] (fun q i wr => ∃ k : Nat, k ≤ n ∧ i = .int .i64 k ∧ q = .int .i64 (1 + (k : Int)) ∧ OwnR wr lo hi ao n (upTo imark f k) ∧ Turned lo hi w wr) (fun _ i _ => n - (intOf i).toNat)
  case atStart => exact ⟨0, Nat.zero_le _, rfl, rfl, ho.congr (fun j hj => by simp [upTo]), Turned.refl _ _ _⟩
  case round =>
    obtain ⟨k, hk, rfl, rfl, hown, hgr⟩ := hrel
    clear ho
    by_cases hlt : k < n
    · rcases hown with ⟨h0, _⟩ | ⟨g, rfl, h1, h2, h3⟩
      · omega
      have d0 := h3.1 k hlt
      have f0 := h3.2.1 k
      have hk0 : (0 : Int) ≤ (k : Int) := by omega
      have hk1 : (k : Int) < (n : Int) := by omega
      have hkb : (k : Int) < 1000 := by omega
      have HO : Hid (OwnR (wr.setCell ⟨g, k, none⟩ (.int .i64 (1 + (k : Int)))) lo hi (some ⟨g, 0, none⟩) n (upTo imark f (k + 1))) := Or.inr ⟨g, rfl, h1, h2, (h3.set hlt _).congr (fun j _ => upTo_step imark f k j)⟩
      have HG : Hid (Turned lo hi w (wr.setCell ⟨g, k, none⟩ (.int .i64 (1 + (k : Int))))) := ⟨hgr.os, hgr.tape, hgr.output, by simpa [World.setCell] using hgr.size, fun i hi' ho' => (Below.heap_setCell _ _ _ _ (by show i ≠ g; omega)).trans (hgr.block i hi' ho')⟩
      clear h3 hgr
      go_wp2
      go_roundw
      case rel => exact ⟨k + 1, by omega, by go_num, by go_num, HO.out, HG.out⟩
      case measure => simp [intOf]; omega
    · have hkn : k = n := by omega
      subst hkn
      have HO := hideP (hown.congr (f' := imark) (fun j hj => by simp [upTo, hj]))
      clear hown
      go_wp2
      go_ret
      exact ⟨rfl, HO.out, hgr⟩


set_option maxHeartbeats 800000 in
theorem heldIntS_any (lo hi : Nat) (ao : Option Addr) (n cap : Nat) (w : World) (hn : n ≤ 1000) (ho : OwnR w lo hi ao n imark) :
    Calls Tryd.prog 40 #[.slice ao n cap, .int .i64 1] w fun e w' => e = .returned (.int .i64 (1 + (n : Int))) ∧ Below w.heap.size w w' := by
  go_enter Tryd.func40, Tryd.ntmps40
  go_wp2
  go_loopw [1, 5] (fun q i wr => ∃ k : Nat, k ≤ n ∧ i = .int .i64 k ∧ q = .int .i64 (1 + (k : Int)) ∧ Below w.heap.size w wr) (fun _ i _ => n - (intOf i).toNat)
  case atStart => exact ⟨0, Nat.zero_le _, rfl, rfl, Below.refl _ _⟩
  case round =>
    obtain ⟨k, hk, rfl, rfl, hb⟩ := hrel
    by_cases hlt : k < n
    · rcases ho with ⟨h0, _⟩ | ⟨g, rfl, h1, h2, h3⟩
      · omega
      have d0 : wr.cell? ⟨g, k, none⟩ = some (.int .i64 (1 + (k : Int))) := (hb.cell (p := ⟨g, k, none⟩) h3.2.2).trans (h3.1 k hlt)
      have hk0 : (0 : Int) ≤ (k : Int) := by omega
      have hk1 : (k : Int) < (n : Int) := by omega
      have hkb : (k : Int) < 1000 := by omega
      clear h3
      go_wp2
      try go_region
      try go_wp2
      go_roundw
      case rel => exact ⟨k + 1, by omega, by go_num, by go_num, by first | exact hb | exact hb.drew⟩
      case measure => simp [intOf]; omega
    · have hkn : k = n := by omega
      subst hkn
      go_wp2
      go_ret
      exact ⟨rfl, hb⟩

end Go.Proofs.YtiaeffpjcinilaaDoor

/- What the exact laws carry along: nets in variables, what came in; rows that are only read. -/
namespace Go.Proofs.YtiaeffpjcinilaaDoor
open Go.RowKit
set_option linter.unusedVariables false

/-- a net in a variable of the call's: its block, its row -/
structure VarAt (w : World) (A : Nat) (K : Int) (lo hi : Nat) (ao : Option Addr) (n cap : Nat) (f : Nat → Value) : Prop where
  c0 : w.cell? ⟨A, 0, none⟩ = some (.int .i64 K)
  c1 : w.cell? ⟨A, 1, none⟩ = some (.slice ao n cap)
  lt : A < w.heap.size
  own : OwnN w lo hi ao n f
theorem VarAt.next {w w' : World} {A : Nat} {K : Int} {lo hi : Nat} {ao : Option Addr} {n cap : Nat} {f : Nat → Value} (h : VarAt w A K lo hi ao n cap f) (hb : Below w.heap.size w w') : VarAt w' A K lo hi ao n cap f :=
  ⟨(hb.cell (p := ⟨A, 0, none⟩) h.lt).trans h.c0, (hb.cell (p := ⟨A, 1, none⟩) h.lt).trans h.c1, Nat.lt_of_lt_of_le h.lt hb.size, h.own.next hb⟩
theorem VarAt.aside {w w' : World} {A : Nat} {K : Int} {lo hi l h : Nat} {ao : Option Addr} {n cap : Nat} {f : Nat → Value} (hv : VarAt w A K lo hi ao n cap f) (ht : Turned l h w w') (hA : A < l ∨ h ≤ A) (hr : hi ≤ l ∨ h ≤ lo) : VarAt w' A K lo hi ao n cap f :=
  ⟨(ht.cell (p := ⟨A, 0, none⟩) hv.lt hA).trans hv.c0, (ht.cell (p := ⟨A, 1, none⟩) hv.lt hA).trans hv.c1, Nat.lt_of_lt_of_le hv.lt ht.size, hv.own.aside ht hr⟩
/-- the variable's own row was written -/
theorem VarAt.marked {w w' : World} {A : Nat} {K : Int} {lo hi l h : Nat} {ao : Option Addr} {n cap : Nat} {f f' : Nat → Value} (hv : VarAt w A K lo hi ao n cap f) (ht : Turned l h w w') (hA : A < l ∨ h ≤ A) (ho : OwnN w' lo hi ao n f') : VarAt w' A K lo hi ao n cap f' :=
  ⟨(ht.cell (p := ⟨A, 0, none⟩) hv.lt hA).trans hv.c0, (ht.cell (p := ⟨A, 1, none⟩) hv.lt hA).trans hv.c1, Nat.lt_of_lt_of_le hv.lt ht.size, ho⟩
theorem VarAt.made {w : World} {K : Int} {lo hi : Nat} {ao : Option Addr} {n cap : Nat} {f : Nat → Value} (t : TypeId) (ho : OwnN w lo hi ao n f) : VarAt (w.alloc (.cells #[.int .i64 K, .slice ao n cap] t)) w.heap.size K lo hi ao n cap f :=
  ⟨by simp, by simp, by simp, ho.next (below_one _ _)⟩
/-- what came in: its box, its ties, the library's table; all that was there is as it was -/
structure Came (w wr : World) (K : Int) (ao : Option Addr) (cap : Nat) (ts : List (Int × Int)) : Prop where
  c0 : wr.cell? ⟨w.heap.size, 0, none⟩ = some (.int .i64 K)
  c1 : wr.cell? ⟨w.heap.size, 1, none⟩ = some (.slice ao ts.length cap)
  lt : w.heap.size < wr.heap.size
  ties : TiesIn wr w.heap.size ao ts
  tab : Tab wr
  bel : Below w.heap.size w wr
theorem Came.next {w wr w' : World} {K : Int} {ao : Option Addr} {cap : Nat} {ts : List (Int × Int)} (h : Came w wr K ao cap ts) (hb : Below wr.heap.size wr w') : Came w w' K ao cap ts :=
  ⟨(hb.cell (p := ⟨w.heap.size, 0, none⟩) h.lt).trans h.c0, (hb.cell (p := ⟨w.heap.size, 1, none⟩) h.lt).trans h.c1, Nat.lt_of_lt_of_le h.lt hb.size, h.ties.below hb (Nat.le_of_lt h.lt), h.tab.below hb h.tab.2, h.bel.trans (hb.mono h.bel.size)⟩
theorem Came.aside {w wr w' : World} {K : Int} {ao : Option Addr} {cap : Nat} {ts : List (Int × Int)} {l h : Nat} (hc : Came w wr K ao cap ts) (ht : Turned l h wr w') (hl : w.heap.size < l) (hT : 0 < w.heap.size) : Came w w' K ao cap ts := by
  have hb : Below w.heap.size wr w' := ⟨ht.os, ht.tape, ht.output, ht.size, fun k hk => ht.block k (by have := hc.lt; omega) (by omega)⟩
  exact ⟨(ht.cell (p := ⟨w.heap.size, 0, none⟩) hc.lt (Or.inl hl)).trans hc.c0, (ht.cell (p := ⟨w.heap.size, 1, none⟩) hc.lt (Or.inl hl)).trans hc.c1, Nat.lt_of_lt_of_le hc.lt ht.size, hc.ties.below hb (Nat.le_refl _), hc.tab.below hb hT, hc.bel.trans hb⟩
theorem Came.start {w w1 : World} {K : Int} {ao : Option Addr} {cap : Nat} {ts : List (Int × Int)} {t : TypeId} (ht : TiesIn w w.heap.size ao ts) (hT : Tab w)
    (hb : Below (w.alloc (.cells #[.int .i64 K, .slice ao ts.length cap] t)).heap.size (w.alloc (.cells #[.int .i64 K, .slice ao ts.length cap] t)) w1) : Came w w1 K ao cap ts := by
  have hb' : Below (w.heap.size + 1) (w.alloc (.cells #[.int .i64 K, .slice ao ts.length cap] t)) w1 := by simpa using hb
  have hB : Below w.heap.size w w1 := (below_one _ _).trans (hb'.mono (by omega))
  exact ⟨(hb'.cell (p := ⟨w.heap.size, 0, none⟩) (by simp)).trans (by simp), (hb'.cell (p := ⟨w.heap.size, 1, none⟩) (by simp)).trans (by simp), by have := hb'.size; simp at this; omega, ht.below hB (Nat.le_refl _), hT.below hB hT.2, hB⟩
theorem eqIntS_row (a1 a2 : Option Addr) (cap1 cap2 n : Nat) (t : Nat → Nat) (w : World) (hn : n ≤ 1000) (h1 : RowV w w.heap.size a1 n (pcellN t)) (h2 : RowV w w.heap.size a2 n (pcellN t)) :
    Calls Tryd.prog 36 #[.slice a1 n cap1, .slice a2 n cap2] w fun e w' => e = .returned (.bool true) ∧ Below w.heap.size w w' := by
  have hl : ((List.range n).map fun j => ((t j : Nat) : Int)).length = n := by simp
  have h := eqIntS_same a1 a2 cap1 cap2 ((List.range n).map fun j => ((t j : Nat) : Int)) w (by rw [hl]; omega) h1.ints h2.ints
  rw [hl] at h
  exact h

end Go.Proofs.YtiaeffpjcinilaaDoor

/- What the exact laws carry along where the library's table is not met. -/
namespace Go.Proofs.YtiaeffpjcinilaaDoor
open Go.RowKit
set_option linter.unusedVariables false

/-- what came in: its box, its ties; all that was there is as it was -/
structure Camp (w wr : World) (K : Int) (ao : Option Addr) (cap : Nat) (ts : List (Int × Int)) : Prop where
  c0 : wr.cell? ⟨w.heap.size, 0, none⟩ = some (.int .i64 K)
  c1 : wr.cell? ⟨w.heap.size, 1, none⟩ = some (.slice ao ts.length cap)
  lt : w.heap.size < wr.heap.size
  ties : TiesIn wr w.heap.size ao ts
  bel : Below w.heap.size w wr
theorem Camp.next {w wr w' : World} {K : Int} {ao : Option Addr} {cap : Nat} {ts : List (Int × Int)} (h : Camp w wr K ao cap ts) (hb : Below wr.heap.size wr w') : Camp w w' K ao cap ts :=
  ⟨(hb.cell (p := ⟨w.heap.size, 0, none⟩) h.lt).trans h.c0, (hb.cell (p := ⟨w.heap.size, 1, none⟩) h.lt).trans h.c1, Nat.lt_of_lt_of_le h.lt hb.size, h.ties.below hb (Nat.le_of_lt h.lt), h.bel.trans (hb.mono h.bel.size)⟩
theorem Camp.aside {w wr w' : World} {K : Int} {ao : Option Addr} {cap : Nat} {ts : List (Int × Int)} {l h : Nat} (hc : Camp w wr K ao cap ts) (ht : Turned l h wr w') (hl : w.heap.size < l) : Camp w w' K ao cap ts := by
  have hb : Below w.heap.size wr w' := ⟨ht.os, ht.tape, ht.output, ht.size, fun k hk => ht.block k (by have := hc.lt; omega) (by omega)⟩
  exact ⟨(ht.cell (p := ⟨w.heap.size, 0, none⟩) hc.lt (Or.inl hl)).trans hc.c0, (ht.cell (p := ⟨w.heap.size, 1, none⟩) hc.lt (Or.inl hl)).trans hc.c1, Nat.lt_of_lt_of_le hc.lt ht.size, hc.ties.below hb (Nat.le_refl _), hc.bel.trans hb⟩
theorem Camp.start {w w1 : World} {K : Int} {ao : Option Addr} {cap : Nat} {ts : List (Int × Int)} {t : TypeId} (ht : TiesIn w w.heap.size ao ts)
    (hb : Below (w.alloc (.cells #[.int .i64 K, .slice ao ts.length cap] t)).heap.size (w.alloc (.cells #[.int .i64 K, .slice ao ts.length cap] t)) w1) : Camp w w1 K ao cap ts := by
  have hb' : Below (w.heap.size + 1) (w.alloc (.cells #[.int .i64 K, .slice ao ts.length cap] t)) w1 := by simpa using hb
  have hB : Below w.heap.size w w1 := (below_one _ _).trans (hb'.mono (by omega))
  exact ⟨(hb'.cell (p := ⟨w.heap.size, 0, none⟩) (by simp)).trans (by simp), (hb'.cell (p := ⟨w.heap.size, 1, none⟩) (by simp)).trans (by simp), by have := hb'.size; simp at this; omega, ht.below hB (Nat.le_refl _), hB⟩

end Go.Proofs.YtiaeffpjcinilaaDoor
