/- Texts put together: WMark, WMarkB, WCame, WCamp, WMarkS, WMarkS2, WMarkS3. -/
import Derived.Test.YtloicmngoaccoaaDoorPartWLeaf
import Derived.Test.YtloicmngoaccoaaDoorPartWCount
import Derived.BigRegion
import Derived.Deep.RegionHeld3
import Derived.Test.YtloicmngoaccoaaDoorPartWAllI
import Derived.Test.YtloicmngoaccoaaDoorPartWOnS
/- Walks of markTieS, heldTieS, markNet, heldNet. -/
namespace Go.Proofs.YtloicmngoaccoaaDoor
open Go.RowKit
set_option linter.unusedVariables false

def mcell (k0 : Int) (j : Nat) : Value := .int .i64 (k0 + j)
def mfill (k0 : Int) (f : Nat → Value) (k j : Nat) : Value := if j < k * 2 then mcell k0 j else f j
theorem mfill_step (k0 : Int) (f : Nat → Value) (n k j : Nat) (hk : k < n) (hj : j < n * 2) :
    (if j = k * 2 + 1 then Value.int .i64 (k0 + (k * 2 + 1 : Nat)) else if j = k * 2 then .int .i64 (k0 + (k * 2 : Nat)) else mfill k0 f k j) = mfill k0 f (k + 1) j := by
  by_cases h1 : j = k * 2 + 1
  · subst h1; rw [if_pos rfl, mfill, if_pos (by omega)]; rfl
  · rw [if_neg h1]
    by_cases h2 : j = k * 2
    · subst h2; rw [if_pos rfl, mfill, if_pos (by omega)]; rfl
    · rw [if_neg h2]
      unfold mfill
      by_cases h3 : j < k * 2
      · rw [if_pos h3, if_pos (by omega)]
      · rw [if_neg h3, if_neg (by omega)]
theorem grown_refl (w : World) (r : Option Nat) : w.grownBy w r := ⟨rfl, rfl, rfl, Nat.le_refl _, fun _ _ _ => rfl⟩
theorem grown_set {w w1 : World} {r : Nat} (h : w.grownBy w1 (some r)) (j : Nat) (u : Value) : w.grownBy (w1.setCell ⟨r, j, none⟩ u) (some r) :=
  ⟨h.os, h.tape, h.output, by simpa using h.size, fun k hk hne => by
    rw [Below.heap_setCell w1 ⟨r, j, none⟩ u k (by simpa using hne)]; exact h.block k hk hne⟩
set_option maxHeartbeats 800000 in
theorem markRow (g n cap : Nat) (f : Nat → Value) (w : World) (hn : n ≤ 1099511627776) (ho : OwnT w g n f) :
    Calls Tryd.prog 76 #[.slice (some ⟨g, 0, none⟩) n cap, .int .i64 1] w fun e w' => e = .returned (.int .i64 (1 + (n * 2 : Nat))) ∧ OwnT w' g n (mcell 1) ∧ w.grownBy w' (some g) := by
  go_enter Tryd.func76, Tryd.ntmps76
  go_wp2
  go_loopw [1, 5] (fun q i wr => ∃ k : Nat, k ≤ n ∧ i = .int .i64 k ∧ q = .int .i64 (1 + (k * 2 : Nat)) ∧ OwnT wr g n (mfill 1 f k) ∧ w.grownBy wr (some g)) (fun _ i _ => n - (intOf i).toNat)
  case atStart => exact ⟨0, Nat.zero_le _, rfl, rfl, ho.congr (fun j hj => by simp [mfill]), grown_refl _ _⟩
  case round =>
    obtain ⟨k, hk, rfl, rfl, hown, hgr⟩ := hrel
    clear ho
    by_cases hlt : k < n
    · have d0 := hown.1 (k * 2) (by omega)
      have d1 := hown.1 (k * 2 + 1) (by omega)
      have f0 := hown.2.1 (k * 2)
      have f1 := hown.2.1 (k * 2 + 1)
      have e1 : (1 : Int) + ((k * 2 : Nat) : Int) = 1 + (k : Int) * 2 := by omega
      have e2 : (1 : Int) + ((k * 2 + 1 : Nat) : Int) = 1 + (k : Int) * 2 + 1 := by omega
      have HO : OwnT ((wr.setCell ⟨g, k * 2, none⟩ (.int .i64 (1 + (k : Int) * 2))).setCell ⟨g, k * 2 + 1, none⟩ (.int .i64 (1 + (k : Int) * 2 + 1))) g n (mfill 1 f (k + 1)) := by
        rw [← e2, ← e1]
        exact ((hown.set (i := k * 2) (by omega) (.int .i64 (1 + (k * 2 : Nat)))).set (i := k * 2 + 1) (by omega) (.int .i64 (1 + (k * 2 + 1 : Nat)))).congr (fun j hj => mfill_step 1 f n k j hlt hj)
      have HG : w.grownBy ((wr.setCell ⟨g, k * 2, none⟩ (.int .i64 (1 + (k : Int) * 2))).setCell ⟨g, k * 2 + 1, none⟩ (.int .i64 (1 + (k : Int) * 2 + 1))) (some g) := grown_set (grown_set hgr _ _) _ _
      have HO' := hideP HO
      have HG' := hideP HG
      clear HO HG e1 e2
      have hkb : (k : Int) < 1099511627776 := by omega
      clear hown hgr
      go_wp2
      go_roundw
      case rel => exact ⟨k + 1, by omega, by go_num, by go_num, HO'.out, HG'.out⟩
      case measure => simp [intOf]; omega
    · have hkn : k = n := by omega
      subst hkn
      have HO : Hid (OwnT wr g k (mcell 1)) := hown.congr (fun j hj => by simp [mfill, hj])
      clear hown
      go_wp2
      go_ret
      exact ⟨rfl, HO.out, hgr⟩
set_option maxHeartbeats 400000 in
theorem markNil (cap : Nat) (w : World) : Calls Tryd.prog 76 #[.slice none 0 cap, .int .i64 1] w fun e w' => e = .returned (.int .i64 1) ∧ w' = w := by
  go_enter Tryd.func76, Tryd.ntmps76
  go_wp2
  refine wp_loop_rounds 1 ?_
  rw [rounds_succ]
  go_wp2
  go_ret
  exact ⟨rfl, rfl⟩
/-- marks written into a row: behind it the row holds them, and nothing else has turned -/
theorem markTieS_any (lo hi : Nat) (ao : Option Addr) (n cap : Nat) (f : Nat → Value) (w : World) (hn : n ≤ 1099511627776) (ho : OwnN w lo hi ao n f) :
    Calls Tryd.prog 76 #[.slice ao n cap, .int .i64 1] w fun e w' => e = .returned (.int .i64 (1 + (n * 2 : Nat))) ∧ OwnN w' lo hi ao n (mcell 1) ∧ Turned lo hi w w' := by
  rcases ho with ⟨rfl, rfl⟩ | ⟨g, rfl, h1, h2, h3⟩
  · refine (markNil cap w).mono ?_
    rintro e w' ⟨rfl, rfl⟩
    exact ⟨rfl, Or.inl ⟨rfl, rfl⟩, Turned.refl _ _ _⟩
  · refine (markRow g n cap f w hn h3).mono ?_
    rintro e w' ⟨rfl, h4, h5⟩
    exact ⟨rfl, Or.inr ⟨g, rfl, h1, h2, h4⟩, Turned.of_grown h5 h1 h2⟩
set_option maxHeartbeats 400000 in
theorem markNet_any (lo hi : Nat) (K : Int) (ao : Option Addr) (n cap : Nat) (f : Nat → Value) (w : World) (hn : n ≤ 1099511627776) (ho : OwnN w lo hi ao n f) :
    Calls Tryd.prog 38 #[.agg #[.int .i64 K, .slice ao n cap], .int .i64 1] w fun e w' => e = .returned (.int .i64 (1 + (n * 2 : Nat))) ∧ OwnN w' lo hi ao n (mcell 1) ∧ Turned lo hi w w' := by
  have ho1 := fun o => ho.next (below_one w o)
  go_enter Tryd.func38, Tryd.ntmps38
  go_wp2_with fail
  refine (markTieS_any lo hi ao n cap f _ hn (ho1 _)).mono ?_
  rintro e w1 ⟨rfl, ho2, hg⟩
  have hg' : Turned lo hi w w1 := by
    refine ⟨hg.os, hg.tape, hg.output, by have := hg.size; simp at this; omega, fun k hk hne => ?_⟩
    rw [hg.block k (by simp; omega) hne]; exact Below.heap_alloc _ _ _ hk
  clear hg
  go_wp2
  go_ret
  exact ⟨rfl, ho2, hg'⟩
end Go.Proofs.YtloicmngoaccoaaDoor

/- Rows of bools and of numbers: compared, marked, held; walks of eqBoolS, markBoolS, heldBoolS, markIntS, heldIntS. -/
namespace Go.Proofs.YtloicmngoaccoaaDoor
open Go.RowKit
set_option linter.unusedVariables false



set_option maxHeartbeats 800000 in
theorem markIntS_any (lo hi : Nat) (ao : Option Addr) (n cap : Nat) (f : Nat → Value) (w : World) (hn : n ≤ 1000) (ho : OwnR w lo hi ao n f) :
    Calls Tryd.prog 77 #[.slice ao n cap, .int .i64 1] w fun e w' => e = .returned (.int .i64 (1 + (n : Int))) ∧ OwnR w' lo hi ao n imark ∧ Turned lo hi w w' := by
  go_enter Tryd.func77, Tryd.ntmps77
  go_wp2
  go_loopw [1, 5] (fun q i wr => ∃ k : Nat, k ≤ n ∧ i = .int .i64 k ∧ q = .int .i64 (1 + (k : Int)) ∧ OwnR wr lo hi ao n (upTo imark f k) ∧ Turned lo hi w wr) (fun _ i _ => n - (intOf i).toNat)
  case atStart => exact ⟨0, Nat.zero_le _, rfl, rfl, ho.congr (fun j hj => by simp [upTo]), Turned.refl _ _ _⟩
  case round =>
    obtain ⟨k, hk, rfl, rfl, hown, hgr⟩ := hrel
    clear ho
    by_cases hlt : k < n
    · rcases hown with ⟨h0, _⟩ | ⟨g, rfl, h1, h2, h3⟩
      · omega
      have d0 := h3.1 k hlt
      have f0 := h3.2.1 k
      have hk0 : (0 : Int) ≤ (k : Int) := by omega
      have hk1 : (k : Int) < (n : Int) := by omega
      have hkb : (k : Int) < 1000 := by omega
      have HO : Hid (OwnR (wr.setCell ⟨g, k, none⟩ (.int .i64 (1 + (k : Int)))) lo hi (some ⟨g, 0, none⟩) n (upTo imark f (k + 1))) := Or.inr ⟨g, rfl, h1, h2, (h3.set hlt _).congr (fun j _ => upTo_step imark f k j)⟩
      have HG : Hid (Turned lo hi w (wr.setCell ⟨g, k, none⟩ (.int .i64 (1 + (k : Int))))) := ⟨hgr.os, hgr.tape, hgr.output, by simpa [World.setCell] using hgr.size, fun i hi' ho' => (Below.heap_setCell _ _ _ _ (by show i ≠ g; omega)).trans (hgr.block i hi' ho')⟩
      clear h3 hgr
      go_wp2
      go_roundw
      case rel => exact ⟨k + 1, by omega, by go_num, by go_num, HO.out, HG.out⟩
      case measure => simp [intOf]; omega
    · have hkn : k = n := by omega
      subst hkn
      have HO := hideP (hown.congr (f' := imark) (fun j hj => by simp [upTo, hj]))
      clear hown
      go_wp2
      go_ret
      exact ⟨rfl, HO.out, hgr⟩


set_option maxHeartbeats 800000 in
theorem heldIntS_any (lo hi : Nat) (ao : Option Addr) (n cap : Nat) (w : World) (hn : n ≤ 1000) (ho : OwnR w lo hi ao n imark) :
    Calls Tryd.prog 78 #[.slice ao n cap, .int .i64 1] w fun e w' => e = .returned (.int .i64 (1 + (n : Int))) ∧ Below w.heap.size w w' := by
  go_enter Tryd.func78, Tryd.ntmps78
  go_wp2
  go_loopw [1, 5] (fun q i wr => ∃ k : Nat, k ≤ n ∧ i = .int .i64 k ∧ q = .int .i64 (1 + (k : Int)) ∧ Below w.heap.size w wr) (fun _ i _ => n - (intOf i).toNat)
  case atStart => exact ⟨0, Nat.zero_le _, rfl, rfl, Below.refl _ _⟩
  case round =>
    obtain ⟨k, hk, rfl, rfl, hb⟩ := hrel
    by_cases hlt : k < n
    · rcases ho with ⟨h0, _⟩ | ⟨g, rfl, h1, h2, h3⟩
      · omega
      have d0 : wr.cell? ⟨g, k, none⟩ = some (.int .i64 (1 + (k : Int))) := (hb.cell (p := ⟨g, k, none⟩) h3.2.2).trans (h3.1 k hlt)
      have hk0 : (0 : Int) ≤ (k : Int) := by omega
      have hk1 : (k : Int) < (n : Int) := by omega
      have hkb : (k : Int) < 1000 := by omega
      clear h3
      go_wp2
      try go_region
      try go_wp2
      go_roundw
      case rel => exact ⟨k + 1, by omega, by go_num, by go_num, by first | exact hb | exact hb.drew⟩
      case measure => simp [intOf]; omega
    · have hkn : k = n := by omega
      subst hkn
      go_wp2
      go_ret
      exact ⟨rfl, hb⟩

end Go.Proofs.YtloicmngoaccoaaDoor

/- What the exact laws carry along: nets in variables, what came in; rows that are only read. -/
namespace Go.Proofs.YtloicmngoaccoaaDoor
open Go.RowKit
set_option linter.unusedVariables false

/-- a net in a variable of the call's: its block, its row -/
structure VarAt (w : World) (A : Nat) (K : Int) (lo hi : Nat) (ao : Option Addr) (n cap : Nat) (f : Nat → Value) : Prop where
  c0 : w.cell? ⟨A, 0, none⟩ = some (.int .i64 K)
  c1 : w.cell? ⟨A, 1, none⟩ = some (.slice ao n cap)
  lt : A < w.heap.size
  own : OwnN w lo hi ao n f
theorem VarAt.next {w w' : World} {A : Nat} {K : Int} {lo hi : Nat} {ao : Option Addr} {n cap : Nat} {f : Nat → Value} (h : VarAt w A K lo hi ao n cap f) (hb : Below w.heap.size w w') : VarAt w' A K lo hi ao n cap f :=
  ⟨(hb.cell (p := ⟨A, 0, none⟩) h.lt).trans h.c0, (hb.cell (p := ⟨A, 1, none⟩) h.lt).trans h.c1, Nat.lt_of_lt_of_le h.lt hb.size, h.own.next hb⟩
theorem VarAt.aside {w w' : World} {A : Nat} {K : Int} {lo hi l h : Nat} {ao : Option Addr} {n cap : Nat} {f : Nat → Value} (hv : VarAt w A K lo hi ao n cap f) (ht : Turned l h w w') (hA : A < l ∨ h ≤ A) (hr : hi ≤ l ∨ h ≤ lo) : VarAt w' A K lo hi ao n cap f :=
  ⟨(ht.cell (p := ⟨A, 0, none⟩) hv.lt hA).trans hv.c0, (ht.cell (p := ⟨A, 1, none⟩) hv.lt hA).trans hv.c1, Nat.lt_of_lt_of_le hv.lt ht.size, hv.own.aside ht hr⟩
/-- the variable's own row was written -/
theorem VarAt.marked {w w' : World} {A : Nat} {K : Int} {lo hi l h : Nat} {ao : Option Addr} {n cap : Nat} {f f' : Nat → Value} (hv : VarAt w A K lo hi ao n cap f) (ht : Turned l h w w') (hA : A < l ∨ h ≤ A) (ho : OwnN w' lo hi ao n f') : VarAt w' A K lo hi ao n cap f' :=
  ⟨(ht.cell (p := ⟨A, 0, none⟩) hv.lt hA).trans hv.c0, (ht.cell (p := ⟨A, 1, none⟩) hv.lt hA).trans hv.c1, Nat.lt_of_lt_of_le hv.lt ht.size, ho⟩
theorem VarAt.made {w : World} {K : Int} {lo hi : Nat} {ao : Option Addr} {n cap : Nat} {f : Nat → Value} (t : TypeId) (ho : OwnN w lo hi ao n f) : VarAt (w.alloc (.cells #[.int .i64 K, .slice ao n cap] t)) w.heap.size K lo hi ao n cap f :=
  ⟨by simp, by simp, by simp, ho.next (below_one _ _)⟩
/-- what came in: its box, its ties, the library's table; all that was there is as it was -/
structure Came (w wr : World) (K : Int) (ao : Option Addr) (cap : Nat) (ts : List (Int × Int)) : Prop where
  c0 : wr.cell? ⟨w.heap.size, 0, none⟩ = some (.int .i64 K)
  c1 : wr.cell? ⟨w.heap.size, 1, none⟩ = some (.slice ao ts.length cap)
  lt : w.heap.size < wr.heap.size
  ties : TiesIn wr w.heap.size ao ts
  tab : Tab wr
  bel : Below w.heap.size w wr
theorem Came.next {w wr w' : World} {K : Int} {ao : Option Addr} {cap : Nat} {ts : List (Int × Int)} (h : Came w wr K ao cap ts) (hb : Below wr.heap.size wr w') : Came w w' K ao cap ts :=
  ⟨(hb.cell (p := ⟨w.heap.size, 0, none⟩) h.lt).trans h.c0, (hb.cell (p := ⟨w.heap.size, 1, none⟩) h.lt).trans h.c1, Nat.lt_of_lt_of_le h.lt hb.size, h.ties.below hb (Nat.le_of_lt h.lt), h.tab.below hb h.tab.2, h.bel.trans (hb.mono h.bel.size)⟩
theorem Came.aside {w wr w' : World} {K : Int} {ao : Option Addr} {cap : Nat} {ts : List (Int × Int)} {l h : Nat} (hc : Came w wr K ao cap ts) (ht : Turned l h wr w') (hl : w.heap.size < l) (hT : 0 < w.heap.size) : Came w w' K ao cap ts := by
  have hb : Below w.heap.size wr w' := ⟨ht.os, ht.tape, ht.output, ht.size, fun k hk => ht.block k (by have := hc.lt; omega) (by omega)⟩
  exact ⟨(ht.cell (p := ⟨w.heap.size, 0, none⟩) hc.lt (Or.inl hl)).trans hc.c0, (ht.cell (p := ⟨w.heap.size, 1, none⟩) hc.lt (Or.inl hl)).trans hc.c1, Nat.lt_of_lt_of_le hc.lt ht.size, hc.ties.below hb (Nat.le_refl _), hc.tab.below hb hT, hc.bel.trans hb⟩
theorem Came.start {w w1 : World} {K : Int} {ao : Option Addr} {cap : Nat} {ts : List (Int × Int)} {t : TypeId} (ht : TiesIn w w.heap.size ao ts) (hT : Tab w)
    (hb : Below (w.alloc (.cells #[.int .i64 K, .slice ao ts.length cap] t)).heap.size (w.alloc (.cells #[.int .i64 K, .slice ao ts.length cap] t)) w1) : Came w w1 K ao cap ts := by
  have hb' : Below (w.heap.size + 1) (w.alloc (.cells #[.int .i64 K, .slice ao ts.length cap] t)) w1 := by simpa using hb
  have hB : Below w.heap.size w w1 := (below_one _ _).trans (hb'.mono (by omega))
  exact ⟨(hb'.cell (p := ⟨w.heap.size, 0, none⟩) (by simp)).trans (by simp), (hb'.cell (p := ⟨w.heap.size, 1, none⟩) (by simp)).trans (by simp), by have := hb'.size; simp at this; omega, ht.below hB (Nat.le_refl _), hT.below hB hT.2, hB⟩
theorem eqIntS_row (a1 a2 : Option Addr) (cap1 cap2 n : Nat) (t : Nat → Nat) (w : World) (hn : n ≤ 1000) (h1 : RowV w w.heap.size a1 n (pcellN t)) (h2 : RowV w w.heap.size a2 n (pcellN t)) :
    Calls Tryd.prog 74 #[.slice a1 n cap1, .slice a2 n cap2] w fun e w' => e = .returned (.bool true) ∧ Below w.heap.size w w' := by
  have hl : ((List.range n).map fun j => ((t j : Nat) : Int)).length = n := by simp
  have h := eqIntS_same a1 a2 cap1 cap2 ((List.range n).map fun j => ((t j : Nat) : Int)) w (by rw [hl]; omega) h1.ints h2.ints
  rw [hl] at h
  exact h

end Go.Proofs.YtloicmngoaccoaaDoor

/- What the exact laws carry along where the library's table is not met. -/
namespace Go.Proofs.YtloicmngoaccoaaDoor
open Go.RowKit
set_option linter.unusedVariables false

/-- what came in: its box, its ties; all that was there is as it was -/
structure Camp (w wr : World) (K : Int) (ao : Option Addr) (cap : Nat) (ts : List (Int × Int)) : Prop where
  c0 : wr.cell? ⟨w.heap.size, 0, none⟩ = some (.int .i64 K)
  c1 : wr.cell? ⟨w.heap.size, 1, none⟩ = some (.slice ao ts.length cap)
  lt : w.heap.size < wr.heap.size
  ties : TiesIn wr w.heap.size ao ts
  bel : Below w.heap.size w wr
theorem Camp.next {w wr w' : World} {K : Int} {ao : Option Addr} {cap : Nat} {ts : List (Int × Int)} (h : Camp w wr K ao cap ts) (hb : Below wr.heap.size wr w') : Camp w w' K ao cap ts :=
  ⟨(hb.cell (p := ⟨w.heap.size, 0, none⟩) h.lt).trans h.c0, (hb.cell (p := ⟨w.heap.size, 1, none⟩) h.lt).trans h.c1, Nat.lt_of_lt_of_le h.lt hb.size, h.ties.below hb (Nat.le_of_lt h.lt), h.bel.trans (hb.mono h.bel.size)⟩
theorem Camp.aside {w wr w' : World} {K : Int} {ao : Option Addr} {cap : Nat} {ts : List (Int × Int)} {l h : Nat} (hc : Camp w wr K ao cap ts) (ht : Turned l h wr w') (hl : w.heap.size < l) : Camp w w' K ao cap ts := by
  have hb : Below w.heap.size wr w' := ⟨ht.os, ht.tape, ht.output, ht.size, fun k hk => ht.block k (by have := hc.lt; omega) (by omega)⟩
  exact ⟨(ht.cell (p := ⟨w.heap.size, 0, none⟩) hc.lt (Or.inl hl)).trans hc.c0, (ht.cell (p := ⟨w.heap.size, 1, none⟩) hc.lt (Or.inl hl)).trans hc.c1, Nat.lt_of_lt_of_le hc.lt ht.size, hc.ties.below hb (Nat.le_refl _), hc.bel.trans hb⟩
theorem Camp.start {w w1 : World} {K : Int} {ao : Option Addr} {cap : Nat} {ts : List (Int × Int)} {t : TypeId} (ht : TiesIn w w.heap.size ao ts)
    (hb : Below (w.alloc (.cells #[.int .i64 K, .slice ao ts.length cap] t)).heap.size (w.alloc (.cells #[.int .i64 K, .slice ao ts.length cap] t)) w1) : Camp w w1 K ao cap ts := by
  have hb' : Below (w.heap.size + 1) (w.alloc (.cells #[.int .i64 K, .slice ao ts.length cap] t)) w1 := by simpa using hb
  have hB : Below w.heap.size w w1 := (below_one _ _).trans (hb'.mono (by omega))
  exact ⟨(hb'.cell (p := ⟨w.heap.size, 0, none⟩) (by simp)).trans (by simp), (hb'.cell (p := ⟨w.heap.size, 1, none⟩) (by simp)).trans (by simp), by have := hb'.size; simp at this; omega, ht.below hB (Nat.le_refl _), hB⟩

end Go.Proofs.YtloicmngoaccoaaDoor

/- Rows of rows of numbers: compared, marked, held; walks of eqIntSS, markIntSS, heldIntSS. -/
namespace Go.Proofs.YtloicmngoaccoaaDoor
open Go.RowKit
set_option linter.unusedVariables false

def kmark (s j : Nat) : Value := .int .i64 ((s : Int) + (j : Int))
set_option maxHeartbeats 800000 in
theorem markIntS_k (g n cap s : Nat) (f : Nat → Value) (w : World) (hn : n ≤ 8) (hs : s ≤ 400000000) (ho : OwnI w g n f) :
    Calls Tryd.prog 77 #[.slice (some ⟨g, 0, none⟩) n cap, .int .i64 (s : Int)] w fun e w' => e = .returned (.int .i64 ((s : Int) + (n : Int))) ∧ OwnI w' g n (kmark s) ∧ Turned g (g + 1) w w' := by
  go_enter Tryd.func77, Tryd.ntmps77
  go_wp2
  go_loopw [1, 5] (fun q i wr => ∃ k : Nat, k ≤ n ∧ i = .int .i64 k ∧ q = .int .i64 ((s : Int) + (k : Int)) ∧ OwnI wr g n (upTo (kmark s) f k) ∧ Turned g (g + 1) w wr) (fun _ i _ => n - (intOf i).toNat)
  case atStart => exact ⟨0, Nat.zero_le _, rfl, by simp, ho.congr (fun j hj => by simp [upTo]), Turned.refl _ _ _⟩
  case round =>
    obtain ⟨k, hk, rfl, rfl, h3, hgr⟩ := hrel
    clear ho
    by_cases hlt : k < n
    · have d0 := h3.1 k hlt
      have f0 := h3.2.1 k
      have hk0 : (0 : Int) ≤ (k : Int) := by omega
      have hk1 : (k : Int) < (n : Int) := by omega
      have hkb : (k : Int) < 1000 := by omega
      have hsb : (s : Int) ≤ 400000000 := by omega
      have hs0 : (0 : Int) ≤ (s : Int) := by omega
      have HO : Hid (OwnI (wr.setCell ⟨g, k, none⟩ (.int .i64 ((s : Int) + (k : Int)))) g n (upTo (kmark s) f (k + 1))) := (h3.set hlt _).congr (fun j _ => upTo_step (kmark s) f k j)
      have HG : Hid (Turned g (g + 1) w (wr.setCell ⟨g, k, none⟩ (.int .i64 ((s : Int) + (k : Int))))) := ⟨hgr.os, hgr.tape, hgr.output, by simpa [World.setCell] using hgr.size, fun i hi' ho' => (Below.heap_setCell _ _ _ _ (by show i ≠ g; omega)).trans (hgr.block i hi' ho')⟩
      clear h3 hgr
      go_wp2
      go_roundw
      case rel => exact ⟨k + 1, by omega, by go_num, by go_num, HO.out, HG.out⟩
      case measure => simp [intOf]; omega
    · have hkn : k = n := by omega
      subst hkn
      have HO := hideP (h3.congr (f' := kmark s) (fun j hj => by simp [upTo, hj]))
      clear h3
      go_wp2
      go_ret
      exact ⟨rfl, HO.out, hgr⟩
set_option maxHeartbeats 800000 in
theorem heldIntS_k (g n cap s : Nat) (w : World) (hn : n ≤ 8) (hs : s ≤ 400000000) (h3 : OwnI w g n (kmark s)) :
    Calls Tryd.prog 78 #[.slice (some ⟨g, 0, none⟩) n cap, .int .i64 (s : Int)] w fun e w' => e = .returned (.int .i64 ((s : Int) + (n : Int))) ∧ Below w.heap.size w w' := by
  have HO := hideP h3
  clear h3
  go_enter Tryd.func78, Tryd.ntmps78
  go_wp2
  go_loopw [1, 5] (fun q i wr => ∃ k : Nat, k ≤ n ∧ i = .int .i64 k ∧ q = .int .i64 ((s : Int) + (k : Int)) ∧ Below w.heap.size w wr) (fun _ i _ => n - (intOf i).toNat)
  case atStart => exact ⟨0, Nat.zero_le _, rfl, by simp, Below.refl _ _⟩
  case round =>
    obtain ⟨k, hk, rfl, rfl, hb⟩ := hrel
    by_cases hlt : k < n
    · have d0 : wr.cell? ⟨g, k, none⟩ = some (.int .i64 ((s : Int) + (k : Int))) := (hb.cell (p := ⟨g, k, none⟩) HO.out.2.2).trans (HO.out.1 k hlt)
      have hk0 : (0 : Int) ≤ (k : Int) := by omega
      have hk1 : (k : Int) < (n : Int) := by omega
      have hkb : (k : Int) < 1000 := by omega
      have hsb : (s : Int) ≤ 400000000 := by omega
      have hs0 : (0 : Int) ≤ (s : Int) := by omega
      go_wp2
      try go_region
      try go_wp2
      go_roundw
      case rel => exact ⟨k + 1, by omega, by go_num, by go_num, by first | exact hb | exact hb.drew⟩
      case measure => simp [intOf]; omega
    · have hkn : k = n := by omega
      subst hkn
      go_wp2
      go_ret
      exact ⟨rfl, hb⟩

end Go.Proofs.YtloicmngoaccoaaDoor

/- Rows of rows of numbers, marked and held as a whole. -/
namespace Go.Proofs.YtloicmngoaccoaaDoor
open Go.RowKit
set_option linter.unusedVariables false

/-- rows in blocks of their own, behind a row of them -/
structure Mk (W : World) (lo hi G : Nat) (gs cs : Nat → Nat) (ps : List (List Nat)) (f : Nat → Nat → Value) : Prop where
  G0 : lo ≤ G
  G1 : G < hi
  out : OwnI W G ps.length (rowV ps gs cs)
  row : ∀ i, i < ps.length → lo ≤ gs i ∧ gs i < hi ∧ gs i ≠ G ∧ OwnI W (gs i) (wayAt ps i).length (f i)
  ne : ∀ i j, i < j → j < ps.length → gs i ≠ gs j
theorem Mk.next {W W' : World} {lo hi G : Nat} {gs cs : Nat → Nat} {ps : List (List Nat)} {f : Nat → Nat → Value} (h : Mk W lo hi G gs cs ps f) (hb : Below W.heap.size W W') : Mk W' lo hi G gs cs ps f :=
  ⟨h.G0, h.G1, h.out.below hb h.out.2.2, fun i hi => ⟨(h.row i hi).1, (h.row i hi).2.1, (h.row i hi).2.2.1, (h.row i hi).2.2.2.below hb (h.row i hi).2.2.2.2.2⟩, h.ne⟩
theorem Mk.turn {W W' : World} {lo hi G l r : Nat} {gs cs : Nat → Nat} {ps : List (List Nat)} {f : Nat → Nat → Value} (h : Mk W lo hi G gs cs ps f) (ht : Turned l r W W') (hr : hi ≤ l ∨ r ≤ lo) : Mk W' lo hi G gs cs ps f :=
  ⟨h.G0, h.G1, h.out.turn ht (by have := h.G0; have := h.G1; omega), fun i hi => ⟨(h.row i hi).1, (h.row i hi).2.1, (h.row i hi).2.2.1, (h.row i hi).2.2.2.turn ht (by have := (h.row i hi).1; have := (h.row i hi).2.1; omega)⟩, h.ne⟩
def Rw2 (W : World) (lo hi : Nat) (ao : Option Addr) (ps : List (List Nat)) (f : Nat → Nat → Value) : Prop :=
  ps = [] ∨ ∃ G gs cs, ao = some ⟨G, 0, none⟩ ∧ Mk W lo hi G gs cs ps f
theorem Rw2.next {W W' : World} {lo hi : Nat} {ao : Option Addr} {ps : List (List Nat)} {f : Nat → Nat → Value} (h : Rw2 W lo hi ao ps f) (hb : Below W.heap.size W W') : Rw2 W' lo hi ao ps f := by
  rcases h with h | ⟨G, gs, cs, h1, h2⟩
  · exact Or.inl h
  · exact Or.inr ⟨G, gs, cs, h1, h2.next hb⟩
theorem Rw2.turn {W W' : World} {lo hi l r : Nat} {ao : Option Addr} {ps : List (List Nat)} {f : Nat → Nat → Value} (h : Rw2 W lo hi ao ps f) (ht : Turned l r W W') (hr : hi ≤ l ∨ r ≤ lo) : Rw2 W' lo hi ao ps f := by
  rcases h with h | ⟨G, gs, cs, h1, h2⟩
  · exact Or.inl h
  · exact Or.inr ⟨G, gs, cs, h1, h2.turn ht hr⟩
def wayF (ps : List (List Nat)) (i : Nat) : Nat → Value := pcellN (pn (wayAt ps i))
theorem Rw2.seen {W : World} {lo hi : Nat} {ao : Option Addr} {ps : List (List Nat)} (h : Rw2 W lo hi ao ps (wayF ps)) (hp : ∀ q, q ∈ ps → 0 < q.length ∧ q.length ≤ 8) : AllV W ao ps := ⟨fun i hi => by
  rcases h with h | ⟨G, gs, cs, h1, h2⟩
  · rw [h] at hi; simp at hi
  have hm : ps.getD i [] ∈ ps := by simp [hi]
  have hc : wayAt ps i = ps.getD i [] := clip_is (hp _ hm).1 (hp _ hm).2
  have hr := (h2.row i hi).2.2.2
  unfold wayF at hr
  rw [hc] at hr
  refine ⟨G, 0, gs i, cs i, h1, h2.out.2.2, ?_, fun j hj => ⟨gs i, 0, rfl, hr.2.2, by rw [Nat.zero_add]; exact hr.1 j hj⟩⟩
  rw [Nat.zero_add, h2.out.1 i hi]
  unfold rowV
  rw [hc]⟩
theorem AllR.own {W : World} {lo : Nat} {ao : Option Addr} {ps : List (List Nat)} (h : AllR W lo ao ps) (hp : ∀ q, q ∈ ps → 0 < q.length ∧ q.length ≤ 8) : Rw2 W lo W.heap.size ao ps (wayF ps) := by
  rcases h with ⟨h1, _⟩ | ⟨G, gs, cs, h1, h2, h3, h4, h5⟩
  · exact Or.inl h1
  refine Or.inr ⟨G, gs, cs, h1, h2, h3.2.2, h3, fun i hi => ?_, h4.ne⟩
  have hm : ps.getD i [] ∈ ps := by simp [hi]
  have hc : wayAt ps i = ps.getD i [] := clip_is (hp _ hm).1 (hp _ hm).2
  have hr := h4.row i hi
  unfold rowV at hr
  obtain ⟨ow, hlo, hlt⟩ := row_own hr rfl (by rw [hc]; exact (hp _ hm).1)
  exact ⟨hlo, hlt, h5 i hi, ow⟩
theorem Acc.own {W : World} {lo G C : Nat} {ps : List (List Nat)} {gs cs : Nat → Nat} (h : Acc W lo G C ps gs cs) (hp : ∀ q, q ∈ ps → 0 < q.length ∧ q.length ≤ 8) : Rw2 W lo W.heap.size (some ⟨G, 0, none⟩) ps (wayF ps) := by
  refine Or.inr ⟨G, gs, cs, rfl, h.lt.1, h.lt.2, ⟨fun i hi => ?_, fun j => h.out.frozenAt j, h.lt.2⟩, fun i hi => ?_, h.row.ne⟩
  · rw [h.out.cellAt i (by omega)]
    unfold rowVs
    rw [List.getElem?_map, List.getElem?_range hi]; rfl
  · have hm : ps.getD i [] ∈ ps := by simp [hi]
    have hc : wayAt ps i = ps.getD i [] := clip_is (hp _ hm).1 (hp _ hm).2
    have hr := h.row.row i hi
    unfold rowV at hr
    obtain ⟨ow, hlo, hlt⟩ := row_own hr rfl (by rw [hc]; exact (hp _ hm).1)
    refine ⟨hlo, hlt, fun e => ?_, ow⟩
    obtain ⟨_, _, h1, _⟩ := row_type (g := gs i) (c := cs i) hr rfl
    obtain ⟨_, _, h2, _⟩ := row_type (g := G) (c := C) h.out rfl
    rw [e, h2] at h1; simp at h1
/-- the number at which the i-th row's marks begin -/
def stK (ps : List (List Nat)) : Nat → Nat
  | 0 => 1
  | i + 1 => stK ps i + (wayAt ps i).length
def markF (ps : List (List Nat)) (i : Nat) : Nat → Value := kmark (stK ps i)
theorem stK_le (ps : List (List Nat)) (h : ∀ i, i < ps.length → (wayAt ps i).length ≤ 8) : ∀ i, i ≤ ps.length → stK ps i ≤ 1 + 8 * i
  | 0, _ => by simp [stK]
  | i + 1, hi => by have := stK_le ps h i (by omega); have := h i (by omega); simp only [stK]; omega
set_option maxHeartbeats 800000 in
theorem markIntSS_any (lo hi : Nat) (ao : Option Addr) (cap : Nat) (ps : List (List Nat)) (f : Nat → Nat → Value) (w : World) (h20 : ps.length ≤ 20000000) (h8 : ∀ i, i < ps.length → (wayAt ps i).length ≤ 8) (h : Rw2 w lo hi ao ps f) :
    Calls Tryd.prog 39 #[.slice ao ps.length cap, .int .i64 1] w fun e w' => e = .returned (.int .i64 (stK ps ps.length : Int)) ∧ Rw2 w' lo hi ao ps (markF ps) ∧ Turned lo hi w w' := by
  have HST := hideP (stK_le ps h8)
  have H8 := hideP h8
  rcases h with rfl | ⟨G, gs, cs, rfl, hM⟩
  · clear H8 h8 HST h20
    go_enter Tryd.func39, Tryd.ntmps39
    go_wp2
    go_loopw [1, 5] (fun q i wr => q = .int .i64 1 ∧ i = .int .i64 0 ∧ Turned lo hi w wr) (fun _ i _ => 0)
    case atStart => exact ⟨rfl, rfl, Turned.refl _ _ _⟩
    case round =>
      obtain ⟨rfl, rfl, ht⟩ := hrel
      go_wp2
      go_ret
      exact ⟨rfl, Or.inl rfl, ht⟩
  clear h8
  have HM := hideP hM
  clear hM
  go_enter Tryd.func39, Tryd.ntmps39
  go_wp2
  go_loopw [1, 5] (fun q i wr => ∃ k : Nat, k ≤ ps.length ∧ i = .int .i64 k ∧ q = .int .i64 (stK ps k : Int) ∧ Mk wr lo hi G gs cs ps (fun i => if i < k then markF ps i else f i) ∧ Turned lo hi w wr) (fun _ i _ => ps.length - (intOf i).toNat)
  case atStart => exact ⟨0, Nat.zero_le _, rfl, rfl, ⟨HM.out.G0, HM.out.G1, HM.out.out, fun i hi => by simpa using HM.out.row i hi, HM.out.ne⟩, Turned.refl _ _ _⟩
  case round =>
    clear HM
    obtain ⟨k, hk, rfl, rfl, hM, ht⟩ := hrel
    have HM := hideP hM
    have HT := hideP ht
    clear hM ht
    by_cases hlt : k < ps.length
    · have hcell := HM.out.out.1 k hlt
      unfold rowV at hcell
      obtain ⟨g, hg⟩ : ∃ g, g = gs k := ⟨_, rfl⟩
      obtain ⟨m, hm⟩ : ∃ m, m = (wayAt ps k).length := ⟨_, rfl⟩
      obtain ⟨s, hs⟩ : ∃ s, s = stK ps k := ⟨_, rfl⟩
      have hs8 : s ≤ 400000000 := by rw [hs]; have := HST.out k hk; omega
      have hm8 : m ≤ 8 := by rw [hm]; exact H8.out k hlt
      have hrow := (HM.out.row k hlt).2.2.2
      rw [← hg, ← hm] at hcell hrow
      rw [← hs]
      have HROW := hideP hrow
      have HG := hideP hg
      have HMM := hideP hm
      have HSS := hideP hs
      have hk0 : (0 : Int) ≤ (k : Int) := by omega
      have hk1 : (k : Int) < (ps.length : Int) := by omega
      clear hrow hg hm hs
      go_wp2_with fail
      refine (markIntS_k g m _ s _ _ hm8 hs8 HROW.out).mono ?_
      rintro e w5 ⟨rfl, hO5, ht5⟩
      have M5 : Hid (Mk w5 lo hi G gs cs ps (fun i => if i < k + 1 then markF ps i else f i)) := by
        have hr := HM.out.row k hlt
        refine ⟨HM.out.G0, HM.out.G1, HM.out.out.turn ht5 (by have := hr.2.2.1; rw [← HG.out] at this; omega), fun i hi => ?_, HM.out.ne⟩
        have hi' := HM.out.row i hi
        refine ⟨hi'.1, hi'.2.1, hi'.2.2.1, ?_⟩
        by_cases e : i = k
        · subst e
          rw [if_pos (by omega), ← HG.out, ← HMM.out]
          unfold markF
          rw [← HSS.out]; exact hO5
        · have hne : gs i ≠ g := by
            rw [HG.out]
            rcases Nat.lt_or_gt_of_ne e with h | h
            · exact HM.out.ne i k h hlt
            · exact fun q => HM.out.ne k i h hi q.symm
          have hx := hi'.2.2.2.turn ht5 (by omega)
          by_cases h1 : i < k
          · rw [if_pos (by omega)]; simpa [h1] using hx
          · rw [if_neg (by omega)]; simpa [h1] using hx
      have T5 : Hid (Turned lo hi w w5) := by
        have hr := HM.out.row k hlt
        rw [← HG.out] at hr
        exact ⟨ht5.os.trans HT.out.os, ht5.tape.trans HT.out.tape, ht5.output.trans HT.out.output, Nat.le_trans HT.out.size ht5.size, fun i hi' ho' => (ht5.block i (Nat.lt_of_lt_of_le hi' HT.out.size) (by omega)).trans (HT.out.block i hi' ho')⟩
      have HQ : Hid ((s : Int) + (m : Int) = (stK ps (k + 1) : Int)) := by show _ = _; simp only [stK]; rw [← HSS.out, ← HMM.out]; omega
      clear hO5 ht5 HM HT HROW hcell
      go_wp2
      go_roundw
      case rel => exact ⟨k + 1, by omega, by go_num, by rw [HQ.out], M5.out, T5.out⟩
      case measure => simp [intOf]; omega
    · obtain rfl : k = ps.length := by omega
      have F : Hid (Rw2 wr lo hi (some ⟨G, 0, none⟩) ps (markF ps)) := Or.inr ⟨G, gs, cs, rfl, HM.out.G0, HM.out.G1, HM.out.out, fun i hi => by simpa [hi] using HM.out.row i hi, HM.out.ne⟩
      clear HM
      go_wp2
      go_ret
      exact ⟨rfl, F.out, HT.out⟩

end Go.Proofs.YtloicmngoaccoaaDoor

/- Rows of rows of numbers, held and compared as a whole. -/
namespace Go.Proofs.YtloicmngoaccoaaDoor
open Go.RowKit
set_option linter.unusedVariables false

set_option maxHeartbeats 800000 in
theorem heldIntSS_any (lo hi : Nat) (ao : Option Addr) (cap : Nat) (ps : List (List Nat)) (w : World) (h20 : ps.length ≤ 20000000) (h8 : ∀ i, i < ps.length → (wayAt ps i).length ≤ 8) (h : Rw2 w lo hi ao ps (markF ps)) :
    Calls Tryd.prog 40 #[.slice ao ps.length cap, .int .i64 1] w fun e w' => e = .returned (.int .i64 (stK ps ps.length : Int)) ∧ Below w.heap.size w w' := by
  have HST := hideP (stK_le ps h8)
  have H8 := hideP h8
  rcases h with rfl | ⟨G, gs, cs, rfl, hM⟩
  · clear H8 h8 HST h20
    go_enter Tryd.func40, Tryd.ntmps40
    go_wp2
    go_loopw [1, 5] (fun q i wr => q = .int .i64 1 ∧ i = .int .i64 0 ∧ Below w.heap.size w wr) (fun _ i _ => 0)
    case atStart => exact ⟨rfl, rfl, Below.refl _ _⟩
    case round =>
      obtain ⟨rfl, rfl, ht⟩ := hrel
      go_wp2
      go_ret
      exact ⟨rfl, ht⟩
  clear h8
  have HM := hideP hM
  clear hM
  go_enter Tryd.func40, Tryd.ntmps40
  go_wp2
  go_loopw [1, 5] (fun q i wr => ∃ k : Nat, k ≤ ps.length ∧ i = .int .i64 k ∧ q = .int .i64 (stK ps k : Int) ∧ Mk wr lo hi G gs cs ps (markF ps) ∧ Below w.heap.size w wr) (fun _ i _ => ps.length - (intOf i).toNat)
  case atStart => exact ⟨0, Nat.zero_le _, rfl, rfl, HM.out, Below.refl _ _⟩
  case round =>
    clear HM
    obtain ⟨k, hk, rfl, rfl, hM, ht⟩ := hrel
    have HM := hideP hM
    have HT := hideP ht
    clear hM ht
    by_cases hlt : k < ps.length
    · have hcell := HM.out.out.1 k hlt
      unfold rowV at hcell
      obtain ⟨g, hg⟩ : ∃ g, g = gs k := ⟨_, rfl⟩
      obtain ⟨m, hm⟩ : ∃ m, m = (wayAt ps k).length := ⟨_, rfl⟩
      obtain ⟨s, hs⟩ : ∃ s, s = stK ps k := ⟨_, rfl⟩
      have hs8 : s ≤ 400000000 := by rw [hs]; have := HST.out k hk; omega
      have hm8 : m ≤ 8 := by rw [hm]; exact H8.out k hlt
      have hrow := (HM.out.row k hlt).2.2.2
      unfold markF at hrow
      rw [← hg, ← hm] at hcell
      rw [← hg, ← hm, ← hs] at hrow
      rw [← hs]
      have HROW := hideP hrow
      have HMM := hideP hm
      have HSS := hideP hs
      have hk0 : (0 : Int) ≤ (k : Int) := by omega
      have hk1 : (k : Int) < (ps.length : Int) := by omega
      have hq0 : decide ((s : Int) + (m : Int) < 0) = false := by simp; omega
      clear hrow hg hm hs
      go_wp2_with fail
      refine (heldIntS_k g m _ s _ hm8 hs8 HROW.out).mono ?_
      rintro e w5 ⟨rfl, hb5⟩
      have M5 := hideP (HM.out.next hb5)
      have T5 := hideP (HT.out.trans (hb5.mono HT.out.size))
      have HQ : Hid ((s : Int) + (m : Int) = (stK ps (k + 1) : Int)) := by show _ = _; simp only [stK]; rw [← HSS.out, ← HMM.out]; omega
      clear hb5 HM HT HROW hcell
      go_wp2
      go_roundw
      case rel => exact ⟨k + 1, by omega, by go_num, by rw [HQ.out], M5.out, T5.out⟩
      case measure => simp [intOf]; omega
    · obtain rfl : k = ps.length := by omega
      clear HM
      go_wp2
      go_ret
      exact ⟨rfl, HT.out⟩
theorem eqIntSS_same (a1 a2 : Option Addr) (cap1 cap2 : Nat) (ps : List (List Nat)) (w : World) (h20 : ps.length ≤ 20000000) (h8 : ∀ i, i < ps.length → (ps.getD i []).length ≤ 8) (h1 : AllV w a1 ps) (h2 : AllV w a2 ps) :
    Calls Tryd.prog 36 #[.slice a1 ps.length cap1, .slice a2 ps.length cap2] w fun e w' => e = .returned (.bool true) ∧ Below w.heap.size w w' := by
  have H1 := hideP h1
  have H2 := hideP h2
  have H8 := hideP h8
  obtain ⟨n, hn⟩ : ∃ n, n = ps.length := ⟨_, rfl⟩
  have HN := hideP hn
  rw [← hn] at h20 ⊢
  clear h1 h2 h8 hn
  go_enter Tryd.func36, Tryd.ntmps36
  go_wp2
  go_loopw [5] (fun i wr => ∃ k : Nat, k ≤ n ∧ i = .int .i64 k ∧ AllV wr a1 ps ∧ AllV wr a2 ps ∧ Below w.heap.size w wr) (fun i _ => n - (intOf i).toNat)
  case atStart => exact ⟨0, Nat.zero_le _, rfl, H1.out, H2.out, Below.refl _ _⟩
  case round =>
    clear H1 H2
    obtain ⟨k, hk, rfl, hA, hB, hbr⟩ := hrel
    have HA := hideP hA
    have HB := hideP hB
    have HBR := hideP hbr
    clear hA hB hbr
    by_cases hlt : k < n
    · have hk' : k < ps.length := by have := HN.out; omega
      obtain ⟨g1, o1, r1, k1, rfl, l1, d1, e1⟩ := HA.out.at' k hk'
      obtain ⟨g2, o2, r2, k2, rfl, l2, d2, e2⟩ := HB.out.at' k hk'
      obtain ⟨q, hq⟩ : ∃ q, q = ps.getD k [] := ⟨_, rfl⟩
      have hq8 : q.length ≤ 8 := by rw [hq]; exact H8.out k hk'
      rw [← hq] at d1 d2 e1 e2
      have R1 := hideP e1
      have R2 := hideP e2
      have hk0 : (0 : Int) ≤ (k : Int) := by omega
      have hk1 : (k : Int) < (n : Int) := by omega
      clear e1 e2 hk' hq
      have HAd := hideP (HA.out.next (Below.refl _ _).drew)
      have HBd := hideP (HB.out.next (Below.refl _ _).drew)
      have R1d := hideP (R1.out.next (Below.refl _ _).drew)
      have R2d := hideP (R2.out.next (Below.refl _ _).drew)
      have HBRd := hideP HBR.out.drew
      clear HA HB R1 R2 HBR
      go_wp2
      go_region_held3 (fun w' => w'.cell? ⟨g1, o1 + k, none⟩ = some (.slice (some ⟨r1, 0, none⟩) q.length k1) ∧ w'.cell? ⟨g2, o2 + k, none⟩ = some (.slice (some ⟨r2, 0, none⟩) q.length k2)) (first | exact ⟨d16, d26⟩ | exact ⟨d1, d2⟩) (first | (go_at_call 74; refine (eqIntS_row _ _ _ _ q.length (pn q) _ (by omega) R1d.out R2d.out).mono ?_; rintro e w6 ⟨rfl, hb6⟩; have A6 := hideP (HAd.out.next hb6); have B6 := hideP (HBd.out.next hb6); have HB6 := hideP (HBRd.out.trans (hb6.mono HBRd.out.size)); have d16 : w6.cell? ⟨g1, o1 + k, none⟩ = some (.slice (some ⟨r1, 0, none⟩) q.length k1) := ((hb6.cell (p := ⟨g1, o1 + k, none⟩) l1).trans d1); have d26 : w6.cell? ⟨g2, o2 + k, none⟩ = some (.slice (some ⟨r2, 0, none⟩) q.length k2) := ((hb6.cell (p := ⟨g2, o2 + k, none⟩) l2).trans d2); clear hb6))
      go_wp2
      go_roundw
      case rel => exact ⟨k + 1, by omega, by go_num, A6.out, B6.out, HB6.out⟩
      case measure => simp [intOf]; omega
    · obtain rfl : k = n := by omega
      go_wp2
      go_ret
      exact ⟨rfl, HBR.out⟩


end Go.Proofs.YtloicmngoaccoaaDoor
