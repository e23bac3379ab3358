/- What the exact laws carry along: nets in variables, what came in; the answers of NetAdd in one form. -/
import Derived.Test.YtkbcaffhdaoalaaDoorWMark
import Derived.Test.YtkbcaffhdaoalaaDoorWSpecAdd
namespace Go.Proofs.YtkbcaffhdaoalaaDoor
open Go.RowKit
set_option linter.unusedVariables false

/-- a net in a variable of the call's: its block, its row -/
structure VarAt (w : World) (A : Nat) (K : Int) (lo hi : Nat) (ao : Option Addr) (n cap : Nat) (f : Nat → Value) : Prop where
  c0 : w.cell? ⟨A, 0, none⟩ = some (.int .i64 K)
  c1 : w.cell? ⟨A, 1, none⟩ = some (.slice ao n cap)
  lt : A < w.heap.size
  own : OwnN w lo hi ao n f
theorem VarAt.next {w w' : World} {A : Nat} {K : Int} {lo hi : Nat} {ao : Option Addr} {n cap : Nat} {f : Nat → Value} (h : VarAt w A K lo hi ao n cap f) (hb : Below w.heap.size w w') : VarAt w' A K lo hi ao n cap f :=
  ⟨(hb.cell (p := ⟨A, 0, none⟩) h.lt).trans h.c0, (hb.cell (p := ⟨A, 1, none⟩) h.lt).trans h.c1, Nat.lt_of_lt_of_le h.lt hb.size, h.own.next hb⟩
theorem VarAt.aside {w w' : World} {A : Nat} {K : Int} {lo hi l h : Nat} {ao : Option Addr} {n cap : Nat} {f : Nat → Value} (hv : VarAt w A K lo hi ao n cap f) (ht : Turned l h w w') (hA : A < l ∨ h ≤ A) (hr : hi ≤ l ∨ h ≤ lo) : VarAt w' A K lo hi ao n cap f :=
  ⟨(ht.cell (p := ⟨A, 0, none⟩) hv.lt hA).trans hv.c0, (ht.cell (p := ⟨A, 1, none⟩) hv.lt hA).trans hv.c1, Nat.lt_of_lt_of_le hv.lt ht.size, hv.own.aside ht hr⟩
/-- the variable's own row was written -/
theorem VarAt.marked {w w' : World} {A : Nat} {K : Int} {lo hi l h : Nat} {ao : Option Addr} {n cap : Nat} {f f' : Nat → Value} (hv : VarAt w A K lo hi ao n cap f) (ht : Turned l h w w') (hA : A < l ∨ h ≤ A) (ho : OwnN w' lo hi ao n f') : VarAt w' A K lo hi ao n cap f' :=
  ⟨(ht.cell (p := ⟨A, 0, none⟩) hv.lt hA).trans hv.c0, (ht.cell (p := ⟨A, 1, none⟩) hv.lt hA).trans hv.c1, Nat.lt_of_lt_of_le hv.lt ht.size, ho⟩
theorem VarAt.made {w : World} {K : Int} {lo hi : Nat} {ao : Option Addr} {n cap : Nat} {f : Nat → Value} (t : TypeId) (ho : OwnN w lo hi ao n f) : VarAt (w.alloc (.cells #[.int .i64 K, .slice ao n cap] t)) w.heap.size K lo hi ao n cap f :=
  ⟨by simp, by simp, by simp, ho.next (below_one _ _)⟩
/-- what came in: its box, its ties, the library's table; all that was there is as it was -/
structure Came (w wr : World) (K : Int) (ao : Option Addr) (cap : Nat) (ts : List (Int × Int)) : Prop where
  c0 : wr.cell? ⟨w.heap.size, 0, none⟩ = some (.int .i64 K)
  c1 : wr.cell? ⟨w.heap.size, 1, none⟩ = some (.slice ao ts.length cap)
  lt : w.heap.size < wr.heap.size
  ties : TiesIn wr w.heap.size ao ts
  tab : Tab wr
  bel : Below w.heap.size w wr
theorem Came.next {w wr w' : World} {K : Int} {ao : Option Addr} {cap : Nat} {ts : List (Int × Int)} (h : Came w wr K ao cap ts) (hb : Below wr.heap.size wr w') : Came w w' K ao cap ts :=
  ⟨(hb.cell (p := ⟨w.heap.size, 0, none⟩) h.lt).trans h.c0, (hb.cell (p := ⟨w.heap.size, 1, none⟩) h.lt).trans h.c1, Nat.lt_of_lt_of_le h.lt hb.size, h.ties.below hb (Nat.le_of_lt h.lt), h.tab.below hb h.tab.2, h.bel.trans (hb.mono h.bel.size)⟩
theorem Came.aside {w wr w' : World} {K : Int} {ao : Option Addr} {cap : Nat} {ts : List (Int × Int)} {l h : Nat} (hc : Came w wr K ao cap ts) (ht : Turned l h wr w') (hl : w.heap.size < l) (hT : 0 < w.heap.size) : Came w w' K ao cap ts := by
  have hb : Below w.heap.size wr w' := ⟨ht.os, ht.tape, ht.output, ht.size, fun k hk => ht.block k (by have := hc.lt; omega) (by omega)⟩
  exact ⟨(ht.cell (p := ⟨w.heap.size, 0, none⟩) hc.lt (Or.inl hl)).trans hc.c0, (ht.cell (p := ⟨w.heap.size, 1, none⟩) hc.lt (Or.inl hl)).trans hc.c1, Nat.lt_of_lt_of_le hc.lt ht.size, hc.ties.below hb (Nat.le_refl _), hc.tab.below hb hT, hc.bel.trans hb⟩
theorem Came.start {w w1 : World} {K : Int} {ao : Option Addr} {cap : Nat} {ts : List (Int × Int)} {t : TypeId} (ht : TiesIn w w.heap.size ao ts) (hT : Tab w)
    (hb : Below (w.alloc (.cells #[.int .i64 K, .slice ao ts.length cap] t)).heap.size (w.alloc (.cells #[.int .i64 K, .slice ao ts.length cap] t)) w1) : Came w w1 K ao cap ts := by
  have hb' : Below (w.heap.size + 1) (w.alloc (.cells #[.int .i64 K, .slice ao ts.length cap] t)) w1 := by simpa using hb
  have hB : Below w.heap.size w w1 := (below_one _ _).trans (hb'.mono (by omega))
  exact ⟨(hb'.cell (p := ⟨w.heap.size, 0, none⟩) (by simp)).trans (by simp), (hb'.cell (p := ⟨w.heap.size, 1, none⟩) (by simp)).trans (by simp), by have := hb'.size; simp at this; omega, ht.below hB (Nat.le_refl _), hT.below hB hT.2, hB⟩

def addK (K : Int) (ts : List (Int × Int)) (a b : Int) : Int := if addB K ts a b = true then K else 0
def addTs (K : Int) (ts : List (Int × Int)) (a b : Int) : List (Int × Int) := if addB K ts a b = true then ins (tieOf a b) ts else []
theorem addTs_len (K : Int) (ts : List (Int × Int)) (a b : Int) : (addTs K ts a b).length ≤ 65 := by
  unfold addTs
  split
  · rename_i h
    obtain ⟨hok, _⟩ := addB_yes h
    have := ok_short (okB_iff.1 hok)
    rw [ins_length]; omega
  · simp
theorem netAdd_all (K : Int) (ao : Option Addr) (cap : Nat) (ts : List (Int × Int)) (a b : Int) (w : World) (hn : ts.length ≤ 1099511627776) (ht : TiesIn w w.heap.size ao ts) (hT : Tab w) :
    Calls Tryd.prog 13 #[.agg #[.int .i64 K, .slice ao ts.length cap], .int .i64 a, .int .i64 b] w fun e w' => ∃ ao' cap', e = .returned (.tuple #[.agg #[.int .i64 (addK K ts a b), .slice ao' (addTs K ts a b).length cap'], .bool (addB K ts a b)]) ∧
      OwnN w' w.heap.size w'.heap.size ao' (addTs K ts a b).length (tcell (addTs K ts a b)) ∧ Below w.heap.size w w' := by
  cases h : addB K ts a b
  · refine (netAdd_no K ao cap ts a b w hn ht h).mono ?_
    rintro e w' ⟨rfl, hb⟩
    exact ⟨none, 0, by simp [addK, addTs, h], Or.inl ⟨by simp [addTs, h], rfl⟩, hb⟩
  · refine (netAdd_yes K ao cap ts a b w hn ht hT h).mono ?_
    rintro e w' ⟨ao', cap', rfl, ho, hb⟩
    refine ⟨ao', cap', by simp [addK, addTs, h], ?_, hb⟩
    have e : addTs K ts a b = ins (tieOf a b) ts := by simp [addTs, h]
    rw [e]; exact OwnN.of_row ho
theorem specAdd_all (K : Int) (ao : Option Addr) (cap : Nat) (ts : List (Int × Int)) (a b : Int) (w : World) (hn : ts.length ≤ 1099511627776) (ht : TiesIn w w.heap.size ao ts) :
    Calls Tryd.prog 12 #[.agg #[.int .i64 K, .slice ao ts.length cap], .int .i64 a, .int .i64 b] w fun e w' => ∃ ao' cap', e = .returned (.tuple #[.agg #[.int .i64 (addK K ts a b), .slice ao' (addTs K ts a b).length cap'], .bool (addB K ts a b)]) ∧
      OwnN w' w.heap.size w'.heap.size ao' (addTs K ts a b).length (tcell (addTs K ts a b)) ∧ Below w.heap.size w w' := by
  cases h : addB K ts a b
  · refine (specAdd_no K ao cap ts a b w hn ht h).mono ?_
    rintro e w' ⟨rfl, hb⟩
    exact ⟨none, 0, by simp [addK, addTs, h], Or.inl ⟨by simp [addTs, h], rfl⟩, hb⟩
  · refine (specAdd_yes K ao cap ts a b w hn ht h).mono ?_
    rintro e w' ⟨ao', cap', rfl, ho, hb⟩
    refine ⟨ao', cap', by simp [addK, addTs, h], ?_, hb⟩
    have e : addTs K ts a b = ins (tieOf a b) ts := by simp [addTs, h]
    rw [e]; exact OwnN.of_row ho

end Go.Proofs.YtkbcaffhdaoalaaDoor
