/- Walk of laws.FnWayOk: it returns true. -/
import Derived.Test.YtljnjpjnadlmhaaWDrawW
import Derived.Test.YtljnjpjnadlmhaaWBack
import Derived.Test.YtljnjpjnadlmhaaPartWWayOk2
import Derived.Test.YtljnjpjnadlmhaaPartMathR
import Derived.Test.YtljnjpjnadlmhaaPartWSpecOk
import Derived.Test.YtljnjpjnadlmhaaPartWReach
import Derived.Deep.RegionWith
import Derived.Deep.RegionHeld3
namespace Go.Proofs.Ytljnjpjnadlmhaa
open Go.RowKit
set_option linter.unusedVariables false

/-- a net in a variable, and a row of numbers -/
structure NetW (w : World) (A : Nat) (K : Int) (ao : Option Addr) (cap : Nat) (ts : List (Int × Int)) (g off : Nat) (xs : List Int) : Prop where
  c0 : w.cell? ⟨A, 0, none⟩ = some (.int .i64 K)
  c1 : w.cell? ⟨A, 1, none⟩ = some (.slice ao ts.length cap)
  lt : A < w.heap.size
  ties : TiesIn w w.heap.size ao ts
  ints : IntsIn w w.heap.size (some ⟨g, off, none⟩) xs
theorem NetW.next {w w' : World} {A : Nat} {K : Int} {ao : Option Addr} {cap : Nat} {ts : List (Int × Int)} {g off : Nat} {xs : List Int} (h : NetW w A K ao cap ts g off xs) (hb : Below w.heap.size w w') : NetW w' A K ao cap ts g off xs :=
  ⟨(hb.cell (p := ⟨A, 0, none⟩) h.lt).trans h.c0, (hb.cell (p := ⟨A, 1, none⟩) h.lt).trans h.c1, Nat.lt_of_lt_of_le h.lt hb.size, (h.ties.below hb (Nat.le_refl _)).wide hb.size, (h.ints.below hb (Nat.le_refl _)).wide hb.size⟩
theorem NetW.new {w : World} {K : Int} {ao : Option Addr} {cap : Nat} {ts : List (Int × Int)} {g off : Nat} {xs : List Int} (t : TypeId) (h : TiesIn w w.heap.size ao ts) (k : IntsIn w w.heap.size (some ⟨g, off, none⟩) xs) : NetW (w.alloc (.cells #[.int .i64 K, .slice ao ts.length cap] t)) w.heap.size K ao cap ts g off xs :=
  ⟨by simp, by simp, by simp, (h.below (below_one _ _) (Nat.le_refl _)).wide (by simp), (k.below (below_one _ _) (Nat.le_refl _)).wide (by simp)⟩
theorem implWayOk_v (v : Bool) (K : Int) (ao bo : Option Addr) (cap cap2 n : Nat) (ts : List (Int × Int)) (xs : List Int) (w : World) (hn : ts.length ≤ 1099511627776) (ht : TiesIn w w.heap.size ao ts) (hl : xs.length = n) (hxn : n ≤ 1099511627776) (hcap : n ≤ cap2) (hx : IntsIn w w.heap.size bo xs) (h : wayB K ts xs = v) :
    Calls Try.prog 52 #[.agg #[.int .i64 K, .slice ao ts.length cap], .slice bo n cap2] w fun e w' => e = .returned (.bool v) ∧ Below w.heap.size w w' := by
  subst hl; rw [← h]; exact implWayOk_any K ao bo cap cap2 ts xs w hn ht hxn hcap hx
theorem specWayOk_v (v : Bool) (K : Int) (ao bo : Option Addr) (cap cap2 n : Nat) (ts : List (Int × Int)) (xs : List Int) (w : World) (hn : ts.length ≤ 1099511627776) (ht : TiesIn w w.heap.size ao ts) (hl : xs.length = n) (hxn : n ≤ 1099511627776) (hcap : n ≤ cap2) (hx : IntsIn w w.heap.size bo xs) (h : wayB K ts xs = v) :
    Calls Try.prog 56 #[.agg #[.int .i64 K, .slice ao ts.length cap], .slice bo n cap2] w fun e w' => e = .returned (.bool v) ∧ Below w.heap.size w w' := by
  subst hl; rw [← h]; exact specWayOk_any K ao bo cap cap2 ts xs w hn ht hxn hcap hx

theorem loBack_v (ao : Option Addr) (cap n : Nat) (xs : List Int) (w : World) (hl : xs.length = n) (hn : n ≤ 900) (hx : IntsIn w w.heap.size ao xs) :
    Calls Try.prog 10 #[.slice ao n cap] w fun e w' => ∃ g off cap', e = .returned (.slice (some ⟨g, off, none⟩) n cap') ∧ RowZ w' w.heap.size g off cap' xs.reverse ∧ n ≤ cap' ∧ IntsIn w' w'.heap.size (some ⟨g, off, none⟩) xs.reverse ∧ Below w.heap.size w w' := by
  subst hl
  refine (loBack_any ao cap xs w hn hx).mono ?_
  rintro e w' ⟨g, off, cap', rfl, hr, hb⟩
  exact ⟨g, off, cap', rfl, hr, by have := hr.len; simpa using this, hr.ints hr.lt, hb⟩

theorem ints_drop {w : World} {B g off k : Nat} {xs : List Int} (h : IntsIn w B (some ⟨g, off, none⟩) xs) : IntsIn w B (some ⟨g, off + k, none⟩) (xs.drop k) := by
  intro j hj
  rw [List.length_drop] at hj
  obtain ⟨b, o, e, hb, c⟩ := h (k + j) (by omega)
  cases e
  exact ⟨g, off + k, rfl, hb, by rw [xi_drop, show off + k + j = off + (k + j) by omega]; exact c⟩
theorem ints_take {w : World} {B g off k : Nat} {xs : List Int} (h : IntsIn w B (some ⟨g, off, none⟩) xs) : IntsIn w B (some ⟨g, off, none⟩) (xs.take k) := by
  intro j hj
  rw [List.length_take] at hj
  obtain ⟨b, o, e, hb, c⟩ := h j (by omega)
  cases e
  exact ⟨g, off, rfl, hb, by rw [xi_take (by omega)]; exact c⟩

end Go.Proofs.Ytljnjpjnadlmhaa
