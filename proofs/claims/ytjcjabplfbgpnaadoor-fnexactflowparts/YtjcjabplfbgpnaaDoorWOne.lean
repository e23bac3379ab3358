/- Walk of impl.onePart; which bridge parts two knots. -/
import Derived.Test.YtjcjabplfbgpnaaDoorPartMathE
import Derived.Test.YtjcjabplfbgpnaaDoorWBridgeI
import Derived.Test.YtjcjabplfbgpnaaDoorPartWForest
import Derived.Test.YtjcjabplfbgpnaaDoorPartWReach2
import Derived.Test.YtjcjabplfbgpnaaDoorWCut
namespace Go.Proofs.YtjcjabplfbgpnaaDoor
open Go.RowKit
set_option linter.unusedVariables false

set_option maxHeartbeats 400000 in
theorem onePart_any (K : Int) (ts : List (Int × Int)) (x y : Nat) (w : World) (hT : Tab w) (hok : okB K ts = true) (hx : x < 8) (hy : y < 8) :
    Calls Tryd.prog 33 #[.int .u64 ((setN K ts : Nat) : Int), .int .i64 (x : Int), .int .i64 (y : Int)] w fun e w' => e = .returned (.bool (reachB ts x y)) ∧ Below w.heap.size w w' := by
  have HR : Hid (reachB ts x y = decide (top (forest ts ts.length) y = top (forest ts ts.length) x)) := rfl
  obtain ⟨r, hr⟩ : ∃ r, r = reachB ts x y := ⟨_, rfl⟩
  rw [← hr] at HR ⊢
  clear hr
  go_enter Tryd.func33, Tryd.ntmps33
  go_wp2_with fail
  refine (forestOf_ok K ts _ hT hok).mono ?_
  rintro e w1 ⟨rfl, hb1⟩
  obtain ⟨f, hf⟩ : ∃ f, f = forest ts ts.length := ⟨_, rfl⟩
  have HLow : Hid (Low f) := by show Low f; rw [hf]; exact forest_low ts _
  rw [← hf] at HR ⊢
  clear hf
  unfold forestV
  have FO := hideP (fun t => forest_own w1 f t)
  have BO := hideP (fun t => hb1.trans ((below_one w1 (.cells #[.int .i64 ((f 0 : Nat) : Int), .int .i64 ((f 1 : Nat) : Int), .int .i64 ((f 2 : Nat) : Int), .int .i64 ((f 3 : Nat) : Int), .int .i64 ((f 4 : Nat) : Int), .int .i64 ((f 5 : Nat) : Int), .int .i64 ((f 6 : Nat) : Int), .int .i64 ((f 7 : Nat) : Int)] t)).mono hb1.size))
  clear hb1
  go_wp2_with fail
  refine (least_any w1.heap.size f x _ (FO.out _) HLow.out hx).mono ?_
  rintro e w2 ⟨rfl, rfl⟩
  go_wp2_with fail
  refine (least_any w1.heap.size f y _ (FO.out _) HLow.out hy).mono ?_
  rintro e w3 ⟨rfl, rfl⟩
  have HV : Hid ((((top f x : Nat) : Int) == ((top f y : Nat) : Int)) = r) := by
    show (((top f x : Nat) : Int) == ((top f y : Nat) : Int)) = r
    rw [HR.out]
    by_cases e : top f y = top f x
    · rw [e]; simp
    · rw [decide_eq_false e, beq_eq_false_iff_ne]; omega
  go_wp2
  go_ret
  exact ⟨congrArg (fun b => Ending.returned (Value.bool b)) HV.out, (BO.out _)⟩

def apB (K : Int) (ts : List (Int × Int)) (a b : Int) (t : Int × Int) : Bool := !reachB (cutTs K ts t.1 t.2) a.toNat b.toNat
def apGo (K : Int) (ts : List (Int × Int)) (a b : Int) : Bool := okB K ts && knotB a K && knotB b K && reachB ts a.toNat b.toNat
/-- the first bridge that parts two knots -/
def apT (K : Int) (ts : List (Int × Int)) (a b : Int) : Option (Int × Int) := if apGo K ts a b = true then (brTs K ts).find? (apB K ts a b) else none
theorem apT_no {K : Int} {ts : List (Int × Int)} {a b : Int} (h : apGo K ts a b = false) : apT K ts a b = none := if_neg (by simp [h])
theorem apT_at {K : Int} {ts : List (Int × Int)} {a b : Int} (h : apGo K ts a b = true) {k : Nat} (hk : k < (brTs K ts).length) (hp : ∀ j, j < k → apB K ts a b (tA (brTs K ts) j, tB (brTs K ts) j) = false) (hy : apB K ts a b (tA (brTs K ts) k, tB (brTs K ts) k) = true) : apT K ts a b = some (tA (brTs K ts) k, tB (brTs K ts) k) := by
  unfold apT
  rw [if_pos h, List.find?_eq_some_iff_getElem]
  refine ⟨hy, k, hk, by rw [tA_get _ _ hk, tB_get _ _ hk], fun j hj => ?_⟩
  have := hp j hj
  rw [tA_get _ _ (by omega), tB_get _ _ (by omega)] at this
  simp only [this, Bool.not_false]
theorem apT_end {K : Int} {ts : List (Int × Int)} {a b : Int} (hp : ∀ j, j < (brTs K ts).length → apB K ts a b (tA (brTs K ts) j, tB (brTs K ts) j) = false) : apT K ts a b = none := by
  unfold apT
  split
  · rw [List.find?_eq_none]
    intro t ht
    obtain ⟨j, hj, e⟩ := List.mem_iff_getElem.1 ht
    have := hp j hj
    rw [tA_get _ _ hj, tB_get _ _ hj] at this
    rw [← e, this]; simp
  · rfl
/-- a bridge cut from the set -/
theorem set_cut {K : Int} {ts : List (Int × Int)} {a b : Int} (h : hasB K ts a b = true) : strike (setN K ts) (pbit a b) = setN K (cutTs K ts a b) := by
  have hC := cutOut (show cutB K ts a b = true from h)
  rw [setN_yes hC.ok, cutTs_yes (show cutB K ts a b = true from h)]
  exact (cut_good h).2.2.is

end Go.Proofs.YtjcjabplfbgpnaaDoor
