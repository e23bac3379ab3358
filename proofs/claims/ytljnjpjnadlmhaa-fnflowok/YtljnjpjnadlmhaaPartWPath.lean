/- Texts put together: WPath, MathW. -/
import Derived.Test.YtljnjpjnadlmhaaPartWInts
import Derived.Test.YtljnjpjnadlmhaaPartWSpecOk
/- Ways as values: walks of impl.path.with, end, has, canGo. -/
namespace Go.Proofs.Ytljnjpjnadlmhaa
open Go.RowKit
set_option linter.unusedVariables false

/-- a way of at most eight knots as a value: eight places, and how many count -/
def pathV (l : List Int) : Value := .agg #[.int .i64 (xi l 0), .int .i64 (xi l 1), .int .i64 (xi l 2), .int .i64 (xi l 3), .int .i64 (xi l 4), .int .i64 (xi l 5), .int .i64 (xi l 6), .int .i64 (xi l 7), .int .i64 (l.length : Int)]
def lastI (l : List Int) : Int := xi l (l.length - 1)
theorem len_lt8 {l : List Int} (h : l.length < 8) : l = [] ∨ (∃ a, l = [a]) ∨ (∃ a b, l = [a, b]) ∨ (∃ a b c, l = [a, b, c]) ∨ (∃ a b c d, l = [a, b, c, d]) ∨ (∃ a b c d e, l = [a, b, c, d, e]) ∨ (∃ a b c d e f, l = [a, b, c, d, e, f]) ∨ (∃ a b c d e f g, l = [a, b, c, d, e, f, g]) := by
  rcases l with _ | ⟨a, l⟩
  · simp
  rcases l with _ | ⟨b, l⟩
  · simp
  rcases l with _ | ⟨c, l⟩
  · simp
  rcases l with _ | ⟨d, l⟩
  · simp
  rcases l with _ | ⟨e, l⟩
  · simp
  rcases l with _ | ⟨f, l⟩
  · simp
  rcases l with _ | ⟨g, l⟩
  · simp
  rcases l with _ | ⟨k, l⟩
  · simp
  · simp at h; omega
set_option maxHeartbeats 400000 in
theorem pwith0 (k : Int) (w : World) : Calls Try.prog 65 #[.agg #[.int .i64 0, .int .i64 0, .int .i64 0, .int .i64 0, .int .i64 0, .int .i64 0, .int .i64 0, .int .i64 0, .int .i64 0], .int .i64 k] w fun x w' => x = .returned (.agg #[.int .i64 k, .int .i64 0, .int .i64 0, .int .i64 0, .int .i64 0, .int .i64 0, .int .i64 0, .int .i64 0, .int .i64 1]) ∧ Below w.heap.size w w' := by
  go_enter Try.func65, Try.ntmps65
  go_wp2
  refine bodyPost_ret (v := .agg #[.int .i64 k, .int .i64 0, .int .i64 0, .int .i64 0, .int .i64 0, .int .i64 0, .int .i64 0, .int .i64 0, .int .i64 1]) (by simp [results, Try.results65, go_sem]) rfl ⟨rfl, ?_⟩
  repeat (first | exact below_two _ _ _ | exact below_one _ _ | refine Below.setCell ?_ (by simp) _)
set_option maxHeartbeats 400000 in
theorem pwith1 (a k : Int) (w : World) : Calls Try.prog 65 #[.agg #[.int .i64 a, .int .i64 0, .int .i64 0, .int .i64 0, .int .i64 0, .int .i64 0, .int .i64 0, .int .i64 0, .int .i64 1], .int .i64 k] w fun x w' => x = .returned (.agg #[.int .i64 a, .int .i64 k, .int .i64 0, .int .i64 0, .int .i64 0, .int .i64 0, .int .i64 0, .int .i64 0, .int .i64 2]) ∧ Below w.heap.size w w' := by
  go_enter Try.func65, Try.ntmps65
  go_wp2
  refine bodyPost_ret (v := .agg #[.int .i64 a, .int .i64 k, .int .i64 0, .int .i64 0, .int .i64 0, .int .i64 0, .int .i64 0, .int .i64 0, .int .i64 2]) (by simp [results, Try.results65, go_sem]) rfl ⟨rfl, ?_⟩
  repeat (first | exact below_two _ _ _ | exact below_one _ _ | refine Below.setCell ?_ (by simp) _)
set_option maxHeartbeats 400000 in
theorem pwith2 (a b k : Int) (w : World) : Calls Try.prog 65 #[.agg #[.int .i64 a, .int .i64 b, .int .i64 0, .int .i64 0, .int .i64 0, .int .i64 0, .int .i64 0, .int .i64 0, .int .i64 2], .int .i64 k] w fun x w' => x = .returned (.agg #[.int .i64 a, .int .i64 b, .int .i64 k, .int .i64 0, .int .i64 0, .int .i64 0, .int .i64 0, .int .i64 0, .int .i64 3]) ∧ Below w.heap.size w w' := by
  go_enter Try.func65, Try.ntmps65
  go_wp2
  refine bodyPost_ret (v := .agg #[.int .i64 a, .int .i64 b, .int .i64 k, .int .i64 0, .int .i64 0, .int .i64 0, .int .i64 0, .int .i64 0, .int .i64 3]) (by simp [results, Try.results65, go_sem]) rfl ⟨rfl, ?_⟩
  repeat (first | exact below_two _ _ _ | exact below_one _ _ | refine Below.setCell ?_ (by simp) _)
set_option maxHeartbeats 400000 in
theorem pwith3 (a b c k : Int) (w : World) : Calls Try.prog 65 #[.agg #[.int .i64 a, .int .i64 b, .int .i64 c, .int .i64 0, .int .i64 0, .int .i64 0, .int .i64 0, .int .i64 0, .int .i64 3], .int .i64 k] w fun x w' => x = .returned (.agg #[.int .i64 a, .int .i64 b, .int .i64 c, .int .i64 k, .int .i64 0, .int .i64 0, .int .i64 0, .int .i64 0, .int .i64 4]) ∧ Below w.heap.size w w' := by
  go_enter Try.func65, Try.ntmps65
  go_wp2
  refine bodyPost_ret (v := .agg #[.int .i64 a, .int .i64 b, .int .i64 c, .int .i64 k, .int .i64 0, .int .i64 0, .int .i64 0, .int .i64 0, .int .i64 4]) (by simp [results, Try.results65, go_sem]) rfl ⟨rfl, ?_⟩
  repeat (first | exact below_two _ _ _ | exact below_one _ _ | refine Below.setCell ?_ (by simp) _)
set_option maxHeartbeats 400000 in
theorem pwith4 (a b c d k : Int) (w : World) : Calls Try.prog 65 #[.agg #[.int .i64 a, .int .i64 b, .int .i64 c, .int .i64 d, .int .i64 0, .int .i64 0, .int .i64 0, .int .i64 0, .int .i64 4], .int .i64 k] w fun x w' => x = .returned (.agg #[.int .i64 a, .int .i64 b, .int .i64 c, .int .i64 d, .int .i64 k, .int .i64 0, .int .i64 0, .int .i64 0, .int .i64 5]) ∧ Below w.heap.size w w' := by
  go_enter Try.func65, Try.ntmps65
  go_wp2
  refine bodyPost_ret (v := .agg #[.int .i64 a, .int .i64 b, .int .i64 c, .int .i64 d, .int .i64 k, .int .i64 0, .int .i64 0, .int .i64 0, .int .i64 5]) (by simp [results, Try.results65, go_sem]) rfl ⟨rfl, ?_⟩
  repeat (first | exact below_two _ _ _ | exact below_one _ _ | refine Below.setCell ?_ (by simp) _)
set_option maxHeartbeats 400000 in
theorem pwith5 (a b c d e k : Int) (w : World) : Calls Try.prog 65 #[.agg #[.int .i64 a, .int .i64 b, .int .i64 c, .int .i64 d, .int .i64 e, .int .i64 0, .int .i64 0, .int .i64 0, .int .i64 5], .int .i64 k] w fun x w' => x = .returned (.agg #[.int .i64 a, .int .i64 b, .int .i64 c, .int .i64 d, .int .i64 e, .int .i64 k, .int .i64 0, .int .i64 0, .int .i64 6]) ∧ Below w.heap.size w w' := by
  go_enter Try.func65, Try.ntmps65
  go_wp2
  refine bodyPost_ret (v := .agg #[.int .i64 a, .int .i64 b, .int .i64 c, .int .i64 d, .int .i64 e, .int .i64 k, .int .i64 0, .int .i64 0, .int .i64 6]) (by simp [results, Try.results65, go_sem]) rfl ⟨rfl, ?_⟩
  repeat (first | exact below_two _ _ _ | exact below_one _ _ | refine Below.setCell ?_ (by simp) _)
set_option maxHeartbeats 400000 in
theorem pwith6 (a b c d e f k : Int) (w : World) : Calls Try.prog 65 #[.agg #[.int .i64 a, .int .i64 b, .int .i64 c, .int .i64 d, .int .i64 e, .int .i64 f, .int .i64 0, .int .i64 0, .int .i64 6], .int .i64 k] w fun x w' => x = .returned (.agg #[.int .i64 a, .int .i64 b, .int .i64 c, .int .i64 d, .int .i64 e, .int .i64 f, .int .i64 k, .int .i64 0, .int .i64 7]) ∧ Below w.heap.size w w' := by
  go_enter Try.func65, Try.ntmps65
  go_wp2
  refine bodyPost_ret (v := .agg #[.int .i64 a, .int .i64 b, .int .i64 c, .int .i64 d, .int .i64 e, .int .i64 f, .int .i64 k, .int .i64 0, .int .i64 7]) (by simp [results, Try.results65, go_sem]) rfl ⟨rfl, ?_⟩
  repeat (first | exact below_two _ _ _ | exact below_one _ _ | refine Below.setCell ?_ (by simp) _)
set_option maxHeartbeats 400000 in
theorem pwith7 (a b c d e f g k : Int) (w : World) : Calls Try.prog 65 #[.agg #[.int .i64 a, .int .i64 b, .int .i64 c, .int .i64 d, .int .i64 e, .int .i64 f, .int .i64 g, .int .i64 0, .int .i64 7], .int .i64 k] w fun x w' => x = .returned (.agg #[.int .i64 a, .int .i64 b, .int .i64 c, .int .i64 d, .int .i64 e, .int .i64 f, .int .i64 g, .int .i64 k, .int .i64 8]) ∧ Below w.heap.size w w' := by
  go_enter Try.func65, Try.ntmps65
  go_wp2
  refine bodyPost_ret (v := .agg #[.int .i64 a, .int .i64 b, .int .i64 c, .int .i64 d, .int .i64 e, .int .i64 f, .int .i64 g, .int .i64 k, .int .i64 8]) (by simp [results, Try.results65, go_sem]) rfl ⟨rfl, ?_⟩
  repeat (first | exact below_two _ _ _ | exact below_one _ _ | refine Below.setCell ?_ (by simp) _)
theorem with_path (l : List Int) (k : Int) (w : World) (h : l.length < 8) : Calls Try.prog 65 #[pathV l, .int .i64 k] w fun x w' => x = .returned (pathV (l ++ [k])) ∧ Below w.heap.size w w' := by
  rcases len_lt8 h with rfl | ⟨a, rfl⟩ | ⟨a, b, rfl⟩ | ⟨a, b, c, rfl⟩ | ⟨a, b, c, d, rfl⟩ | ⟨a, b, c, d, e, rfl⟩ | ⟨a, b, c, d, e, f, rfl⟩ | ⟨a, b, c, d, e, f, g, rfl⟩
  · exact pwith0  k w
  · exact pwith1 a k w
  · exact pwith2 a b k w
  · exact pwith3 a b c k w
  · exact pwith4 a b c d k w
  · exact pwith5 a b c d e k w
  · exact pwith6 a b c d e f k w
  · exact pwith7 a b c d e f g k w
set_option maxHeartbeats 400000 in
theorem pend1 (a : Int) (w : World) : Calls Try.prog 72 #[.agg #[.int .i64 a, .int .i64 0, .int .i64 0, .int .i64 0, .int .i64 0, .int .i64 0, .int .i64 0, .int .i64 0, .int .i64 1]] w fun x w' => x = .returned (.int .i64 a) ∧ Below w.heap.size w w' := by
  go_enter Try.func72, Try.ntmps72
  go_wp2
  go_ret
  exact ⟨rfl, below_one _ _⟩
set_option maxHeartbeats 400000 in
theorem pend2 (a b : Int) (w : World) : Calls Try.prog 72 #[.agg #[.int .i64 a, .int .i64 b, .int .i64 0, .int .i64 0, .int .i64 0, .int .i64 0, .int .i64 0, .int .i64 0, .int .i64 2]] w fun x w' => x = .returned (.int .i64 b) ∧ Below w.heap.size w w' := by
  go_enter Try.func72, Try.ntmps72
  go_wp2
  go_ret
  exact ⟨rfl, below_one _ _⟩
set_option maxHeartbeats 400000 in
theorem pend3 (a b c : Int) (w : World) : Calls Try.prog 72 #[.agg #[.int .i64 a, .int .i64 b, .int .i64 c, .int .i64 0, .int .i64 0, .int .i64 0, .int .i64 0, .int .i64 0, .int .i64 3]] w fun x w' => x = .returned (.int .i64 c) ∧ Below w.heap.size w w' := by
  go_enter Try.func72, Try.ntmps72
  go_wp2
  go_ret
  exact ⟨rfl, below_one _ _⟩
set_option maxHeartbeats 400000 in
theorem pend4 (a b c d : Int) (w : World) : Calls Try.prog 72 #[.agg #[.int .i64 a, .int .i64 b, .int .i64 c, .int .i64 d, .int .i64 0, .int .i64 0, .int .i64 0, .int .i64 0, .int .i64 4]] w fun x w' => x = .returned (.int .i64 d) ∧ Below w.heap.size w w' := by
  go_enter Try.func72, Try.ntmps72
  go_wp2
  go_ret
  exact ⟨rfl, below_one _ _⟩
set_option maxHeartbeats 400000 in
theorem pend5 (a b c d e : Int) (w : World) : Calls Try.prog 72 #[.agg #[.int .i64 a, .int .i64 b, .int .i64 c, .int .i64 d, .int .i64 e, .int .i64 0, .int .i64 0, .int .i64 0, .int .i64 5]] w fun x w' => x = .returned (.int .i64 e) ∧ Below w.heap.size w w' := by
  go_enter Try.func72, Try.ntmps72
  go_wp2
  go_ret
  exact ⟨rfl, below_one _ _⟩
set_option maxHeartbeats 400000 in
theorem pend6 (a b c d e f : Int) (w : World) : Calls Try.prog 72 #[.agg #[.int .i64 a, .int .i64 b, .int .i64 c, .int .i64 d, .int .i64 e, .int .i64 f, .int .i64 0, .int .i64 0, .int .i64 6]] w fun x w' => x = .returned (.int .i64 f) ∧ Below w.heap.size w w' := by
  go_enter Try.func72, Try.ntmps72
  go_wp2
  go_ret
  exact ⟨rfl, below_one _ _⟩
set_option maxHeartbeats 400000 in
theorem pend7 (a b c d e f g : Int) (w : World) : Calls Try.prog 72 #[.agg #[.int .i64 a, .int .i64 b, .int .i64 c, .int .i64 d, .int .i64 e, .int .i64 f, .int .i64 g, .int .i64 0, .int .i64 7]] w fun x w' => x = .returned (.int .i64 g) ∧ Below w.heap.size w w' := by
  go_enter Try.func72, Try.ntmps72
  go_wp2
  go_ret
  exact ⟨rfl, below_one _ _⟩
set_option maxHeartbeats 400000 in
theorem pend8 (a b c d e f g h : Int) (w : World) : Calls Try.prog 72 #[.agg #[.int .i64 a, .int .i64 b, .int .i64 c, .int .i64 d, .int .i64 e, .int .i64 f, .int .i64 g, .int .i64 h, .int .i64 8]] w fun x w' => x = .returned (.int .i64 h) ∧ Below w.heap.size w w' := by
  go_enter Try.func72, Try.ntmps72
  go_wp2
  go_ret
  exact ⟨rfl, below_one _ _⟩
theorem end_path (l : List Int) (w : World) (h0 : 0 < l.length) (h : l.length ≤ 8) : Calls Try.prog 72 #[pathV l] w fun x w' => x = .returned (.int .i64 (lastI l)) ∧ Below w.heap.size w w' := by
  rcases l with _ | ⟨a, l⟩
  · simp at h0
  rcases len_lt8 (l := l) (by simp at h; omega) with rfl | ⟨b, rfl⟩ | ⟨b, c, rfl⟩ | ⟨b, c, d, rfl⟩ | ⟨b, c, d, e, rfl⟩ | ⟨b, c, d, e, f, rfl⟩ | ⟨b, c, d, e, f, g, rfl⟩ | ⟨b, c, d, e, f, g, k, rfl⟩
  · exact pend1 a w
  · exact pend2 a b w
  · exact pend3 a b c w
  · exact pend4 a b c d w
  · exact pend5 a b c d e w
  · exact pend6 a b c d e f w
  · exact pend7 a b c d e f g w
  · exact pend8 a b c d e f g k w
def pcell (l : List Int) (j : Nat) : Value := if j < 8 then .int .i64 (xi l j) else .int .i64 (l.length : Int)
theorem pathV_cells (l : List Int) (j : Nat) (h : j < 9) : (#[Value.int .i64 (xi l 0), .int .i64 (xi l 1), .int .i64 (xi l 2), .int .i64 (xi l 3), .int .i64 (xi l 4), .int .i64 (xi l 5), .int .i64 (xi l 6), .int .i64 (xi l 7), .int .i64 (l.length : Int)] : Array Value)[j]? = some (pcell l j) := by
  have : j = 0 ∨ j = 1 ∨ j = 2 ∨ j = 3 ∨ j = 4 ∨ j = 5 ∨ j = 6 ∨ j = 7 ∨ j = 8 := by omega
  rcases this with rfl | rfl | rfl | rfl | rfl | rfl | rfl | rfl | rfl <;> rfl
theorem pathV_ints (w : World) (l : List Int) (t : TypeId) (h : l.length ≤ 8) (B : Nat) (hB : w.heap.size < B) : IntsIn (w.alloc (.cells #[.int .i64 (xi l 0), .int .i64 (xi l 1), .int .i64 (xi l 2), .int .i64 (xi l 3), .int .i64 (xi l 4), .int .i64 (xi l 5), .int .i64 (xi l 6), .int .i64 (xi l 7), .int .i64 (l.length : Int)] t)) B (some ⟨w.heap.size, 0, none⟩) l := by
  intro i hi
  refine ⟨_, _, rfl, hB, ?_⟩
  rw [World.cell?_alloc_at _ _ _ _ rfl, show 0 + i = i by omega, pathV_cells l i (by omega), pcell, if_pos (by omega)]

set_option maxHeartbeats 400000 in
theorem has_path (l : List Int) (k : Int) (w : World) (h : l.length ≤ 8) : Calls Try.prog 73 #[pathV l, .int .i64 k] w fun x w' => x = .returned (.bool (inI l k)) ∧ Below w.heap.size w w' := by
  have hi := fun t => pathV_ints w l t h (w.heap.size + 1) (by omega)
  have hl : (l.length : Int) ≤ 8 := by omega
  unfold pathV
  generalize xi l 0 = x0 at *
  generalize xi l 1 = x1 at *
  generalize xi l 2 = x2 at *
  generalize xi l 3 = x3 at *
  generalize xi l 4 = x4 at *
  generalize xi l 5 = x5 at *
  generalize xi l 6 = x6 at *
  generalize xi l 7 = x7 at *
  obtain ⟨n, hnn⟩ : ∃ n, n = l.length := ⟨_, rfl⟩
  have HN : Hid (n = l.length) := hnn
  rw [← hnn] at hi hl h ⊢
  clear hnn
  go_enter Try.func73, Try.ntmps73
  go_wp2_with fail
  have HC : ∀ (ao : Option Addr) (w' : World), IntsIn w' w'.heap.size ao l → Calls Try.prog 74 #[.slice ao n 8, .int .i64 k] w' fun e w'' => e = .returned (.bool (inI l k)) ∧ Below w'.heap.size w' w'' := by
    rw [HN.out]
    exact fun ao w' h' => contains_any ao 8 l k w' (by rw [← HN.out]; omega) h'
  refine (HC _ _ (by simpa using hi 100)).mono ?_
  rintro e w1 ⟨rfl, hb⟩
  have hbb : Below w.heap.size w w1 := (below_one _ _).trans (hb.mono (by simp))
  clear hb HC
  go_wp2
  go_ret
  exact ⟨rfl, hbb⟩

/-- a way stays one if it goes on to k -/
def canB (S : Nat) (l : List Int) (k : Int) : Bool := decide (S &&& pbit (lastI l) k ≠ 0) && !inI l k
theorem canB_no {S l k} (h : (decide (S &&& pbit (lastI l) k ≠ 0)) = false) : canB S l k = false := by simp [canB, h]
theorem canB_yes {S l k} (h : (decide (S &&& pbit (lastI l) k ≠ 0)) = true) : canB S l k = !inI l k := by simp only [canB, h, Bool.true_and]

set_option maxHeartbeats 400000 in
theorem canGo_any (l : List Int) (S : Nat) (k : Int) (w : World) (h0 : 0 < l.length) (h : l.length ≤ 8) (hS : S < 2 ^ 64) : Calls Try.prog 66 #[pathV l, .int .u64 (S : Int), .int .i64 k] w fun x w' => x = .returned (.bool (canB S l k)) ∧ Below w.heap.size w w' := by
  unfold pathV
  have HV : Hid (pathV l = .agg #[.int .i64 (xi l 0), .int .i64 (xi l 1), .int .i64 (xi l 2), .int .i64 (xi l 3), .int .i64 (xi l 4), .int .i64 (xi l 5), .int .i64 (xi l 6), .int .i64 (xi l 7), .int .i64 (l.length : Int)]) := rfl
  generalize xi l 0 = x0 at *
  generalize xi l 1 = x1 at *
  generalize xi l 2 = x2 at *
  generalize xi l 3 = x3 at *
  generalize xi l 4 = x4 at *
  generalize xi l 5 = x5 at *
  generalize xi l 6 = x6 at *
  generalize xi l 7 = x7 at *
  have he := fun w => end_path l w h0 h
  have hh := fun w => has_path l k w h
  rw [HV.out] at he hh
  generalize (l.length : Int) = s at *
  go_enter Try.func66, Try.ntmps66
  go_wp2_with fail
  refine (he _).mono ?_
  rintro e w1 ⟨rfl, hb⟩
  have hz1 : w.heap.size < w1.heap.size := by have := hb.size; simp at this; omega
  have f0 : ∀ j, j < 9 → w1.cell? ⟨w.heap.size, j, none⟩ = (#[Value.int .i64 x0, .int .i64 x1, .int .i64 x2, .int .i64 x3, .int .i64 x4, .int .i64 x5, .int .i64 x6, .int .i64 x7, .int .i64 s] : Array Value)[j]? := fun j hj => (hb.cell (p := ⟨w.heap.size, j, none⟩) (by simp)).trans (World.cell?_alloc_at _ _ _ _ rfl)
  have c0 := f0 0 (by omega)
  have c1 := f0 1 (by omega)
  have c2 := f0 2 (by omega)
  have c3 := f0 3 (by omega)
  have c4 := f0 4 (by omega)
  have c5 := f0 5 (by omega)
  have c6 := f0 6 (by omega)
  have c7 := f0 7 (by omega)
  have c8 := f0 8 (by omega)
  simp at c0 c1 c2 c3 c4 c5 c6 c7 c8
  clear f0
  have hbb : Below w.heap.size w w1 := (below_one _ _).trans (hb.mono (by simp))
  clear hb he
  go_wp2_with fail
  refine (has_any S (lastI l) k _ hS).mono ?_
  rintro e w2 ⟨rfl, rfl⟩
  cases hd : decide (S &&& pbit (lastI l) k ≠ 0)
  · have HC : Hid (canB S l k = false) := canB_no hd
    clear hd hh
    go_wp2
    go_ret
    exact ⟨by rw [HC.out]; rfl, hbb⟩
  · have HC : Hid (canB S l k = !inI l k) := canB_yes hd
    clear hd
    go_wp2_with fail
    refine (hh _).mono ?_
    rintro e w3 ⟨rfl, hb3⟩
    have hb4 : Below w.heap.size w w3 := hbb.trans (hb3.mono hbb.size)
    clear hb3 hbb hh
    go_wp2
    go_ret
    exact ⟨by rw [HC.out]; rfl, hb4⟩

end Go.Proofs.Ytljnjpjnadlmhaa

/- Plain mathematics of ways: what is one, step by step. No program stands here. -/
namespace Go.Proofs.Ytljnjpjnadlmhaa

/-- the place i of the row can stand there: a knot that did not come before, tied to the one ahead -/
def stepB (K : Int) (ts : List (Int × Int)) (xs : List Int) (i : Nat) : Bool := knotB (xi xs i) K && !inI (xs.take i) (xi xs i) && (decide (i = 0) || hasB K ts (xi xs (i - 1)) (xi xs i))
def wayB (K : Int) (ts : List (Int × Int)) (xs : List Int) : Bool := okB K ts && decide (0 < xs.length) && (List.range xs.length).all (stepB K ts xs)
def StepsTo (K : Int) (ts : List (Int × Int)) (xs : List Int) (k : Nat) : Prop := ∀ i, i < k → stepB K ts xs i = true

theorem wayB_nok {K ts xs} (h : okB K ts = false) : wayB K ts xs = false := by simp [wayB, h]
theorem wayB_nil {K ts xs} (h : xs.length = 0) : wayB K ts xs = false := by simp [wayB, h]
theorem wayB_bad {K ts xs} {i : Nat} (hi : i < xs.length) (h : stepB K ts xs i = false) : wayB K ts xs = false := by
  have : (List.range xs.length).all (stepB K ts xs) = false := by
    rw [← Bool.not_eq_true, List.all_eq_true]
    intro g; have := g i (List.mem_range.2 hi); rw [h] at this; cases this
  simp [wayB, this]
theorem wayB_all {K ts xs} (h : okB K ts = true) (h0 : 0 < xs.length) (hs : StepsTo K ts xs xs.length) : wayB K ts xs = true := by
  have : (List.range xs.length).all (stepB K ts xs) = true := by
    rw [List.all_eq_true]; intro i hi; exact hs i (List.mem_range.1 hi)
  simp [wayB, this, h, h0]
theorem steps_snoc {K ts xs} {k : Nat} (h : StepsTo K ts xs k) (g : stepB K ts xs k = true) : StepsTo K ts xs (k + 1) := by
  intro i hi
  by_cases e : i = k
  · subst e; exact g
  · exact h i (by omega)

theorem pigeon : ∀ (K n : Nat) (f : Nat → Nat), (∀ i, i < n → f i < K) → (∀ i j, i < j → j < n → f i ≠ f j) → n ≤ K := by
  intro K
  induction K with
  | zero =>
    intro n f h _
    by_cases hn : n = 0
    · omega
    · have := h 0 (by omega); omega
  | succ K ih =>
    intro n f h hd
    by_cases he : ∃ i, i < n ∧ f i = K
    · obtain ⟨i0, hi0, e0⟩ := he
      have := ih (n - 1) (fun i => if i < i0 then f i else f (i + 1)) (by
        intro i hi
        by_cases c : i < i0
        · simp only [c, if_true]
          have h1 := h i (by omega)
          have h2 := hd i i0 c hi0
          omega
        · simp only [c, if_false]
          have h1 := h (i + 1) (by omega)
          have h2 := hd i0 (i + 1) (by omega) (by omega)
          omega) (by
        intro i j hij hj
        by_cases c : i < i0
        · by_cases c' : j < i0
          · simp only [c, c', if_true]; exact hd i j hij (by omega)
          · simp only [c, c', if_true, if_false]; exact hd i (j + 1) (by omega) (by omega)
        · have c' : ¬ j < i0 := by omega
          simp only [c, c', if_false]; exact hd (i + 1) (j + 1) (by omega) (by omega))
      omega
    · have := ih n f (by
        intro i hi
        have h1 := h i hi
        have h2 : f i ≠ K := fun e => he ⟨i, hi, e⟩
        omega) hd
      omega

theorem xi_take {xs : List Int} {i k : Nat} (h : i < k) : xi (xs.take k) i = xi xs i := by
  simp only [xi, List.getD_eq_getElem?_getD]; rw [List.getElem?_take_of_lt h]
theorem take_snoc {xs : List Int} {k : Nat} (h : k < xs.length) : xs.take k ++ [xi xs k] = xs.take (k + 1) := by
  rw [List.take_succ_eq_append_getElem h]
  simp [xi, List.getD_eq_getElem?_getD, h]
theorem len_take {xs : List Int} {k : Nat} (h : k ≤ xs.length) : (xs.take k).length = k := by simp; omega
theorem last_take {xs : List Int} {k : Nat} (h0 : 0 < k) (h : k ≤ xs.length) : lastI (xs.take k) = xi xs (k - 1) := by
  rw [lastI, len_take h, xi_take (by omega)]

theorem step_knot {K ts xs i} (h : stepB K ts xs i = true) : 0 ≤ xi xs i ∧ xi xs i < K := by
  simp only [stepB, Bool.and_eq_true, knotB, decide_eq_true_eq] at h; exact h.1.1
theorem step_new {K ts xs i} (h : stepB K ts xs i = true) : ∀ j, j < i → i ≤ xs.length → xi xs j ≠ xi xs i := by
  intro j hj hi e
  simp only [stepB, Bool.and_eq_true, Bool.not_eq_true'] at h
  have := inI_at (xs := xs.take i) (k := xi xs i) (i := j) (by rw [len_take hi]; exact hj) (by rw [xi_take hj, e])
  rw [this] at h; exact absurd h.1.2 (by simp)
theorem steps_short {K ts xs} {k : Nat} (hK : K ≤ 8) (hk : k ≤ xs.length) (h : StepsTo K ts xs k) : k ≤ 8 := by
  refine pigeon 8 k (fun i => (xi xs i).toNat) ?_ ?_
  · intro i hi; have := step_knot (h i hi); show (xi xs i).toNat < 8; omega
  · intro i j hij hj
    have a := step_knot (h i (by omega))
    have b := step_knot (h j hj)
    have c := step_new (h j hj) i hij (by omega)
    show (xi xs i).toNat ≠ (xi xs j).toNat
    omega
theorem hasB_knot {K ts a b} (h : hasB K ts a b = true) : (0 ≤ a ∧ a < K) ∧ (0 ≤ b ∧ b < K) := by
  simp only [hasB, Bool.and_eq_true] at h
  obtain ⟨_, _, hg⟩ := okB_iff.1 h.1
  obtain ⟨i, hi, ea, eb⟩ := tiedB_iff.1 h.2
  obtain ⟨h1, h2, h3⟩ := (hg i hi).1
  omega
/-- behind the first place, to go on is to be tied and new -/
theorem can_step {K ts xs} {i : Nat} (hok : okB K ts = true) (h0 : 0 < i) (hi : i < xs.length) : canB (setN K ts) (xs.take i) (xi xs i) = stepB K ts xs i := by
  unfold canB stepB
  rw [last_take h0 (by omega), has_set K ts _ _ hok]
  have e0 : decide (i = 0) = false := by simp; omega
  rw [e0, Bool.false_or]
  cases hh : hasB K ts (xi xs (i - 1)) (xi xs i)
  · simp
  · have := (hasB_knot hh).2
    have hk : knotB (xi xs i) K = true := by simp [knotB, this]
    simp [hk]
theorem step_zero {K ts xs} : stepB K ts xs 0 = knotB (xi xs 0) K := by
  have : inI (xs.take 0) (xi xs 0) = false := inI_none (fun i hi => absurd hi (by simp))
  unfold stepB; rw [this]; simp

end Go.Proofs.Ytljnjpjnadlmhaa
