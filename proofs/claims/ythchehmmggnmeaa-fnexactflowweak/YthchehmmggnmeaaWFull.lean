/- Walks of impl.tieOf, impl.turnOf; the law of a map by ties. -/
import Derived.Test.YthchehmmggnmeaaPartMathFL
import Derived.Test.YthchehmmggnmeaaWFlowP
import Derived.Test.YthchehmmggnmeaaWArg
import Derived.Maps.OwnOps
import Derived.Maps.OwnSet
import Derived.Maps.Views
import Derived.DeepKeys4
import Derived.WideKeyPair
namespace Go.Proofs.Ythchehmmggnmeaa
open Go.RowKit Go.Maps
set_option linter.unusedVariables false

theorem turnOf_any (x y : Int) (w : World) : Calls Try.prog 42 #[.int .i64 x, .int .i64 y] w fun e w' => e = .returned (.int .i64 (if x < y then 1 else -1)) ∧ w' = w := by
  by_cases h : x < y
  · rw [if_pos h]
    go_enter Try.func42, Try.ntmps42
    go_wp2
    go_ret
    exact ⟨rfl, rfl⟩
  · rw [if_neg h]
    go_enter Try.func42, Try.ntmps42
    go_wp2
    go_ret
    exact ⟨rfl, rfl⟩
theorem tieOf_any (x y : Int) (w : World) : Calls Try.prog 41 #[.int .i64 x, .int .i64 y] w fun e w' => e = .returned (.agg #[.int .i64 (min x y), .int .i64 (max x y)]) ∧ Below w.heap.size w w' := by
  rcases Int.lt_trichotomy x y with h | h | h
  · rw [Int.min_eq_left (by omega), Int.max_eq_right (by omega)]
    have h1 : ¬ y < x := by omega
    go_enter Try.func41, Try.ntmps41
    go_wp2
    all_goals first | omega | exact bodyPost_ret (by simp [results, Try.results41, go_sem]) rfl ⟨rfl, below_one _ _⟩
  · subst h
    rw [Int.min_eq_left (by omega), Int.max_eq_right (by omega)]
    go_enter Try.func41, Try.ntmps41
    go_wp2
    all_goals first | omega | exact bodyPost_ret (by simp [results, Try.results41, go_sem]) rfl ⟨rfl, below_one _ _⟩
  · rw [Int.min_eq_right (by omega), Int.max_eq_left (by omega)]
    have h1 : ¬ x < y := by omega
    go_enter Try.func41, Try.ntmps41
    go_wp2
    all_goals first | omega | exact bodyPost_ret (by simp [results, Try.results41, go_sem]) rfl ⟨rfl, below_one _ _⟩
theorem tie_row : (48 : TypeId) < Try.prog.types.size := of_decide_eq_true (by kernel_rfl)
theorem tie_wide : (match Try.prog.underlying 48 with | some (.array _ _) | some (.struct _) => true | _ => false) = true := by kernel_rfl
set_option maxRecDepth 100000 in
theorem tie_law : WideMaps.KeyLaw Try.prog 48 := deep_law_laid Try.laidOut (m := 2) (by omega) tie_row (by kernel_rfl) tie_wide
theorem tie_keyed : Keyed Try.prog 48 := Keyed.of_law tie_law
/-- what two knots read as, as a key -/
def tkey (x y : Int) : Lit := .string (keyBytes [.int .i64 x, .int .i64 y])
theorem wf8 (x : Int) (hx : 0 ≤ x ∧ x < 8) : (Lit.int .i64 x).wf = true := by
  have h : ∀ k : Fin 8, (Lit.int .i64 (k.val : Int)).wf = true := by decide
  have := h ⟨x.toNat, by omega⟩
  rwa [show (((⟨x.toNat, by omega⟩ : Fin 8).val : Nat) : Int) = x from by show ((x.toNat : Nat) : Int) = x; omega] at this
theorem tie_cells : Try.prog.cellsOf 48 = 2 := by kernel_rfl
theorem int_cells : Try.prog.cellsOf 3 = 1 := by kernel_rfl
set_option maxRecDepth 100000 in
theorem tie_keyT : Try.prog.keyType 48 = true := by kernel_rfl
set_option maxRecDepth 100000 in
theorem tkey_is (x y : Int) (hx : 0 ≤ x ∧ x < 8) (hy : 0 ≤ y ∧ y < 8) : keyOf Try.prog 48 (.agg #[.int .i64 x, .int .i64 y]) = some (tkey x y) := by
  have wx := wf8 x hx
  have wy := wf8 y hy
  obtain ⟨m, hm⟩ : ∃ m, Try.prog.types.size = m + 1 := ⟨Try.prog.types.size - 1, by have h : 48 < Try.prog.types.size := tie_row; omega⟩
  unfold keyOf tkey
  simp only [Try.underlying48]
  rw [if_pos (by rw [tie_keyT]; simp [Value.formed, Try.underlying48, tie_cells]), hm]
  simp [Program.keyLits, Try.underlying48, Try.underlying3, tie_cells, int_cells, wx, wy, Value.cells]

/-- a map by ties, of the call's own: what goes over each of them -/
def Fm (w : World) (B n : Nat) (F : Nat → Nat → Int) : Prop :=
  ∃ D : DataW Unit, w.ownsMap Try.prog 48 (plainElem Try.prog 3) B n D ∧ ∀ x y : Nat, x < y → y < 8 → D.atKey (tkey x y) (.lit (.int .i64 0)) = .lit (.int .i64 (F x y))
theorem zero_int (w : World) : (zeroValue 3).run Try.prog w = .ok (.int .i64 0) w := by kernel_rfl
theorem Fm.below {w w' : World} {B n : Nat} {F : Nat → Nat → Int} {C : Nat} (h : Fm w B n F) (hb : Below C w w') (hC : B < C) : Fm w' B n F := by
  obtain ⟨D, ⟨es, clock, h1, h2⟩, h3⟩ := h
  exact ⟨D, ⟨es, clock, (hb.block B hC).trans h1, h2⟩, h3⟩
theorem Fm.lt {w : World} {B n : Nat} {F : Nat → Nat → Int} (h : Fm w B n F) : B < w.heap.size := by
  obtain ⟨D, h1, h3⟩ := h
  exact h1.lt
set_option maxRecDepth 100000 in
theorem Fm.look {w : World} {B n : Nat} {F : Nat → Nat → Int} (h : Fm w B n F) {x y : Nat} (hx : x < 8) (hy : y < 8) (hxy : x ≠ y) :
    (Instr.lookup 56 (.map (some B)) (.agg #[.int .i64 (min (x : Int) (y : Int)), .int .i64 (max (x : Int) (y : Int))]) false).run Try.prog w = .ok (.int .i64 (F (min x y) (max x y))) w := by
  obtain ⟨D, h1, h3⟩ := h
  obtain ⟨c, hrun, hat, hwc⟩ := h1.lookup_int tie_keyed Try.underlying56 Try.underlying3 (zero_int w) (tkey_is (min (x : Int) (y : Int)) (max (x : Int) (y : Int)) (by omega) (by omega))
  have e := h3 (min x y) (max x y) (by omega) (by omega)
  rw [show ((min x y : Nat) : Int) = min (x : Int) (y : Int) by omega, show ((max x y : Nat) : Int) = max (x : Int) (y : Int) by omega] at e
  rw [hrun]
  rw [hat] at e
  injection e with e
  injection e with _ e
  rw [e]
set_option maxRecDepth 100000 in
theorem isFull_any (B n : Nat) (F : Nat → Nat → Int) (x y : Nat) (w : World) (hx : x < 8) (hy : y < 8) (hxy : x ≠ y) (ha : ∀ x y, F y x = - F x y) (hf : Fm w B n F) :
    Calls Try.prog 47 #[.map (some B), .int .i64 (x : Int), .int .i64 (y : Int)] w fun e w' => e = .returned (.bool (decide (F x y = 1))) ∧ Below w.heap.size w w' := by
  have HF := hideP hf
  have L0 := hideP ((hf.below (Below.refl w.heap.size w).drew hf.lt).look hx hy hxy)
  have L1 := hideP (fun W (hb : Below w.heap.size w W) => (hf.below hb hf.lt).look hx hy hxy)
  obtain ⟨r, hr⟩ : ∃ r, r = decide (F x y = 1) := ⟨_, rfl⟩
  obtain ⟨c, hc⟩ : ∃ c, c = F (min x y) (max x y) := ⟨_, rfl⟩
  obtain ⟨d, hd⟩ : ∃ d : Int, d = if (x : Int) < (y : Int) then 1 else -1 := ⟨_, rfl⟩
  have HR : Hid (r = decide (c = d)) := by
    rw [hr, hc, hd]
    by_cases h : x < y
    · rw [if_pos (by omega), Nat.min_eq_left (by omega), Nat.max_eq_right (by omega)]; exact hideP rfl
    · rw [if_neg (by omega), Nat.min_eq_right (by omega), Nat.max_eq_left (by omega), ha x y]; exact hideP (decide_eq_decide.2 (by omega))
  have TU := hideP (fun W => turnOf_any (x : Int) (y : Int) W)
  rw [← hc] at L0 L1
  rw [← hd] at TU
  rw [← hr]
  clear hr hc hd hf
  go_enter Try.func47, Try.ntmps47
  go_wp2_with fail
  go_region_held3 (fun w' => (Instr.lookup 56 (.map (some B)) (.agg #[.int .i64 (min (x : Int) (y : Int)), .int .i64 (max (x : Int) (y : Int))]) false).run Try.prog w' = .ok (.int .i64 c) w') (first | exact L0.out | exact L1.out _ b1) (first | (go_at_call 41; refine (tieOf_any _ _ _).mono ?_; rintro e w1 ⟨rfl, b0⟩; have b1 : Below w.heap.size w w1 := (Below.refl w.heap.size w).drew.trans b0) | (go_at_call 42; refine (TU.out _).mono ?_; rintro e w2 ⟨rfl, rfl⟩; go_simp) | fail)
  all_goals
    have e : (c == d) = r := by rw [HR.out]; rfl
    rw [e]
    clear e HR L0 L1 TU HF
    go_wp2
    go_ret
    exact ⟨rfl, b1⟩

end Go.Proofs.Ythchehmmggnmeaa
