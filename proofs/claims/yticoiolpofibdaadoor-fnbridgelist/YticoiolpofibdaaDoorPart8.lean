/- Texts put together: WWith, WTies, WForest2, WRows. -/
import Derived.Test.YticoiolpofibdaaDoorPart3
import Derived.Laws.BitsAllLaws
import Derived.Test.YticoiolpofibdaaDoorPart2
import Derived.Deep.LoopGhost
import Derived.Test.YticoiolpofibdaaDoorPart7
import Derived.ArgAppend
import Derived.OwnWalk
/- Walk of impl.pairs.with. -/
namespace Go.Proofs.YticoiolpofibdaaDoor
open Go.RowKit
set_option linter.unusedVariables false

set_option maxHeartbeats 400000 in
theorem with_any (p : Nat) (a b : Int) (w : World) (hp : p < 2 ^ 64) :
    Calls Tryd.prog 74 #[.int .u64 (p : Int), .int .i64 a, .int .i64 b] w fun e w' => e = .returned (.int .u64 ((p ||| pbit a b : Nat) : Int)) ∧ w' = w := by
  have hor := or_nat p (pbit a b) hp (pbit_lt a b)
  clear hp
  go_enter Tryd.func74, Tryd.ntmps74
  go_wp2_with fail
  refine (pairBit_any a b _).mono ?_
  rintro e w' ⟨rfl, rfl⟩
  go_wp2
  go_ret
  exact ⟨rfl, rfl⟩

end Go.Proofs.YticoiolpofibdaaDoor

/- Walks of bits.TrailingZeros64 and of ties. -/
namespace Go.Proofs.YticoiolpofibdaaDoor
open Go.RowKit
set_option linter.unusedVariables false

def dbT : List Int := [0, 1, 56, 2, 57, 49, 28, 3, 61, 58, 42, 50, 38, 29, 17, 4, 62, 47, 59, 36, 45, 43, 51, 22, 53, 39, 33, 30, 24, 18, 12, 5, 63, 55, 48, 27, 60, 41, 37, 16, 46, 35, 44, 21, 52, 32, 23, 11, 54, 26, 40, 15, 34, 20, 31, 10, 25, 14, 19, 9, 13, 8, 7, 6]
/-- the table of the library lies in w -/
def Tab (w : World) : Prop := (∀ i, i < 64 → w.cell? ⟨0, i, none⟩ = some (.int .u8 (dbT.getD i 0))) ∧ 0 < w.heap.size
def dbAt (c : Nat) : Nat := 2 ^ c * 285870213051353865 % 18446744073709551616 / 288230376151711744
theorem db_table : ∀ c : Fin 64, dbT.getD (dbAt c.val) 0 = (c.val : Int) ∧ dbAt c.val < 64 := by decide +kernel
theorem db_index (m c : Nat) (h0 : ∀ j, j < c → m.testBit j = false) (h1 : m.testBit c = true) (hm : m < 2 ^ 64) :
    IntKind.u64.wrap (bits BinOp.and IntKind.u64 (m : Int) (IntKind.u64.wrap (-(m : Int))) * 285870213051353865) / 288230376151711744 = ((dbAt c : Nat) : Int) := by
  have hpos : 0 < m := by
    rcases Nat.eq_zero_or_pos m with e | e
    · subst e; simp at h1
    · exact e
  have e1 : IntKind.u64.wrap (-(m : Int)) = ((2 ^ 64 - m : Nat) : Int) := by
    rw [IntKind.wrap_u64]
    have : (2 : Nat) ^ 64 = 18446744073709551616 := by decide
    rw [this] at hm ⊢
    omega
  rw [e1, and_nat m (2 ^ 64 - m) hm (by omega), low_only h0 h1 hm, IntKind.wrap_u64]
  unfold dbAt
  have e2 : (((2 ^ c : Nat) : Int) * 285870213051353865) = ((2 ^ c * 285870213051353865 : Nat) : Int) := by simp
  rw [e2]
  generalize 2 ^ c * 285870213051353865 = y
  omega
theorem bit_lt {m c : Nat} (h1 : m.testBit c = true) (hm : m < 2 ^ 64) : c < 64 := by
  apply Decidable.byContradiction
  intro hc
  have : m.testBit c = false := Nat.testBit_lt_two_pow (Nat.lt_of_lt_of_le hm (Nat.pow_le_pow_right (by omega) (by omega)))
  rw [this] at h1; simp at h1
set_option maxHeartbeats 400000 in
theorem tz_any (m c : Nat) (w : World) (hT : Tab w) (h0 : ∀ j, j < c → m.testBit j = false) (h1 : m.testBit c = true) (hm : m < 2 ^ 64) :
    Calls Tryd.prog 93 #[.int .u64 (m : Int)] w fun e w' => e = .returned (.int .i64 (c : Int)) ∧ w' = w := by
  have hne : ((m : Int) == 0) = false := by
    have : m ≠ 0 := fun e => by subst e; simp at h1
    simp [this]
  have hc := bit_lt h1 hm
  have hi := db_index m c h0 h1 hm
  obtain ⟨t1, t2⟩ := db_table ⟨c, hc⟩
  simp only at t1 t2
  obtain ⟨r, hr⟩ : ∃ r, r = dbAt c := ⟨_, rfl⟩
  rw [← hr] at hi t1 t2
  have hcell := hT.1 r t2
  rw [t1] at hcell
  have hr1 : (0 : Int) ≤ (r : Int) := by omega
  have hr2 : (r : Int) < 64 := by omega
  have hc1 : (0 : Int) ≤ (c : Int) := by omega
  have hc2 : (c : Int) < 64 := by omega
  clear hr t1 hT h0 h1 hm
  go_enter Tryd.func93, Tryd.ntmps93
  go_wp2
  go_ret
  exact ⟨rfl, rfl⟩
theorem Tab.below {w w' : World} {B : Nat} (h : Tab w) (hb : Below B w w') (hB : 0 < B) : Tab w' :=
  ⟨fun i hi => (hb.cell (p := ⟨0, i, none⟩) hB).trans (h.1 i hi), Nat.lt_of_lt_of_le h.2 hb.size⟩
theorem Tab.alloc {w : World} (h : Tab w) (o : Obj) : Tab (w.alloc o) := h.below (below_one w o) h.2
/-- the bits from the k-th tie on -/
def BitsFrom (m : Nat) (ts : List (Int × Int)) (k : Nat) : Prop := ∀ j, m.testBit j = true ↔ ∃ i, k ≤ i ∧ i < ts.length ∧ idx (tA ts i) (tB ts i) = j
theorem bitsFrom_low {K : Int} {ts : List (Int × Int)} (hK : K ≤ 8) (hg : GoodTo K ts ts.length) {m k : Nat} (hb : BitsFrom m ts k) (hk : k < ts.length) :
    (∀ j, j < idx (tA ts k) (tB ts k) → m.testBit j = false) ∧ m.testBit (idx (tA ts k) (tB ts k)) = true := by
  constructor
  · intro j hj
    rw [← Bool.not_eq_true, hb j]
    rintro ⟨i, h1, h2, e⟩
    by_cases hik : i = k
    · subst hik; omega
    · have := good_lt hK hg k i (by omega) h2; omega
  · exact (hb _).2 ⟨k, Nat.le_refl _, hk, rfl⟩
theorem bitsFrom_next {K : Int} {ts : List (Int × Int)} (hK : K ≤ 8) (hg : GoodTo K ts ts.length) {m k : Nat} (hb : BitsFrom m ts k) (hk : k < ts.length) : BitsFrom (m &&& (m - 1)) ts (k + 1) := by
  obtain ⟨l0, l1⟩ := bitsFrom_low hK hg hb hk
  intro j
  rw [low_strike l0 l1 j, Bool.and_eq_true, hb j, decide_eq_true_eq]
  constructor
  · rintro ⟨⟨i, h1, h2, e⟩, hne⟩
    refine ⟨i, ?_, h2, e⟩
    by_cases hik : i = k
    · subst hik; exact absurd e.symm hne
    · omega
  · rintro ⟨i, h1, h2, e⟩
    refine ⟨⟨i, by omega, h2, e⟩, ?_⟩
    have := good_lt hK hg k i (by omega) h2
    omega
theorem bitsFrom_end {ts : List (Int × Int)} {m k : Nat} (hb : BitsFrom m ts k) (hk : ts.length ≤ k) : m = 0 := by
  apply Nat.eq_of_testBit_eq
  intro j
  rw [Nat.zero_testBit, ← Bool.not_eq_true, hb j]
  rintro ⟨i, h1, h2, _⟩
  omega
theorem bitsFrom_pos {K : Int} {ts : List (Int × Int)} (hK : K ≤ 8) (hg : GoodTo K ts ts.length) {m k : Nat} (hb : BitsFrom m ts k) (hk : k < ts.length) : 0 < m := by
  have := (bitsFrom_low hK hg hb hk).2
  rcases Nat.eq_zero_or_pos m with e | e
  · subst e; simp at this
  · exact e
set_option maxHeartbeats 800000 in
theorem ties_any (K : Int) (ts : List (Int × Int)) (m : Nat) (w : World) (hT : Tab w) (hK : K ≤ 8) (hg : GoodTo K ts ts.length) (hn : ts.length ≤ 64) (hb : BitsFrom m ts 0) (hm : m < 2 ^ 64) :
    Calls Tryd.prog 65 #[.int .u64 (m : Int)] w fun e w' => ∃ v, e = .returned v ∧ w'.ownsRow w.heap.size 35 2 v ts.length (clist ts ts.length) ∧ Below w.heap.size w w' := by
  obtain ⟨i0, hi, hz0, hz1, hz2⟩ := info_parts Tryd.infoTie
  go_enter Tryd.func65, Tryd.ntmps65
  go_wp2
  go_loopg [0, 3] ts.length (fun gk p v wr => ∃ k mm : Nat, k + gk = ts.length ∧ p = .int .u64 (mm : Int) ∧ mm < 2 ^ 64 ∧ BitsFrom mm ts k ∧ wr.ownsRow w.heap.size 35 2 v k (clist ts k) ∧ Below w.heap.size w wr)
  case atStart => exact ⟨0, m, by omega, rfl, hm, hb, World.ownsRow_nil _ _ _ _, Below.refl _ _⟩
  case round =>
    obtain ⟨k, mm, hk, rfl, hmm, hbits, hown, hbel⟩ := hrel
    clear hb hm
    by_cases hlt : k < ts.length
    · obtain ⟨l0, l1⟩ := bitsFrom_low hK hg hbits hlt
      have hpos := bitsFrom_pos hK hg hbits hlt
      have HNX : Hid (BitsFrom (mm &&& (mm - 1)) ts (k + 1)) := bitsFrom_next hK hg hbits hlt
      have tk := (hg k hlt).1
      have hne : ((mm : Int) != 0) = true := by rw [bne_iff_ne]; omega
      have hT' : Tab wr := hT.below hbel hT.2
      obtain ⟨c, hc⟩ : ∃ c, c = idx (tA ts k) (tB ts k) := ⟨_, rfl⟩
      rw [← hc] at l0 l1
      have e1 : (c : Int) / 8 = tA ts k := by obtain ⟨a, b, d⟩ := tk; rw [hc]; unfold idx; omega
      have e2 : (c : Int) % 8 = tB ts k := by obtain ⟨a, b, d⟩ := tk; rw [hc]; unfold idx; omega
      have hc0 : (0 : Int) ≤ (c : Int) := by omega
      have hc64 : (c : Int) < 64 := by have := bit_lt l1 hmm; omega
      have HCL : Hid (clist ts (k + 1) = clist ts k ++ [.int .i64 ((c : Int) / 8), .int .i64 ((c : Int) % 8)]) := by rw [e1, e2]; exact clist_succ ts k
      have HAND : Hid (bits .and .u64 (mm : Int) ((mm : Int) - 1) = ((mm &&& (mm - 1) : Nat) : Int)) := by
        have := and_nat mm (mm - 1) hmm (by omega)
        rw [show (((mm - 1 : Nat)) : Int) = (mm : Int) - 1 by omega] at this
        exact this
      have HLT : Hid (mm &&& (mm - 1) < 2 ^ 64) := Nat.lt_of_le_of_lt Nat.and_le_left hmm
      have hmp : (0 : Int) < (mm : Int) := by omega
      have hmm' : (mm : Int) < 18446744073709551616 := by have : (2 : Nat) ^ 64 = 18446744073709551616 := by decide
                                                          omega
      clear hc e1 e2 tk hbits
      go_wp2_with fail
      refine (tz_any mm c _ hT' l0 l1 hmm).mono ?_
      rintro e w1 ⟨rfl, rfl⟩
      clear l0 l1 hT' hT
      go_wp2_with (at_builtin; refine wpList_append_own _ rfl _ _ 23 rfl w.heap.size 35 i0 (.agg #[.int .i64 0, .int .i64 0]) 2 16 Tryd.underlying23 hi hz0 hz1 hz2 rfl (by decide) _ _ _ rfl (hown.alloc _) ⟨_, 0, none⟩ 1 1 [.int .i64 ((c : Int) / 8), .int .i64 ((c : Int) % 8)] rfl rfl ?c1 ?c2 ?c3 ?c4 ?c5 ?_)
      case c1 =>
        intro j u hj
        match j, hj with
        | 0, hj => simp at hj; subst hj; simp [Addr.add]
        | 1, hj => simp at hj; subst hj; simp [Addr.add]
      case c2 => intro u hu; simp at hu; rcases hu with rfl | rfl <;> rfl
      case c3 => unfold maxLen; omega
      case c4 => omega
      case c5 => have := hbel.size; simp; omega
      intro v' w2 hown2 hgrow _
      rw [← HCL.out] at hown2
      have hb2 : Below w.heap.size w w2 := (hbel.alloc hbel.size _).grown hgrow (by have := hbel.size; simp; omega) (own_ge hown)
      have HO2 : Hid (w2.ownsRow w.heap.size 35 2 v' (k + 1) (clist ts (k + 1))) := hown2
      clear hown2 hgrow hown hbel hi hz0 hz1 hz2
      have hw1 : IntKind.u64.wrap ((mm : Int) - 1) = (mm : Int) - 1 := by rw [IntKind.wrap_u64]; omega
      have hand := HAND.out
      go_wp2
      go_roundg (gk - 1)
      case measure => omega
      case rel => exact ⟨k + 1, mm &&& (mm - 1), by omega, rfl, HLT.out, HNX.out, HO2.out, hb2⟩
    · have hz : mm = 0 := bitsFrom_end hbits (by omega)
      have hkn : k = ts.length := by omega
      subst hz
      subst hkn
      clear hbits hmm hT
      go_wp2
      go_ret
      exact ⟨_, rfl, hown, hbel⟩

end Go.Proofs.YticoiolpofibdaaDoor

/- Walk of impl.forestOf. -/
namespace Go.Proofs.YticoiolpofibdaaDoor
open Go.RowKit
set_option linter.unusedVariables false

theorem ties_two' (K : Int) (ts : List (Int × Int)) (m : Nat) (w : World) (hT : Tab w) (hK : K ≤ 8) (hg : GoodTo K ts ts.length) (hn : ts.length ≤ 64) (hb : BitsFrom m ts 0) (hm : m < 2 ^ 64) :
    Calls Tryd.prog 65 #[.int .u64 (m : Int)] w fun e w' => ∃ ao cap, e = .returned (.slice ao ts.length cap) ∧ OwnN w' w.heap.size w'.heap.size ao ts.length (tcell ts) ∧ Below w.heap.size w w' := by
  refine (ties_any K ts m w hT hK hg hn hb hm).mono ?_
  rintro e w' ⟨v, rfl, ho, hb⟩
  obtain ⟨ao, cap, rfl⟩ := own_slice ho
  exact ⟨ao, cap, rfl, OwnN.of_row ho, hb⟩
def zcell (_ : Nat) : Value := .int .i64 0
def idTo (k j : Nat) : Value := .int .i64 (if j < k then (j : Int) else 0)
theorem idTo_step (k j : Nat) : (if j = k then Value.int .i64 (k : Int) else idTo k j) = idTo (k + 1) j := by
  unfold idTo
  by_cases h : j = k
  · subst h; rw [if_pos rfl, if_pos (by omega)]
  · rw [if_neg h]
    by_cases h2 : j < k
    · rw [if_pos h2, if_pos (by omega)]
    · rw [if_neg h2, if_neg (by omega)]
/-- a forest as a value -/
def forestV (f : Nat → Nat) : Value := .agg #[.int .i64 ((f 0 : Nat) : Int), .int .i64 ((f 1 : Nat) : Int), .int .i64 ((f 2 : Nat) : Int), .int .i64 ((f 3 : Nat) : Int), .int .i64 ((f 4 : Nat) : Int), .int .i64 ((f 5 : Nat) : Int), .int .i64 ((f 6 : Nat) : Int), .int .i64 ((f 7 : Nat) : Int)]
theorem zeros_own (w : World) (t : TypeId) : OwnI (w.alloc (.cells #[.int .i64 0, .int .i64 0, .int .i64 0, .int .i64 0, .int .i64 0, .int .i64 0, .int .i64 0, .int .i64 0] t)) w.heap.size 8 zcell := by
  refine ⟨fun j hj => (World.cell?_alloc_at _ _ _ _ rfl).trans ?_, fun j => World.frozen?_alloc_at _ _ _ _ rfl, by simp⟩
  have : j = 0 ∨ j = 1 ∨ j = 2 ∨ j = 3 ∨ j = 4 ∨ j = 5 ∨ j = 6 ∨ j = 7 := by omega
  rcases this with rfl | rfl | rfl | rfl | rfl | rfl | rfl | rfl <;> rfl

/-- what stands while a forest is made: its own block A, the answer's block, all that was there -/
structure Fst (w wr : World) (A : Nat) (c : Nat → Value) : Prop where
  R : OwnI wr w.heap.size 8 zcell
  F : OwnI wr A 8 c
  B : Below w.heap.size w wr
  h : w.heap.size < A
theorem Fst.next {w wr w' : World} {A : Nat} {c : Nat → Value} (h : Fst w wr A c) (hb : Below wr.heap.size wr w') : Fst w w' A c :=
  ⟨h.R.below hb h.R.2.2, h.F.below hb h.F.2.2, h.B.trans (hb.mono h.B.size), h.h⟩
theorem Fst.turn {w wr w' : World} {A : Nat} {c c' : Nat → Value} (h : Fst w wr A c) (ht : Turned A (A + 1) wr w') (hF : OwnI w' A 8 c') : Fst w w' A c' :=
  ⟨h.R.turn ht (Or.inl h.h), hF, h.B.trans (ht.under (Nat.le_of_lt h.h) h.B.size), h.h⟩
theorem Fst.start (w : World) (t : TypeId) : Fst w ((w.alloc (.cells #[.int .i64 0, .int .i64 0, .int .i64 0, .int .i64 0, .int .i64 0, .int .i64 0, .int .i64 0, .int .i64 0] t)).alloc (.cells #[.int .i64 0, .int .i64 0, .int .i64 0, .int .i64 0, .int .i64 0, .int .i64 0, .int .i64 0, .int .i64 0] t)) (w.heap.size + 1) (idTo 0) := by
  refine ⟨(zeros_own w t).below (below_one _ _) (by simp), ?_, below_two _ _ _, by omega⟩
  have h := zeros_own (w.alloc (.cells #[.int .i64 0, .int .i64 0, .int .i64 0, .int .i64 0, .int .i64 0, .int .i64 0, .int .i64 0, .int .i64 0] t)) t
  have e : (w.alloc (.cells #[.int .i64 0, .int .i64 0, .int .i64 0, .int .i64 0, .int .i64 0, .int .i64 0, .int .i64 0, .int .i64 0] t)).heap.size = w.heap.size + 1 := by simp
  rw [e] at h
  exact h.congr (fun j _ => by simp [zcell, idTo])
theorem forest_own (w : World) (f : Nat → Nat) (t : TypeId) : OwnI (w.alloc (.cells #[.int .i64 ((f 0 : Nat) : Int), .int .i64 ((f 1 : Nat) : Int), .int .i64 ((f 2 : Nat) : Int), .int .i64 ((f 3 : Nat) : Int), .int .i64 ((f 4 : Nat) : Int), .int .i64 ((f 5 : Nat) : Int), .int .i64 ((f 6 : Nat) : Int), .int .i64 ((f 7 : Nat) : Int)] t)) w.heap.size 8 (pcellN f) := by
  refine ⟨fun j hj => (World.cell?_alloc_at _ _ _ _ rfl).trans ?_, fun j => World.frozen?_alloc_at _ _ _ _ rfl, by simp⟩
  have : j = 0 ∨ j = 1 ∨ j = 2 ∨ j = 3 ∨ j = 4 ∨ j = 5 ∨ j = 6 ∨ j = 7 := by omega
  rcases this with rfl | rfl | rfl | rfl | rfl | rfl | rfl | rfl <;> rfl
/-- the answer's block is there, a forest in a block of its own was laid -/
theorem Fst.laid (w w1 : World) (f : Nat → Nat) (t t' : TypeId) (hb : Below (w.alloc (.cells #[.int .i64 0, .int .i64 0, .int .i64 0, .int .i64 0, .int .i64 0, .int .i64 0, .int .i64 0, .int .i64 0] t)).heap.size (w.alloc (.cells #[.int .i64 0, .int .i64 0, .int .i64 0, .int .i64 0, .int .i64 0, .int .i64 0, .int .i64 0, .int .i64 0] t)) w1) :
    Fst w (w1.alloc (.cells #[.int .i64 ((f 0 : Nat) : Int), .int .i64 ((f 1 : Nat) : Int), .int .i64 ((f 2 : Nat) : Int), .int .i64 ((f 3 : Nat) : Int), .int .i64 ((f 4 : Nat) : Int), .int .i64 ((f 5 : Nat) : Int), .int .i64 ((f 6 : Nat) : Int), .int .i64 ((f 7 : Nat) : Int)] t')) w1.heap.size (pcellN f) := by
  have z := zeros_own w t
  have s := hb.size
  simp at s
  exact ⟨(z.below hb z.2.2).below (below_one _ _) (by omega), forest_own w1 f t', ((below_one w _).trans (hb.mono (by simp))).trans ((below_one w1 _).mono (by omega)), by omega⟩
set_option maxHeartbeats 1600000 in
theorem alone_any (w : World) :
    Calls Tryd.prog 89 #[] w fun e w' => e = .returned (forestV (fun k => k)) ∧ Below w.heap.size w w' := by
  have S0 := fun t => Fst.start w t
  have HS0 := hideP S0
  clear S0
  go_enter Tryd.func89, Tryd.ntmps89
  go_wp2
  go_loopw [3] (fun i wr => ∃ k : Nat, k ≤ 8 ∧ i = .int .i64 k ∧ Fst w wr (w.heap.size + 1) (idTo k))
    (fun i _ => 8 - (intOf i).toNat)
  case atStart => exact ⟨0, by omega, rfl, HS0.out _⟩
  case round =>
    obtain ⟨k, hk, rfl, hS⟩ := hrel
    by_cases hlt : k < 8
    · have c0 : wr.cell? ⟨w.heap.size + 1, k, none⟩ = some (idTo k k) := hS.F.1 k hlt
      have f0 := hS.F.2.1 k
      have hk0 : (0 : Int) ≤ (k : Int) := by omega
      have hk8 : (k : Int) < 8 := by omega
      have HS : Hid (Fst w (wr.setCell ⟨w.heap.size + 1, k, none⟩ (.int .i64 (k : Int))) (w.heap.size + 1) (idTo (k + 1))) :=
        hS.turn ⟨rfl, rfl, rfl, by simp [World.setCell], fun i _ hi => Below.heap_setCell _ _ _ _ (by show i ≠ w.heap.size + 1; omega)⟩ ((hS.F.set hlt _).congr (fun j _ => idTo_step k j))
      clear hS
      go_wp2
      go_roundw
      case rel => exact ⟨k + 1, by omega, by go_num, HS.out⟩
      case measure => simp [intOf]; omega
    · obtain rfl : k = 8 := by omega
      have S1 := hideP (show Fst w wr (w.heap.size + 1) (pcellN (fun k => k)) from ⟨hS.R, hS.F.congr (fun j hj => by simp [idTo, pcellN, hj]), hS.B, hS.h⟩)
      clear hS
      obtain ⟨f, hf⟩ : ∃ f : Nat → Nat, f = (fun k => k) := ⟨_, rfl⟩
      have HXX : Hid (forestV (fun k => k) = .agg #[.int .i64 ((f 0 : Nat) : Int), .int .i64 ((f 1 : Nat) : Int), .int .i64 ((f 2 : Nat) : Int), .int .i64 ((f 3 : Nat) : Int), .int .i64 ((f 4 : Nat) : Int), .int .i64 ((f 5 : Nat) : Int), .int .i64 ((f 6 : Nat) : Int), .int .i64 ((f 7 : Nat) : Int)]) := by rw [← hf]; rfl
      rw [← hf] at S1
      have hS := S1.out
      clear hf S1
      have d0 : wr.cell? ⟨w.heap.size + 1, 0, none⟩ = some (.int .i64 ((f 0 : Nat) : Int)) := hS.F.1 0 (by omega)
      have d1 : wr.cell? ⟨w.heap.size + 1, 1, none⟩ = some (.int .i64 ((f 1 : Nat) : Int)) := hS.F.1 1 (by omega)
      have d2 : wr.cell? ⟨w.heap.size + 1, 2, none⟩ = some (.int .i64 ((f 2 : Nat) : Int)) := hS.F.1 2 (by omega)
      have d3 : wr.cell? ⟨w.heap.size + 1, 3, none⟩ = some (.int .i64 ((f 3 : Nat) : Int)) := hS.F.1 3 (by omega)
      have d4 : wr.cell? ⟨w.heap.size + 1, 4, none⟩ = some (.int .i64 ((f 4 : Nat) : Int)) := hS.F.1 4 (by omega)
      have d5 : wr.cell? ⟨w.heap.size + 1, 5, none⟩ = some (.int .i64 ((f 5 : Nat) : Int)) := hS.F.1 5 (by omega)
      have d6 : wr.cell? ⟨w.heap.size + 1, 6, none⟩ = some (.int .i64 ((f 6 : Nat) : Int)) := hS.F.1 6 (by omega)
      have d7 : wr.cell? ⟨w.heap.size + 1, 7, none⟩ = some (.int .i64 ((f 7 : Nat) : Int)) := hS.F.1 7 (by omega)
      have r0 : wr.cell? ⟨w.heap.size, 0, none⟩ = some (.int .i64 0) := hS.R.1 0 (by omega)
      have g0 := hS.R.2.1 0
      have r1 : wr.cell? ⟨w.heap.size, 1, none⟩ = some (.int .i64 0) := hS.R.1 1 (by omega)
      have g1 := hS.R.2.1 1
      have r2 : wr.cell? ⟨w.heap.size, 2, none⟩ = some (.int .i64 0) := hS.R.1 2 (by omega)
      have g2 := hS.R.2.1 2
      have r3 : wr.cell? ⟨w.heap.size, 3, none⟩ = some (.int .i64 0) := hS.R.1 3 (by omega)
      have g3 := hS.R.2.1 3
      have r4 : wr.cell? ⟨w.heap.size, 4, none⟩ = some (.int .i64 0) := hS.R.1 4 (by omega)
      have g4 := hS.R.2.1 4
      have r5 : wr.cell? ⟨w.heap.size, 5, none⟩ = some (.int .i64 0) := hS.R.1 5 (by omega)
      have g5 := hS.R.2.1 5
      have r6 : wr.cell? ⟨w.heap.size, 6, none⟩ = some (.int .i64 0) := hS.R.1 6 (by omega)
      have g6 := hS.R.2.1 6
      have r7 : wr.cell? ⟨w.heap.size, 7, none⟩ = some (.int .i64 0) := hS.R.1 7 (by omega)
      have g7 := hS.R.2.1 7
      have HB := hideP hS.B
      clear hS
      go_wp2
      refine bodyPost_ret (v := .agg #[.int .i64 ((f 0 : Nat) : Int), .int .i64 ((f 1 : Nat) : Int), .int .i64 ((f 2 : Nat) : Int), .int .i64 ((f 3 : Nat) : Int), .int .i64 ((f 4 : Nat) : Int), .int .i64 ((f 5 : Nat) : Int), .int .i64 ((f 6 : Nat) : Int), .int .i64 ((f 7 : Nat) : Int)]) ?_ rfl ⟨by rw [HXX.out], ?_⟩
      · simp [results, Tryd.results89, go_sem, r0, r1, r2, r3, r4, r5, r6, r7]
      · exact ((((((((HB.out.setCell (p := ⟨w.heap.size, 0, none⟩) (Nat.le_refl _) _).setCell (p := ⟨w.heap.size, 1, none⟩) (Nat.le_refl _) _).setCell (p := ⟨w.heap.size, 2, none⟩) (Nat.le_refl _) _).setCell (p := ⟨w.heap.size, 3, none⟩) (Nat.le_refl _) _).setCell (p := ⟨w.heap.size, 4, none⟩) (Nat.le_refl _) _).setCell (p := ⟨w.heap.size, 5, none⟩) (Nat.le_refl _) _).setCell (p := ⟨w.heap.size, 6, none⟩) (Nat.le_refl _) _).setCell (p := ⟨w.heap.size, 7, none⟩) (Nat.le_refl _) _)

set_option maxHeartbeats 1600000 in
theorem forestOf_any (K : Int) (ts : List (Int × Int)) (m : Nat) (w : World) (hT : Tab w) (hK : K ≤ 8) (hg : GoodTo K ts ts.length) (hn : ts.length ≤ 64) (hb : BitsFrom m ts 0) (hm : m < 2 ^ 64) :
    Calls Tryd.prog 60 #[.int .u64 (m : Int)] w fun e w' => e = .returned (forestV (forest ts ts.length)) ∧ Below w.heap.size w w' := by
  have HTab := hideP hT
  clear hT
  go_enter Tryd.func60, Tryd.ntmps60
  go_wp2_with fail
  refine (alone_any _).mono ?_
  rintro e w1 ⟨rfl, hb1⟩
  have S1 := fun t' => hideP (Fst.laid w w1 (fun k => k) _ t' hb1)
  have T1 := fun o => hideP (((HTab.out.below (below_one _ _) HTab.out.2).below hb1 (by have := HTab.out.2; simp)).alloc o)
  have hA : w.heap.size < w1.heap.size := by have := hb1.size; simp at this; omega
  unfold forestV
  clear hb1 HTab
  go_wp2_with fail
  refine (ties_two' K ts m _ (T1 _).out hK hg hn hb hm).mono ?_
  rintro e w2 ⟨ao, cap, rfl, ho, hb2⟩
  have S2 := hideP ((S1 _).out.next hb2)
  clear S1 T1
  obtain ⟨A, hAe⟩ : ∃ A, A = w1.heap.size := ⟨_, rfl⟩
  rw [← hAe] at hA S2 ⊢
  obtain ⟨lo, hlo⟩ : ∃ lo, lo = A + 1 := ⟨_, rfl⟩
  have HO := hideP (show OwnN w2 lo w2.heap.size ao ts.length (tcell ts) by rw [hlo, hAe]; simpa using ho)
  have hFlo : A + 1 ≤ lo := by omega
  obtain ⟨hi, hhi⟩ : ∃ hi, hi = w2.heap.size := ⟨_, rfl⟩
  rw [← hhi] at HO
  have hi2 : hi ≤ w2.heap.size := by omega
  have S2' : Hid (Fst w w2 A (pcellN (forest ts 0))) := S2
  clear hb2 ho hlo hhi hAe S2
  go_wp2
  go_loopw [10] (fun i wr => ∃ k : Nat, k ≤ ts.length ∧ i = .int .i64 k ∧ Fst w wr A (pcellN (forest ts k)) ∧ OwnN wr lo hi ao ts.length (tcell ts) ∧ hi ≤ wr.heap.size)
    (fun i _ => ts.length - (intOf i).toNat)
  case atStart => exact ⟨0, Nat.zero_le _, rfl, S2'.out, HO.out, hi2⟩
  case round =>
    obtain ⟨k, hk, rfl, hS, hO, hhz⟩ := hrel
    by_cases hlt : k < ts.length
    · obtain ⟨g, off, rfl, hgw, c0, c1⟩ := hO.ties (B := hi) (Nat.le_refl _) k hlt
      obtain ⟨q1, q2, q3⟩ := (hg k hlt).1
      obtain ⟨a, ha⟩ : ∃ a : Nat, tA ts k = (a : Int) := ⟨(tA ts k).toNat, by omega⟩
      obtain ⟨b, hb'⟩ : ∃ b : Nat, tB ts k = (b : Int) := ⟨(tB ts k).toNat, by omega⟩
      have HF : Hid (join (forest ts k) a b = forest ts (k + 1)) := by
        show join (forest ts k) a b = join (forest ts k) (tA ts k).toNat (tB ts k).toNat
        rw [ha, hb']; simp
      have ha8 : a < 8 := by omega
      have hb8 : b < 8 := by omega
      rw [ha] at c0
      rw [hb'] at c1
      have hk1 : (k : Int) < (ts.length : Int) := by omega
      have hgz : g < wr.heap.size := by omega
      have bo1 := below_one wr (.cells #[.int .i64 (a : Int), .int .i64 (b : Int)] 35)
      have S3 := hideP (hS.next bo1)
      have O3 := hideP (hO.next bo1)
      clear hS hO bo1 ha hb' q1 q2 q3
      go_wp2_with fail
      refine (join_any A (forest ts k) a b _ S3.out.F (forest_low ts k) ha8 hb8).mono ?_
      rintro e w3 ⟨rfl, hF3, ht3⟩
      rw [HF.out] at hF3
      have S4 := hideP (S3.out.turn ht3 hF3)
      have O4 := hideP (O3.out.aside ht3 (Or.inr hFlo))
      have hz3 : hi ≤ w3.heap.size := by have := ht3.size; simp at this; omega
      clear hF3 ht3 S3 O3
      go_wp2
      go_roundw
      case rel => exact ⟨k + 1, by omega, by go_num, S4.out, O4.out, hz3⟩
      case measure => simp [intOf]; omega
    · obtain rfl : k = ts.length := by omega
      obtain ⟨f, hf⟩ : ∃ f, f = forest ts ts.length := ⟨_, rfl⟩
      have HXX : Hid (forestV (forest ts ts.length) = .agg #[.int .i64 ((f 0 : Nat) : Int), .int .i64 ((f 1 : Nat) : Int), .int .i64 ((f 2 : Nat) : Int), .int .i64 ((f 3 : Nat) : Int), .int .i64 ((f 4 : Nat) : Int), .int .i64 ((f 5 : Nat) : Int), .int .i64 ((f 6 : Nat) : Int), .int .i64 ((f 7 : Nat) : Int)]) := by rw [← hf]; rfl
      rw [← hf] at hS
      clear hf
      have d0 : wr.cell? ⟨A, 0, none⟩ = some (.int .i64 ((f 0 : Nat) : Int)) := hS.F.1 0 (by omega)
      have d1 : wr.cell? ⟨A, 1, none⟩ = some (.int .i64 ((f 1 : Nat) : Int)) := hS.F.1 1 (by omega)
      have d2 : wr.cell? ⟨A, 2, none⟩ = some (.int .i64 ((f 2 : Nat) : Int)) := hS.F.1 2 (by omega)
      have d3 : wr.cell? ⟨A, 3, none⟩ = some (.int .i64 ((f 3 : Nat) : Int)) := hS.F.1 3 (by omega)
      have d4 : wr.cell? ⟨A, 4, none⟩ = some (.int .i64 ((f 4 : Nat) : Int)) := hS.F.1 4 (by omega)
      have d5 : wr.cell? ⟨A, 5, none⟩ = some (.int .i64 ((f 5 : Nat) : Int)) := hS.F.1 5 (by omega)
      have d6 : wr.cell? ⟨A, 6, none⟩ = some (.int .i64 ((f 6 : Nat) : Int)) := hS.F.1 6 (by omega)
      have d7 : wr.cell? ⟨A, 7, none⟩ = some (.int .i64 ((f 7 : Nat) : Int)) := hS.F.1 7 (by omega)
      have r0 : wr.cell? ⟨w.heap.size, 0, none⟩ = some (.int .i64 0) := hS.R.1 0 (by omega)
      have g0 := hS.R.2.1 0
      have r1 : wr.cell? ⟨w.heap.size, 1, none⟩ = some (.int .i64 0) := hS.R.1 1 (by omega)
      have g1 := hS.R.2.1 1
      have r2 : wr.cell? ⟨w.heap.size, 2, none⟩ = some (.int .i64 0) := hS.R.1 2 (by omega)
      have g2 := hS.R.2.1 2
      have r3 : wr.cell? ⟨w.heap.size, 3, none⟩ = some (.int .i64 0) := hS.R.1 3 (by omega)
      have g3 := hS.R.2.1 3
      have r4 : wr.cell? ⟨w.heap.size, 4, none⟩ = some (.int .i64 0) := hS.R.1 4 (by omega)
      have g4 := hS.R.2.1 4
      have r5 : wr.cell? ⟨w.heap.size, 5, none⟩ = some (.int .i64 0) := hS.R.1 5 (by omega)
      have g5 := hS.R.2.1 5
      have r6 : wr.cell? ⟨w.heap.size, 6, none⟩ = some (.int .i64 0) := hS.R.1 6 (by omega)
      have g6 := hS.R.2.1 6
      have r7 : wr.cell? ⟨w.heap.size, 7, none⟩ = some (.int .i64 0) := hS.R.1 7 (by omega)
      have g7 := hS.R.2.1 7
      have HB := hideP hS.B
      clear hS hO
      go_wp2
      refine bodyPost_ret (v := .agg #[.int .i64 ((f 0 : Nat) : Int), .int .i64 ((f 1 : Nat) : Int), .int .i64 ((f 2 : Nat) : Int), .int .i64 ((f 3 : Nat) : Int), .int .i64 ((f 4 : Nat) : Int), .int .i64 ((f 5 : Nat) : Int), .int .i64 ((f 6 : Nat) : Int), .int .i64 ((f 7 : Nat) : Int)]) ?_ rfl ⟨by rw [HXX.out], ?_⟩
      · simp [results, Tryd.results60, go_sem, r0, r1, r2, r3, r4, r5, r6, r7]
      · exact ((((((((HB.out.setCell (p := ⟨w.heap.size, 0, none⟩) (Nat.le_refl _) _).setCell (p := ⟨w.heap.size, 1, none⟩) (Nat.le_refl _) _).setCell (p := ⟨w.heap.size, 2, none⟩) (Nat.le_refl _) _).setCell (p := ⟨w.heap.size, 3, none⟩) (Nat.le_refl _) _).setCell (p := ⟨w.heap.size, 4, none⟩) (Nat.le_refl _) _).setCell (p := ⟨w.heap.size, 5, none⟩) (Nat.le_refl _) _).setCell (p := ⟨w.heap.size, 6, none⟩) (Nat.le_refl _) _).setCell (p := ⟨w.heap.size, 7, none⟩) (Nat.le_refl _) _)

end Go.Proofs.YticoiolpofibdaaDoor

/- Rows of knots of the call's own that begin anywhere in a block: shortened at the head, appended to. -/
namespace Go.Proofs.YticoiolpofibdaaDoor
open Go.RowKit
set_option linter.unusedVariables false

def ncell (x : Nat) : Value := .int .i64 (x : Int)
structure RowS (w : World) (lo g off cap : Nat) (xs : List Nat) : Prop where
  len : xs.length ≤ cap
  cells : ∀ i, i < xs.length → w.cell? ⟨g, off + i, none⟩ = some (ncell (xs.getD i 0))
  room : ∀ i, i < cap → (w.cell? ⟨g, off + i, none⟩).isSome = true
  fr : ∀ i, w.frozen? ⟨g, i, none⟩ = false
  lo : lo ≤ g
  lt : g < w.heap.size
theorem RowS.same {w w' : World} {lo g off cap : Nat} {xs : List Nat} (h : RowS w lo g off cap xs) (e : w'.heap[g]? = w.heap[g]?) (hs : w.heap.size ≤ w'.heap.size) : RowS w' lo g off cap xs :=
  ⟨h.len, fun i hi => (World.cell?_of_block (a := ⟨g, off + i, none⟩) e).trans (h.cells i hi), fun i hi => by rw [World.cell?_of_block (a := ⟨g, off + i, none⟩) e]; exact h.room i hi, fun i => (World.frozen?_of_block (a := ⟨g, i, none⟩) e).trans (h.fr i), h.lo, Nat.lt_of_lt_of_le h.lt hs⟩
theorem RowS.next {w w' : World} {lo g off cap : Nat} {xs : List Nat} (h : RowS w lo g off cap xs) (hb : Below w.heap.size w w') : RowS w' lo g off cap xs := h.same (hb.block g h.lt) hb.size
theorem RowS.turn {w w' : World} {lo g off cap a b : Nat} {xs : List Nat} (h : RowS w lo g off cap xs) (ht : Turned a b w w') (hg : g < a ∨ b ≤ g) : RowS w' lo g off cap xs := h.same (ht.block g h.lt hg) ht.size
theorem RowS.down {w : World} {lo lo' g off cap : Nat} {xs : List Nat} (h : RowS w lo g off cap xs) (hl : lo' ≤ lo) : RowS w lo' g off cap xs := ⟨h.len, h.cells, h.room, h.fr, Nat.le_trans hl h.lo, h.lt⟩
theorem RowS.tail {w : World} {lo g off cap x : Nat} {xs : List Nat} (h : RowS w lo g off (cap + 1) (x :: xs)) : RowS w lo g (off + 1) cap xs := by
  refine ⟨by have := h.len; simp at this; omega, fun i hi => ?_, fun i hi => ?_, h.fr, h.lo, h.lt⟩
  · have := h.cells (i + 1) (by simp; omega)
    rw [show off + 1 + i = off + (i + 1) by omega, this]; simp
  · rw [show off + 1 + i = off + (i + 1) by omega]; exact h.room (i + 1) (by omega)
theorem RowS.void {w : World} {lo g off cap : Nat} {xs : List Nat} (h : RowS w lo g off cap xs) (off' : Nat) : RowS w lo g off' 0 [] :=
  ⟨by simp, fun i hi => absurd hi (by simp), fun i hi => absurd hi (by omega), h.fr, h.lo, h.lt⟩
theorem RowS.push {w : World} {lo g off cap : Nat} {xs : List Nat} (h : RowS w lo g off cap xs) (y : Nat) (hl : xs.length < cap) : RowS (w.setCell ⟨g, off + xs.length, none⟩ (ncell y)) lo g off cap (xs ++ [y]) := by
  obtain ⟨u, hu⟩ := Option.isSome_iff_exists.1 (h.room xs.length hl)
  refine ⟨by simp; omega, fun i hi => ?_, fun i hi => ?_, fun i => by rw [World.frozen?_setCell]; exact h.fr i, h.lo, by simpa using h.lt⟩
  · simp at hi
    by_cases e : i = xs.length
    · subst e
      rw [World.cell?_setCell_same w ⟨g, off + xs.length, none⟩ _ hu]
      simp
    · rw [World.cell?_setCell_other _ _ _ _ (by simp; try omega), h.cells i (by omega)]
      simp [List.getElem?_append_left (show i < xs.length by omega)]
  · by_cases e : i = xs.length
    · subst e; rw [World.cell?_setCell_same w ⟨g, off + xs.length, none⟩ _ hu]; rfl
    · rw [World.cell?_setCell_other _ _ _ _ (by simp; try omega)]; exact h.room i hi
theorem RowS.ofOwn {w : World} {base n cap : Nat} {e : TypeId} {v : Value} {xs : List Nat} (h : w.ownsRow base e 1 v n (xs.map ncell)) (hn : 0 < n) : ∃ g cap, v = .slice (some ⟨g, 0, none⟩) n cap ∧ RowS w base g 0 cap xs := by
  have hlen : xs.length = n := by have := h.1; simpa using this
  rcases h.2 with ⟨_, e0⟩ | ⟨g, cap', cur, rfl, hg, hh, hc1, hc2, hc3, hc4⟩
  · omega
  · have hlt : g < w.heap.size := (Array.getElem?_eq_some_iff.1 hh).1
    refine ⟨g, cap', rfl, by omega, fun i hi => ?_, fun i hi => ?_, fun i => h.frozenAt i, hg, hlt⟩
    · rw [show 0 + i = i by omega, h.cellAt i (by omega)]
      simp [hi]
    · rw [show 0 + i = i by omega]
      have : i < cur.size := by rw [hc3]; omega
      simp [World.cell?, hh, this]

theorem wpList_append_rowS {P : Program} (w : World) {ops : Array Oper} {rest : List Oper} {o : Oper} {a : Act} {Q : Exit → Act → World → Prop} (hgd : o.guard = none) (s x : Operand) (t : TypeId)
    (ho : o.op = .call { callee := .builtin .append, args := #[s, x], argTypes := #[t, t] })
    (lo : Nat) (e : TypeId) (i : TypeInfo) (ht : P.underlying t = some (.slice e)) (hi : P.info? e = some i) (hz : i.zero = some (.int .i64 0)) (hsize : i.size = 1) (hby : i.bytes = 8)
    (g off cap : Nat) (xs : List Nat) (n : Nat) (hn : xs.length = n) (hs : a.eval s = .slice (some ⟨g, off, none⟩) n cap) (hr : RowS w lo g off cap xs)
    (q y : Nat) (hx : a.eval x = .slice (some ⟨q, 0, none⟩) 1 1) (hq : w.cell? ⟨q, 0, none⟩ = some (ncell y)) (hshort : xs.length ≤ 1000) (hlo : lo ≤ w.heap.size)
    (h : ∀ g' off' cap' w', RowS w' lo g' off' cap' (xs ++ [y]) → (g' = g ∨ w.heap.size ≤ g') → Turned g (g + 1) w w' → wpList P ops Q rest (a.put o.dst (.slice (some ⟨g', off', none⟩) (n + 1) cap')) w') : wpList P ops Q (o :: rest) a w := by
  subst hn
  refine wpList_plain hgd fun K hK => ?_
  have hnews : ∀ j u, [ncell y][j]? = some u → w.cell? ((⟨q, 0, none⟩ : Addr).add j) = some u := by
    intro j u hj
    cases j with
    | zero => simp at hj; subst hj; simpa [Addr.add] using hq
    | succ j => simp at hj
  by_cases hroom : xs.length < cap
  · have hrun := run_append_room_cells (P := P) w t o.type e i ht hi g off xs.length cap ⟨q, 0, none⟩ 1 1 [ncell y] (by simp [hsize]) hnews (by intro u hu; simp at hu; subst hu; rfl) (by omega)
      (by intro j hj; simp at hj; subst hj; rw [hsize]; simpa using hr.room xs.length hroom) (by intro j hj; exact hr.fr _)
    have hset : w.setCells g (off + xs.length * i.size) [ncell y] = w.setCell ⟨g, off + xs.length, none⟩ (ncell y) := by
      rw [hsize]; simp [World.setCells]
    rw [hset] at hrun
    unfold Oper.wp execOp
    simp only [ho, resolve, invoke, builtin, Sem.run_bind, Sem.run_pure, Result.andThen_ok, List.map_toArray, List.map_cons, List.map_nil, hs, hx, hrun]
    exact hK _ _ (h g off cap _ (hr.push y hroom) (Or.inl rfl) ⟨rfl, rfl, rfl, by simp [World.setCell], fun k _ hk => Below.heap_setCell _ _ _ _ (by show k ≠ g; omega)⟩)
  · have holds : ∀ j u, (xs.map ncell)[j]? = some u → w.cell? ((⟨g, off, none⟩ : Addr).add j) = some u := by
      intro j u hj
      have hj' : j < xs.length := by have := (List.getElem?_eq_some_iff.1 hj).1; simpa using this
      have hc := hr.cells j hj'
      have ha : (⟨g, off, none⟩ : Addr).add j = ⟨g, off + j, none⟩ := by unfold Addr.add; split <;> simp_all
      rw [ha, hc]
      simp [hj'] at hj ⊢
      exact hj
    obtain ⟨v', w', hrun, hown, hgr⟩ := run_append_arg_grows (P := P) w t o.type e i (.int .i64 0) 1 8 ht hi hz hsize hby rfl (by omega) ⟨g, off, none⟩ xs.length cap (xs.map ncell) (by simp) holds ⟨q, 0, none⟩ 1 1 [ncell y] (by simp) hnews (by omega) (by unfold maxLen; omega) (by omega)
    have hown' : w'.ownsRow w.heap.size e 1 v' (xs.length + 1) ((xs ++ [y]).map ncell) := by simpa using hown
    obtain ⟨g', cap', rfl, hrow⟩ := RowS.ofOwn (cap := 0) hown' (by omega)
    unfold Oper.wp execOp
    simp only [ho, resolve, invoke, builtin, Sem.run_bind, Sem.run_pure, Result.andThen_ok, List.map_toArray, List.map_cons, List.map_nil, hs, hx, hrun]
    exact hK _ _ (h g' 0 cap' w' (hrow.down hlo) (Or.inr hrow.lo) ⟨hgr.os, hgr.tape, hgr.output, hgr.size, fun k hk _ => hgr.block k hk (by simp)⟩)

end Go.Proofs.YticoiolpofibdaaDoor
