/- Texts put together: WTies, WAdd, WCut. -/
import Derived.Test.YtljnjpjnadlmhaaDoorPartWSpecOk
import Derived.Laws.BitsAllLaws
import Derived.Test.YtljnjpjnadlmhaaDoorPartWInts
import Derived.Test.YtljnjpjnadlmhaaDoorPartWLeaf
import Derived.Deep.LoopGhost
import Derived.Test.YtljnjpjnadlmhaaDoorMath4
/- Walks of bits.TrailingZeros64 and of ties. -/
namespace Go.Proofs.YtljnjpjnadlmhaaDoor
open Go.RowKit
set_option linter.unusedVariables false

def dbT : List Int := [0, 1, 56, 2, 57, 49, 28, 3, 61, 58, 42, 50, 38, 29, 17, 4, 62, 47, 59, 36, 45, 43, 51, 22, 53, 39, 33, 30, 24, 18, 12, 5, 63, 55, 48, 27, 60, 41, 37, 16, 46, 35, 44, 21, 52, 32, 23, 11, 54, 26, 40, 15, 34, 20, 31, 10, 25, 14, 19, 9, 13, 8, 7, 6]
/-- the table of the library lies in w -/
def Tab (w : World) : Prop := (∀ i, i < 64 → w.cell? ⟨0, i, none⟩ = some (.int .u8 (dbT.getD i 0))) ∧ 0 < w.heap.size
def dbAt (c : Nat) : Nat := 2 ^ c * 285870213051353865 % 18446744073709551616 / 288230376151711744
theorem db_table : ∀ c : Fin 64, dbT.getD (dbAt c.val) 0 = (c.val : Int) ∧ dbAt c.val < 64 := by decide +kernel
theorem db_index (m c : Nat) (h0 : ∀ j, j < c → m.testBit j = false) (h1 : m.testBit c = true) (hm : m < 2 ^ 64) :
    IntKind.u64.wrap (bits BinOp.and IntKind.u64 (m : Int) (IntKind.u64.wrap (-(m : Int))) * 285870213051353865) / 288230376151711744 = ((dbAt c : Nat) : Int) := by
  have hpos : 0 < m := by
    rcases Nat.eq_zero_or_pos m with e | e
    · subst e; simp at h1
    · exact e
  have e1 : IntKind.u64.wrap (-(m : Int)) = ((2 ^ 64 - m : Nat) : Int) := by
    rw [IntKind.wrap_u64]
    have : (2 : Nat) ^ 64 = 18446744073709551616 := by decide
    rw [this] at hm ⊢
    omega
  rw [e1, and_nat m (2 ^ 64 - m) hm (by omega), low_only h0 h1 hm, IntKind.wrap_u64]
  unfold dbAt
  have e2 : (((2 ^ c : Nat) : Int) * 285870213051353865) = ((2 ^ c * 285870213051353865 : Nat) : Int) := by simp
  rw [e2]
  generalize 2 ^ c * 285870213051353865 = y
  omega
theorem bit_lt {m c : Nat} (h1 : m.testBit c = true) (hm : m < 2 ^ 64) : c < 64 := by
  apply Decidable.byContradiction
  intro hc
  have : m.testBit c = false := Nat.testBit_lt_two_pow (Nat.lt_of_lt_of_le hm (Nat.pow_le_pow_right (by omega) (by omega)))
  rw [this] at h1; simp at h1
set_option maxHeartbeats 400000 in
theorem tz_any (m c : Nat) (w : World) (hT : Tab w) (h0 : ∀ j, j < c → m.testBit j = false) (h1 : m.testBit c = true) (hm : m < 2 ^ 64) :
    Calls Tryd.prog 55 #[.int .u64 (m : Int)] w fun e w' => e = .returned (.int .i64 (c : Int)) ∧ w' = w := by
  have hne : ((m : Int) == 0) = false := by
    have : m ≠ 0 := fun e => by subst e; simp at h1
    simp [this]
  have hc := bit_lt h1 hm
  have hi := db_index m c h0 h1 hm
  obtain ⟨t1, t2⟩ := db_table ⟨c, hc⟩
  simp only at t1 t2
  obtain ⟨r, hr⟩ : ∃ r, r = dbAt c := ⟨_, rfl⟩
  rw [← hr] at hi t1 t2
  have hcell := hT.1 r t2
  rw [t1] at hcell
  have hr1 : (0 : Int) ≤ (r : Int) := by omega
  have hr2 : (r : Int) < 64 := by omega
  have hc1 : (0 : Int) ≤ (c : Int) := by omega
  have hc2 : (c : Int) < 64 := by omega
  clear hr t1 hT h0 h1 hm
  go_enter Tryd.func55, Tryd.ntmps55
  go_wp2
  go_ret
  exact ⟨rfl, rfl⟩
theorem Tab.below {w w' : World} {B : Nat} (h : Tab w) (hb : Below B w w') (hB : 0 < B) : Tab w' :=
  ⟨fun i hi => (hb.cell (p := ⟨0, i, none⟩) hB).trans (h.1 i hi), Nat.lt_of_lt_of_le h.2 hb.size⟩
theorem Tab.alloc {w : World} (h : Tab w) (o : Obj) : Tab (w.alloc o) := h.below (below_one w o) h.2
/-- the bits from the k-th tie on -/
def BitsFrom (m : Nat) (ts : List (Int × Int)) (k : Nat) : Prop := ∀ j, m.testBit j = true ↔ ∃ i, k ≤ i ∧ i < ts.length ∧ idx (tA ts i) (tB ts i) = j
theorem bitsFrom_low {K : Int} {ts : List (Int × Int)} (hK : K ≤ 8) (hg : GoodTo K ts ts.length) {m k : Nat} (hb : BitsFrom m ts k) (hk : k < ts.length) :
    (∀ j, j < idx (tA ts k) (tB ts k) → m.testBit j = false) ∧ m.testBit (idx (tA ts k) (tB ts k)) = true := by
  constructor
  · intro j hj
    rw [← Bool.not_eq_true, hb j]
    rintro ⟨i, h1, h2, e⟩
    by_cases hik : i = k
    · subst hik; omega
    · have := good_lt hK hg k i (by omega) h2; omega
  · exact (hb _).2 ⟨k, Nat.le_refl _, hk, rfl⟩
theorem bitsFrom_next {K : Int} {ts : List (Int × Int)} (hK : K ≤ 8) (hg : GoodTo K ts ts.length) {m k : Nat} (hb : BitsFrom m ts k) (hk : k < ts.length) : BitsFrom (m &&& (m - 1)) ts (k + 1) := by
  obtain ⟨l0, l1⟩ := bitsFrom_low hK hg hb hk
  intro j
  rw [low_strike l0 l1 j, Bool.and_eq_true, hb j, decide_eq_true_eq]
  constructor
  · rintro ⟨⟨i, h1, h2, e⟩, hne⟩
    refine ⟨i, ?_, h2, e⟩
    by_cases hik : i = k
    · subst hik; exact absurd e.symm hne
    · omega
  · rintro ⟨i, h1, h2, e⟩
    refine ⟨⟨i, by omega, h2, e⟩, ?_⟩
    have := good_lt hK hg k i (by omega) h2
    omega
theorem bitsFrom_end {ts : List (Int × Int)} {m k : Nat} (hb : BitsFrom m ts k) (hk : ts.length ≤ k) : m = 0 := by
  apply Nat.eq_of_testBit_eq
  intro j
  rw [Nat.zero_testBit, ← Bool.not_eq_true, hb j]
  rintro ⟨i, h1, h2, _⟩
  omega
theorem bitsFrom_pos {K : Int} {ts : List (Int × Int)} (hK : K ≤ 8) (hg : GoodTo K ts ts.length) {m k : Nat} (hb : BitsFrom m ts k) (hk : k < ts.length) : 0 < m := by
  have := (bitsFrom_low hK hg hb hk).2
  rcases Nat.eq_zero_or_pos m with e | e
  · subst e; simp at this
  · exact e
set_option maxHeartbeats 800000 in
theorem ties_any (K : Int) (ts : List (Int × Int)) (m : Nat) (w : World) (hT : Tab w) (hK : K ≤ 8) (hg : GoodTo K ts ts.length) (hn : ts.length ≤ 64) (hb : BitsFrom m ts 0) (hm : m < 2 ^ 64) :
    Calls Tryd.prog 28 #[.int .u64 (m : Int)] w fun e w' => ∃ v, e = .returned v ∧ w'.ownsRow w.heap.size 63 2 v ts.length (clist ts ts.length) ∧ Below w.heap.size w w' := by
  obtain ⟨i0, hi, hz0, hz1, hz2⟩ := info_parts Tryd.infoTie
  go_enter Tryd.func28, Tryd.ntmps28
  go_wp2
  go_loopg [0, 3] ts.length (fun gk p v wr => ∃ k mm : Nat, k + gk = ts.length ∧ p = .int .u64 (mm : Int) ∧ mm < 2 ^ 64 ∧ BitsFrom mm ts k ∧ wr.ownsRow w.heap.size 63 2 v k (clist ts k) ∧ Below w.heap.size w wr)
  case atStart => exact ⟨0, m, by omega, rfl, hm, hb, World.ownsRow_nil _ _ _ _, Below.refl _ _⟩
  case round =>
    obtain ⟨k, mm, hk, rfl, hmm, hbits, hown, hbel⟩ := hrel
    clear hb hm
    by_cases hlt : k < ts.length
    · obtain ⟨l0, l1⟩ := bitsFrom_low hK hg hbits hlt
      have hpos := bitsFrom_pos hK hg hbits hlt
      have HNX : Hid (BitsFrom (mm &&& (mm - 1)) ts (k + 1)) := bitsFrom_next hK hg hbits hlt
      have tk := (hg k hlt).1
      have hne : ((mm : Int) != 0) = true := by rw [bne_iff_ne]; omega
      have hT' : Tab wr := hT.below hbel hT.2
      obtain ⟨c, hc⟩ : ∃ c, c = idx (tA ts k) (tB ts k) := ⟨_, rfl⟩
      rw [← hc] at l0 l1
      have e1 : (c : Int) / 8 = tA ts k := by obtain ⟨a, b, d⟩ := tk; rw [hc]; unfold idx; omega
      have e2 : (c : Int) % 8 = tB ts k := by obtain ⟨a, b, d⟩ := tk; rw [hc]; unfold idx; omega
      have hc0 : (0 : Int) ≤ (c : Int) := by omega
      have hc64 : (c : Int) < 64 := by have := bit_lt l1 hmm; omega
      have HCL : Hid (clist ts (k + 1) = clist ts k ++ [.int .i64 ((c : Int) / 8), .int .i64 ((c : Int) % 8)]) := by rw [e1, e2]; exact clist_succ ts k
      have HAND : Hid (bits .and .u64 (mm : Int) ((mm : Int) - 1) = ((mm &&& (mm - 1) : Nat) : Int)) := by
        have := and_nat mm (mm - 1) hmm (by omega)
        rw [show (((mm - 1 : Nat)) : Int) = (mm : Int) - 1 by omega] at this
        exact this
      have HLT : Hid (mm &&& (mm - 1) < 2 ^ 64) := Nat.lt_of_le_of_lt Nat.and_le_left hmm
      have hmp : (0 : Int) < (mm : Int) := by omega
      have hmm' : (mm : Int) < 18446744073709551616 := by have : (2 : Nat) ^ 64 = 18446744073709551616 := by decide
                                                          omega
      clear hc e1 e2 tk hbits
      go_wp2_with fail
      refine (tz_any mm c _ hT' l0 l1 hmm).mono ?_
      rintro e w1 ⟨rfl, rfl⟩
      clear l0 l1 hT' hT
      go_wp2_with (at_builtin; refine wpList_append_own _ rfl _ _ 23 rfl w.heap.size 63 i0 (.agg #[.int .i64 0, .int .i64 0]) 2 16 Tryd.underlying23 hi hz0 hz1 hz2 rfl (by decide) _ _ _ rfl (hown.alloc _) ⟨_, 0, none⟩ 1 1 [.int .i64 ((c : Int) / 8), .int .i64 ((c : Int) % 8)] rfl rfl ?c1 ?c2 ?c3 ?c4 ?c5 ?_)
      case c1 =>
        intro j u hj
        match j, hj with
        | 0, hj => simp at hj; subst hj; simp [Addr.add]
        | 1, hj => simp at hj; subst hj; simp [Addr.add]
      case c2 => intro u hu; simp at hu; rcases hu with rfl | rfl <;> rfl
      case c3 => unfold maxLen; omega
      case c4 => omega
      case c5 => have := hbel.size; simp; omega
      intro v' w2 hown2 hgrow _
      rw [← HCL.out] at hown2
      have hb2 : Below w.heap.size w w2 := (hbel.alloc hbel.size _).grown hgrow (by have := hbel.size; simp; omega) (own_ge hown)
      have HO2 : Hid (w2.ownsRow w.heap.size 63 2 v' (k + 1) (clist ts (k + 1))) := hown2
      clear hown2 hgrow hown hbel hi hz0 hz1 hz2
      have hw1 : IntKind.u64.wrap ((mm : Int) - 1) = (mm : Int) - 1 := by rw [IntKind.wrap_u64]; omega
      have hand := HAND.out
      go_wp2
      go_roundg (gk - 1)
      case measure => omega
      case rel => exact ⟨k + 1, mm &&& (mm - 1), by omega, rfl, HLT.out, HNX.out, HO2.out, hb2⟩
    · have hz : mm = 0 := bitsFrom_end hbits (by omega)
      have hkn : k = ts.length := by omega
      subst hz
      subst hkn
      clear hbits hmm hT
      go_wp2
      go_ret
      exact ⟨_, rfl, hown, hbel⟩

end Go.Proofs.YtljnjpjnadlmhaaDoor

/- Walk of impl.NetAdd. -/
namespace Go.Proofs.YtljnjpjnadlmhaaDoor
open Go.RowKit
set_option linter.unusedVariables false

theorem ties_two (K : Int) (ts : List (Int × Int)) (m : Nat) (w : World) (hT : Tab w) (hK : K ≤ 8) (hg : GoodTo K ts ts.length) (hn : ts.length ≤ 64) (hb : BitsFrom m ts 0) (hm : m < 2 ^ 64) :
    Calls Tryd.prog 28 #[.int .u64 (m : Int)] w fun e w' => ∃ ao cap, e = .returned (.slice ao ts.length cap) ∧ w'.ownsRow w.heap.size 63 2 (.slice ao ts.length cap) ts.length (clist ts ts.length) ∧ Below w.heap.size w w' := by
  refine (ties_any K ts m w hT hK hg hn hb hm).mono ?_
  rintro e w' ⟨v, rfl, ho, hb⟩
  obtain ⟨ao, cap, rfl⟩ := own_slice ho
  exact ⟨ao, cap, rfl, ho, hb⟩
theorem bitsFrom_of {m : Nat} {ts : List (Int × Int)} (h : BitsOf m ts) : BitsFrom m ts 0 := by
  intro j
  rw [h j, ← mem_get]
  exact ⟨fun ⟨i, h1, h2⟩ => ⟨i, Nat.zero_le _, h1, h2⟩, fun ⟨i, _, h1, h2⟩ => ⟨i, h1, h2⟩⟩
end Go.Proofs.YtljnjpjnadlmhaaDoor

/- Walks of without, withoutKnot, impl.NetCut, impl.NetWithout. -/
namespace Go.Proofs.YtljnjpjnadlmhaaDoor
open Go.RowKit
set_option linter.unusedVariables false

theorem andNot_nat (p q : Nat) (hp : p < 2 ^ 64) (hq : q < 2 ^ 64) : bits .andNot .u64 (p : Int) (q : Int) = ((strike p q : Nat) : Int) := by
  have : (2 : Nat) ^ 64 = 18446744073709551616 := by decide
  exact u64_andNot_nat p q (by omega) (by omega)

set_option maxHeartbeats 400000 in
theorem without_any (p : Nat) (a b : Int) (w : World) (hp : p < 2 ^ 64) :
    Calls Tryd.prog 49 #[.int .u64 (p : Int), .int .i64 a, .int .i64 b] w fun e w' => e = .returned (.int .u64 ((strike p (pbit a b) : Nat) : Int)) ∧ w' = w := by
  have hor := andNot_nat p (pbit a b) hp (pbit_lt a b)
  clear hp
  go_enter Tryd.func49, Tryd.ntmps49
  go_wp2_with fail
  refine (pairBit_any a b _).mono ?_
  rintro e w' ⟨rfl, rfl⟩
  go_wp2
  go_ret
  exact ⟨rfl, rfl⟩

end Go.Proofs.YtljnjpjnadlmhaaDoor
