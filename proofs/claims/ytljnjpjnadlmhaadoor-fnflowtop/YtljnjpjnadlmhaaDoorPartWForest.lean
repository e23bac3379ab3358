/- Texts put together: WForest, WTies, WForest2, WAdd, WCut. -/
import Derived.Test.YtljnjpjnadlmhaaDoorPartWInts
import Derived.Test.YtljnjpjnadlmhaaDoorPartWLeaf
import Derived.Test.YtljnjpjnadlmhaaDoorPartMath
import Derived.Test.YtljnjpjnadlmhaaDoorPartWSpecOk
import Derived.Laws.BitsAllLaws
import Derived.Deep.LoopGhost
import Derived.Test.YtljnjpjnadlmhaaDoorMath4
/- Walks of impl.forest.least, impl.forest.join. -/
namespace Go.Proofs.YtljnjpjnadlmhaaDoor
open Go.RowKit
set_option linter.unusedVariables false

def pcellN (f : Nat → Nat) (j : Nat) : Value := .int .i64 (f j : Int)
set_option maxHeartbeats 400000 in
theorem least_any (F : Nat) (f : Nat → Nat) (k : Nat) (w : World) (hF : OwnI w F 8 (pcellN f)) (hl : Low f) (hk : k < 8) :
    Calls Tryd.prog 64 #[.pointer (some ⟨F, 0, none⟩), .int .i64 (k : Int)] w fun e w' => e = .returned (.int .i64 (top f k : Int)) ∧ w' = w := by
  go_enter Tryd.func64, Tryd.ntmps64
  go_wp2
  go_loopw [1] (fun i wr => ∃ j : Nat, j < 8 ∧ i = .int .i64 j ∧ top f j = top f k ∧ wr = w)
    (fun i _ => (intOf i).toNat)
  case atStart => exact ⟨k, hk, rfl, rfl, rfl⟩
  case round =>
    obtain ⟨j, hj, rfl, htop, rfl⟩ := hrel
    have c0 : wr.cell? ⟨F, j, none⟩ = some (.int .i64 (f j : Int)) := hF.1 j hj
    have hj0 : (0 : Int) ≤ (j : Int) := by omega
    have hj8 : (j : Int) < 8 := by omega
    have HL := hideP hl
    have hlow := hl j
    by_cases hfj : f j = j
    · have HT : Hid (top f k = j) := by rw [← htop]; exact top_fix hfj
      have hne : ((f j : Int) != (j : Int)) = false := by simp [hfj]
      rw [hfj] at c0
      clear htop hlow hne hF hl
      go_wp2
      go_ret
      exact ⟨by rw [HT.out]; rfl, rfl⟩
    · have HT : Hid (top f (f j) = top f k) := by rw [← htop]; exact (top_step hl).symm
      have hne : ((f j : Int) == (j : Int)) = false := by simp; omega
      have hne2 : ¬ ((f j : Int) = (j : Int)) := by omega
      have hlt : f j < j := by omega
      obtain ⟨y, hy⟩ : ∃ y, y = f j := ⟨_, rfl⟩
      rw [← hy] at c0 hne hne2 hlt HT
      clear htop hlow hF hl hy hfj
      go_wp2
      go_roundw
      case rel => exact ⟨y, by omega, rfl, HT.out, trivial⟩
      case measure => simp [intOf]; omega

theorem join_cells (f : Nat → Nat) (a b j : Nat) : (if j = max (top f a) (top f b) then Value.int .i64 ((min (top f a) (top f b) : Nat) : Int) else pcellN f j) = pcellN (join f a b) j := by
  unfold pcellN join
  by_cases e : j = max (top f a) (top f b)
  · rw [if_pos e, if_pos e]
  · rw [if_neg e, if_neg e]
def joinB (f : Nat → Nat) (a b : Nat) : Bool := decide (top f a ≠ top f b)
set_option maxHeartbeats 400000 in
theorem join_any (F : Nat) (f : Nat → Nat) (a b : Nat) (w : World) (hF : OwnI w F 8 (pcellN f)) (hl : Low f) (ha : a < 8) (hb : b < 8) :
    Calls Tryd.prog 77 #[.pointer (some ⟨F, 0, none⟩), .int .i64 (a : Int), .int .i64 (b : Int)] w fun e w' => e = .returned (.bool (joinB f a b)) ∧ OwnI w' F 8 (pcellN (join f a b)) ∧ Turned F (F + 1) w w' := by
  have ra8 : top f a < 8 := Nat.lt_of_le_of_lt (top_le hl a) ha
  have rb8 : top f b < 8 := Nat.lt_of_le_of_lt (top_le hl b) hb
  have HJ : Hid (joinB f a b = decide (top f a ≠ top f b)) := rfl
  obtain ⟨r, hr⟩ : ∃ r, r = joinB f a b := ⟨_, rfl⟩
  rw [← hr] at HJ ⊢
  clear hr
  obtain ⟨mx, hmx⟩ : ∃ m, m = max (top f a) (top f b) := ⟨_, rfl⟩
  obtain ⟨mn, hmn⟩ : ∃ m, m = min (top f a) (top f b) := ⟨_, rfl⟩
  have mx8 : mx < 8 := by omega
  have c0 : w.cell? ⟨F, mx, none⟩ = some (.int .i64 (f mx : Int)) := hF.1 mx mx8
  have f0 := hF.2.1 mx
  have HO : Hid (OwnI (w.setCell ⟨F, mx, none⟩ (.int .i64 (mn : Int))) F 8 (pcellN (join f a b))) :=
    (hF.set (i := mx) mx8 (.int .i64 (mn : Int))).congr (fun j _ => by rw [hmx, hmn]; exact join_cells f a b j)
  have HTu : Hid (Turned F (F + 1) w (w.setCell ⟨F, mx, none⟩ (.int .i64 (mn : Int)))) :=
    ⟨rfl, rfl, rfl, by simp [World.setCell], fun k _ hk => Below.heap_setCell _ _ _ _ (by show k ≠ F; omega)⟩
  have la := fun w h => least_any F f a w h hl ha
  have lb := fun w h => least_any F f b w h hl hb
  obtain ⟨ra, hra⟩ : ∃ r, r = top f a := ⟨_, rfl⟩
  obtain ⟨rb, hrb⟩ : ∃ r, r = top f b := ⟨_, rfl⟩
  rw [← hra] at la hmx hmn ra8 HJ
  rw [← hrb] at lb hmx hmn rb8 HJ
  have LA := hideP (la w hF)
  have LB := hideP (lb w hF)
  have mx0 : (0 : Int) ≤ (mx : Int) := by omega
  have mx8' : (mx : Int) < 8 := by omega
  clear la lb hF hra hrb
  rcases Nat.lt_trichotomy ra rb with hab | hab | hab
  · obtain rfl : mx = rb := by omega
    obtain rfl : mn = ra := by omega
    have hab' : (mn : Int) < (mx : Int) := by omega
    have hne : Hid (((mn : Int) != (mx : Int)) = true) := by show ((mn : Int) != (mx : Int)) = true; rw [bne_iff_ne]; omega
    have HR : Hid (r = true) := by rw [HJ.out]; exact decide_eq_true (by omega)
    clear HJ
    clear hmx hmn
    go_enter Tryd.func77, Tryd.ntmps77
    go_wp2_with fail
    refine LA.out.mono ?_
    rintro e w1 ⟨rfl, rfl⟩
    go_wp2_with fail
    refine LB.out.mono ?_
    rintro e w2 ⟨rfl, rfl⟩
    go_wp2
    go_ret
    refine ⟨?_, HO.out, HTu.out⟩
    rw [HR.out]
    exact congrArg (fun b => Ending.returned (Value.bool b)) hne.out
  · obtain rfl : mx = rb := by omega
    obtain rfl : mn = ra := by omega
    obtain rfl : mn = mx := by omega
    have HR : Hid (r = false) := by rw [HJ.out]; exact decide_eq_false (by omega)
    clear HJ
    clear hmx hmn
    go_enter Tryd.func77, Tryd.ntmps77
    go_wp2_with fail
    refine LA.out.mono ?_
    rintro e w1 ⟨rfl, rfl⟩
    go_wp2_with fail
    refine LB.out.mono ?_
    rintro e w2 ⟨rfl, rfl⟩
    go_wp2
    go_ret
    refine ⟨?_, HO.out, HTu.out⟩
    rw [HR.out]
    rfl
  · obtain rfl : mx = ra := by omega
    obtain rfl : mn = rb := by omega
    have hab' : (mn : Int) < (mx : Int) := by omega
    have hne : Hid (((mx : Int) != (mn : Int)) = true) := by show ((mx : Int) != (mn : Int)) = true; rw [bne_iff_ne]; omega
    have HR : Hid (r = true) := by rw [HJ.out]; exact decide_eq_true (by omega)
    clear HJ
    clear hmx hmn
    go_enter Tryd.func77, Tryd.ntmps77
    go_wp2_with fail
    refine LA.out.mono ?_
    rintro e w1 ⟨rfl, rfl⟩
    go_wp2_with fail
    refine LB.out.mono ?_
    rintro e w2 ⟨rfl, rfl⟩
    go_wp2
    go_ret
    refine ⟨?_, HO.out, HTu.out⟩
    rw [HR.out]
    exact congrArg (fun b => Ending.returned (Value.bool b)) hne.out

end Go.Proofs.YtljnjpjnadlmhaaDoor

/- Walks of bits.TrailingZeros64 and of ties. -/
namespace Go.Proofs.YtljnjpjnadlmhaaDoor
open Go.RowKit
set_option linter.unusedVariables false

def dbT : List Int := [0, 1, 56, 2, 57, 49, 28, 3, 61, 58, 42, 50, 38, 29, 17, 4, 62, 47, 59, 36, 45, 43, 51, 22, 53, 39, 33, 30, 24, 18, 12, 5, 63, 55, 48, 27, 60, 41, 37, 16, 46, 35, 44, 21, 52, 32, 23, 11, 54, 26, 40, 15, 34, 20, 31, 10, 25, 14, 19, 9, 13, 8, 7, 6]
/-- the table of the library lies in w -/
def Tab (w : World) : Prop := (∀ i, i < 64 → w.cell? ⟨0, i, none⟩ = some (.int .u8 (dbT.getD i 0))) ∧ 0 < w.heap.size
def dbAt (c : Nat) : Nat := 2 ^ c * 285870213051353865 % 18446744073709551616 / 288230376151711744
theorem db_table : ∀ c : Fin 64, dbT.getD (dbAt c.val) 0 = (c.val : Int) ∧ dbAt c.val < 64 := by decide +kernel
theorem db_index (m c : Nat) (h0 : ∀ j, j < c → m.testBit j = false) (h1 : m.testBit c = true) (hm : m < 2 ^ 64) :
    IntKind.u64.wrap (bits BinOp.and IntKind.u64 (m : Int) (IntKind.u64.wrap (-(m : Int))) * 285870213051353865) / 288230376151711744 = ((dbAt c : Nat) : Int) := by
  have hpos : 0 < m := by
    rcases Nat.eq_zero_or_pos m with e | e
    · subst e; simp at h1
    · exact e
  have e1 : IntKind.u64.wrap (-(m : Int)) = ((2 ^ 64 - m : Nat) : Int) := by
    rw [IntKind.wrap_u64]
    have : (2 : Nat) ^ 64 = 18446744073709551616 := by decide
    rw [this] at hm ⊢
    omega
  rw [e1, and_nat m (2 ^ 64 - m) hm (by omega), low_only h0 h1 hm, IntKind.wrap_u64]
  unfold dbAt
  have e2 : (((2 ^ c : Nat) : Int) * 285870213051353865) = ((2 ^ c * 285870213051353865 : Nat) : Int) := by simp
  rw [e2]
  generalize 2 ^ c * 285870213051353865 = y
  omega
theorem bit_lt {m c : Nat} (h1 : m.testBit c = true) (hm : m < 2 ^ 64) : c < 64 := by
  apply Decidable.byContradiction
  intro hc
  have : m.testBit c = false := Nat.testBit_lt_two_pow (Nat.lt_of_lt_of_le hm (Nat.pow_le_pow_right (by omega) (by omega)))
  rw [this] at h1; simp at h1
set_option maxHeartbeats 400000 in
theorem tz_any (m c : Nat) (w : World) (hT : Tab w) (h0 : ∀ j, j < c → m.testBit j = false) (h1 : m.testBit c = true) (hm : m < 2 ^ 64) :
    Calls Tryd.prog 55 #[.int .u64 (m : Int)] w fun e w' => e = .returned (.int .i64 (c : Int)) ∧ w' = w := by
  have hne : ((m : Int) == 0) = false := by
    have : m ≠ 0 := fun e => by subst e; simp at h1
    simp [this]
  have hc := bit_lt h1 hm
  have hi := db_index m c h0 h1 hm
  obtain ⟨t1, t2⟩ := db_table ⟨c, hc⟩
  simp only at t1 t2
  obtain ⟨r, hr⟩ : ∃ r, r = dbAt c := ⟨_, rfl⟩
  rw [← hr] at hi t1 t2
  have hcell := hT.1 r t2
  rw [t1] at hcell
  have hr1 : (0 : Int) ≤ (r : Int) := by omega
  have hr2 : (r : Int) < 64 := by omega
  have hc1 : (0 : Int) ≤ (c : Int) := by omega
  have hc2 : (c : Int) < 64 := by omega
  clear hr t1 hT h0 h1 hm
  go_enter Tryd.func55, Tryd.ntmps55
  go_wp2
  go_ret
  exact ⟨rfl, rfl⟩
theorem Tab.below {w w' : World} {B : Nat} (h : Tab w) (hb : Below B w w') (hB : 0 < B) : Tab w' :=
  ⟨fun i hi => (hb.cell (p := ⟨0, i, none⟩) hB).trans (h.1 i hi), Nat.lt_of_lt_of_le h.2 hb.size⟩
theorem Tab.alloc {w : World} (h : Tab w) (o : Obj) : Tab (w.alloc o) := h.below (below_one w o) h.2
/-- the bits from the k-th tie on -/
def BitsFrom (m : Nat) (ts : List (Int × Int)) (k : Nat) : Prop := ∀ j, m.testBit j = true ↔ ∃ i, k ≤ i ∧ i < ts.length ∧ idx (tA ts i) (tB ts i) = j
theorem bitsFrom_low {K : Int} {ts : List (Int × Int)} (hK : K ≤ 8) (hg : GoodTo K ts ts.length) {m k : Nat} (hb : BitsFrom m ts k) (hk : k < ts.length) :
    (∀ j, j < idx (tA ts k) (tB ts k) → m.testBit j = false) ∧ m.testBit (idx (tA ts k) (tB ts k)) = true := by
  constructor
  · intro j hj
    rw [← Bool.not_eq_true, hb j]
    rintro ⟨i, h1, h2, e⟩
    by_cases hik : i = k
    · subst hik; omega
    · have := good_lt hK hg k i (by omega) h2; omega
  · exact (hb _).2 ⟨k, Nat.le_refl _, hk, rfl⟩
theorem bitsFrom_next {K : Int} {ts : List (Int × Int)} (hK : K ≤ 8) (hg : GoodTo K ts ts.length) {m k : Nat} (hb : BitsFrom m ts k) (hk : k < ts.length) : BitsFrom (m &&& (m - 1)) ts (k + 1) := by
  obtain ⟨l0, l1⟩ := bitsFrom_low hK hg hb hk
  intro j
  rw [low_strike l0 l1 j, Bool.and_eq_true, hb j, decide_eq_true_eq]
  constructor
  · rintro ⟨⟨i, h1, h2, e⟩, hne⟩
    refine ⟨i, ?_, h2, e⟩
    by_cases hik : i = k
    · subst hik; exact absurd e.symm hne
    · omega
  · rintro ⟨i, h1, h2, e⟩
    refine ⟨⟨i, by omega, h2, e⟩, ?_⟩
    have := good_lt hK hg k i (by omega) h2
    omega
theorem bitsFrom_end {ts : List (Int × Int)} {m k : Nat} (hb : BitsFrom m ts k) (hk : ts.length ≤ k) : m = 0 := by
  apply Nat.eq_of_testBit_eq
  intro j
  rw [Nat.zero_testBit, ← Bool.not_eq_true, hb j]
  rintro ⟨i, h1, h2, _⟩
  omega
theorem bitsFrom_pos {K : Int} {ts : List (Int × Int)} (hK : K ≤ 8) (hg : GoodTo K ts ts.length) {m k : Nat} (hb : BitsFrom m ts k) (hk : k < ts.length) : 0 < m := by
  have := (bitsFrom_low hK hg hb hk).2
  rcases Nat.eq_zero_or_pos m with e | e
  · subst e; simp at this
  · exact e
set_option maxHeartbeats 800000 in
theorem ties_any (K : Int) (ts : List (Int × Int)) (m : Nat) (w : World) (hT : Tab w) (hK : K ≤ 8) (hg : GoodTo K ts ts.length) (hn : ts.length ≤ 64) (hb : BitsFrom m ts 0) (hm : m < 2 ^ 64) :
    Calls Tryd.prog 28 #[.int .u64 (m : Int)] w fun e w' => ∃ v, e = .returned v ∧ w'.ownsRow w.heap.size 63 2 v ts.length (clist ts ts.length) ∧ Below w.heap.size w w' := by
  obtain ⟨i0, hi, hz0, hz1, hz2⟩ := info_parts Tryd.infoTie
  go_enter Tryd.func28, Tryd.ntmps28
  go_wp2
  go_loopg [0, 3] ts.length (fun gk p v wr => ∃ k mm : Nat, k + gk = ts.length ∧ p = .int .u64 (mm : Int) ∧ mm < 2 ^ 64 ∧ BitsFrom mm ts k ∧ wr.ownsRow w.heap.size 63 2 v k (clist ts k) ∧ Below w.heap.size w wr)
  case atStart => exact ⟨0, m, by omega, rfl, hm, hb, World.ownsRow_nil _ _ _ _, Below.refl _ _⟩
  case round =>
    obtain ⟨k, mm, hk, rfl, hmm, hbits, hown, hbel⟩ := hrel
    clear hb hm
    by_cases hlt : k < ts.length
    · obtain ⟨l0, l1⟩ := bitsFrom_low hK hg hbits hlt
      have hpos := bitsFrom_pos hK hg hbits hlt
      have HNX : Hid (BitsFrom (mm &&& (mm - 1)) ts (k + 1)) := bitsFrom_next hK hg hbits hlt
      have tk := (hg k hlt).1
      have hne : ((mm : Int) != 0) = true := by rw [bne_iff_ne]; omega
      have hT' : Tab wr := hT.below hbel hT.2
      obtain ⟨c, hc⟩ : ∃ c, c = idx (tA ts k) (tB ts k) := ⟨_, rfl⟩
      rw [← hc] at l0 l1
      have e1 : (c : Int) / 8 = tA ts k := by obtain ⟨a, b, d⟩ := tk; rw [hc]; unfold idx; omega
      have e2 : (c : Int) % 8 = tB ts k := by obtain ⟨a, b, d⟩ := tk; rw [hc]; unfold idx; omega
      have hc0 : (0 : Int) ≤ (c : Int) := by omega
      have hc64 : (c : Int) < 64 := by have := bit_lt l1 hmm; omega
      have HCL : Hid (clist ts (k + 1) = clist ts k ++ [.int .i64 ((c : Int) / 8), .int .i64 ((c : Int) % 8)]) := by rw [e1, e2]; exact clist_succ ts k
      have HAND : Hid (bits .and .u64 (mm : Int) ((mm : Int) - 1) = ((mm &&& (mm - 1) : Nat) : Int)) := by
        have := and_nat mm (mm - 1) hmm (by omega)
        rw [show (((mm - 1 : Nat)) : Int) = (mm : Int) - 1 by omega] at this
        exact this
      have HLT : Hid (mm &&& (mm - 1) < 2 ^ 64) := Nat.lt_of_le_of_lt Nat.and_le_left hmm
      have hmp : (0 : Int) < (mm : Int) := by omega
      have hmm' : (mm : Int) < 18446744073709551616 := by have : (2 : Nat) ^ 64 = 18446744073709551616 := by decide
                                                          omega
      clear hc e1 e2 tk hbits
      go_wp2_with fail
      refine (tz_any mm c _ hT' l0 l1 hmm).mono ?_
      rintro e w1 ⟨rfl, rfl⟩
      clear l0 l1 hT' hT
      go_wp2_with (at_builtin; refine wpList_append_own _ rfl _ _ 23 rfl w.heap.size 63 i0 (.agg #[.int .i64 0, .int .i64 0]) 2 16 Tryd.underlying23 hi hz0 hz1 hz2 rfl (by decide) _ _ _ rfl (hown.alloc _) ⟨_, 0, none⟩ 1 1 [.int .i64 ((c : Int) / 8), .int .i64 ((c : Int) % 8)] rfl rfl ?c1 ?c2 ?c3 ?c4 ?c5 ?_)
      case c1 =>
        intro j u hj
        match j, hj with
        | 0, hj => simp at hj; subst hj; simp [Addr.add]
        | 1, hj => simp at hj; subst hj; simp [Addr.add]
      case c2 => intro u hu; simp at hu; rcases hu with rfl | rfl <;> rfl
      case c3 => unfold maxLen; omega
      case c4 => omega
      case c5 => have := hbel.size; simp; omega
      intro v' w2 hown2 hgrow _
      rw [← HCL.out] at hown2
      have hb2 : Below w.heap.size w w2 := (hbel.alloc hbel.size _).grown hgrow (by have := hbel.size; simp; omega) (own_ge hown)
      have HO2 : Hid (w2.ownsRow w.heap.size 63 2 v' (k + 1) (clist ts (k + 1))) := hown2
      clear hown2 hgrow hown hbel hi hz0 hz1 hz2
      have hw1 : IntKind.u64.wrap ((mm : Int) - 1) = (mm : Int) - 1 := by rw [IntKind.wrap_u64]; omega
      have hand := HAND.out
      go_wp2
      go_roundg (gk - 1)
      case measure => omega
      case rel => exact ⟨k + 1, mm &&& (mm - 1), by omega, rfl, HLT.out, HNX.out, HO2.out, hb2⟩
    · have hz : mm = 0 := bitsFrom_end hbits (by omega)
      have hkn : k = ts.length := by omega
      subst hz
      subst hkn
      clear hbits hmm hT
      go_wp2
      go_ret
      exact ⟨_, rfl, hown, hbel⟩

end Go.Proofs.YtljnjpjnadlmhaaDoor

/- Walk of impl.forestOf. -/
namespace Go.Proofs.YtljnjpjnadlmhaaDoor
open Go.RowKit
set_option linter.unusedVariables false

theorem ties_two' (K : Int) (ts : List (Int × Int)) (m : Nat) (w : World) (hT : Tab w) (hK : K ≤ 8) (hg : GoodTo K ts ts.length) (hn : ts.length ≤ 64) (hb : BitsFrom m ts 0) (hm : m < 2 ^ 64) :
    Calls Tryd.prog 28 #[.int .u64 (m : Int)] w fun e w' => ∃ ao cap, e = .returned (.slice ao ts.length cap) ∧ OwnN w' w.heap.size w'.heap.size ao ts.length (tcell ts) ∧ Below w.heap.size w w' := by
  refine (ties_any K ts m w hT hK hg hn hb hm).mono ?_
  rintro e w' ⟨v, rfl, ho, hb⟩
  obtain ⟨ao, cap, rfl⟩ := own_slice ho
  exact ⟨ao, cap, rfl, OwnN.of_row ho, hb⟩
def zcell (_ : Nat) : Value := .int .i64 0
def idTo (k j : Nat) : Value := .int .i64 (if j < k then (j : Int) else 0)
theorem idTo_step (k j : Nat) : (if j = k then Value.int .i64 (k : Int) else idTo k j) = idTo (k + 1) j := by
  unfold idTo
  by_cases h : j = k
  · subst h; rw [if_pos rfl, if_pos (by omega)]
  · rw [if_neg h]
    by_cases h2 : j < k
    · rw [if_pos h2, if_pos (by omega)]
    · rw [if_neg h2, if_neg (by omega)]
/-- a forest as a value -/
def forestV (f : Nat → Nat) : Value := .agg #[.int .i64 ((f 0 : Nat) : Int), .int .i64 ((f 1 : Nat) : Int), .int .i64 ((f 2 : Nat) : Int), .int .i64 ((f 3 : Nat) : Int), .int .i64 ((f 4 : Nat) : Int), .int .i64 ((f 5 : Nat) : Int), .int .i64 ((f 6 : Nat) : Int), .int .i64 ((f 7 : Nat) : Int)]
theorem zeros_own (w : World) (t : TypeId) : OwnI (w.alloc (.cells #[.int .i64 0, .int .i64 0, .int .i64 0, .int .i64 0, .int .i64 0, .int .i64 0, .int .i64 0, .int .i64 0] t)) w.heap.size 8 zcell := by
  refine ⟨fun j hj => (World.cell?_alloc_at _ _ _ _ rfl).trans ?_, fun j => World.frozen?_alloc_at _ _ _ _ rfl, by simp⟩
  have : j = 0 ∨ j = 1 ∨ j = 2 ∨ j = 3 ∨ j = 4 ∨ j = 5 ∨ j = 6 ∨ j = 7 := by omega
  rcases this with rfl | rfl | rfl | rfl | rfl | rfl | rfl | rfl <;> rfl

/-- what stands while a forest is made: its own block A, the answer's block, all that was there -/
structure Fst (w wr : World) (A : Nat) (c : Nat → Value) : Prop where
  R : OwnI wr w.heap.size 8 zcell
  F : OwnI wr A 8 c
  B : Below w.heap.size w wr
  h : w.heap.size < A
theorem Fst.next {w wr w' : World} {A : Nat} {c : Nat → Value} (h : Fst w wr A c) (hb : Below wr.heap.size wr w') : Fst w w' A c :=
  ⟨h.R.below hb h.R.2.2, h.F.below hb h.F.2.2, h.B.trans (hb.mono h.B.size), h.h⟩
theorem Fst.turn {w wr w' : World} {A : Nat} {c c' : Nat → Value} (h : Fst w wr A c) (ht : Turned A (A + 1) wr w') (hF : OwnI w' A 8 c') : Fst w w' A c' :=
  ⟨h.R.turn ht (Or.inl h.h), hF, h.B.trans (ht.under (Nat.le_of_lt h.h) h.B.size), h.h⟩
theorem Fst.start (w : World) (t : TypeId) : Fst w ((w.alloc (.cells #[.int .i64 0, .int .i64 0, .int .i64 0, .int .i64 0, .int .i64 0, .int .i64 0, .int .i64 0, .int .i64 0] t)).alloc (.cells #[.int .i64 0, .int .i64 0, .int .i64 0, .int .i64 0, .int .i64 0, .int .i64 0, .int .i64 0, .int .i64 0] t)) (w.heap.size + 1) (idTo 0) := by
  refine ⟨(zeros_own w t).below (below_one _ _) (by simp), ?_, below_two _ _ _, by omega⟩
  have h := zeros_own (w.alloc (.cells #[.int .i64 0, .int .i64 0, .int .i64 0, .int .i64 0, .int .i64 0, .int .i64 0, .int .i64 0, .int .i64 0] t)) t
  have e : (w.alloc (.cells #[.int .i64 0, .int .i64 0, .int .i64 0, .int .i64 0, .int .i64 0, .int .i64 0, .int .i64 0, .int .i64 0] t)).heap.size = w.heap.size + 1 := by simp
  rw [e] at h
  exact h.congr (fun j _ => by simp [zcell, idTo])
theorem forest_own (w : World) (f : Nat → Nat) (t : TypeId) : OwnI (w.alloc (.cells #[.int .i64 ((f 0 : Nat) : Int), .int .i64 ((f 1 : Nat) : Int), .int .i64 ((f 2 : Nat) : Int), .int .i64 ((f 3 : Nat) : Int), .int .i64 ((f 4 : Nat) : Int), .int .i64 ((f 5 : Nat) : Int), .int .i64 ((f 6 : Nat) : Int), .int .i64 ((f 7 : Nat) : Int)] t)) w.heap.size 8 (pcellN f) := by
  refine ⟨fun j hj => (World.cell?_alloc_at _ _ _ _ rfl).trans ?_, fun j => World.frozen?_alloc_at _ _ _ _ rfl, by simp⟩
  have : j = 0 ∨ j = 1 ∨ j = 2 ∨ j = 3 ∨ j = 4 ∨ j = 5 ∨ j = 6 ∨ j = 7 := by omega
  rcases this with rfl | rfl | rfl | rfl | rfl | rfl | rfl | rfl <;> rfl
/-- the answer's block is there, a forest in a block of its own was laid -/
theorem Fst.laid (w w1 : World) (f : Nat → Nat) (t t' : TypeId) (hb : Below (w.alloc (.cells #[.int .i64 0, .int .i64 0, .int .i64 0, .int .i64 0, .int .i64 0, .int .i64 0, .int .i64 0, .int .i64 0] t)).heap.size (w.alloc (.cells #[.int .i64 0, .int .i64 0, .int .i64 0, .int .i64 0, .int .i64 0, .int .i64 0, .int .i64 0, .int .i64 0] t)) w1) :
    Fst w (w1.alloc (.cells #[.int .i64 ((f 0 : Nat) : Int), .int .i64 ((f 1 : Nat) : Int), .int .i64 ((f 2 : Nat) : Int), .int .i64 ((f 3 : Nat) : Int), .int .i64 ((f 4 : Nat) : Int), .int .i64 ((f 5 : Nat) : Int), .int .i64 ((f 6 : Nat) : Int), .int .i64 ((f 7 : Nat) : Int)] t')) w1.heap.size (pcellN f) := by
  have z := zeros_own w t
  have s := hb.size
  simp at s
  exact ⟨(z.below hb z.2.2).below (below_one _ _) (by omega), forest_own w1 f t', ((below_one w _).trans (hb.mono (by simp))).trans ((below_one w1 _).mono (by omega)), by omega⟩
set_option maxHeartbeats 1600000 in
theorem alone_any (w : World) :
    Calls Tryd.prog 76 #[] w fun e w' => e = .returned (forestV (fun k => k)) ∧ Below w.heap.size w w' := by
  have S0 := fun t => Fst.start w t
  have HS0 := hideP S0
  clear S0
  go_enter Tryd.func76, Tryd.ntmps76
  go_wp2
  go_loopw [3] (fun i wr => ∃ k : Nat, k ≤ 8 ∧ i = .int .i64 k ∧ Fst w wr (w.heap.size + 1) (idTo k))
    (fun i _ => 8 - (intOf i).toNat)
  case atStart => exact ⟨0, by omega, rfl, HS0.out _⟩
  case round =>
    obtain ⟨k, hk, rfl, hS⟩ := hrel
    by_cases hlt : k < 8
    · have c0 : wr.cell? ⟨w.heap.size + 1, k, none⟩ = some (idTo k k) := hS.F.1 k hlt
      have f0 := hS.F.2.1 k
      have hk0 : (0 : Int) ≤ (k : Int) := by omega
      have hk8 : (k : Int) < 8 := by omega
      have HS : Hid (Fst w (wr.setCell ⟨w.heap.size + 1, k, none⟩ (.int .i64 (k : Int))) (w.heap.size + 1) (idTo (k + 1))) :=
        hS.turn ⟨rfl, rfl, rfl, by simp [World.setCell], fun i _ hi => Below.heap_setCell _ _ _ _ (by show i ≠ w.heap.size + 1; omega)⟩ ((hS.F.set hlt _).congr (fun j _ => idTo_step k j))
      clear hS
      go_wp2
      go_roundw
      case rel => exact ⟨k + 1, by omega, by go_num, HS.out⟩
      case measure => simp [intOf]; omega
    · obtain rfl : k = 8 := by omega
      have S1 := hideP (show Fst w wr (w.heap.size + 1) (pcellN (fun k => k)) from ⟨hS.R, hS.F.congr (fun j hj => by simp [idTo, pcellN, hj]), hS.B, hS.h⟩)
      clear hS
      obtain ⟨f, hf⟩ : ∃ f : Nat → Nat, f = (fun k => k) := ⟨_, rfl⟩
      have HXX : Hid (forestV (fun k => k) = .agg #[.int .i64 ((f 0 : Nat) : Int), .int .i64 ((f 1 : Nat) : Int), .int .i64 ((f 2 : Nat) : Int), .int .i64 ((f 3 : Nat) : Int), .int .i64 ((f 4 : Nat) : Int), .int .i64 ((f 5 : Nat) : Int), .int .i64 ((f 6 : Nat) : Int), .int .i64 ((f 7 : Nat) : Int)]) := by rw [← hf]; rfl
      rw [← hf] at S1
      have hS := S1.out
      clear hf S1
      have d0 : wr.cell? ⟨w.heap.size + 1, 0, none⟩ = some (.int .i64 ((f 0 : Nat) : Int)) := hS.F.1 0 (by omega)
      have d1 : wr.cell? ⟨w.heap.size + 1, 1, none⟩ = some (.int .i64 ((f 1 : Nat) : Int)) := hS.F.1 1 (by omega)
      have d2 : wr.cell? ⟨w.heap.size + 1, 2, none⟩ = some (.int .i64 ((f 2 : Nat) : Int)) := hS.F.1 2 (by omega)
      have d3 : wr.cell? ⟨w.heap.size + 1, 3, none⟩ = some (.int .i64 ((f 3 : Nat) : Int)) := hS.F.1 3 (by omega)
      have d4 : wr.cell? ⟨w.heap.size + 1, 4, none⟩ = some (.int .i64 ((f 4 : Nat) : Int)) := hS.F.1 4 (by omega)
      have d5 : wr.cell? ⟨w.heap.size + 1, 5, none⟩ = some (.int .i64 ((f 5 : Nat) : Int)) := hS.F.1 5 (by omega)
      have d6 : wr.cell? ⟨w.heap.size + 1, 6, none⟩ = some (.int .i64 ((f 6 : Nat) : Int)) := hS.F.1 6 (by omega)
      have d7 : wr.cell? ⟨w.heap.size + 1, 7, none⟩ = some (.int .i64 ((f 7 : Nat) : Int)) := hS.F.1 7 (by omega)
      have r0 : wr.cell? ⟨w.heap.size, 0, none⟩ = some (.int .i64 0) := hS.R.1 0 (by omega)
      have g0 := hS.R.2.1 0
      have r1 : wr.cell? ⟨w.heap.size, 1, none⟩ = some (.int .i64 0) := hS.R.1 1 (by omega)
      have g1 := hS.R.2.1 1
      have r2 : wr.cell? ⟨w.heap.size, 2, none⟩ = some (.int .i64 0) := hS.R.1 2 (by omega)
      have g2 := hS.R.2.1 2
      have r3 : wr.cell? ⟨w.heap.size, 3, none⟩ = some (.int .i64 0) := hS.R.1 3 (by omega)
      have g3 := hS.R.2.1 3
      have r4 : wr.cell? ⟨w.heap.size, 4, none⟩ = some (.int .i64 0) := hS.R.1 4 (by omega)
      have g4 := hS.R.2.1 4
      have r5 : wr.cell? ⟨w.heap.size, 5, none⟩ = some (.int .i64 0) := hS.R.1 5 (by omega)
      have g5 := hS.R.2.1 5
      have r6 : wr.cell? ⟨w.heap.size, 6, none⟩ = some (.int .i64 0) := hS.R.1 6 (by omega)
      have g6 := hS.R.2.1 6
      have r7 : wr.cell? ⟨w.heap.size, 7, none⟩ = some (.int .i64 0) := hS.R.1 7 (by omega)
      have g7 := hS.R.2.1 7
      have HB := hideP hS.B
      clear hS
      go_wp2
      refine bodyPost_ret (v := .agg #[.int .i64 ((f 0 : Nat) : Int), .int .i64 ((f 1 : Nat) : Int), .int .i64 ((f 2 : Nat) : Int), .int .i64 ((f 3 : Nat) : Int), .int .i64 ((f 4 : Nat) : Int), .int .i64 ((f 5 : Nat) : Int), .int .i64 ((f 6 : Nat) : Int), .int .i64 ((f 7 : Nat) : Int)]) ?_ rfl ⟨by rw [HXX.out], ?_⟩
      · simp [results, Tryd.results76, go_sem, r0, r1, r2, r3, r4, r5, r6, r7]
      · exact ((((((((HB.out.setCell (p := ⟨w.heap.size, 0, none⟩) (Nat.le_refl _) _).setCell (p := ⟨w.heap.size, 1, none⟩) (Nat.le_refl _) _).setCell (p := ⟨w.heap.size, 2, none⟩) (Nat.le_refl _) _).setCell (p := ⟨w.heap.size, 3, none⟩) (Nat.le_refl _) _).setCell (p := ⟨w.heap.size, 4, none⟩) (Nat.le_refl _) _).setCell (p := ⟨w.heap.size, 5, none⟩) (Nat.le_refl _) _).setCell (p := ⟨w.heap.size, 6, none⟩) (Nat.le_refl _) _).setCell (p := ⟨w.heap.size, 7, none⟩) (Nat.le_refl _) _)

set_option maxHeartbeats 1600000 in
theorem forestOf_any (K : Int) (ts : List (Int × Int)) (m : Nat) (w : World) (hT : Tab w) (hK : K ≤ 8) (hg : GoodTo K ts ts.length) (hn : ts.length ≤ 64) (hb : BitsFrom m ts 0) (hm : m < 2 ^ 64) :
    Calls Tryd.prog 63 #[.int .u64 (m : Int)] w fun e w' => e = .returned (forestV (forest ts ts.length)) ∧ Below w.heap.size w w' := by
  have HTab := hideP hT
  clear hT
  go_enter Tryd.func63, Tryd.ntmps63
  go_wp2_with fail
  refine (alone_any _).mono ?_
  rintro e w1 ⟨rfl, hb1⟩
  have S1 := fun t' => hideP (Fst.laid w w1 (fun k => k) _ t' hb1)
  have T1 := fun o => hideP (((HTab.out.below (below_one _ _) HTab.out.2).below hb1 (by have := HTab.out.2; simp)).alloc o)
  have hA : w.heap.size < w1.heap.size := by have := hb1.size; simp at this; omega
  unfold forestV
  clear hb1 HTab
  go_wp2_with fail
  refine (ties_two' K ts m _ (T1 _).out hK hg hn hb hm).mono ?_
  rintro e w2 ⟨ao, cap, rfl, ho, hb2⟩
  have S2 := hideP ((S1 _).out.next hb2)
  clear S1 T1
  obtain ⟨A, hAe⟩ : ∃ A, A = w1.heap.size := ⟨_, rfl⟩
  rw [← hAe] at hA S2 ⊢
  obtain ⟨lo, hlo⟩ : ∃ lo, lo = A + 1 := ⟨_, rfl⟩
  have HO := hideP (show OwnN w2 lo w2.heap.size ao ts.length (tcell ts) by rw [hlo, hAe]; simpa using ho)
  have hFlo : A + 1 ≤ lo := by omega
  obtain ⟨hi, hhi⟩ : ∃ hi, hi = w2.heap.size := ⟨_, rfl⟩
  rw [← hhi] at HO
  have hi2 : hi ≤ w2.heap.size := by omega
  have S2' : Hid (Fst w w2 A (pcellN (forest ts 0))) := S2
  clear hb2 ho hlo hhi hAe S2
  go_wp2
  go_loopw [10] (fun i wr => ∃ k : Nat, k ≤ ts.length ∧ i = .int .i64 k ∧ Fst w wr A (pcellN (forest ts k)) ∧ OwnN wr lo hi ao ts.length (tcell ts) ∧ hi ≤ wr.heap.size)
    (fun i _ => ts.length - (intOf i).toNat)
  case atStart => exact ⟨0, Nat.zero_le _, rfl, S2'.out, HO.out, hi2⟩
  case round =>
    obtain ⟨k, hk, rfl, hS, hO, hhz⟩ := hrel
    by_cases hlt : k < ts.length
    · obtain ⟨g, off, rfl, hgw, c0, c1⟩ := hO.ties (B := hi) (Nat.le_refl _) k hlt
      obtain ⟨q1, q2, q3⟩ := (hg k hlt).1
      obtain ⟨a, ha⟩ : ∃ a : Nat, tA ts k = (a : Int) := ⟨(tA ts k).toNat, by omega⟩
      obtain ⟨b, hb'⟩ : ∃ b : Nat, tB ts k = (b : Int) := ⟨(tB ts k).toNat, by omega⟩
      have HF : Hid (join (forest ts k) a b = forest ts (k + 1)) := by
        show join (forest ts k) a b = join (forest ts k) (tA ts k).toNat (tB ts k).toNat
        rw [ha, hb']; simp
      have ha8 : a < 8 := by omega
      have hb8 : b < 8 := by omega
      rw [ha] at c0
      rw [hb'] at c1
      have hk1 : (k : Int) < (ts.length : Int) := by omega
      have hgz : g < wr.heap.size := by omega
      have bo1 := below_one wr (.cells #[.int .i64 (a : Int), .int .i64 (b : Int)] 63)
      have S3 := hideP (hS.next bo1)
      have O3 := hideP (hO.next bo1)
      clear hS hO bo1 ha hb' q1 q2 q3
      go_wp2_with fail
      refine (join_any A (forest ts k) a b _ S3.out.F (forest_low ts k) ha8 hb8).mono ?_
      rintro e w3 ⟨rfl, hF3, ht3⟩
      rw [HF.out] at hF3
      have S4 := hideP (S3.out.turn ht3 hF3)
      have O4 := hideP (O3.out.aside ht3 (Or.inr hFlo))
      have hz3 : hi ≤ w3.heap.size := by have := ht3.size; simp at this; omega
      clear hF3 ht3 S3 O3
      go_wp2
      go_roundw
      case rel => exact ⟨k + 1, by omega, by go_num, S4.out, O4.out, hz3⟩
      case measure => simp [intOf]; omega
    · obtain rfl : k = ts.length := by omega
      obtain ⟨f, hf⟩ : ∃ f, f = forest ts ts.length := ⟨_, rfl⟩
      have HXX : Hid (forestV (forest ts ts.length) = .agg #[.int .i64 ((f 0 : Nat) : Int), .int .i64 ((f 1 : Nat) : Int), .int .i64 ((f 2 : Nat) : Int), .int .i64 ((f 3 : Nat) : Int), .int .i64 ((f 4 : Nat) : Int), .int .i64 ((f 5 : Nat) : Int), .int .i64 ((f 6 : Nat) : Int), .int .i64 ((f 7 : Nat) : Int)]) := by rw [← hf]; rfl
      rw [← hf] at hS
      clear hf
      have d0 : wr.cell? ⟨A, 0, none⟩ = some (.int .i64 ((f 0 : Nat) : Int)) := hS.F.1 0 (by omega)
      have d1 : wr.cell? ⟨A, 1, none⟩ = some (.int .i64 ((f 1 : Nat) : Int)) := hS.F.1 1 (by omega)
      have d2 : wr.cell? ⟨A, 2, none⟩ = some (.int .i64 ((f 2 : Nat) : Int)) := hS.F.1 2 (by omega)
      have d3 : wr.cell? ⟨A, 3, none⟩ = some (.int .i64 ((f 3 : Nat) : Int)) := hS.F.1 3 (by omega)
      have d4 : wr.cell? ⟨A, 4, none⟩ = some (.int .i64 ((f 4 : Nat) : Int)) := hS.F.1 4 (by omega)
      have d5 : wr.cell? ⟨A, 5, none⟩ = some (.int .i64 ((f 5 : Nat) : Int)) := hS.F.1 5 (by omega)
      have d6 : wr.cell? ⟨A, 6, none⟩ = some (.int .i64 ((f 6 : Nat) : Int)) := hS.F.1 6 (by omega)
      have d7 : wr.cell? ⟨A, 7, none⟩ = some (.int .i64 ((f 7 : Nat) : Int)) := hS.F.1 7 (by omega)
      have r0 : wr.cell? ⟨w.heap.size, 0, none⟩ = some (.int .i64 0) := hS.R.1 0 (by omega)
      have g0 := hS.R.2.1 0
      have r1 : wr.cell? ⟨w.heap.size, 1, none⟩ = some (.int .i64 0) := hS.R.1 1 (by omega)
      have g1 := hS.R.2.1 1
      have r2 : wr.cell? ⟨w.heap.size, 2, none⟩ = some (.int .i64 0) := hS.R.1 2 (by omega)
      have g2 := hS.R.2.1 2
      have r3 : wr.cell? ⟨w.heap.size, 3, none⟩ = some (.int .i64 0) := hS.R.1 3 (by omega)
      have g3 := hS.R.2.1 3
      have r4 : wr.cell? ⟨w.heap.size, 4, none⟩ = some (.int .i64 0) := hS.R.1 4 (by omega)
      have g4 := hS.R.2.1 4
      have r5 : wr.cell? ⟨w.heap.size, 5, none⟩ = some (.int .i64 0) := hS.R.1 5 (by omega)
      have g5 := hS.R.2.1 5
      have r6 : wr.cell? ⟨w.heap.size, 6, none⟩ = some (.int .i64 0) := hS.R.1 6 (by omega)
      have g6 := hS.R.2.1 6
      have r7 : wr.cell? ⟨w.heap.size, 7, none⟩ = some (.int .i64 0) := hS.R.1 7 (by omega)
      have g7 := hS.R.2.1 7
      have HB := hideP hS.B
      clear hS hO
      go_wp2
      refine bodyPost_ret (v := .agg #[.int .i64 ((f 0 : Nat) : Int), .int .i64 ((f 1 : Nat) : Int), .int .i64 ((f 2 : Nat) : Int), .int .i64 ((f 3 : Nat) : Int), .int .i64 ((f 4 : Nat) : Int), .int .i64 ((f 5 : Nat) : Int), .int .i64 ((f 6 : Nat) : Int), .int .i64 ((f 7 : Nat) : Int)]) ?_ rfl ⟨by rw [HXX.out], ?_⟩
      · simp [results, Tryd.results63, go_sem, r0, r1, r2, r3, r4, r5, r6, r7]
      · exact ((((((((HB.out.setCell (p := ⟨w.heap.size, 0, none⟩) (Nat.le_refl _) _).setCell (p := ⟨w.heap.size, 1, none⟩) (Nat.le_refl _) _).setCell (p := ⟨w.heap.size, 2, none⟩) (Nat.le_refl _) _).setCell (p := ⟨w.heap.size, 3, none⟩) (Nat.le_refl _) _).setCell (p := ⟨w.heap.size, 4, none⟩) (Nat.le_refl _) _).setCell (p := ⟨w.heap.size, 5, none⟩) (Nat.le_refl _) _).setCell (p := ⟨w.heap.size, 6, none⟩) (Nat.le_refl _) _).setCell (p := ⟨w.heap.size, 7, none⟩) (Nat.le_refl _) _)

end Go.Proofs.YtljnjpjnadlmhaaDoor

/- Walk of impl.NetAdd. -/
namespace Go.Proofs.YtljnjpjnadlmhaaDoor
open Go.RowKit
set_option linter.unusedVariables false

theorem ties_two (K : Int) (ts : List (Int × Int)) (m : Nat) (w : World) (hT : Tab w) (hK : K ≤ 8) (hg : GoodTo K ts ts.length) (hn : ts.length ≤ 64) (hb : BitsFrom m ts 0) (hm : m < 2 ^ 64) :
    Calls Tryd.prog 28 #[.int .u64 (m : Int)] w fun e w' => ∃ ao cap, e = .returned (.slice ao ts.length cap) ∧ w'.ownsRow w.heap.size 63 2 (.slice ao ts.length cap) ts.length (clist ts ts.length) ∧ Below w.heap.size w w' := by
  refine (ties_any K ts m w hT hK hg hn hb hm).mono ?_
  rintro e w' ⟨v, rfl, ho, hb⟩
  obtain ⟨ao, cap, rfl⟩ := own_slice ho
  exact ⟨ao, cap, rfl, ho, hb⟩
theorem bitsFrom_of {m : Nat} {ts : List (Int × Int)} (h : BitsOf m ts) : BitsFrom m ts 0 := by
  intro j
  rw [h j, ← mem_get]
  exact ⟨fun ⟨i, h1, h2⟩ => ⟨i, Nat.zero_le _, h1, h2⟩, fun ⟨i, _, h1, h2⟩ => ⟨i, h1, h2⟩⟩
end Go.Proofs.YtljnjpjnadlmhaaDoor

/- Walks of without, withoutKnot, impl.NetCut, impl.NetWithout. -/
namespace Go.Proofs.YtljnjpjnadlmhaaDoor
open Go.RowKit
set_option linter.unusedVariables false

theorem andNot_nat (p q : Nat) (hp : p < 2 ^ 64) (hq : q < 2 ^ 64) : bits .andNot .u64 (p : Int) (q : Int) = ((strike p q : Nat) : Int) := by
  have : (2 : Nat) ^ 64 = 18446744073709551616 := by decide
  exact u64_andNot_nat p q (by omega) (by omega)

set_option maxHeartbeats 400000 in
theorem without_any (p : Nat) (a b : Int) (w : World) (hp : p < 2 ^ 64) :
    Calls Tryd.prog 49 #[.int .u64 (p : Int), .int .i64 a, .int .i64 b] w fun e w' => e = .returned (.int .u64 ((strike p (pbit a b) : Nat) : Int)) ∧ w' = w := by
  have hor := andNot_nat p (pbit a b) hp (pbit_lt a b)
  clear hp
  go_enter Tryd.func49, Tryd.ntmps49
  go_wp2_with fail
  refine (pairBit_any a b _).mono ?_
  rintro e w' ⟨rfl, rfl⟩
  go_wp2
  go_ret
  exact ⟨rfl, rfl⟩

end Go.Proofs.YtljnjpjnadlmhaaDoor
