/- Texts put together: WLeaf, WOk, WLaw, WRow, WOwn. -/
import Derived.Test.YtljnjpjnadlmhaaMath
import Derived.WalkKit
import Derived.WalkSpells
import Derived.WalkLawsBesides
import Derived.Laws.Bits64b
import Derived.Deep.QuietTactic
import Derived.BigQuiet
import Derived.Deep.RegionHeld3
import Derived.Test.YtljnjpjnadlmhaaMath3
import Derived.Deep.AppendLies
/- Walks of the leaves: l6In, hasKnot, pairBit, with, l1Less. -/
namespace Go.Proofs.Ytljnjpjnadlmhaa
open Go.RowKit
set_option linter.unusedVariables false

theorem ret_int {k : IntKind} {a b : Int} (h : a = b) : Ending.returned (.int k a) = .returned (.int k b) := by rw [h]
theorem ret_bool {a b : Bool} (h : a = b) : Ending.returned (.bool a) = .returned (.bool b) := by rw [h]
theorem below_one (w : World) (o : Obj) : Below w.heap.size w (w.alloc o) := (Below.refl _ _).alloc (Nat.le_refl _) o
theorem below_two (w : World) (o p : Obj) : Below w.heap.size w ((w.alloc o).alloc p) := (below_one w o).alloc (by simp) p

set_option maxHeartbeats 400000 in
theorem in_any (n lo hi : Int) (w : World) :
    Calls Try.prog 55 #[.int .i64 n, .int .i64 lo, .int .i64 hi] w fun e w' => e = .returned (.bool (inB n lo hi)) ∧ w' = w := by
  go_enter Try.func55, Try.ntmps55
  go_wp2
  · go_ret
    exact ⟨ret_bool (by simp [inB]; omega), rfl⟩
  · go_ret
    exact ⟨ret_bool (by simp [inB]; omega), rfl⟩
theorem in_yes (n lo hi : Int) (w : World) (h : lo ≤ n) (g : n ≤ hi) :
    Calls Try.prog 55 #[.int .i64 n, .int .i64 lo, .int .i64 hi] w fun e w' => e = .returned (.bool true) ∧ w' = w := by
  have e : inB n lo hi = true := by simp [inB, h, g]
  rw [← e]; exact in_any n lo hi w
theorem in_no (n lo hi : Int) (w : World) (h : n < lo ∨ hi < n) :
    Calls Try.prog 55 #[.int .i64 n, .int .i64 lo, .int .i64 hi] w fun e w' => e = .returned (.bool false) ∧ w' = w := by
  have e : inB n lo hi = false := by simp [inB]; omega
  rw [← e]; exact in_any n lo hi w

set_option maxHeartbeats 400000 in
theorem hasKnot_any (K : Int) (v : Value) (k : Int) (w : World) :
    Calls Try.prog 51 #[.agg #[.int .i64 K, v], .int .i64 k] w fun e w' => e = .returned (.bool (knotB k K)) ∧ w' = w.alloc (.cells #[.int .i64 K, v] 25) := by
  go_enter Try.func51, Try.ntmps51
  go_wp2
  · go_ret
    exact ⟨ret_bool (by simp [knotB]; omega), rfl⟩
  · go_ret
    exact ⟨ret_bool (by simp [knotB]; omega), rfl⟩
theorem hasKnot_yes (K : Int) (v : Value) (k : Int) (w : World) (h : 0 ≤ k) (g : k < K) :
    Calls Try.prog 51 #[.agg #[.int .i64 K, v], .int .i64 k] w fun e w' => e = .returned (.bool true) ∧ w' = w.alloc (.cells #[.int .i64 K, v] 25) := by
  have e : knotB k K = true := by simp [knotB, h, g]
  rw [← e]; exact hasKnot_any K v k w
theorem hasKnot_no (K : Int) (v : Value) (k : Int) (w : World) (h : k < 0 ∨ K ≤ k) :
    Calls Try.prog 51 #[.agg #[.int .i64 K, v], .int .i64 k] w fun e w' => e = .returned (.bool false) ∧ w' = w.alloc (.cells #[.int .i64 K, v] 25) := by
  have e : knotB k K = false := by simp [knotB]; omega
  rw [← e]; exact hasKnot_any K v k w

theorem wrap_pow (a b : Int) (h : 0 ≤ a) (hab : a < b) (hb : b < 8) : IntKind.u64.wrap (2 ^ (a * 8 + b).toNat) = ((pb a b : Nat) : Int) := by
  rw [IntKind.wrap_u64]
  unfold pb idx
  have hl : (a * 8 + b).toNat ≤ 63 := by omega
  have h1 : (2 : Nat) ^ (a * 8 + b).toNat ≤ 2 ^ 63 := Nat.pow_le_pow_right (by omega) hl
  have e : ((2 : Int) ^ (a * 8 + b).toNat) = (((2 : Nat) ^ (a * 8 + b).toNat : Nat) : Int) := by simp
  rw [e]
  generalize (2 : Nat) ^ (a * 8 + b).toNat = x at *
  omega

set_option maxHeartbeats 400000 in
theorem pairBit_yes (a b : Int) (w : World) (ha : 0 ≤ a) (hab : a < b) (hb : b < 8) :
    Calls Try.prog 61 #[.int .i64 a, .int .i64 b] w fun e w' => e = .returned (.int .u64 ((pb a b : Nat) : Int)) ∧ w' = w := by
  go_enter Try.func61, Try.ntmps61
  go_wp2
  · exfalso
    have h : (a < 0 ∨ (a == b) = true) ∨ 8 ≤ b := by assumption
    simp at h; omega
  · go_ret
    exact ⟨ret_int (wrap_pow a b ha hab hb), rfl⟩

theorem or_nat (p q : Nat) (hp : p < 2 ^ 64) (hq : q < 2 ^ 64) : bits .or .u64 (p : Int) (q : Int) = ((p ||| q : Nat) : Int) :=
  bits_or_u64_nat p q (by simpa using hp) (by simpa using hq)
theorem pb_lt {a b : Int} (ha : 0 ≤ a) (hab : a < b) (hb : b < 8) : pb a b < 2 ^ 64 := by
  unfold pb; exact Nat.pow_lt_pow_right (by omega) (by unfold idx; omega)

set_option maxHeartbeats 400000 in
theorem with_yes (p : Nat) (a b : Int) (w : World) (hp : p < 2 ^ 64) (ha : 0 ≤ a) (hab : a < b) (hb : b < 8) :
    Calls Try.prog 62 #[.int .u64 (p : Int), .int .i64 a, .int .i64 b] w fun e w' => e = .returned (.int .u64 ((p ||| pb a b : Nat) : Int)) ∧ w' = w := by
  have hq := pb_lt ha hab hb
  have hor := or_nat p (pb a b) hp hq
  clear hp hq
  go_enter Try.func62, Try.ntmps62
  go_wp2_with (go_at_call 61; refine (pairBit_yes a b _ ha hab hb).mono ?_; rintro e w' ⟨rfl, rfl⟩)
  go_ret
  exact ⟨rfl, rfl⟩

def boxed2 (w : World) (a b c d : Int) : World := (w.alloc (.cells #[.int .i64 a, .int .i64 b] 37)).alloc (.cells #[.int .i64 c, .int .i64 d] 37)
set_option maxHeartbeats 400000 in
theorem less_any (a b c d : Int) (w : World) :
    Calls Try.prog 64 #[.agg #[.int .i64 a, .int .i64 b], .agg #[.int .i64 c, .int .i64 d]] w fun e w' => e = .returned (.bool (lessB a b c d)) ∧ w' = (w.alloc (.cells #[.int .i64 a, .int .i64 b] 37)).alloc (.cells #[.int .i64 c, .int .i64 d] 37) := by
  have L : Hid (lessB a b c d = (decide (a < c) || (decide (a = c) && decide (b < d)))) := rfl
  have E : Hid (boxed2 w a b c d = (w.alloc (.cells #[.int .i64 a, .int .i64 b] 37)).alloc (.cells #[.int .i64 c, .int .i64 d] 37)) := rfl
  rw [← E.out]
  go_enter Try.func64, Try.ntmps64
  go_wp2
  · go_ret
    have e : a = c := by assumption
    have e2 : lessB a b c d = decide (b < d) := by unfold lessB; simp [e]
    exact ⟨ret_bool e2.symm, by rw [E.out, e]⟩
  · go_ret
    exact ⟨ret_bool (by rw [L.out]; simp; omega), E.out.symm⟩
  · go_ret
    exact ⟨ret_bool (by rw [L.out]; simp; omega), E.out.symm⟩
theorem less_is (v : Bool) (a b c d : Int) (w : World) (h : lessB a b c d = v) :
    Calls Try.prog 64 #[.agg #[.int .i64 a, .int .i64 b], .agg #[.int .i64 c, .int .i64 d]] w fun e w' => e = .returned (.bool v) ∧ w' = (w.alloc (.cells #[.int .i64 a, .int .i64 b] 37)).alloc (.cells #[.int .i64 c, .int .i64 d] 37) := by
  rw [← h]; exact less_any a b c d w
theorem in_is (v : Bool) (n lo hi : Int) (w : World) (h : inB n lo hi = v) :
    Calls Try.prog 55 #[.int .i64 n, .int .i64 lo, .int .i64 hi] w fun e w' => e = .returned (.bool v) ∧ w' = w := by
  rw [← h]; exact in_any n lo hi w

end Go.Proofs.Ytljnjpjnadlmhaa

/- Walks of impl.pairsOf and impl.NetOk. -/
namespace Go.Proofs.Ytljnjpjnadlmhaa
open Go.RowKit
set_option linter.unusedVariables false

/-- the ties ts lie in w behind the address ao, two cells each, in a block below B -/
def TiesIn (w : World) (B : Nat) (ao : Option Addr) (ts : List (Int × Int)) : Prop :=
  ∀ i, i < ts.length → ∃ b off, ao = some ⟨b, off, none⟩ ∧ b < B ∧ w.cell? ⟨b, off + i * 2, none⟩ = some (.int .i64 (tA ts i)) ∧ w.cell? ⟨b, off + i * 2 + 1, none⟩ = some (.int .i64 (tB ts i))

theorem TiesIn.below {w w' : World} {B : Nat} {ao : Option Addr} {ts : List (Int × Int)} (h : TiesIn w B ao ts) {C : Nat} (hb : Below C w w') (hC : B ≤ C) : TiesIn w' B ao ts := by
  intro i hi
  obtain ⟨b, off, e, hlt, c0, c1⟩ := h i hi
  exact ⟨b, off, e, hlt, (hb.cell (p := ⟨b, off + i * 2, none⟩) (by simpa using Nat.lt_of_lt_of_le hlt hC)).trans c0, (hb.cell (p := ⟨b, off + i * 2 + 1, none⟩) (by simpa using Nat.lt_of_lt_of_le hlt hC)).trans c1⟩

theorem TiesIn.wide {w : World} {B C : Nat} {ao : Option Addr} {ts : List (Int × Int)} (h : TiesIn w B ao ts) (hC : B ≤ C) : TiesIn w C ao ts := by
  intro i hi
  obtain ⟨b, off, e, hlt, c0, c1⟩ := h i hi
  exact ⟨b, off, e, Nat.lt_of_lt_of_le hlt hC, c0, c1⟩

set_option maxHeartbeats 800000 in
theorem pairsOf_any (K : Int) (ao : Option Addr) (cap : Nat) (ts : List (Int × Int)) (w : World) (hn : ts.length ≤ 1099511627776) (ht : TiesIn w w.heap.size ao ts) :
    Calls Try.prog 37 #[.agg #[.int .i64 K, .slice ao ts.length cap]] w fun e w' =>
      e = .returned (.tuple #[.int .u64 ((setN K ts : Nat) : Int), .bool (okB K ts)]) ∧ Below w.heap.size w w' := by
  by_cases hK : K < 0 ∨ 8 < K
  · have hno := not_ok_knots (ts := ts) hK
    rw [setN_no hno, hno]
    rcases hK with h | h
    · go_enter Try.func37, Try.ntmps37
      go_wp2
      go_ret2
      exact ⟨rfl, below_one _ _⟩
    · have h' : ¬ K < 0 := by omega
      go_enter Try.func37, Try.ntmps37
      go_wp2
      go_ret2
      exact ⟨rfl, below_one _ _⟩
  · have hK0 : 0 ≤ K := by omega
    have hK8 : K ≤ 8 := by omega
    clear hK
    have d1 : decide (K < 0) = false := by simp; omega
    have d2 : decide (8 < K) = false := by simp; omega
    obtain ⟨n, hnn⟩ : ∃ n, n = ts.length := ⟨_, rfl⟩
    have HN : Hid (n = ts.length) := hnn
    rw [← hnn] at hn ⊢
    clear hnn
    go_enter Try.func37, Try.ntmps37
    go_wp2
    go_loopw [4, 18] (fun s i wr => ∃ k : Nat, k ≤ n ∧ i = .int .i64 k ∧ s = .int .u64 ((maskN ts k : Nat) : Int) ∧ GoodTo K ts k ∧ Below (w.heap.size + 1) (w.alloc (.cells #[.int .i64 K, .slice ao n cap] 25)) wr)
      (fun _ i _ => n - (intOf i).toNat)
    case atStart => exact ⟨0, Nat.zero_le _, rfl, rfl, fun i hi => absurd hi (by omega), Below.refl _ _⟩
    case round =>
      obtain ⟨k, hk, rfl, rfl, hgood, hnx⟩ := hrel
      by_cases hlt : k < n
      · obtain ⟨b, off, rfl, hbw, c0, c1⟩ := ht k (by rw [← HN.out]; exact hlt)
        have c0' : wr.cell? ⟨b, off + k * 2, none⟩ = some (.int .i64 (tA ts k)) := (hnx.cell (p := ⟨b, off + k * 2, none⟩) (by simp; omega)).trans ((World.cell?_alloc_past _ _ _ hbw).trans c0)
        have c1' : wr.cell? ⟨b, off + k * 2 + 1, none⟩ = some (.int .i64 (tB ts k)) := (hnx.cell (p := ⟨b, off + k * 2 + 1, none⟩) (by simp; omega)).trans ((World.cell?_alloc_past _ _ _ hbw).trans c1)
        have hz : w.heap.size < wr.heap.size := by have := hnx.size; simp at this; omega
        have hz1 : w.heap.size < wr.heap.size + 1 := by omega
        have hz2 : w.heap.size < wr.heap.size + 1 + 1 := by omega
        have hz3 : wr.heap.size < wr.heap.size + 1 + 1 := by omega
        have k0 : wr.cell? ⟨w.heap.size, 0, none⟩ = some (.int .i64 K) := (hnx.cell (p := ⟨w.heap.size, 0, none⟩) (by simp)).trans (by simp)
        have k1 : wr.cell? ⟨w.heap.size, 1, none⟩ = some (.slice (some ⟨b, off, none⟩) n cap) := (hnx.cell (p := ⟨w.heap.size, 1, none⟩) (by simp)).trans (by simp)
        have hbel : Below w.heap.size w wr := (below_one _ _).trans (hnx.mono (by omega))
        obtain ⟨x, hx⟩ : ∃ x, x = tA ts k := ⟨_, rfl⟩
        obtain ⟨y, hy⟩ : ∃ y, y = tB ts k := ⟨_, rfl⟩
        rw [← hx] at c0'; rw [← hy] at c1'
        clear c0 c1
        have hkl : k < ts.length := by rw [← HN.out]; exact hlt
        have HB : ¬ TieOk K x y → Hid (okB K ts = false) := fun h => not_ok_tie hkl (by rw [← hx, ← hy]; exact h)
        have HM := (mask_bounds hK8 k hgood).2.2
        have HX : Hid (x = tA ts k ∧ y = tB ts k) := ⟨hx, hy⟩
        clear hx hy ht
        by_cases hgt : TieOk K x y
        · have hgt' := hgt
          obtain ⟨q1, q2, q3⟩ := hgt
          have q4 : y < 8 := by omega
          have hbit := bit_above hK8 hgood (k := k) (by rw [← HX.out.1, ← HX.out.2]; exact hgt')
          rw [← HX.out.1, ← HX.out.2] at hbit
          by_cases hga : GoodAt K ts k
          · have hm : ¬ (((pb x y : Nat) : Int) ≤ ((maskN ts k : Nat) : Int)) := by have := hbit.1 hga; omega
            have hlow : ((maskN ts k : Nat) : Int) < ((pb x y : Nat) : Int) := by omega
            have HG : Hid (GoodTo K ts (k + 1)) := good_snoc hgood hga
            have HMK : Hid (maskN ts (k + 1) = maskN ts k ||| pb x y) := by rw [HX.out.1, HX.out.2]; rfl
            clear hbit hga hgood HB hgt' hm
            go_wp2_with fail
            refine (hasKnot_yes K _ x _ q1 (by omega)).mono ?_
            rintro e w1 ⟨rfl, rfl⟩
            go_wp2_with fail
            refine (hasKnot_yes K _ y _ (by omega) q3).mono ?_
            rintro e w1 ⟨rfl, rfl⟩
            go_wp2_with fail
            refine (pairBit_yes x y _ q1 q2 q4).mono ?_
            rintro e w1 ⟨rfl, rfl⟩
            go_wp2_with fail
            refine (with_yes (maskN ts k) x y _ HM q1 q2 q4).mono ?_
            rintro e w1 ⟨rfl, rfl⟩
            go_wp2
            go_roundw
            case rel => exact ⟨k + 1, by omega, by go_num, by rw [HMK.out], HG.out, ((hnx.alloc (by omega) _).alloc (by simp; omega) _).alloc (by simp; omega) _⟩
            case measure => simp [intOf]; omega
          · have hm : ((pb x y : Nat) : Int) ≤ ((maskN ts k : Nat) : Int) := by
              have : ¬ maskN ts k < pb x y := fun h => hga (hbit.2 h)
              omega
            have HO : Hid (okB K ts = false) := not_ok_at hkl hga
            have hfin : Hid (setN K ts = 0) := setN_no HO.out
            clear hbit hga hgood HB hgt'
            go_wp2_with fail
            refine (hasKnot_yes K _ x _ q1 (by omega)).mono ?_
            rintro e w1 ⟨rfl, rfl⟩
            go_wp2_with fail
            refine (hasKnot_yes K _ y _ (by omega) q3).mono ?_
            rintro e w1 ⟨rfl, rfl⟩
            go_wp2_with fail
            refine (pairBit_yes x y _ q1 q2 q4).mono ?_
            rintro e w1 ⟨rfl, rfl⟩
            go_wp2
            go_ret2
            exact ⟨by rw [hfin.out, HO.out]; rfl, ((hbel.alloc hbel.size _).alloc (by simp; omega) _).alloc (by simp; omega) _⟩
        · have HO := HB hgt
          have hfin : Hid (setN K ts = 0) := setN_no HO.out
          clear HB HM hgood
          by_cases h1 : y ≤ x
          · go_wp2
            go_ret2
            exact ⟨by rw [hfin.out, HO.out]; rfl, hbel.alloc hbel.size _⟩
          · by_cases h2 : 0 ≤ x ∧ x < K
            · obtain ⟨h2a, h2b⟩ := h2
              have h3 : K ≤ y := by
                apply Decidable.byContradiction; intro hc; exact hgt ⟨h2a, by omega, by omega⟩
              clear hgt
              go_wp2_with fail
              refine (hasKnot_yes K _ x _ h2a h2b).mono ?_
              rintro e w1 ⟨rfl, rfl⟩
              go_wp2_with fail
              refine (hasKnot_no K _ y _ (Or.inr h3)).mono ?_
              rintro e w1 ⟨rfl, rfl⟩
              go_wp2
              go_ret2
              exact ⟨by rw [hfin.out, HO.out]; rfl, ((hbel.alloc hbel.size _).alloc (by simp; omega) _).alloc (by simp; omega) _⟩
            · have h3 : x < 0 ∨ K ≤ x := by omega
              clear hgt h2
              go_wp2_with fail
              refine (hasKnot_no K _ x _ h3).mono ?_
              rintro e w1 ⟨rfl, rfl⟩
              go_wp2
              go_ret2
              exact ⟨by rw [hfin.out, HO.out]; rfl, (hbel.alloc hbel.size _).alloc (by simp; omega) _⟩
      · have hkn : k = n := by omega
        subst hkn
        have hok : okB K ts = true := ok_end hK0 hK8 (by rw [← HN.out]; exact hgood)
        have HS : Hid (setN K ts = maskN ts k) := by rw [HN.out]; exact setN_yes hok
        have HO : Hid (okB K ts = true) := hok
        clear hok
        go_wp2
        go_ret2
        refine ⟨?_, (below_one _ _).trans (hnx.mono (by omega))⟩
        rw [HS.out, HO.out]; rfl

end Go.Proofs.Ytljnjpjnadlmhaa

/- Walks of the laws' own helpers: toTie, toTieS, toNet, eqTie, eqTieS, eqNet, szTieS, szNet. -/
namespace Go.Proofs.Ytljnjpjnadlmhaa
open Go.RowKit
set_option linter.unusedVariables false

theorem Try.infoTie : (Try.prog.info? 37).map (fun i => (i.zero, i.size, i.bytes)) = some (some (.agg #[.int .i64 0, .int .i64 0]), 2, 16) := by kernel_rfl

theorem cell_twod (w : World) (o p : Obj) (b i : Nat) (h : b < w.heap.size) : (((w.alloc o).alloc p).drew).cell? ⟨b, i, none⟩ = w.cell? ⟨b, i, none⟩ := by
  show ((w.alloc o).alloc p).cell? ⟨b, i, none⟩ = _
  rw [World.cell?_alloc_past _ _ _ (by simp; omega), World.cell?_alloc_past _ _ _ h]
/-- block g of w holds 2 * n cells, f j at place j, none frozen -/
def OwnT (w : World) (g n : Nat) (f : Nat → Value) : Prop :=
  (∀ j, j < n * 2 → w.cell? ⟨g, j, none⟩ = some (f j)) ∧ (∀ j, w.frozen? ⟨g, j, none⟩ = false) ∧ g < w.heap.size
def tcell (ts : List (Int × Int)) (j : Nat) : Value := .int .i64 (if j % 2 = 0 then tA ts (j / 2) else tB ts (j / 2))
def fcell (ts : List (Int × Int)) (k j : Nat) : Value := if j < k * 2 then tcell ts j else .int .i64 0

theorem tcell0 (ts : List (Int × Int)) (k : Nat) : tcell ts (k * 2) = .int .i64 (tA ts k) := by
  have h1 : (k * 2) % 2 = 0 := by omega
  have h2 : k * 2 / 2 = k := by omega
  simp [tcell, h1, h2]
theorem tcell1 (ts : List (Int × Int)) (k : Nat) : tcell ts (k * 2 + 1) = .int .i64 (tB ts k) := by
  have h1 : (k * 2 + 1) % 2 = 1 := by omega
  have h2 : (k * 2 + 1) / 2 = k := by omega
  simp [tcell, h1, h2]

theorem OwnT.below {w w' : World} {g n : Nat} {f : Nat → Value} {B : Nat} (h : OwnT w g n f) (hb : Below B w w') (hg : g < B) : OwnT w' g n f :=
  ⟨fun j hj => (hb.cell (p := ⟨g, j, none⟩) hg).trans (h.1 j hj), fun j => (hb.frozen (p := ⟨g, j, none⟩) hg).trans (h.2.1 j), Nat.lt_of_lt_of_le h.2.2 hb.size⟩
theorem OwnT.congr {w : World} {g n : Nat} {f f' : Nat → Value} (h : OwnT w g n f) (he : ∀ j, j < n * 2 → f j = f' j) : OwnT w g n f' :=
  ⟨fun j hj => (h.1 j hj).trans (by rw [he j hj]), h.2⟩
theorem OwnT.set {w : World} {g n : Nat} {f : Nat → Value} (h : OwnT w g n f) {i : Nat} (hi : i < n * 2) (u : Value) : OwnT (w.setCell ⟨g, i, none⟩ u) g n (fun j => if j = i then u else f j) := by
  refine ⟨fun j hj => ?_, fun j => ?_, by simpa using h.2.2⟩
  · by_cases hji : j = i
    · subst hji; simp only [if_true]; exact World.cell?_setCell_same w ⟨g, j, none⟩ u (h.1 j hj)
    · show _ = some (if j = i then u else f j)
      rw [if_neg hji, World.cell?_setCell_other _ _ _ _ (by simp)]; exact h.1 j hj
  · rw [World.frozen?_setCell]; exact h.2.1 j
theorem OwnT.other {w : World} {g n : Nat} {f : Nat → Value} (h : OwnT w g n f) {p : Addr} (hp : p.block ≠ g) (u : Value) : OwnT (w.setCell p u) g n f := by
  have e := Below.heap_setCell w p u g (fun e => hp e.symm)
  exact ⟨fun j hj => (World.cell?_of_block (a := ⟨g, j, none⟩) e).trans (h.1 j hj), fun j => (World.frozen?_of_block (a := ⟨g, j, none⟩) e).trans (h.2.1 j), by simpa using h.2.2⟩
theorem OwnT.ties {w : World} {g : Nat} {ts : List (Int × Int)} (h : OwnT w g ts.length (tcell ts)) {B : Nat} (hB : g < B) : TiesIn w B (some ⟨g, 0, none⟩) ts := by
  intro i hi
  refine ⟨g, 0, rfl, hB, ?_, ?_⟩
  · rw [show 0 + i * 2 = i * 2 by omega, h.1 (i * 2) (by omega), tcell0]
  · rw [show 0 + i * 2 + 1 = i * 2 + 1 by omega, h.1 (i * 2 + 1) (by omega), tcell1]
theorem OwnT.made {w : World} {g n cap : Nat} {base : Nat} (h : w.ownsRow base 37 2 (.slice (some ⟨g, 0, none⟩) n cap) n (madeCells #[.int .i64 0, .int .i64 0] (n * 2)).toList) (ts : List (Int × Int)) : OwnT w g n (fcell ts 0) := by
  refine ⟨fun j hj => ?_, fun j => h.frozenAt j, ?_⟩
  · rw [h.cellAt j hj]
    simp [madeCells, hj, fcell]
    have : j % 2 = 0 ∨ j % 2 = 1 := by omega
    rcases this with e | e <;> simp [e]
  · rcases h.2 with ⟨h', _⟩ | ⟨g', cap', cur, h', _, hg, _⟩
    · simp at h'
    · simp only [Value.slice.injEq, Option.some.injEq, Addr.mk.injEq, and_true, true_and] at h'
      obtain ⟨rfl, _⟩ := h'
      exact (Array.getElem?_eq_some_iff.1 hg).1
theorem fill_step (ts : List (Int × Int)) (n k j : Nat) (hk : k < n) (hj : j < n * 2) :
    (if j = k * 2 + 1 then Value.int .i64 (tB ts k) else if j = k * 2 then .int .i64 (tA ts k) else fcell ts k j) = fcell ts (k + 1) j := by
  by_cases h1 : j = k * 2 + 1
  · subst h1; rw [if_pos rfl, fcell, if_pos (by omega), tcell1]
  · rw [if_neg h1]
    by_cases h2 : j = k * 2
    · subst h2; rw [if_pos rfl, fcell, if_pos (by omega), tcell0]
    · rw [if_neg h2]
      unfold fcell
      by_cases h3 : j < k * 2
      · rw [if_pos h3, if_pos (by omega)]
      · rw [if_neg h3, if_neg (by omega)]
theorem fill_end (ts : List (Int × Int)) (n j : Nat) (hj : j < n * 2) : fcell ts n j = tcell ts j := by rw [fcell, if_pos hj]

set_option maxHeartbeats 400000 in
theorem toTie_any (a b : Int) (w : World) :
    Calls Try.prog 45 #[.agg #[.int .i64 a, .int .i64 b]] w fun e w' => e = .returned (.agg #[.int .i64 a, .int .i64 b]) ∧ Below w.heap.size w w' := by
  go_enter Try.func45, Try.ntmps45
  go_wp2
  refine bodyPost_ret (v := .agg #[.int .i64 a, .int .i64 b]) (by simp [results, Try.results45, go_sem]) rfl ⟨rfl, ?_⟩
  exact (below_two _ _ _).alloc (by simp; omega) _

set_option maxHeartbeats 400000 in
theorem szTieS_yes (ao : Option Addr) (n cap : Nat) (w : World) (h : n ≤ 1048576) :
    Calls Try.prog 20 #[.slice ao n cap, .int .i64 1048576] w fun e w' => e = .returned (.int .i64 (1048576 - (n : Int))) ∧ w' = w := by
  have h' : ¬ ((1048576 : Int) - (n : Int) < 0) := by omega
  go_enter Try.func20, Try.ntmps20
  go_wp2
  go_ret
  exact ⟨rfl, rfl⟩
set_option maxHeartbeats 400000 in
theorem szTieS_no (ao : Option Addr) (n cap : Nat) (w : World) (h : 1048576 < n) (hn : n ≤ 9223372036854775807) :
    Calls Try.prog 20 #[.slice ao n cap, .int .i64 1048576] w fun e w' => e = .returned (.int .i64 (-1)) ∧ w' = w := by
  have h' : ((1048576 : Int) - (n : Int) < 0) := by omega
  go_enter Try.func20, Try.ntmps20
  go_wp2
  go_ret
  exact ⟨rfl, rfl⟩

set_option maxHeartbeats 400000 in
theorem eqTie_any (a b : Int) (w : World) :
    Calls Try.prog 46 #[.agg #[.int .i64 a, .int .i64 b], .agg #[.int .i64 a, .int .i64 b]] w fun e w' => e = .returned (.bool true) ∧ w' = (w.alloc (.cells #[.int .i64 a, .int .i64 b] 37)).alloc (.cells #[.int .i64 a, .int .i64 b] 37) := by
  go_enter Try.func46, Try.ntmps46
  go_wp2
  go_ret
  exact ⟨rfl, rfl⟩

set_option maxHeartbeats 800000 in
theorem toTieS_any (ao : Option Addr) (cap : Nat) (ts : List (Int × Int)) (w : World) (hn : ts.length ≤ 1099511627776) (ht : TiesIn w w.heap.size ao ts) :
    Calls Try.prog 21 #[.slice ao ts.length cap] w fun e w' => e = .returned (.slice (some ⟨w.heap.size, 0, none⟩) ts.length ts.length) ∧ OwnT w' w.heap.size ts.length (tcell ts) ∧ Below w.heap.size w w' := by
  obtain ⟨i0, hi, hz0, hz1, hz2⟩ := info_parts Try.infoTie
  obtain ⟨n, hnn⟩ : ∃ n, n = ts.length := ⟨_, rfl⟩
  have HN : Hid (n = ts.length) := hnn
  rw [← hnn] at hn ⊢
  clear hnn
  have HI : Hid (i0.bytes * n ≤ 281474976710656) := by rw [hz2]; show 16 * n ≤ _; omega
  go_enter Try.func21, Try.ntmps21
  go_wp2_with (at_make; refine wpList_make_full _ rfl _ _ 23 rfl w.heap.size 37 i0 (.agg #[.int .i64 0, .int .i64 0]) 2 Try.underlying23 hi hz0 hz1 .i64 .i64 _ _ n rfl rfl ?_ ?_ HI.out ?_ ?_ ?_)
  · rfl
  · rfl
  · unfold maxLen; omega
  · exact Nat.le_refl _
  intro w1 hown hgrow
  have ho : OwnT w1 w.heap.size n (fcell ts 0) := OwnT.made hown ts
  have hb0 : Below w.heap.size w w1 := (Below.refl _ _).grown hgrow (Nat.le_refl _) (fun k h => by cases h)
  clear hown hgrow hi hz0 hz1 hz2 HI
  go_wp2
  go_loopw [4] (fun i wr => ∃ k : Nat, k ≤ n ∧ i = .int .i64 k ∧ OwnT wr w.heap.size n (fcell ts k) ∧ Below w.heap.size w wr)
    (fun i _ => n - (intOf i).toNat)
  case atStart => exact ⟨0, Nat.zero_le _, rfl, ho, hb0⟩
  case round =>
    obtain ⟨k, hk, rfl, hown, hbel⟩ := hrel
    clear ho hb0
    by_cases hlt : k < n
    · obtain ⟨b, off, rfl, hbw, c0, c1⟩ := ht k (by rw [← HN.out]; exact hlt)
      have c0' : wr.cell? ⟨b, off + k * 2, none⟩ = some (.int .i64 (tA ts k)) := (hbel.cell (p := ⟨b, off + k * 2, none⟩) hbw).trans c0
      have c1' : wr.cell? ⟨b, off + k * 2 + 1, none⟩ = some (.int .i64 (tB ts k)) := (hbel.cell (p := ⟨b, off + k * 2 + 1, none⟩) hbw).trans c1
      obtain ⟨x, hx⟩ : ∃ x, x = tA ts k := ⟨_, rfl⟩
      obtain ⟨y, hy⟩ : ∃ y, y = tB ts k := ⟨_, rfl⟩
      rw [← hx] at c0'; rw [← hy] at c1'
      have HX : Hid (x = tA ts k ∧ y = tB ts k) := ⟨hx, hy⟩
      clear c0 c1 hx hy ht
      go_wp2_with fail
      refine (toTie_any x y _).mono ?_
      rintro e w2 ⟨rfl, hb2⟩
      have ho2 : OwnT w2 w.heap.size n (fcell ts k) := hown.below hb2 hown.2.2
      have d0 := ho2.1 (k * 2) (by omega)
      have d1 := ho2.1 (k * 2 + 1) (by omega)
      have f0 := ho2.2.1 (k * 2)
      have f1 := ho2.2.1 (k * 2 + 1)
      have hb3 : Below w.heap.size w w2 := hbel.trans (hb2.mono hbel.size)
      have HO : Hid (OwnT ((w2.setCell ⟨w.heap.size, k * 2, none⟩ (.int .i64 x)).setCell ⟨w.heap.size, k * 2 + 1, none⟩ (.int .i64 y)) w.heap.size n (fcell ts (k + 1))) :=
        ((ho2.set (i := k * 2) (by omega) (.int .i64 x)).set (i := k * 2 + 1) (by omega) (.int .i64 y)).congr (fun j hj => by rw [HX.out.1, HX.out.2]; exact fill_step ts n k j hlt hj)
      have HB : Hid (Below w.heap.size w ((w2.setCell ⟨w.heap.size, k * 2, none⟩ (.int .i64 x)).setCell ⟨w.heap.size, k * 2 + 1, none⟩ (.int .i64 y))) :=
        (hb3.setCell (p := ⟨w.heap.size, k * 2, none⟩) (Nat.le_refl _) _).setCell (p := ⟨w.heap.size, k * 2 + 1, none⟩) (Nat.le_refl _) _
      clear ho2 hb2 hown hbel hb3 c0' c1'
      go_wp2
      go_roundw
      case rel => exact ⟨k + 1, by omega, by go_num, HO.out, HB.out⟩
      case measure => simp [intOf]; omega
    · have hkn : k = n := by omega
      subst hkn
      have HO : Hid (OwnT wr w.heap.size k (tcell ts)) := hown.congr (fun j hj => fill_end ts k j hj)
      clear hown
      go_wp2
      go_ret
      exact ⟨rfl, HO.out, hbel⟩

theorem three_last (w : World) (o p : Obj) (c : Array Value) (t : TypeId) (i : Nat) : (((w.alloc o).alloc p).alloc (.cells c t)).cell? ⟨w.heap.size + 2, i, none⟩ = c[i]? := World.cell?_alloc_at _ _ _ _ (by simp)
theorem three_mid (w : World) (o q : Obj) (c : Array Value) (t : TypeId) (i : Nat) : (((w.alloc o).alloc (.cells c t)).alloc q).cell? ⟨w.heap.size + 1, i, none⟩ = c[i]? := by
  rw [World.cell?_alloc_past _ _ _ (by simp)]; exact World.cell?_alloc_at _ _ _ _ (by simp)
theorem three_lastF (w : World) (o p : Obj) (c : Array Value) (t : TypeId) (i : Nat) : (((w.alloc o).alloc p).alloc (.cells c t)).frozen? ⟨w.heap.size + 2, i, none⟩ = false := World.frozen?_alloc_at _ _ _ _ (by simp)
theorem three_midF (w : World) (o q : Obj) (c : Array Value) (t : TypeId) (i : Nat) : (((w.alloc o).alloc (.cells c t)).alloc q).frozen? ⟨w.heap.size + 1, i, none⟩ = false := by
  rw [World.frozen?_alloc_past _ _ _ (by simp)]; exact World.frozen?_alloc_at _ _ _ _ (by simp)
theorem below_three (w : World) (o p q : Obj) : Below w.heap.size w (((w.alloc o).alloc p).alloc q) := (below_two w o p).alloc (by simp; omega) q
set_option maxHeartbeats 400000 in
theorem toNet_any (K : Int) (ao : Option Addr) (cap : Nat) (ts : List (Int × Int)) (w : World) (hn : ts.length ≤ 1099511627776) (ht : TiesIn w w.heap.size ao ts) :
    Calls Try.prog 16 #[.agg #[.int .i64 K, .slice ao ts.length cap]] w fun e w' => ∃ g, e = .returned (.agg #[.int .i64 K, .slice (some ⟨g, 0, none⟩) ts.length ts.length]) ∧ w.heap.size ≤ g ∧ OwnT w' g ts.length (tcell ts) ∧ Below w.heap.size w w' := by
  have hb3 := fun o p q => below_three w o p q
  go_enter Try.func16, Try.ntmps16
  go_wp2_with fail
  refine (toTieS_any ao cap ts _ hn ((ht.below (hb3 _ _ _) (Nat.le_refl _)).wide (by simp; omega))).mono ?_
  rintro e w1 ⟨rfl, hown, hb1⟩
  have hz : w.heap.size + 1 + 1 + 1 ≤ w1.heap.size := by have := hb1.size; simpa using this
  have k0 : w1.cell? ⟨w.heap.size + 2, 0, none⟩ = some (.int .i64 K) := (hb1.cell (p := ⟨w.heap.size + 2, 0, none⟩) (by simp)).trans (three_last _ _ _ _ _ _)
  have k1 : w1.cell? ⟨w.heap.size + 2, 1, none⟩ = some (.slice none 0 0) := (hb1.cell (p := ⟨w.heap.size + 2, 1, none⟩) (by simp)).trans (three_last _ _ _ _ _ _)
  have k2 : w1.cell? ⟨w.heap.size + 1, 0, none⟩ = some (.int .i64 0) := (hb1.cell (p := ⟨w.heap.size + 1, 0, none⟩) (by simp)).trans (three_mid _ _ _ _ _ _)
  have k3 : w1.cell? ⟨w.heap.size + 1, 1, none⟩ = some (.slice none 0 0) := (hb1.cell (p := ⟨w.heap.size + 1, 1, none⟩) (by simp)).trans (three_mid _ _ _ _ _ _)
  have f1 : w1.frozen? ⟨w.heap.size + 2, 1, none⟩ = false := (hb1.frozen (p := ⟨w.heap.size + 2, 1, none⟩) (by simp)).trans (three_lastF _ _ _ _ _ _)
  have f2 : w1.frozen? ⟨w.heap.size + 1, 0, none⟩ = false := (hb1.frozen (p := ⟨w.heap.size + 1, 0, none⟩) (by simp)).trans (three_midF _ _ _ _ _ _)
  have f3 : w1.frozen? ⟨w.heap.size + 1, 1, none⟩ = false := (hb1.frozen (p := ⟨w.heap.size + 1, 1, none⟩) (by simp)).trans (three_midF _ _ _ _ _ _)
  go_wp2
  have hzz : w.heap.size ≤ w1.heap.size := by omega
  refine bodyPost_ret (v := .agg #[.int .i64 K, .slice (some ⟨w.heap.size + 1 + 1 + 1, 0, none⟩) ts.length ts.length]) ?_ rfl ⟨_, rfl, by omega, ?_, ?_⟩
  · simp [results, Try.results16, go_sem, k2, k3]
  · have ho : OwnT w1 (w.heap.size + 1 + 1 + 1) ts.length (tcell ts) := by simpa using hown
    exact ((ho.other (by simp) _).other (by simp) _).other (by simp) _
  · have hb : Below w.heap.size w w1 := (hb3 _ _ _).trans (hb1.mono (by simp; omega))
    exact ((hb.setCell (by simp; omega) _).setCell (by simp) _).setCell (by simp) _

set_option maxHeartbeats 400000 in
theorem szNet_yes (K : Int) (ao : Option Addr) (n cap : Nat) (w : World) (h : n ≤ 1048576) :
    Calls Try.prog 14 #[.agg #[.int .i64 K, .slice ao n cap], .int .i64 1048576] w fun e w' => e = .returned (.int .i64 (1048576 - (n : Int))) ∧ Below w.heap.size w w' := by
  have h' : ¬ ((1048576 : Int) - (n : Int) < 0) := by omega
  go_enter Try.func14, Try.ntmps14
  go_wp2_with fail
  refine (szTieS_yes ao n cap _ h).mono ?_
  rintro e w1 ⟨rfl, rfl⟩
  go_wp2
  go_ret
  exact ⟨rfl, below_one _ _⟩
set_option maxHeartbeats 400000 in
theorem szNet_no (K : Int) (ao : Option Addr) (n cap : Nat) (w : World) (h : 1048576 < n) (hn : n ≤ 9223372036854775807) :
    Calls Try.prog 14 #[.agg #[.int .i64 K, .slice ao n cap], .int .i64 1048576] w fun e w' => e = .returned (.int .i64 (-1)) ∧ Below w.heap.size w w' := by
  go_enter Try.func14, Try.ntmps14
  go_wp2_with fail
  refine (szTieS_no ao n cap _ h hn).mono ?_
  rintro e w1 ⟨rfl, rfl⟩
  go_wp2
  go_ret
  exact ⟨rfl, below_one _ _⟩


set_option maxHeartbeats 800000 in
theorem eqTieS_same (a1 a2 : Option Addr) (cap1 cap2 : Nat) (ts : List (Int × Int)) (w : World) (hn : ts.length ≤ 1099511627776) (h1 : TiesIn w w.heap.size a1 ts) (h2 : TiesIn w w.heap.size a2 ts) :
    Calls Try.prog 22 #[.slice a1 ts.length cap1, .slice a2 ts.length cap2] w fun e w' => e = .returned (.bool true) ∧ Below w.heap.size w w' := by
  obtain ⟨n, hnn⟩ : ∃ n, n = ts.length := ⟨_, rfl⟩
  have HN : Hid (n = ts.length) := hnn
  rw [← hnn] at hn ⊢
  clear hnn
  go_enter Try.func22, Try.ntmps22
  go_wp2
  go_loopw [5] (fun i wr => ∃ k : Nat, k ≤ n ∧ i = .int .i64 k ∧ Below w.heap.size w wr)
    (fun i _ => n - (intOf i).toNat)
  case atStart => exact ⟨0, Nat.zero_le _, rfl, Below.refl _ _⟩
  case round =>
    obtain ⟨k, hk, rfl, hbel⟩ := hrel
    by_cases hlt : k < n
    · obtain ⟨b, off, rfl, hbw, c0, c1⟩ := h1 k (by rw [← HN.out]; exact hlt)
      obtain ⟨b2, off2, rfl, hbw2, e0, e1⟩ := h2 k (by rw [← HN.out]; exact hlt)
      have c0' : wr.cell? ⟨b, off + k * 2, none⟩ = some (.int .i64 (tA ts k)) := (hbel.cell (p := ⟨b, off + k * 2, none⟩) hbw).trans c0
      have c1' : wr.cell? ⟨b, off + k * 2 + 1, none⟩ = some (.int .i64 (tB ts k)) := (hbel.cell (p := ⟨b, off + k * 2 + 1, none⟩) hbw).trans c1
      have e0' : wr.cell? ⟨b2, off2 + k * 2, none⟩ = some (.int .i64 (tA ts k)) := (hbel.cell (p := ⟨b2, off2 + k * 2, none⟩) hbw2).trans e0
      have e1' : wr.cell? ⟨b2, off2 + k * 2 + 1, none⟩ = some (.int .i64 (tB ts k)) := (hbel.cell (p := ⟨b2, off2 + k * 2 + 1, none⟩) hbw2).trans e1
      obtain ⟨x, hx⟩ : ∃ x, x = tA ts k := ⟨_, rfl⟩
      obtain ⟨y, hy⟩ : ∃ y, y = tB ts k := ⟨_, rfl⟩
      rw [← hx] at c0' e0'; rw [← hy] at c1' e1'
      have hbz : b < wr.heap.size := Nat.lt_of_lt_of_le hbw hbel.size
      have hbz2 : b2 < wr.heap.size := Nat.lt_of_lt_of_le hbw2 hbel.size
      have hk0 : (0 : Int) ≤ (k : Int) := by omega
      have hk1 : (k : Int) < (n : Int) := by omega
      clear c0 c1 e0 e1 hx hy h1 h2
      go_wp2
      go_region_held3 (fun w' => w'.cell? ⟨b, off + k * 2, none⟩ = some (.int .i64 x) ∧ w'.cell? ⟨b, off + k * 2 + 1, none⟩ = some (.int .i64 y) ∧ w'.cell? ⟨b2, off2 + k * 2, none⟩ = some (.int .i64 x) ∧ w'.cell? ⟨b2, off2 + k * 2 + 1, none⟩ = some (.int .i64 y)) (first | (go_keep; done) | exact ⟨(cell_twod _ _ _ _ _ hbz).trans c0', (cell_twod _ _ _ _ _ hbz).trans c1', (cell_twod _ _ _ _ _ hbz2).trans e0', (cell_twod _ _ _ _ _ hbz2).trans e1'⟩) (first | (go_at_call 46; refine (eqTie_any x y _).mono ?_; rintro e w' ⟨rfl, rfl⟩))
      go_wp2
      go_roundw
      case rel => exact ⟨k + 1, by omega, by go_num, ((hbel.alloc hbel.size _).alloc (by have := hbel.size; simp; omega) _).drew⟩
      case measure => simp [intOf]; omega
    · have hkn : k = n := by omega
      subst hkn
      go_wp2
      go_ret
      exact ⟨rfl, hbel⟩

set_option maxHeartbeats 400000 in
theorem eqNet_same (K : Int) (a1 a2 : Option Addr) (cap1 cap2 : Nat) (ts : List (Int × Int)) (w : World) (hn : ts.length ≤ 1099511627776) (h1 : TiesIn w w.heap.size a1 ts) (h2 : TiesIn w w.heap.size a2 ts) :
    Calls Try.prog 18 #[.agg #[.int .i64 K, .slice a1 ts.length cap1], .agg #[.int .i64 K, .slice a2 ts.length cap2]] w fun e w' => e = .returned (.bool true) ∧ Below w.heap.size w w' := by
  have hb := fun o p => below_two w o p
  go_enter Try.func18, Try.ntmps18
  go_wp2_with fail
  refine (eqTieS_same a1 a2 cap1 cap2 ts _ hn ((h1.below (hb _ _) (Nat.le_refl _)).wide (by simp; omega)) ((h2.below (hb _ _) (Nat.le_refl _)).wide (by simp; omega))).mono ?_
  rintro e w1 ⟨rfl, hb1⟩
  have hbb : Below w.heap.size w w1 := (hb _ _).trans (hb1.mono (by simp; omega))
  clear hb1 hb
  go_wp2
  go_ret
  exact ⟨rfl, hbb⟩

end Go.Proofs.Ytljnjpjnadlmhaa

/- Rows of ties that a call owns. -/
namespace Go.Proofs.Ytljnjpjnadlmhaa
open Go.RowKit
set_option linter.unusedVariables false

theorem hideP {p : Prop} (h : p) : Hid p := h
/-- the cells of the first k ties -/
def clist (ts : List (Int × Int)) (k : Nat) : List Value := (List.range (k * 2)).map (tcell ts)
theorem clist_succ (ts : List (Int × Int)) (k : Nat) : clist ts (k + 1) = clist ts k ++ [.int .i64 (tA ts k), .int .i64 (tB ts k)] := by
  unfold clist
  rw [show (k + 1) * 2 = k * 2 + 1 + 1 by omega, List.range_succ, List.range_succ]
  simp [tcell0, tcell1]
theorem clist_length (ts : List (Int × Int)) (k : Nat) : (clist ts k).length = k * 2 := by simp [clist]
theorem clist_get (ts : List (Int × Int)) (k j : Nat) (h : j < k * 2) : (clist ts k)[j]? = some (tcell ts j) := by simp [clist, h]
theorem own_ge {w : World} {base : Nat} {e : TypeId} {size : Nat} {v : Value} {n : Nat} {xs : List Value} (h : w.ownsRow base e size v n xs) : ∀ k, v.ownBlock = some k → base ≤ k := by
  intro k hk
  rcases h.2 with ⟨rfl, _⟩ | ⟨g, cap, cur, rfl, hg, _⟩
  · simp [Value.ownBlock] at hk
  · simp [Value.ownBlock] at hk; omega
theorem own_base {w : World} {base base' : Nat} {e : TypeId} {size : Nat} {v : Value} {n : Nat} {xs : List Value} (h : w.ownsRow base e size v n xs) (hb : base' ≤ base) : w.ownsRow base' e size v n xs := by
  refine ⟨h.1, ?_⟩
  rcases h.2 with h1 | ⟨g, cap, cur, h1, h2, h3⟩
  · exact Or.inl h1
  · exact Or.inr ⟨g, cap, cur, h1, Nat.le_trans hb h2, h3⟩
theorem own_slice {w : World} {base : Nat} {e : TypeId} {size : Nat} {v : Value} {n : Nat} {xs : List Value} (h : w.ownsRow base e size v n xs) : ∃ ao cap, v = .slice ao n cap := by
  rcases h.2 with ⟨rfl, rfl⟩ | ⟨g, cap, cur, rfl, _⟩
  · exact ⟨none, 0, rfl⟩
  · exact ⟨_, cap, rfl⟩

end Go.Proofs.Ytljnjpjnadlmhaa

/- A slice of ties of the call's own, wherever it lies; what turns where it is written. -/
namespace Go.Proofs.Ytljnjpjnadlmhaa
open Go.RowKit
set_option linter.unusedVariables false

/-- a slice of n ties, nil where n is 0, or a row of its own in a block from lo to below hi, f j at cell j -/
def OwnN (w : World) (lo hi : Nat) (ao : Option Addr) (n : Nat) (f : Nat → Value) : Prop :=
  (n = 0 ∧ ao = none) ∨ ∃ g, ao = some ⟨g, 0, none⟩ ∧ lo ≤ g ∧ g < hi ∧ OwnT w g n f
theorem OwnN.of_row {w : World} {base n cap : Nat} {ao : Option Addr} {ts : List (Int × Int)} (h : w.ownsRow base 37 2 (.slice ao n cap) n (clist ts n)) : OwnN w base w.heap.size ao n (tcell ts) := by
  rcases h.2 with ⟨e, e0⟩ | ⟨g, cap', cur, e, hg, hh, rest⟩
  · simp only [Value.slice.injEq] at e
    exact Or.inl ⟨e0, e.1⟩
  · simp only [Value.slice.injEq] at e
    obtain ⟨rfl, _, rfl⟩ := e
    have hlt : g < w.heap.size := (Array.getElem?_eq_some_iff.1 hh).1
    exact Or.inr ⟨g, rfl, hg, hlt, fun j hj => by rw [h.cellAt j hj, clist_get ts n j hj], fun j => h.frozenAt j, hlt⟩
theorem OwnN.of_T {w : World} {lo hi g n : Nat} {f : Nat → Value} (h : OwnT w g n f) (h1 : lo ≤ g) (h2 : g < hi) : OwnN w lo hi (some ⟨g, 0, none⟩) n f := Or.inr ⟨g, rfl, h1, h2, h⟩
theorem OwnN.next {w w' : World} {lo hi n : Nat} {ao : Option Addr} {f : Nat → Value} (h : OwnN w lo hi ao n f) (hb : Below w.heap.size w w') : OwnN w' lo hi ao n f := by
  rcases h with h | ⟨g, e, h1, h2, h3⟩
  · exact Or.inl h
  · exact Or.inr ⟨g, e, h1, h2, h3.below hb h3.2.2⟩
theorem OwnT.of_block {w w' : World} {g n : Nat} {f : Nat → Value} (h : OwnT w g n f) (e : w'.heap[g]? = w.heap[g]?) (hs : w.heap.size ≤ w'.heap.size) : OwnT w' g n f :=
  ⟨fun j hj => (World.cell?_of_block (a := ⟨g, j, none⟩) e).trans (h.1 j hj), fun j => (World.frozen?_of_block (a := ⟨g, j, none⟩) e).trans (h.2.1 j), Nat.lt_of_lt_of_le h.2.2 hs⟩
/-- blocks from lo to below hi may have turned, and others came; nothing else -/
structure Turned (lo hi : Nat) (w w' : World) : Prop where
  os : w'.os = w.os
  tape : w'.tape = w.tape
  output : w'.output = w.output
  size : w.heap.size ≤ w'.heap.size
  block : ∀ k, k < w.heap.size → k < lo ∨ hi ≤ k → w'.heap[k]? = w.heap[k]?
theorem Turned.refl (lo hi : Nat) (w : World) : Turned lo hi w w := ⟨rfl, rfl, rfl, Nat.le_refl _, fun _ _ _ => rfl⟩
theorem Turned.of_grown {lo hi r : Nat} {w w' : World} (h : w.grownBy w' (some r)) (h1 : lo ≤ r) (h2 : r < hi) : Turned lo hi w w' := ⟨h.os, h.tape, h.output, h.size, fun k hk ho => h.block k hk (by simp; omega)⟩
theorem Turned.cell {lo hi : Nat} {w w' : World} (h : Turned lo hi w w') {p : Addr} (hp : p.block < w.heap.size) (ho : p.block < lo ∨ hi ≤ p.block) : w'.cell? p = w.cell? p := World.cell?_of_block (h.block p.block hp ho)
theorem OwnN.aside {w w' : World} {lo hi l h n : Nat} {ao : Option Addr} {f : Nat → Value} (ho : OwnN w lo hi ao n f) (ht : Turned l h w w') (hr : hi ≤ l ∨ h ≤ lo) : OwnN w' lo hi ao n f := by
  rcases ho with ho | ⟨g, e, h1, h2, h3⟩
  · exact Or.inl ho
  · exact Or.inr ⟨g, e, h1, h2, h3.of_block (ht.block g h3.2.2 (by omega)) ht.size⟩
theorem OwnN.ties {w : World} {lo hi : Nat} {ao : Option Addr} {ts : List (Int × Int)} (h : OwnN w lo hi ao ts.length (tcell ts)) {B : Nat} (hB : hi ≤ B) : TiesIn w B ao ts := by
  rcases h with ⟨h, _⟩ | ⟨g, rfl, h1, h2, h3⟩
  · intro i hi; omega
  · exact h3.ties (by omega)

end Go.Proofs.Ytljnjpjnadlmhaa
