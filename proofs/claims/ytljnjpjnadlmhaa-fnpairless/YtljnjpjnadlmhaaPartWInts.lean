/- Texts put together: WInts, WWith. -/
import Derived.Test.YtljnjpjnadlmhaaPartWLeaf
import Derived.BigRegion
import Derived.Test.YtljnjpjnadlmhaaPartWSpecOk
/- Rows of whole numbers in memory; walks of slices.Index, slices.Contains, spec.l2Has, laws.toIntS, laws.eqIntS over them. -/
namespace Go.Proofs.Ytljnjpjnadlmhaa
open Go.RowKit
set_option linter.unusedVariables false

def xi (xs : List Int) (i : Nat) : Int := xs.getD i 0
/-- the numbers xs lie in w behind the address ao, in a block below B -/
def IntsIn (w : World) (B : Nat) (ao : Option Addr) (xs : List Int) : Prop :=
  ∀ i, i < xs.length → ∃ b off, ao = some ⟨b, off, none⟩ ∧ b < B ∧ w.cell? ⟨b, off + i, none⟩ = some (.int .i64 (xi xs i))
theorem IntsIn.below {w w' : World} {B : Nat} {ao : Option Addr} {xs : List Int} (h : IntsIn w B ao xs) {C : Nat} (hb : Below C w w') (hC : B ≤ C) : IntsIn w' B ao xs := by
  intro i hi
  obtain ⟨b, off, e, hlt, c0⟩ := h i hi
  exact ⟨b, off, e, hlt, (hb.cell (p := ⟨b, off + i, none⟩) (by simpa using Nat.lt_of_lt_of_le hlt hC)).trans c0⟩
theorem IntsIn.wide {w : World} {B C : Nat} {ao : Option Addr} {xs : List Int} (h : IntsIn w B ao xs) (hC : B ≤ C) : IntsIn w C ao xs := by
  intro i hi
  obtain ⟨b, off, e, hlt, c0⟩ := h i hi
  exact ⟨b, off, e, Nat.lt_of_lt_of_le hlt hC, c0⟩
theorem IntsIn.take {w : World} {B : Nat} {ao : Option Addr} {xs : List Int} (h : IntsIn w B ao xs) (k : Nat) : IntsIn w B ao (xs.take k) := by
  intro i hi
  simp only [List.length_take] at hi
  obtain ⟨b, off, e, hlt, c0⟩ := h i (by omega)
  refine ⟨b, off, e, hlt, c0.trans ?_⟩
  simp only [xi, List.getD_eq_getElem?_getD]
  rw [List.getElem?_take_of_lt (by omega)]

def inI (xs : List Int) (k : Int) : Bool := decide (∃ i, i < xs.length ∧ xi xs i = k)
theorem inI_at {xs : List Int} {k : Int} {i : Nat} (h : i < xs.length) (e : xi xs i = k) : inI xs k = true := by
  simp only [inI, decide_eq_true_eq]; exact ⟨i, h, e⟩
theorem inI_none {xs : List Int} {k : Int} (h : ∀ i, i < xs.length → xi xs i ≠ k) : inI xs k = false := by
  simp only [inI, decide_eq_false_iff_not]; rintro ⟨i, hi, e⟩; exact h i hi e
theorem inI_iff {xs : List Int} {k : Int} : inI xs k = true ↔ ∃ i, i < xs.length ∧ xi xs i = k := by simp [inI]

/-- block g of w holds n cells, f j at place j, none frozen -/
def OwnI (w : World) (g n : Nat) (f : Nat → Value) : Prop :=
  (∀ j, j < n → w.cell? ⟨g, j, none⟩ = some (f j)) ∧ (∀ j, w.frozen? ⟨g, j, none⟩ = false) ∧ g < w.heap.size
def icell (xs : List Int) (j : Nat) : Value := .int .i64 (xi xs j)
def icellTo (xs : List Int) (k j : Nat) : Value := if j < k then icell xs j else .int .i64 0
theorem OwnI.below {w w' : World} {g n : Nat} {f : Nat → Value} {B : Nat} (h : OwnI w g n f) (hb : Below B w w') (hg : g < B) : OwnI w' g n f :=
  ⟨fun j hj => (hb.cell (p := ⟨g, j, none⟩) hg).trans (h.1 j hj), fun j => (hb.frozen (p := ⟨g, j, none⟩) hg).trans (h.2.1 j), Nat.lt_of_lt_of_le h.2.2 hb.size⟩
theorem OwnI.congr {w : World} {g n : Nat} {f f' : Nat → Value} (h : OwnI w g n f) (he : ∀ j, j < n → f j = f' j) : OwnI w g n f' :=
  ⟨fun j hj => (h.1 j hj).trans (by rw [he j hj]), h.2⟩
theorem OwnI.set {w : World} {g n : Nat} {f : Nat → Value} (h : OwnI w g n f) {i : Nat} (hi : i < n) (u : Value) : OwnI (w.setCell ⟨g, i, none⟩ u) g n (fun j => if j = i then u else f j) := by
  refine ⟨fun j hj => ?_, fun j => ?_, by simpa using h.2.2⟩
  · by_cases hji : j = i
    · subst hji; simp only [if_true]; exact World.cell?_setCell_same w ⟨g, j, none⟩ u (h.1 j hj)
    · show _ = some (if j = i then u else f j)
      rw [if_neg hji, World.cell?_setCell_other _ _ _ _ (by simp)]; exact h.1 j hj
  · rw [World.frozen?_setCell]; exact h.2.1 j
theorem OwnI.other {w : World} {g n : Nat} {f : Nat → Value} (h : OwnI w g n f) {p : Addr} (hp : p.block ≠ g) (u : Value) : OwnI (w.setCell p u) g n f := by
  have e := Below.heap_setCell w p u g (fun e => hp e.symm)
  exact ⟨fun j hj => (World.cell?_of_block (a := ⟨g, j, none⟩) e).trans (h.1 j hj), fun j => (World.frozen?_of_block (a := ⟨g, j, none⟩) e).trans (h.2.1 j), by simpa using h.2.2⟩
theorem OwnI.ints {w : World} {g : Nat} {xs : List Int} (h : OwnI w g xs.length (icell xs)) {B : Nat} (hB : g < B) : IntsIn w B (some ⟨g, 0, none⟩) xs := by
  intro i hi
  refine ⟨g, 0, rfl, hB, ?_⟩
  rw [show 0 + i = i by omega, h.1 i hi]; rfl
theorem OwnI.made {w : World} {g n cap : Nat} {base : Nat} (h : w.ownsRow base 3 1 (.slice (some ⟨g, 0, none⟩) n cap) n (madeCells #[.int .i64 0] n).toList) (xs : List Int) : OwnI w g n (icellTo xs 0) := by
  refine ⟨fun j hj => ?_, fun j => h.frozenAt j, ?_⟩
  · rw [h.cellAt j (by omega)]
    have hm : j % 1 = 0 := by omega
    simp [madeCells, hj, icellTo, hm]
  · rcases h.2 with ⟨h', _⟩ | ⟨g', cap', cur, h', _, hg, _⟩
    · simp at h'
    · simp only [Value.slice.injEq, Option.some.injEq, Addr.mk.injEq, and_true, true_and] at h'
      obtain ⟨rfl, _⟩ := h'
      exact (Array.getElem?_eq_some_iff.1 hg).1
theorem ifill_step (xs : List Int) (k j : Nat) : (if j = k then Value.int .i64 (xi xs k) else icellTo xs k j) = icellTo xs (k + 1) j := by
  by_cases h1 : j = k
  · subst h1; rw [if_pos rfl, icellTo, if_pos (by omega)]; rfl
  · rw [if_neg h1]; unfold icellTo
    by_cases h3 : j < k
    · rw [if_pos h3, if_pos (by omega)]
    · rw [if_neg h3, if_neg (by omega)]
theorem ifill_end (xs : List Int) (n j : Nat) (hj : j < n) : icellTo xs n j = icell xs j := by rw [icellTo, if_pos hj]

set_option maxHeartbeats 400000 in
theorem index_any (ao : Option Addr) (cap : Nat) (xs : List Int) (k : Int) (w : World) (hn : xs.length ≤ 1099511627776) (hx : IntsIn w w.heap.size ao xs) :
    Calls Try.prog 75 #[.slice ao xs.length cap, .int .i64 k] w fun e w' => ∃ r : Int, e = .returned (.int .i64 r) ∧ decide (0 ≤ r) = inI xs k ∧ Below w.heap.size w w' := by
  obtain ⟨n, hnn⟩ : ∃ n, n = xs.length := ⟨_, rfl⟩
  have HN : Hid (n = xs.length) := hnn
  rw [← hnn] at hn ⊢
  clear hnn
  go_enter Try.func75, Try.ntmps75
  go_wp2
  go_loopw [8] (fun i wr => ∃ j : Nat, j ≤ n ∧ i = .int .i64 j ∧ (∀ i, i < j → xi xs i ≠ k) ∧ Below w.heap.size w wr)
    (fun i _ => n - (intOf i).toNat)
  case atStart => exact ⟨0, Nat.zero_le _, rfl, fun i hi => absurd hi (by omega), Below.refl _ _⟩
  case round =>
    obtain ⟨j, hj, rfl, hno, hbel⟩ := hrel
    by_cases hlt : j < n
    · have hjl : j < xs.length := by rw [← HN.out]; exact hlt
      obtain ⟨b, off, rfl, hbw, c0⟩ := hx j hjl
      have c0' : wr.cell? ⟨b, off + j, none⟩ = some (.int .i64 (xi xs j)) := (hbel.cell (p := ⟨b, off + j, none⟩) hbw).trans c0
      obtain ⟨x, hxx⟩ : ∃ x, x = xi xs j := ⟨_, rfl⟩
      rw [← hxx] at c0'
      have HX : Hid (x = xi xs j) := hxx
      clear c0 hxx hx
      by_cases hk : k = x
      · have HR : Hid (inI xs k = true) := inI_at hjl (by rw [← HX.out, hk])
        clear hno
        go_wp2
        go_ret
        exact ⟨_, rfl, by rw [HR.out]; simp, hbel⟩
      · have HR : Hid (∀ i, i < j + 1 → xi xs i ≠ k) := by
          intro i hi
          by_cases hij : i = j
          · subst hij; rw [← HX.out]; exact fun e => hk e.symm
          · exact hno i (by omega)
        clear hno
        go_wp2
        go_roundw
        case rel => exact ⟨j + 1, by omega, by go_num, HR.out, hbel⟩
        case measure => simp [intOf]; omega
    · have hjn : j = n := by omega
      subst hjn
      have HR : Hid (inI xs k = false) := inI_none (by rw [← HN.out]; exact hno)
      clear hno
      go_wp2
      go_ret
      exact ⟨_, rfl, by rw [HR.out]; simp, hbel⟩

set_option maxHeartbeats 400000 in
theorem contains_any (ao : Option Addr) (cap : Nat) (xs : List Int) (k : Int) (w : World) (hn : xs.length ≤ 1099511627776) (hx : IntsIn w w.heap.size ao xs) :
    Calls Try.prog 74 #[.slice ao xs.length cap, .int .i64 k] w fun e w' => e = .returned (.bool (inI xs k)) ∧ Below w.heap.size w w' := by
  go_enter Try.func74, Try.ntmps74
  go_wp2_with fail
  refine (index_any ao cap xs k _ hn hx).mono ?_
  rintro e w1 ⟨r, rfl, hr, hb⟩
  have HR : Hid (decide (0 ≤ r) = inI xs k) := hr
  clear hr
  go_wp2
  go_ret
  exact ⟨ret_bool HR.out, hb⟩

set_option maxHeartbeats 400000 in
theorem l2Has_any (ao : Option Addr) (cap : Nat) (xs : List Int) (k : Int) (w : World) (hn : xs.length ≤ 1099511627776) (hx : IntsIn w w.heap.size ao xs) :
    Calls Try.prog 50 #[.slice ao xs.length cap, .int .i64 k] w fun e w' => e = .returned (.bool (inI xs k)) ∧ Below w.heap.size w w' := by
  obtain ⟨n, hnn⟩ : ∃ n, n = xs.length := ⟨_, rfl⟩
  have HN : Hid (n = xs.length) := hnn
  rw [← hnn] at hn ⊢
  clear hnn
  go_enter Try.func50, Try.ntmps50
  go_wp2
  go_loopw [5] (fun i wr => ∃ j : Nat, j ≤ n ∧ i = .int .i64 j ∧ (∀ i, i < j → xi xs i ≠ k) ∧ Below w.heap.size w wr)
    (fun i _ => n - (intOf i).toNat)
  case atStart => exact ⟨0, Nat.zero_le _, rfl, fun i hi => absurd hi (by omega), Below.refl _ _⟩
  case round =>
    obtain ⟨j, hj, rfl, hno, hbel⟩ := hrel
    by_cases hlt : j < n
    · have hjl : j < xs.length := by rw [← HN.out]; exact hlt
      obtain ⟨b, off, rfl, hbw, c0⟩ := hx j hjl
      have c0' : wr.cell? ⟨b, off + j, none⟩ = some (.int .i64 (xi xs j)) := (hbel.cell (p := ⟨b, off + j, none⟩) hbw).trans c0
      obtain ⟨x, hxx⟩ : ∃ x, x = xi xs j := ⟨_, rfl⟩
      rw [← hxx] at c0'
      have HX : Hid (x = xi xs j) := hxx
      clear c0 hxx hx
      by_cases hk : x = k
      · have HR : Hid (inI xs k = true) := inI_at hjl (by rw [← HX.out, hk])
        clear hno
        go_wp2
        go_ret
        exact ⟨by rw [HR.out]; rfl, hbel⟩
      · have HR : Hid (∀ i, i < j + 1 → xi xs i ≠ k) := by
          intro i hi
          by_cases hij : i = j
          · subst hij; rw [← HX.out]; exact hk
          · exact hno i (by omega)
        clear hno
        go_wp2
        go_roundw
        case rel => exact ⟨j + 1, by omega, by go_num, HR.out, hbel⟩
        case measure => simp [intOf]; omega
    · have hjn : j = n := by omega
      subst hjn
      have HR : Hid (inI xs k = false) := inI_none (by rw [← HN.out]; exact hno)
      clear hno
      go_wp2
      go_ret
      exact ⟨by rw [HR.out]; rfl, hbel⟩

set_option maxHeartbeats 400000 in
theorem eqIntS_same (a1 a2 : Option Addr) (cap1 cap2 : Nat) (xs : List Int) (w : World) (hn : xs.length ≤ 1099511627776) (h1 : IntsIn w w.heap.size a1 xs) (h2 : IntsIn w w.heap.size a2 xs) :
    Calls Try.prog 44 #[.slice a1 xs.length cap1, .slice a2 xs.length cap2] w fun e w' => e = .returned (.bool true) ∧ Below w.heap.size w w' := by
  obtain ⟨n, hnn⟩ : ∃ n, n = xs.length := ⟨_, rfl⟩
  have HN : Hid (n = xs.length) := hnn
  rw [← hnn] at hn ⊢
  clear hnn
  go_enter Try.func44, Try.ntmps44
  go_wp2
  go_loopw [5] (fun i wr => ∃ j : Nat, j ≤ n ∧ i = .int .i64 j ∧ Below w.heap.size w wr)
    (fun i _ => n - (intOf i).toNat)
  case atStart => exact ⟨0, Nat.zero_le _, rfl, Below.refl _ _⟩
  case round =>
    obtain ⟨j, hj, rfl, hbel⟩ := hrel
    by_cases hlt : j < n
    · have hjl : j < xs.length := by rw [← HN.out]; exact hlt
      obtain ⟨b, off, rfl, hbw, c0⟩ := h1 j hjl
      obtain ⟨b2, off2, rfl, hbw2, e0⟩ := h2 j hjl
      have c0' : wr.cell? ⟨b, off + j, none⟩ = some (.int .i64 (xi xs j)) := (hbel.cell (p := ⟨b, off + j, none⟩) hbw).trans c0
      have e0' : wr.cell? ⟨b2, off2 + j, none⟩ = some (.int .i64 (xi xs j)) := (hbel.cell (p := ⟨b2, off2 + j, none⟩) hbw2).trans e0
      obtain ⟨x, hxx⟩ : ∃ x, x = xi xs j := ⟨_, rfl⟩
      rw [← hxx] at c0' e0'
      have hk0 : (0 : Int) ≤ (j : Int) := by omega
      have hk1 : (j : Int) < (n : Int) := by omega
      clear c0 e0 hxx h1 h2
      go_wp2
      go_region
      go_wp2
      go_roundw
      case rel => exact ⟨j + 1, by omega, by go_num, hbel.drew⟩
      case measure => simp [intOf]; omega
    · have hjn : j = n := by omega
      subst hjn
      go_wp2
      go_ret
      exact ⟨rfl, hbel⟩

theorem Try.infoInt : (Try.prog.info? 3).map (fun i => (i.zero, i.size, i.bytes)) = some (some (.int .i64 0), 1, 8) := by kernel_rfl
set_option maxHeartbeats 400000 in
theorem toIntS_any (ao : Option Addr) (cap : Nat) (xs : List Int) (w : World) (hn : xs.length ≤ 1099511627776) (hx : IntsIn w w.heap.size ao xs) :
    Calls Try.prog 43 #[.slice ao xs.length cap] w fun e w' => e = .returned (.slice (some ⟨w.heap.size, 0, none⟩) xs.length xs.length) ∧ OwnI w' w.heap.size xs.length (icell xs) ∧ Below w.heap.size w w' := by
  obtain ⟨i0, hi, hz0, hz1, hz2⟩ := info_parts Try.infoInt
  obtain ⟨n, hnn⟩ : ∃ n, n = xs.length := ⟨_, rfl⟩
  have HN : Hid (n = xs.length) := hnn
  rw [← hnn] at hn ⊢
  clear hnn
  have HI : Hid (i0.bytes * n ≤ 281474976710656) := by rw [hz2]; show 8 * n ≤ _; omega
  go_enter Try.func43, Try.ntmps43
  go_wp2_with (at_make; refine wpList_make_full _ rfl _ _ 30 rfl w.heap.size 3 i0 (.int .i64 0) 1 Try.underlying30 hi hz0 hz1 .i64 .i64 _ _ n rfl rfl ?_ ?_ HI.out ?_ ?_ ?_)
  · rfl
  · rfl
  · unfold maxLen; omega
  · exact Nat.le_refl _
  intro w1 hown hgrow
  have ho : OwnI w1 w.heap.size n (icellTo xs 0) := OwnI.made hown xs
  have hb0 : Below w.heap.size w w1 := (Below.refl _ _).grown hgrow (Nat.le_refl _) (fun k h => by cases h)
  clear hown hgrow hi hz0 hz1 hz2 HI
  go_wp2
  go_loopw [4] (fun i wr => ∃ k : Nat, k ≤ n ∧ i = .int .i64 k ∧ OwnI wr w.heap.size n (icellTo xs k) ∧ Below w.heap.size w wr)
    (fun i _ => n - (intOf i).toNat)
  case atStart => exact ⟨0, Nat.zero_le _, rfl, ho, hb0⟩
  case round =>
    obtain ⟨k, hk, rfl, hown, hbel⟩ := hrel
    clear ho hb0
    by_cases hlt : k < n
    · obtain ⟨b, off, rfl, hbw, c0⟩ := hx k (by rw [← HN.out]; exact hlt)
      have c0' : wr.cell? ⟨b, off + k, none⟩ = some (.int .i64 (xi xs k)) := (hbel.cell (p := ⟨b, off + k, none⟩) hbw).trans c0
      obtain ⟨x, hxx⟩ : ∃ x, x = xi xs k := ⟨_, rfl⟩
      rw [← hxx] at c0'
      have HX : Hid (x = xi xs k) := hxx
      clear c0 hxx hx
      have d0 := hown.1 k hlt
      have f0 := hown.2.1 k
      have HO : Hid (OwnI (wr.setCell ⟨w.heap.size, k, none⟩ (.int .i64 x)) w.heap.size n (icellTo xs (k + 1))) :=
        (hown.set (i := k) hlt (.int .i64 x)).congr (fun j hj => by rw [HX.out]; exact ifill_step xs k j)
      have HB : Hid (Below w.heap.size w (wr.setCell ⟨w.heap.size, k, none⟩ (.int .i64 x))) :=
        hbel.setCell (p := ⟨w.heap.size, k, none⟩) (Nat.le_refl _) _
      clear hown hbel
      go_wp2
      go_roundw
      case rel => exact ⟨k + 1, by omega, by go_num, HO.out, HB.out⟩
      case measure => simp [intOf]; omega
    · have hkn : k = n := by omega
      subst hkn
      have HO : Hid (OwnI wr w.heap.size k (icell xs)) := hown.congr (fun j hj => ifill_end xs k j hj)
      clear hown
      go_wp2
      go_ret
      exact ⟨rfl, HO.out, hbel⟩
theorem OwnI.same {w w' : World} {g n : Nat} {f : Nat → Value} (h : OwnI w g n f) (e : w'.heap[g]? = w.heap[g]?) (hs : w.heap.size ≤ w'.heap.size) : OwnI w' g n f :=
  ⟨fun j hj => (World.cell?_of_block (a := ⟨g, j, none⟩) e).trans (h.1 j hj), fun j => (World.frozen?_of_block (a := ⟨g, j, none⟩) e).trans (h.2.1 j), Nat.lt_of_lt_of_le h.2.2 hs⟩
theorem OwnI.turn {w w' : World} {g n lo hi : Nat} {f : Nat → Value} (h : OwnI w g n f) (ht : Turned lo hi w w') (hg : g < lo ∨ hi ≤ g) : OwnI w' g n f := h.same (ht.block g h.2.2 hg) ht.size
theorem Turned.under {lo hi B : Nat} {w w' : World} (h : Turned lo hi w w') (hB : B ≤ lo) (hl : B ≤ w.heap.size) : Below B w w' :=
  ⟨h.os, h.tape, h.output, h.size, fun k hk => h.block k (by omega) (Or.inl (by omega))⟩

end Go.Proofs.Ytljnjpjnadlmhaa

/- Walk of impl.pairs.with. -/
namespace Go.Proofs.Ytljnjpjnadlmhaa
open Go.RowKit
set_option linter.unusedVariables false

set_option maxHeartbeats 400000 in
theorem with_any (p : Nat) (a b : Int) (w : World) (hp : p < 2 ^ 64) :
    Calls Try.prog 62 #[.int .u64 (p : Int), .int .i64 a, .int .i64 b] w fun e w' => e = .returned (.int .u64 ((p ||| pbit a b : Nat) : Int)) ∧ w' = w := by
  have hor := or_nat p (pbit a b) hp (pbit_lt a b)
  clear hp
  go_enter Try.func62, Try.ntmps62
  go_wp2_with fail
  refine (pairBit_any a b _).mono ?_
  rintro e w' ⟨rfl, rfl⟩
  go_wp2
  go_ret
  exact ⟨rfl, rfl⟩

end Go.Proofs.Ytljnjpjnadlmhaa
