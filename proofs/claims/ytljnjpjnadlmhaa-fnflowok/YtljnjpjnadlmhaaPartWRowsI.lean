/- Texts put together: WRowsI, WRowsP. -/
import Derived.Test.YtljnjpjnadlmhaaPartWInts
import Derived.Deep.RegionHeld3
import Derived.Test.YtljnjpjnadlmhaaPartWOnS
import Derived.Test.YtljnjpjnadlmhaaWTst
import Derived.Test.YtljnjpjnadlmhaaPartWWayOk2
/- Rows of rows of numbers that come in; walks of laws.szIntSS, toIntSS, eqIntSS over them. -/
namespace Go.Proofs.Ytljnjpjnadlmhaa
open Go.RowKit
set_option linter.unusedVariables false

/-- rows of numbers that come in: each row's length at most its room -/
def RowsI (w : World) (B : Nat) (ao : Option Addr) (xss : List (List Int)) : Prop := ∀ i, i < xss.length → ∃ g off bo cap, ao = some ⟨g, off, none⟩ ∧ g < B ∧ w.cell? ⟨g, off + i, none⟩ = some (.slice bo (xss.getD i []).length cap) ∧ (xss.getD i []).length ≤ cap ∧ (xss.getD i []).length ≤ 1099511627776 ∧ IntsIn w B bo (xss.getD i [])
theorem RowsI.below {w w' : World} {B : Nat} {ao : Option Addr} {xss : List (List Int)} (h : RowsI w B ao xss) {C : Nat} (hb : Below C w w') (hC : B ≤ C) : RowsI w' B ao xss := by
  intro i hi
  obtain ⟨g, off, bo, cap, e, h1, h2, h3, h4, h5⟩ := h i hi
  exact ⟨g, off, bo, cap, e, h1, (hb.cell (p := ⟨g, off + i, none⟩) (Nat.lt_of_lt_of_le h1 hC)).trans h2, h3, h4, h5.below hb hC⟩
theorem RowsI.wide {w : World} {B C : Nat} {ao : Option Addr} {xss : List (List Int)} (h : RowsI w B ao xss) (hC : B ≤ C) : RowsI w C ao xss := by
  intro i hi
  obtain ⟨g, off, bo, cap, e, h1, h2, h3, h4, h5⟩ := h i hi
  exact ⟨g, off, bo, cap, e, Nat.lt_of_lt_of_le h1 hC, h2, h3, h4, h5.wide hC⟩
/-- rows of any length -/
def RowsM (w : World) (B : Nat) (ao : Option Addr) (xss : List (List Int)) : Prop := ∀ i, i < xss.length → ∃ g off bo cap, ao = some ⟨g, off, none⟩ ∧ g < B ∧ w.cell? ⟨g, off + i, none⟩ = some (.slice bo (xss.getD i []).length cap) ∧ (xss.getD i []).length ≤ cap ∧ (xss.getD i []).length ≤ maxLen ∧ IntsIn w B bo (xss.getD i [])
theorem RowsM.below {w w' : World} {B : Nat} {ao : Option Addr} {xss : List (List Int)} (h : RowsM w B ao xss) {C : Nat} (hb : Below C w w') (hC : B ≤ C) : RowsM w' B ao xss := by
  intro i hi
  obtain ⟨g, off, bo, cap, e, h1, h2, h3, h4, h5⟩ := h i hi
  exact ⟨g, off, bo, cap, e, h1, (hb.cell (p := ⟨g, off + i, none⟩) (Nat.lt_of_lt_of_le h1 hC)).trans h2, h3, h4, h5.below hb hC⟩
theorem RowsM.wide {w : World} {B C : Nat} {ao : Option Addr} {xss : List (List Int)} (h : RowsM w B ao xss) (hC : B ≤ C) : RowsM w C ao xss := by
  intro i hi
  obtain ⟨g, off, bo, cap, e, h1, h2, h3, h4, h5⟩ := h i hi
  exact ⟨g, off, bo, cap, e, Nat.lt_of_lt_of_le h1 hC, h2, h3, h4, h5.wide hC⟩
theorem RowsM.small {w : World} {B : Nat} {ao : Option Addr} {xss : List (List Int)} (h : RowsM w B ao xss) (hs : ∀ i, i < xss.length → (xss.getD i []).length ≤ 1048576) : RowsI w B ao xss := by
  intro i hi
  obtain ⟨g, off, bo, cap, e, h1, h2, h3, h4, h5⟩ := h i hi
  exact ⟨g, off, bo, cap, e, h1, h2, h3, by have := hs i hi; omega, h5⟩

theorem Try.infoRow2 : (Try.prog.info? 30).map (fun i => (i.zero, i.size, i.bytes)) = some (some (.slice none 0 0), 1, 24) := by kernel_rfl
theorem szIntS_more (ao : Option Addr) (n cap : Nat) (left : Int) (w : World) (h : (n : Int) ≤ left) (hl : left ≤ 1048576) :
    Calls Try.prog 42 #[.slice ao n cap, .int .i64 left] w fun e w' => e = .returned (.int .i64 (left - (n : Int))) ∧ w' = w := by
  have h' : ¬ (left - (n : Int) < 0) := by omega
  go_enter Try.func42, Try.ntmps42
  go_wp2
  go_ret
  exact ⟨rfl, rfl⟩
theorem szIntS_less (ao : Option Addr) (n cap : Nat) (left : Int) (w : World) (h : left < (n : Int)) (hl : 0 ≤ left) (hn : n ≤ 9223372036854775807) :
    Calls Try.prog 42 #[.slice ao n cap, .int .i64 left] w fun e w' => e = .returned (.int .i64 (-1)) ∧ w' = w := by
  have h' : left - (n : Int) < 0 := by omega
  go_enter Try.func42, Try.ntmps42
  go_wp2
  go_ret
  exact ⟨rfl, rfl⟩
set_option maxHeartbeats 800000 in
theorem szIntSS_any (ao : Option Addr) (cap : Nat) (xss : List (List Int)) (left : Int) (w : World) (hl0 : 0 ≤ left) (hl : left ≤ 1048576) (hn : xss.length ≤ maxLen) (hx : RowsM w w.heap.size ao xss) :
    Calls Try.prog 15 #[.slice ao xss.length cap, .int .i64 left] w fun e w' => ∃ z : Int, e = .returned (.int .i64 z) ∧ -1 ≤ z ∧ z ≤ 1048576 ∧ (0 ≤ z → xss.length ≤ 1048576 ∧ ∀ i, i < xss.length → (xss.getD i []).length ≤ 1048576) ∧ Below w.heap.size w w' := by
  have HX := hideP hx
  obtain ⟨n, hnn⟩ : ∃ n, n = xss.length := ⟨_, rfl⟩
  have HN : Hid (n = xss.length) := hnn
  rw [← hnn] at hn ⊢
  unfold maxLen at hn
  clear hx hnn
  by_cases hle : (n : Int) ≤ left
  · have hd : decide (left - (n : Int) < 0) = false := by simp; omega
    have hd' : ¬ (left - (n : Int) < 0) := by omega
    go_enter Try.func15, Try.ntmps15
    go_wp2
    go_loopw [1, 5] (fun q i wr => ∃ (k : Nat) (z : Int), k ≤ n ∧ i = .int .i64 k ∧ q = .int .i64 z ∧ 0 ≤ z ∧ z ≤ 1048576 ∧ (∀ j, j < k → (xss.getD j []).length ≤ 1048576) ∧ Below w.heap.size w wr) (fun _ i _ => n - (intOf i).toNat)
    case atStart => exact ⟨0, _, Nat.zero_le _, rfl, rfl, by omega, by omega, fun j hj => by omega, Below.refl _ _⟩
    case round =>
      obtain ⟨k, z, hk, rfl, rfl, hz0, hz1, hall, hbel⟩ := hrel
      have HALL := hideP hall
      have HB := hideP hbel
      clear hall hbel
      by_cases hlt : k < n
      · have hk1 : (k : Int) < (n : Int) := by omega
        have hk0 : (0 : Int) ≤ (k : Int) := by omega
        obtain ⟨g, off, bo, cap2, rfl, hgw, e00, hc1, hc2, hI⟩ := HX.out k (by rw [← HN.out]; exact hlt)
        have e0 := (HB.out.cell (p := ⟨g, off + k, none⟩) hgw).trans e00
        obtain ⟨l, hl2⟩ : ∃ l, (xss.getD k []).length = l := ⟨_, rfl⟩
        have HL := hideP hl2
        rw [hl2] at e0 hc2
        unfold maxLen at hc2
        clear e00 hc1 hI hl2 hgw
        by_cases hll : (l : Int) ≤ z
        · have hzd : ¬ (z - (l : Int) < 0) := by omega
          have HALL2 : Hid (∀ j, j < k + 1 → (xss.getD j []).length ≤ 1048576) := fun j hj => by
            by_cases e : j = k
            · rw [e, HL.out]; omega
            · exact HALL.out j (by omega)
          go_wp2_with fail
          refine (szIntS_more bo l cap2 z _ hll hz1).mono ?_
          rintro e w2 ⟨rfl, rfl⟩
          go_wp2
          go_roundw
          case rel => exact ⟨k + 1, _, by omega, by go_num, rfl, by omega, by omega, HALL2.out, HB.out⟩
          case measure => simp [intOf]; omega
        · go_wp2_with fail
          refine (szIntS_less bo l cap2 z _ (by omega) hz0 (by omega)).mono ?_
          rintro e w2 ⟨rfl, rfl⟩
          go_wp2
          go_ret
          exact ⟨_, rfl, by omega, by omega, fun h => by omega, HB.out⟩
      · obtain rfl : k = n := by omega
        go_wp2
        go_ret
        refine ⟨_, rfl, by omega, by omega, fun _ => ⟨?_, ?_⟩, HB.out⟩
        · omega
        · intro i hi; exact HALL.out i hi
  · have hd' : left - (n : Int) < 0 := by omega
    go_enter Try.func15, Try.ntmps15
    go_wp2
    go_ret
    exact ⟨_, rfl, by omega, by omega, fun h => by omega, Below.refl _ _⟩

theorem OwnI.madeR {w : World} {g n cap : Nat} {base : Nat} {t : TypeId} (h : w.ownsRow base t 1 (.slice (some ⟨g, 0, none⟩) n cap) n (madeCells #[.slice none 0 0] n).toList) : OwnI w g n (fun _ => .slice none 0 0) := by
  refine ⟨fun j hj => ?_, fun j => h.frozenAt j, ?_⟩
  · rw [h.cellAt j (by omega)]
    have hm : j % 1 = 0 := by omega
    simp [madeCells, hj, hm]
  · rcases h.2 with ⟨h', _⟩ | ⟨g', cap', cur, h', _, hg, _⟩
    · simp at h'
    · simp only [Value.slice.injEq, Option.some.injEq, Addr.mk.injEq, and_true, true_and] at h'
      obtain ⟨rfl, _⟩ := h'
      exact (Array.getElem?_eq_some_iff.1 hg).1
set_option maxHeartbeats 800000 in
theorem toIntSS_any (ao : Option Addr) (cap : Nat) (xss : List (List Int)) (w : World) (hn : xss.length ≤ 1099511627776) (hx : RowsI w w.heap.size ao xss) :
    Calls Try.prog 17 #[.slice ao xss.length cap] w fun e w' => e = .returned (.slice (some ⟨w.heap.size, 0, none⟩) xss.length xss.length) ∧ RowsI w' w'.heap.size (some ⟨w.heap.size, 0, none⟩) xss ∧ Below w.heap.size w w' := by
  obtain ⟨i0, hi, hz0, hz1, hz2⟩ := info_parts Try.infoRow2
  have HX := hideP hx
  obtain ⟨n, hnn⟩ : ∃ n, n = xss.length := ⟨_, rfl⟩
  have HN : Hid (n = xss.length) := hnn
  rw [← hnn] at hn ⊢
  clear hnn hx
  have HI : Hid (i0.bytes * n ≤ 281474976710656) := by rw [hz2]; show 24 * n ≤ _; omega
  go_enter Try.func17, Try.ntmps17
  go_wp2_with (at_make; refine wpList_make_full _ rfl _ _ 26 rfl w.heap.size 30 i0 (.slice none 0 0) 1 Try.underlying26 hi hz0 hz1 .i64 .i64 _ _ n rfl rfl ?_ ?_ HI.out ?_ ?_ ?_)
  · rfl
  · rfl
  · unfold maxLen; omega
  · exact Nat.le_refl _
  intro w1 hown hgrow
  have ho : OwnI w1 w.heap.size n (fun _ => .slice none 0 0) := OwnI.madeR hown
  have hb0 : Below w.heap.size w w1 := (Below.refl _ _).grown hgrow (Nat.le_refl _) (fun k h => by cases h)
  clear hown hgrow hi hz0 hz1 hz2 HI
  go_wp2
  go_loopw [4] (fun i wr => ∃ (k : Nat) (f : Nat → Value), k ≤ n ∧ i = .int .i64 k ∧ OwnI wr w.heap.size n f ∧ (∀ j, j < k → ∃ g, f j = .slice (some ⟨g, 0, none⟩) (xss.getD j []).length (xss.getD j []).length ∧ g ≠ w.heap.size ∧ OwnI wr g (xss.getD j []).length (icell (xss.getD j []))) ∧ Below w.heap.size w wr)
    (fun i _ => n - (intOf i).toNat)
  case atStart => exact ⟨0, _, Nat.zero_le _, rfl, ho, fun j hj => by omega, hb0⟩
  case round =>
    obtain ⟨k, f, hk, rfl, hown, hrows, hbel⟩ := hrel
    clear ho hb0
    by_cases hlt : k < n
    · obtain ⟨g, off, bo, cap2, rfl, hgw, e00, hc1, hc2, hI⟩ := HX.out k (by rw [← HN.out]; exact hlt)
      have e0 := (hbel.cell (p := ⟨g, off + k, none⟩) hgw).trans e00
      have HROW := hideP hrows
      obtain ⟨xs, hxs⟩ : ∃ xs, xs = xss.getD k [] := ⟨_, rfl⟩
      rw [← hxs] at e0 hc2 hI
      have HXS := hideP hxs
      have y0 := hideP ((hI.below hbel (Nat.le_refl _)).wide hbel.size)
      have hk1 : (k : Int) < (n : Int) := by omega
      have hk0 : (0 : Int) ≤ (k : Int) := by omega
      have HBEL := hideP hbel
      have HOWN := hideP hown
      clear e00 hc1 hI hxs hgw hrows hbel hown
      go_wp2_with fail
      refine (toIntS_any bo cap2 xs _ hc2 y0.out).mono ?_
      rintro e w2 ⟨rfl, ho2, hb2⟩
      have ho3 : OwnI w2 w.heap.size n f := HOWN.out.below hb2 HOWN.out.2.2
      have hne : wr.heap.size ≠ w.heap.size := by have := HOWN.out.2.2; omega
      have d0 := ho3.1 k hlt
      have f0 := ho3.2.1 k
      have HO : Hid (OwnI (w2.setCell ⟨w.heap.size, k, none⟩ (.slice (some ⟨wr.heap.size, 0, none⟩) xs.length xs.length)) w.heap.size n (fun j => if j = k then .slice (some ⟨wr.heap.size, 0, none⟩) xs.length xs.length else f j)) := ho3.set hlt _
      have HR : Hid (∀ j, j < k + 1 → ∃ g, (if j = k then Value.slice (some ⟨wr.heap.size, 0, none⟩) xs.length xs.length else f j) = .slice (some ⟨g, 0, none⟩) (xss.getD j []).length (xss.getD j []).length ∧ g ≠ w.heap.size ∧ OwnI (w2.setCell ⟨w.heap.size, k, none⟩ (.slice (some ⟨wr.heap.size, 0, none⟩) xs.length xs.length)) g (xss.getD j []).length (icell (xss.getD j []))) := by
        intro j hj
        by_cases e : j = k
        · refine ⟨wr.heap.size, by rw [if_pos e, e, ← HXS.out], hne, ?_⟩
          rw [e, ← HXS.out]
          exact ho2.other (p := ⟨w.heap.size, k, none⟩) (fun e => hne e.symm) _
        · obtain ⟨g', e1, e2, e3⟩ := HROW.out j (by omega)
          refine ⟨g', by rw [if_neg e, e1], e2, ?_⟩
          exact (e3.below hb2 e3.2.2).other (p := ⟨w.heap.size, k, none⟩) (fun e => e2 e.symm) _
      have HB : Hid (Below w.heap.size w (w2.setCell ⟨w.heap.size, k, none⟩ (.slice (some ⟨wr.heap.size, 0, none⟩) xs.length xs.length))) :=
        (HBEL.out.trans (hb2.mono HBEL.out.size)).setCell (p := ⟨w.heap.size, k, none⟩) (Nat.le_refl _) _
      clear ho2 ho3 hb2 HOWN HBEL HROW e0
      go_wp2
      go_roundw
      case rel => exact ⟨k + 1, _, by omega, by go_num, HO.out, HR.out, HB.out⟩
      case measure => simp [intOf]; omega
    · have hkn : k = n := by omega
      subst hkn
      have HO : Hid (RowsI wr wr.heap.size (some ⟨w.heap.size, 0, none⟩) xss) := by
        intro j hj
        obtain ⟨g', e1, e2, e3⟩ := hrows j (by rw [HN.out]; exact hj)
        obtain ⟨_, _, _, _, _, _, _, _, h4, _⟩ := HX.out j hj
        refine ⟨w.heap.size, 0, some ⟨g', 0, none⟩, _, rfl, hown.2.2, ?_, Nat.le_refl _, h4, e3.ints e3.2.2⟩
        rw [show 0 + j = j by omega, hown.1 j (by rw [HN.out]; exact hj), e1]
      clear hown hrows
      go_wp2
      go_ret
      exact ⟨rfl, HO.out, hbel⟩

set_option maxHeartbeats 800000 in
theorem eqRows_same (a1 a2 : Option Addr) (cap1 cap2 : Nat) (xss : List (List Int)) (w : World) (hn : xss.length ≤ 1099511627776) (h1 : RowsI w w.heap.size a1 xss) (h2 : RowsI w w.heap.size a2 xss) :
    Calls Try.prog 19 #[.slice a1 xss.length cap1, .slice a2 xss.length cap2] w fun e w' => e = .returned (.bool true) ∧ Below w.heap.size w w' := by
  have H1 := hideP h1
  have H2 := hideP h2
  obtain ⟨n, hnn⟩ : ∃ n, n = xss.length := ⟨_, rfl⟩
  have HN := hideP hnn
  rw [← hnn] at hn ⊢
  clear h1 h2 hnn
  go_enter Try.func19, Try.ntmps19
  go_wp2
  go_loopw [5] (fun i wr => ∃ k : Nat, k ≤ n ∧ i = .int .i64 k ∧ Below w.heap.size w wr) (fun i _ => n - (intOf i).toNat)
  case atStart => exact ⟨0, Nat.zero_le _, rfl, Below.refl _ _⟩
  case round =>
    obtain ⟨k, hk, rfl, hbr⟩ := hrel
    have HBR := hideP hbr
    clear hbr
    by_cases hlt : k < n
    · have hk' : k < xss.length := by have := HN.out; omega
      obtain ⟨g1, o1, b1, k1, rfl, l1, d01, c1, m1, e1⟩ := H1.out k hk'
      obtain ⟨g2, o2, b2, k2, rfl, l2, d02, c2, m2, e2⟩ := H2.out k hk'
      obtain ⟨q, hq⟩ : ∃ q, q = xss.getD k [] := ⟨_, rfl⟩
      rw [← hq] at d01 d02 e1 e2 m1
      have d1 := (HBR.out.cell (p := ⟨g1, o1 + k, none⟩) l1).trans d01
      have d2 := (HBR.out.cell (p := ⟨g2, o2 + k, none⟩) l2).trans d02
      have R1d : Hid (IntsIn wr.drew wr.drew.heap.size b1 q) := (e1.below HBR.out.drew (Nat.le_refl _)).wide HBR.out.size
      have R2d : Hid (IntsIn wr.drew wr.drew.heap.size b2 q) := (e2.below HBR.out.drew (Nat.le_refl _)).wide HBR.out.size
      have hk0 : (0 : Int) ≤ (k : Int) := by omega
      have hk1 : (k : Int) < (n : Int) := by omega
      have L1 : g1 < wr.heap.size := Nat.lt_of_lt_of_le l1 HBR.out.size
      have L2 : g2 < wr.heap.size := Nat.lt_of_lt_of_le l2 HBR.out.size
      have HBRd := hideP HBR.out.drew
      clear e1 e2 hk' hq d01 d02 c1 c2 m2 l1 l2
      go_wp2
      go_region_held3 (fun w' => w'.cell? ⟨g1, o1 + k, none⟩ = some (.slice b1 q.length k1) ∧ w'.cell? ⟨g2, o2 + k, none⟩ = some (.slice b2 q.length k2)) (first | exact ⟨d16, d26⟩ | exact ⟨d1, d2⟩) (first | (go_at_call 44; refine (eqIntS_same _ _ _ _ q _ m1 R1d.out R2d.out).mono ?_; rintro e w6 ⟨rfl, hb6⟩; have HB6 := hideP (HBRd.out.trans (hb6.mono HBRd.out.size)); have d16 : w6.cell? ⟨g1, o1 + k, none⟩ = some (.slice b1 q.length k1) := ((hb6.cell (p := ⟨g1, o1 + k, none⟩) L1).trans d1); have d26 : w6.cell? ⟨g2, o2 + k, none⟩ = some (.slice b2 q.length k2) := ((hb6.cell (p := ⟨g2, o2 + k, none⟩) L2).trans d2); clear hb6))
      go_wp2
      go_roundw
      case rel => exact ⟨k + 1, by omega, by go_num, HB6.out⟩
      case measure => simp [intOf]; omega
    · obtain rfl : k = n := by omega
      go_wp2
      go_ret
      exact ⟨rfl, HBR.out⟩

end Go.Proofs.Ytljnjpjnadlmhaa

/- Rows of rows, put together out of rows that stand. -/
namespace Go.Proofs.Ytljnjpjnadlmhaa
open Go.RowKit
set_option linter.unusedVariables false

/-- all blocks below S lie as they lay, but the bad ones -/
structure Stay (S : Nat) (bad : Nat → Prop) (w0 w : World) : Prop where
  same : ∀ k, k < S → ¬ bad k → w.heap[k]? = w0.heap[k]?
  size : S ≤ w.heap.size
theorem Stay.first (w0 : World) (bad : Nat → Prop) : Stay w0.heap.size bad w0 w0 := ⟨fun _ _ _ => rfl, Nat.le_refl _⟩
theorem Stay.next {S : Nat} {bad : Nat → Prop} {w0 w w' : World} (h : Stay S bad w0 w) (hb : Below w.heap.size w w') : Stay S bad w0 w' :=
  ⟨fun k hk hR => (hb.block k (Nat.lt_of_lt_of_le hk h.size)).trans (h.same k hk hR), Nat.le_trans h.size hb.size⟩
theorem Stay.turn {S R : Nat} {bad : Nat → Prop} {w0 w w' : World} (h : Stay S bad w0 w) (ht : Turned R (R + 1) w w') (hR : bad R) : Stay S bad w0 w' :=
  ⟨fun k hk hb => (ht.block k (Nat.lt_of_lt_of_le hk h.size) (by have : k ≠ R := fun e => hb (e ▸ hR); omega)).trans (h.same k hk hb), Nat.le_trans h.size ht.size⟩
theorem Stay.grown {S : Nat} {bad : Nat → Prop} {w0 w wa wb : World} {row : Option Nat} (h : Stay S bad w0 w) (hb : Below w.heap.size w wa) (hg : wa.grownBy wb row) (hr : ∀ k, row = some k → S ≤ k ∨ bad k) : Stay S bad w0 wb :=
  ⟨fun k hk hR => ((hg.block k (by have := h.size; have := hb.size; omega) (fun e => by rcases hr k e.symm with q | q; omega; exact hR q)).trans (hb.block k (Nat.lt_of_lt_of_le hk h.size))).trans (h.same k hk hR), Nat.le_trans h.size (Nat.le_trans hb.size hg.size)⟩
/-- a row's value, and its numbers, as they lie in w0 from lo on -/
def Good (w0 : World) (lo S : Nat) (bad : Nat → Prop) (u : Value) (xs : List Int) : Prop :=
  ∃ bo cap, u = .slice bo xs.length cap ∧ xs.length ≤ cap ∧ xs.length ≤ 1000 ∧ ∀ i, i < xs.length → ∃ b off, bo = some ⟨b, off, none⟩ ∧ lo ≤ b ∧ b < S ∧ ¬ bad b ∧ w0.cell? ⟨b, off + i, none⟩ = some (.int .i64 (xi xs i))
theorem Good.rebase {w0 w1 : World} {lo S S' : Nat} {bad bad' : Nat → Prop} {u : Value} {xs : List Int} (h : Good w0 lo S bad u xs) (hs : Stay S bad w0 w1) (hS : S ≤ S') (hb : ∀ b, b < S → ¬ bad b → ¬ bad' b) : Good w1 lo S' bad' u xs := by
  obtain ⟨bo, cap, e, h1, h2, h3⟩ := h
  refine ⟨bo, cap, e, h1, h2, fun i hi => ?_⟩
  obtain ⟨b, off, e2, q1, q2, q3, q4⟩ := h3 i hi
  exact ⟨b, off, e2, q1, Nat.lt_of_lt_of_le q2 hS, hb b q2 q3, (World.cell?_of_block (a := ⟨b, off + i, none⟩) (hs.same b q2 q3)).trans q4⟩
theorem Good.one {w0 : World} {lo S : Nat} {bad : Nat → Prop} {u : Value} {xs : List Int} (h : Good w0 lo S bad u xs) : u.oneCell' = true := by
  obtain ⟨bo, cap, rfl, _⟩ := h; rfl
/-- such rows -/
def GoodR (w0 : World) (lo S : Nat) (bad : Nat → Prop) (vs : List Value) (xss : List (List Int)) : Prop := vs.length = xss.length ∧ ∀ i, i < xss.length → ∃ u, vs[i]? = some u ∧ Good w0 lo S bad u (xss.getD i [])
theorem GoodR.nil (w0 : World) (lo S : Nat) (bad : Nat → Prop) : GoodR w0 lo S bad [] [] := ⟨rfl, fun i hi => absurd hi (by simp)⟩
theorem GoodR.snoc {w0 : World} {lo S : Nat} {bad : Nat → Prop} {vs : List Value} {xss : List (List Int)} {u : Value} {xs : List Int} (h : GoodR w0 lo S bad vs xss) (hu : Good w0 lo S bad u xs) : GoodR w0 lo S bad (vs ++ [u]) (xss ++ [xs]) := by
  refine ⟨by simp [h.1], fun i hi => ?_⟩
  simp only [List.length_append, List.length_singleton] at hi
  by_cases e : i = xss.length
  · subst e
    refine ⟨u, ?_, ?_⟩
    · rw [List.getElem?_append_right (by rw [h.1]; exact Nat.le_refl _), h.1]; simp
    · rw [List.getD_eq_getElem?_getD, List.getElem?_append_right (Nat.le_refl _)]; simpa using hu
  · obtain ⟨v, h1, h2⟩ := h.2 i (by omega)
    refine ⟨v, ?_, ?_⟩
    · rw [List.getElem?_append_left (by rw [h.1]; omega)]; exact h1
    · rw [List.getD_eq_getElem?_getD, List.getElem?_append_left (by omega), ← List.getD_eq_getElem?_getD]; exact h2
theorem GoodR.one {w0 : World} {lo S : Nat} {bad : Nat → Prop} {vs : List Value} {xss : List (List Int)} (h : GoodR w0 lo S bad vs xss) : ∀ u ∈ vs, u.oneCell' = true := by
  intro u hu
  obtain ⟨i, hi, e⟩ := List.mem_iff_getElem.1 hu
  obtain ⟨v, h1, h2⟩ := h.2 i (by rw [← h.1]; exact hi)
  rw [List.getElem?_eq_getElem hi, e] at h1
  cases h1
  exact h2.one
theorem GoodR.rebase {w0 w1 : World} {lo S S' : Nat} {bad bad' : Nat → Prop} {vs : List Value} {xss : List (List Int)} (h : GoodR w0 lo S bad vs xss) (hs : Stay S bad w0 w1) (hS : S ≤ S') (hb : ∀ b, b < S → ¬ bad b → ¬ bad' b) : GoodR w1 lo S' bad' vs xss :=
  ⟨h.1, fun i hi => let ⟨u, h1, h2⟩ := h.2 i hi; ⟨u, h1, h2.rebase hs hS hb⟩⟩
theorem GoodR.rowsI {w0 w : World} {lo S g n cap base : Nat} {bad : Nat → Prop} {vs : List Value} {xss : List (List Int)} (h : GoodR w0 lo S bad vs xss) (hs : Stay S bad w0 w) (ho : w.ownsRow base 30 1 (.slice (some ⟨g, 0, none⟩) n cap) n vs) : RowsI w w.heap.size (some ⟨g, 0, none⟩) xss := by
  have hg : g < w.heap.size := by
    rcases ho.2 with ⟨h', _⟩ | ⟨g', cap', cur, h', _, hb, _⟩
    · simp at h'
    · simp only [Value.slice.injEq, Option.some.injEq, Addr.mk.injEq, and_true, true_and] at h'
      obtain ⟨rfl, _⟩ := h'
      exact (Array.getElem?_eq_some_iff.1 hb).1
  have hn : n = xss.length := by have := ho.1; rw [h.1] at this; omega
  intro i hi
  obtain ⟨u, h1, bo, cap, rfl, h2, h3, h4⟩ := h.2 i hi
  refine ⟨g, 0, bo, cap, rfl, hg, ?_, h2, by omega, ?_⟩
  · rw [Nat.zero_add, ho.cellAt i (by omega)]; exact h1
  · intro j hj
    obtain ⟨b, off, e, q1, q2, q3, q4⟩ := h4 j hj
    exact ⟨b, off, e, Nat.lt_of_lt_of_le q2 hs.size, (World.cell?_of_block (a := ⟨b, off + j, none⟩) (hs.same b q2 q3)).trans q4⟩
theorem clip_short (p : List Nat) : (clip p).length ≤ 1000 := by
  have := clip_le p
  omega
theorem Acc.good {W : World} {lo G C : Nat} {bad : Nat → Prop} {pre : List (List Nat)} {gs cs : Nat → Nat} (h : Acc W lo G C pre gs cs) (hR : ∀ b, lo ≤ b → ¬ bad b) {i : Nat} (hi : i < pre.length) : ∃ u, W.cell? ⟨G, i, none⟩ = some u ∧ Good W lo W.heap.size bad u ((wayAt pre i).map Int.ofNat) := by
  have hl : ((wayAt pre i).map Int.ofNat).length = (wayAt pre i).length := List.length_map _
  refine ⟨rowV pre gs cs i, ?_, some ⟨gs i, 0, none⟩, cs i, ?_, ?_, ?_, ?_⟩
  · rw [h.out.cellAt i (by omega)]
    simp [rowVs, hi]
  · rw [hl]; rfl
  · rw [hl]; exact own_room (h.row.row i hi)
  · rw [hl]; exact clip_short _
  · intro j hj
    rw [hl] at hj
    have ho := h.row.row i hi
    have hc := ho.cellAt j (by omega)
    rcases ho.2 with ⟨h', _⟩ | ⟨g', cap', cur, h', hb, hg, _⟩
    · simp [rowV] at h'
    · unfold rowV at h'
      simp only [Value.slice.injEq, Option.some.injEq, Addr.mk.injEq, and_true, true_and] at h'
      obtain ⟨rfl, _⟩ := h'
      refine ⟨gs i, 0, rfl, hb, (Array.getElem?_eq_some_iff.1 hg).1, hR _ hb, ?_⟩
      rw [Nat.zero_add, hc]
      simp [plist, xi, hj]
/-- a net and rows of rows were drawn since w, and nothing that was there has turned -/
structure DealtS (w w' : World) (ao : Option Addr) (ts : List (Int × Int)) (co : Option Addr) (xss : List (List Int)) : Prop where
  net : TiesIn w' w'.heap.size ao ts
  rows : RowsI w' w'.heap.size co xss
  short : ts.length ≤ 66
  few : xss.length ≤ 4
  bel : Below w.heap.size w w'
/-- the end: the answer's box is filled -/
theorem Tst.ends {w wr w0 : World} {R S base : Nat} {bad : Nat → Prop} {bo : Option Addr} {bn bcap p : Nat} {A : Nat} {K : Int} {ao : Option Addr} {cap : Nat} {ts : List (Int × Int)} (h : Tst w wr R bo bn bcap p A K ao cap ts) {lo g n capC : Nat} {vs : List Value} {xss : List (List Int)} (hG : GoodR w0 lo S bad vs xss) (hs : Stay S bad w0 wr) (ho : wr.ownsRow base 30 1 (.slice (some ⟨g, 0, none⟩) n capC) n vs) (hlo : w.heap.size < lo) (hS : w.heap.size < base) (hsh : ts.length ≤ 66) (hf : xss.length ≤ 4) (u0 u1 : Value) :
    DealtS w ((wr.setCell ⟨w.heap.size, 0, none⟩ u0).setCell ⟨w.heap.size, 1, none⟩ u1) ao ts (some ⟨g, 0, none⟩) xss := by
  have hR := h.hR
  have hR' := hG.rowsI hs ho
  have hsz : ((wr.setCell ⟨w.heap.size, 0, none⟩ u0).setCell ⟨w.heap.size, 1, none⟩ u1).heap.size = wr.heap.size := by simp [World.setCell]
  have eb : ∀ b, b ≠ w.heap.size → ((wr.setCell ⟨w.heap.size, 0, none⟩ u0).setCell ⟨w.heap.size, 1, none⟩ u1).heap[b]? = wr.heap[b]? := fun b hb => (Below.heap_setCell _ _ _ _ hb).trans (Below.heap_setCell _ _ _ _ hb)
  refine ⟨((h.tN.far (q := ⟨w.heap.size, 0, none⟩) (by show w.heap.size < R + 1; omega) u0).far (q := ⟨w.heap.size, 1, none⟩) (by show w.heap.size < R + 1; omega) u1).in, ?_, hsh, hf, (h.B.setCell (Nat.le_refl _) _).setCell (Nat.le_refl _) _⟩
  rw [hsz]
  have hgS : base ≤ g := by
    rcases ho.2 with ⟨h', _⟩ | ⟨g', cap', cur, h', hb, _⟩
    · simp at h'
    · simp only [Value.slice.injEq, Option.some.injEq, Addr.mk.injEq, and_true, true_and] at h'
      obtain ⟨rfl, _⟩ := h'
      exact hb
  have hn : n = xss.length := by have := ho.1; rw [hG.1] at this; omega
  intro i hi
  obtain ⟨g1, off, bo1, cap1, e, q1, q2, q3, q4, q5⟩ := hR' i hi
  cases e
  refine ⟨g, 0, bo1, cap1, rfl, q1, (World.cell?_of_block (a := ⟨g, 0 + i, none⟩) (eb g (by omega))).trans q2, q3, q4, ?_⟩
  intro j hj
  obtain ⟨b, of2, e2, z1, z2⟩ := q5 j hj
  obtain ⟨u, h1, bo2, cap2, e3, _, _, h4⟩ := hG.2 i hi
  obtain ⟨b3, of3, e4, y1, y2, y3, _⟩ := h4 j hj
  have ecell : wr.cell? ⟨g, 0 + i, none⟩ = some u := by rw [Nat.zero_add, ho.cellAt i (by omega)]; exact h1
  rw [q2, e3] at ecell
  simp only [Option.some.injEq, Value.slice.injEq, true_and] at ecell
  have : b ≠ w.heap.size := by
    rw [ecell.1, e4] at e2
    simp only [Option.some.injEq, Addr.mk.injEq, and_true] at e2
    omega
  exact ⟨b, of2, e2, z1, (World.cell?_of_block (a := ⟨b, of2 + j, none⟩) (eb b this)).trans z2⟩
/-- a drawn walk's row -/
theorem RowZ.good {w : World} {lo g off cap : Nat} {bad : Nat → Prop} {xs : List Int} (h : RowZ w lo g off cap xs) (hl : xs.length ≤ 1000) (hb : ¬ bad g) : Good w lo w.heap.size bad (.slice (some ⟨g, off, none⟩) xs.length cap) xs :=
  ⟨_, cap, rfl, h.len, hl, fun i hi => ⟨g, off, rfl, h.lo, h.lt, hb, h.cells i hi⟩⟩
theorem Good.down {w0 : World} {lo lo' S : Nat} {bad : Nat → Prop} {u : Value} {xs : List Int} (h : Good w0 lo S bad u xs) (hl : lo' ≤ lo) : Good w0 lo' S bad u xs := by
  obtain ⟨bo, cap, e, h1, h2, h3⟩ := h
  refine ⟨bo, cap, e, h1, h2, fun i hi => ?_⟩
  obtain ⟨b, off, e2, q1, q2⟩ := h3 i hi
  exact ⟨b, off, e2, Nat.le_trans hl q1, q2⟩
theorem ends2 {w w0 wr : World} {S base lo lo2 g n capC : Nat} {bad : Nat → Prop} {vs : List Value} {xss : List (List Int)} {ao : Option Addr} {ts : List (Int × Int)} (hT : TiesUp w0 lo2 ao ts) (hTb : ∀ b off, ao = some ⟨b, off, none⟩ → 0 < ts.length → ¬ bad b ∧ b < S) (hlo2 : w.heap.size < lo2)
    (hG : GoodR w0 lo S bad vs xss) (hs : Stay S bad w0 wr) (ho : wr.ownsRow base 30 1 (.slice (some ⟨g, 0, none⟩) n capC) n vs) (hlo : w.heap.size < lo) (hbase : w.heap.size < base) (hB : Below w.heap.size w wr) (hsh : ts.length ≤ 66) (hf : xss.length ≤ 4) (u0 u1 : Value) :
    DealtS w ((wr.setCell ⟨w.heap.size, 0, none⟩ u0).setCell ⟨w.heap.size, 1, none⟩ u1) ao ts (some ⟨g, 0, none⟩) xss := by
  have hR' := hG.rowsI hs ho
  have hsz : ((wr.setCell ⟨w.heap.size, 0, none⟩ u0).setCell ⟨w.heap.size, 1, none⟩ u1).heap.size = wr.heap.size := by simp [World.setCell]
  have eb : ∀ b, b ≠ w.heap.size → ((wr.setCell ⟨w.heap.size, 0, none⟩ u0).setCell ⟨w.heap.size, 1, none⟩ u1).heap[b]? = wr.heap[b]? := fun b hb => (Below.heap_setCell _ _ _ _ hb).trans (Below.heap_setCell _ _ _ _ hb)
  have hgS : base ≤ g := by
    rcases ho.2 with ⟨h', _⟩ | ⟨g', cap', cur, h', hb, _⟩
    · simp at h'
    · simp only [Value.slice.injEq, Option.some.injEq, Addr.mk.injEq, and_true, true_and] at h'
      obtain ⟨rfl, _⟩ := h'
      exact hb
  have hn : n = xss.length := by have := ho.1; rw [hG.1] at this; omega
  refine ⟨?_, ?_, hsh, hf, (hB.setCell (Nat.le_refl _) _).setCell (Nat.le_refl _) _⟩
  · rw [hsz]
    intro i hi
    obtain ⟨b, off, e, h1, h2, h3, h4⟩ := hT i hi
    obtain ⟨hb1, hb2⟩ := hTb b off e (by omega)
    have es := (eb b (by omega)).trans (hs.same b hb2 hb1)
    exact ⟨b, off, e, Nat.lt_of_lt_of_le hb2 hs.size, (World.cell?_of_block (a := ⟨b, off + i * 2, none⟩) es).trans h3, (World.cell?_of_block (a := ⟨b, off + i * 2 + 1, none⟩) es).trans h4⟩
  · rw [hsz]
    intro i hi
    obtain ⟨g1, off, bo1, cap1, e, q1, q2, q3, q4, q5⟩ := hR' i hi
    cases e
    refine ⟨g, 0, bo1, cap1, rfl, q1, (World.cell?_of_block (a := ⟨g, 0 + i, none⟩) (eb g (by omega))).trans q2, q3, q4, ?_⟩
    intro j hj
    obtain ⟨b, of2, e2, z1, z2⟩ := q5 j hj
    obtain ⟨u, h1, bo2, cap2, e3, _, _, h4⟩ := hG.2 i hi
    obtain ⟨b3, of3, e4, y1, y2, y3, _⟩ := h4 j hj
    have ecell : wr.cell? ⟨g, 0 + i, none⟩ = some u := by rw [Nat.zero_add, ho.cellAt i (by omega)]; exact h1
    rw [q2, e3] at ecell
    simp only [Option.some.injEq, Value.slice.injEq, true_and] at ecell
    have : b ≠ w.heap.size := by
      rw [ecell.1, e4] at e2
      simp only [Option.some.injEq, Addr.mk.injEq, and_true] at e2
      omega
    exact ⟨b, of2, e2, z1, (World.cell?_of_block (a := ⟨b, of2 + j, none⟩) (eb b this)).trans z2⟩

end Go.Proofs.Ytljnjpjnadlmhaa
