/- Walks of the laws' own helpers: toTie, toTieS, toNet, eqTie, eqTieS, eqNet, szTieS, szNet. -/
import Derived.Test.YtljnjpjnadlmhaaWOk
import Derived.Deep.RegionHeld3
namespace Go.Proofs.Ytljnjpjnadlmhaa
open Go.RowKit
set_option linter.unusedVariables false

theorem Try.infoTie : (Try.prog.info? 37).map (fun i => (i.zero, i.size, i.bytes)) = some (some (.agg #[.int .i64 0, .int .i64 0]), 2, 16) := by kernel_rfl

theorem cell_twod (w : World) (o p : Obj) (b i : Nat) (h : b < w.heap.size) : (((w.alloc o).alloc p).drew).cell? ⟨b, i, none⟩ = w.cell? ⟨b, i, none⟩ := by
  show ((w.alloc o).alloc p).cell? ⟨b, i, none⟩ = _
  rw [World.cell?_alloc_past _ _ _ (by simp; omega), World.cell?_alloc_past _ _ _ h]
/-- block g of w holds 2 * n cells, f j at place j, none frozen -/
def OwnT (w : World) (g n : Nat) (f : Nat → Value) : Prop :=
  (∀ j, j < n * 2 → w.cell? ⟨g, j, none⟩ = some (f j)) ∧ (∀ j, w.frozen? ⟨g, j, none⟩ = false) ∧ g < w.heap.size
def tcell (ts : List (Int × Int)) (j : Nat) : Value := .int .i64 (if j % 2 = 0 then tA ts (j / 2) else tB ts (j / 2))
def fcell (ts : List (Int × Int)) (k j : Nat) : Value := if j < k * 2 then tcell ts j else .int .i64 0

theorem tcell0 (ts : List (Int × Int)) (k : Nat) : tcell ts (k * 2) = .int .i64 (tA ts k) := by
  have h1 : (k * 2) % 2 = 0 := by omega
  have h2 : k * 2 / 2 = k := by omega
  simp [tcell, h1, h2]
theorem tcell1 (ts : List (Int × Int)) (k : Nat) : tcell ts (k * 2 + 1) = .int .i64 (tB ts k) := by
  have h1 : (k * 2 + 1) % 2 = 1 := by omega
  have h2 : (k * 2 + 1) / 2 = k := by omega
  simp [tcell, h1, h2]

theorem OwnT.below {w w' : World} {g n : Nat} {f : Nat → Value} {B : Nat} (h : OwnT w g n f) (hb : Below B w w') (hg : g < B) : OwnT w' g n f :=
  ⟨fun j hj => (hb.cell (p := ⟨g, j, none⟩) hg).trans (h.1 j hj), fun j => (hb.frozen (p := ⟨g, j, none⟩) hg).trans (h.2.1 j), Nat.lt_of_lt_of_le h.2.2 hb.size⟩
theorem OwnT.congr {w : World} {g n : Nat} {f f' : Nat → Value} (h : OwnT w g n f) (he : ∀ j, j < n * 2 → f j = f' j) : OwnT w g n f' :=
  ⟨fun j hj => (h.1 j hj).trans (by rw [he j hj]), h.2⟩
theorem OwnT.set {w : World} {g n : Nat} {f : Nat → Value} (h : OwnT w g n f) {i : Nat} (hi : i < n * 2) (u : Value) : OwnT (w.setCell ⟨g, i, none⟩ u) g n (fun j => if j = i then u else f j) := by
  refine ⟨fun j hj => ?_, fun j => ?_, by simpa using h.2.2⟩
  · by_cases hji : j = i
    · subst hji; simp only [if_true]; exact World.cell?_setCell_same w ⟨g, j, none⟩ u (h.1 j hj)
    · show _ = some (if j = i then u else f j)
      rw [if_neg hji, World.cell?_setCell_other _ _ _ _ (by simp)]; exact h.1 j hj
  · rw [World.frozen?_setCell]; exact h.2.1 j
theorem OwnT.other {w : World} {g n : Nat} {f : Nat → Value} (h : OwnT w g n f) {p : Addr} (hp : p.block ≠ g) (u : Value) : OwnT (w.setCell p u) g n f := by
  have e := Below.heap_setCell w p u g (fun e => hp e.symm)
  exact ⟨fun j hj => (World.cell?_of_block (a := ⟨g, j, none⟩) e).trans (h.1 j hj), fun j => (World.frozen?_of_block (a := ⟨g, j, none⟩) e).trans (h.2.1 j), by simpa using h.2.2⟩
theorem OwnT.ties {w : World} {g : Nat} {ts : List (Int × Int)} (h : OwnT w g ts.length (tcell ts)) {B : Nat} (hB : g < B) : TiesIn w B (some ⟨g, 0, none⟩) ts := by
  intro i hi
  refine ⟨g, 0, rfl, hB, ?_, ?_⟩
  · rw [show 0 + i * 2 = i * 2 by omega, h.1 (i * 2) (by omega), tcell0]
  · rw [show 0 + i * 2 + 1 = i * 2 + 1 by omega, h.1 (i * 2 + 1) (by omega), tcell1]
theorem OwnT.made {w : World} {g n cap : Nat} {base : Nat} (h : w.ownsRow base 37 2 (.slice (some ⟨g, 0, none⟩) n cap) n (madeCells #[.int .i64 0, .int .i64 0] (n * 2)).toList) (ts : List (Int × Int)) : OwnT w g n (fcell ts 0) := by
  refine ⟨fun j hj => ?_, fun j => h.frozenAt j, ?_⟩
  · rw [h.cellAt j hj]
    simp [madeCells, hj, fcell]
    have : j % 2 = 0 ∨ j % 2 = 1 := by omega
    rcases this with e | e <;> simp [e]
  · rcases h.2 with ⟨h', _⟩ | ⟨g', cap', cur, h', _, hg, _⟩
    · simp at h'
    · simp only [Value.slice.injEq, Option.some.injEq, Addr.mk.injEq, and_true, true_and] at h'
      obtain ⟨rfl, _⟩ := h'
      exact (Array.getElem?_eq_some_iff.1 hg).1
theorem fill_step (ts : List (Int × Int)) (n k j : Nat) (hk : k < n) (hj : j < n * 2) :
    (if j = k * 2 + 1 then Value.int .i64 (tB ts k) else if j = k * 2 then .int .i64 (tA ts k) else fcell ts k j) = fcell ts (k + 1) j := by
  by_cases h1 : j = k * 2 + 1
  · subst h1; rw [if_pos rfl, fcell, if_pos (by omega), tcell1]
  · rw [if_neg h1]
    by_cases h2 : j = k * 2
    · subst h2; rw [if_pos rfl, fcell, if_pos (by omega), tcell0]
    · rw [if_neg h2]
      unfold fcell
      by_cases h3 : j < k * 2
      · rw [if_pos h3, if_pos (by omega)]
      · rw [if_neg h3, if_neg (by omega)]
theorem fill_end (ts : List (Int × Int)) (n j : Nat) (hj : j < n * 2) : fcell ts n j = tcell ts j := by rw [fcell, if_pos hj]

set_option maxHeartbeats 400000 in
theorem toTie_any (a b : Int) (w : World) :
    Calls Try.prog 45 #[.agg #[.int .i64 a, .int .i64 b]] w fun e w' => e = .returned (.agg #[.int .i64 a, .int .i64 b]) ∧ Below w.heap.size w w' := by
  go_enter Try.func45, Try.ntmps45
  go_wp2
  refine bodyPost_ret (v := .agg #[.int .i64 a, .int .i64 b]) (by simp [results, Try.results45, go_sem]) rfl ⟨rfl, ?_⟩
  exact (below_two _ _ _).alloc (by simp; omega) _

set_option maxHeartbeats 400000 in
theorem szTieS_yes (ao : Option Addr) (n cap : Nat) (w : World) (h : n ≤ 1048576) :
    Calls Try.prog 20 #[.slice ao n cap, .int .i64 1048576] w fun e w' => e = .returned (.int .i64 (1048576 - (n : Int))) ∧ w' = w := by
  have h' : ¬ ((1048576 : Int) - (n : Int) < 0) := by omega
  go_enter Try.func20, Try.ntmps20
  go_wp2
  go_ret
  exact ⟨rfl, rfl⟩
set_option maxHeartbeats 400000 in
theorem szTieS_no (ao : Option Addr) (n cap : Nat) (w : World) (h : 1048576 < n) (hn : n ≤ 9223372036854775807) :
    Calls Try.prog 20 #[.slice ao n cap, .int .i64 1048576] w fun e w' => e = .returned (.int .i64 (-1)) ∧ w' = w := by
  have h' : ((1048576 : Int) - (n : Int) < 0) := by omega
  go_enter Try.func20, Try.ntmps20
  go_wp2
  go_ret
  exact ⟨rfl, rfl⟩

set_option maxHeartbeats 400000 in
theorem eqTie_any (a b : Int) (w : World) :
    Calls Try.prog 46 #[.agg #[.int .i64 a, .int .i64 b], .agg #[.int .i64 a, .int .i64 b]] w fun e w' => e = .returned (.bool true) ∧ w' = (w.alloc (.cells #[.int .i64 a, .int .i64 b] 37)).alloc (.cells #[.int .i64 a, .int .i64 b] 37) := by
  go_enter Try.func46, Try.ntmps46
  go_wp2
  go_ret
  exact ⟨rfl, rfl⟩

set_option maxHeartbeats 800000 in
theorem toTieS_any (ao : Option Addr) (cap : Nat) (ts : List (Int × Int)) (w : World) (hn : ts.length ≤ 1099511627776) (ht : TiesIn w w.heap.size ao ts) :
    Calls Try.prog 21 #[.slice ao ts.length cap] w fun e w' => e = .returned (.slice (some ⟨w.heap.size, 0, none⟩) ts.length ts.length) ∧ OwnT w' w.heap.size ts.length (tcell ts) ∧ Below w.heap.size w w' := by
  obtain ⟨i0, hi, hz0, hz1, hz2⟩ := info_parts Try.infoTie
  obtain ⟨n, hnn⟩ : ∃ n, n = ts.length := ⟨_, rfl⟩
  have HN : Hid (n = ts.length) := hnn
  rw [← hnn] at hn ⊢
  clear hnn
  have HI : Hid (i0.bytes * n ≤ 281474976710656) := by rw [hz2]; show 16 * n ≤ _; omega
  go_enter Try.func21, Try.ntmps21
  go_wp2_with (at_make; refine wpList_make_full _ rfl _ _ 23 rfl w.heap.size 37 i0 (.agg #[.int .i64 0, .int .i64 0]) 2 Try.underlying23 hi hz0 hz1 .i64 .i64 _ _ n rfl rfl ?_ ?_ HI.out ?_ ?_ ?_)
  · rfl
  · rfl
  · unfold maxLen; omega
  · exact Nat.le_refl _
  intro w1 hown hgrow
  have ho : OwnT w1 w.heap.size n (fcell ts 0) := OwnT.made hown ts
  have hb0 : Below w.heap.size w w1 := (Below.refl _ _).grown hgrow (Nat.le_refl _) (fun k h => by cases h)
  clear hown hgrow hi hz0 hz1 hz2 HI
  go_wp2
  go_loopw [4] (fun i wr => ∃ k : Nat, k ≤ n ∧ i = .int .i64 k ∧ OwnT wr w.heap.size n (fcell ts k) ∧ Below w.heap.size w wr)
    (fun i _ => n - (intOf i).toNat)
  case atStart => exact ⟨0, Nat.zero_le _, rfl, ho, hb0⟩
  case round =>
    obtain ⟨k, hk, rfl, hown, hbel⟩ := hrel
    clear ho hb0
    by_cases hlt : k < n
    · obtain ⟨b, off, rfl, hbw, c0, c1⟩ := ht k (by rw [← HN.out]; exact hlt)
      have c0' : wr.cell? ⟨b, off + k * 2, none⟩ = some (.int .i64 (tA ts k)) := (hbel.cell (p := ⟨b, off + k * 2, none⟩) hbw).trans c0
      have c1' : wr.cell? ⟨b, off + k * 2 + 1, none⟩ = some (.int .i64 (tB ts k)) := (hbel.cell (p := ⟨b, off + k * 2 + 1, none⟩) hbw).trans c1
      obtain ⟨x, hx⟩ : ∃ x, x = tA ts k := ⟨_, rfl⟩
      obtain ⟨y, hy⟩ : ∃ y, y = tB ts k := ⟨_, rfl⟩
      rw [← hx] at c0'; rw [← hy] at c1'
      have HX : Hid (x = tA ts k ∧ y = tB ts k) := ⟨hx, hy⟩
      clear c0 c1 hx hy ht
      go_wp2_with fail
      refine (toTie_any x y _).mono ?_
      rintro e w2 ⟨rfl, hb2⟩
      have ho2 : OwnT w2 w.heap.size n (fcell ts k) := hown.below hb2 hown.2.2
      have d0 := ho2.1 (k * 2) (by omega)
      have d1 := ho2.1 (k * 2 + 1) (by omega)
      have f0 := ho2.2.1 (k * 2)
      have f1 := ho2.2.1 (k * 2 + 1)
      have hb3 : Below w.heap.size w w2 := hbel.trans (hb2.mono hbel.size)
      have HO : Hid (OwnT ((w2.setCell ⟨w.heap.size, k * 2, none⟩ (.int .i64 x)).setCell ⟨w.heap.size, k * 2 + 1, none⟩ (.int .i64 y)) w.heap.size n (fcell ts (k + 1))) :=
        ((ho2.set (i := k * 2) (by omega) (.int .i64 x)).set (i := k * 2 + 1) (by omega) (.int .i64 y)).congr (fun j hj => by rw [HX.out.1, HX.out.2]; exact fill_step ts n k j hlt hj)
      have HB : Hid (Below w.heap.size w ((w2.setCell ⟨w.heap.size, k * 2, none⟩ (.int .i64 x)).setCell ⟨w.heap.size, k * 2 + 1, none⟩ (.int .i64 y))) :=
        (hb3.setCell (p := ⟨w.heap.size, k * 2, none⟩) (Nat.le_refl _) _).setCell (p := ⟨w.heap.size, k * 2 + 1, none⟩) (Nat.le_refl _) _
      clear ho2 hb2 hown hbel hb3 c0' c1'
      go_wp2
      go_roundw
      case rel => exact ⟨k + 1, by omega, by go_num, HO.out, HB.out⟩
      case measure => simp [intOf]; omega
    · have hkn : k = n := by omega
      subst hkn
      have HO : Hid (OwnT wr w.heap.size k (tcell ts)) := hown.congr (fun j hj => fill_end ts k j hj)
      clear hown
      go_wp2
      go_ret
      exact ⟨rfl, HO.out, hbel⟩

theorem three_last (w : World) (o p : Obj) (c : Array Value) (t : TypeId) (i : Nat) : (((w.alloc o).alloc p).alloc (.cells c t)).cell? ⟨w.heap.size + 2, i, none⟩ = c[i]? := World.cell?_alloc_at _ _ _ _ (by simp)
theorem three_mid (w : World) (o q : Obj) (c : Array Value) (t : TypeId) (i : Nat) : (((w.alloc o).alloc (.cells c t)).alloc q).cell? ⟨w.heap.size + 1, i, none⟩ = c[i]? := by
  rw [World.cell?_alloc_past _ _ _ (by simp)]; exact World.cell?_alloc_at _ _ _ _ (by simp)
theorem three_lastF (w : World) (o p : Obj) (c : Array Value) (t : TypeId) (i : Nat) : (((w.alloc o).alloc p).alloc (.cells c t)).frozen? ⟨w.heap.size + 2, i, none⟩ = false := World.frozen?_alloc_at _ _ _ _ (by simp)
theorem three_midF (w : World) (o q : Obj) (c : Array Value) (t : TypeId) (i : Nat) : (((w.alloc o).alloc (.cells c t)).alloc q).frozen? ⟨w.heap.size + 1, i, none⟩ = false := by
  rw [World.frozen?_alloc_past _ _ _ (by simp)]; exact World.frozen?_alloc_at _ _ _ _ (by simp)
theorem below_three (w : World) (o p q : Obj) : Below w.heap.size w (((w.alloc o).alloc p).alloc q) := (below_two w o p).alloc (by simp; omega) q
set_option maxHeartbeats 400000 in
theorem toNet_any (K : Int) (ao : Option Addr) (cap : Nat) (ts : List (Int × Int)) (w : World) (hn : ts.length ≤ 1099511627776) (ht : TiesIn w w.heap.size ao ts) :
    Calls Try.prog 16 #[.agg #[.int .i64 K, .slice ao ts.length cap]] w fun e w' => ∃ g, e = .returned (.agg #[.int .i64 K, .slice (some ⟨g, 0, none⟩) ts.length ts.length]) ∧ w.heap.size ≤ g ∧ OwnT w' g ts.length (tcell ts) ∧ Below w.heap.size w w' := by
  have hb3 := fun o p q => below_three w o p q
  go_enter Try.func16, Try.ntmps16
  go_wp2_with fail
  refine (toTieS_any ao cap ts _ hn ((ht.below (hb3 _ _ _) (Nat.le_refl _)).wide (by simp; omega))).mono ?_
  rintro e w1 ⟨rfl, hown, hb1⟩
  have hz : w.heap.size + 1 + 1 + 1 ≤ w1.heap.size := by have := hb1.size; simpa using this
  have k0 : w1.cell? ⟨w.heap.size + 2, 0, none⟩ = some (.int .i64 K) := (hb1.cell (p := ⟨w.heap.size + 2, 0, none⟩) (by simp)).trans (three_last _ _ _ _ _ _)
  have k1 : w1.cell? ⟨w.heap.size + 2, 1, none⟩ = some (.slice none 0 0) := (hb1.cell (p := ⟨w.heap.size + 2, 1, none⟩) (by simp)).trans (three_last _ _ _ _ _ _)
  have k2 : w1.cell? ⟨w.heap.size + 1, 0, none⟩ = some (.int .i64 0) := (hb1.cell (p := ⟨w.heap.size + 1, 0, none⟩) (by simp)).trans (three_mid _ _ _ _ _ _)
  have k3 : w1.cell? ⟨w.heap.size + 1, 1, none⟩ = some (.slice none 0 0) := (hb1.cell (p := ⟨w.heap.size + 1, 1, none⟩) (by simp)).trans (three_mid _ _ _ _ _ _)
  have f1 : w1.frozen? ⟨w.heap.size + 2, 1, none⟩ = false := (hb1.frozen (p := ⟨w.heap.size + 2, 1, none⟩) (by simp)).trans (three_lastF _ _ _ _ _ _)
  have f2 : w1.frozen? ⟨w.heap.size + 1, 0, none⟩ = false := (hb1.frozen (p := ⟨w.heap.size + 1, 0, none⟩) (by simp)).trans (three_midF _ _ _ _ _ _)
  have f3 : w1.frozen? ⟨w.heap.size + 1, 1, none⟩ = false := (hb1.frozen (p := ⟨w.heap.size + 1, 1, none⟩) (by simp)).trans (three_midF _ _ _ _ _ _)
  go_wp2
  have hzz : w.heap.size ≤ w1.heap.size := by omega
  refine bodyPost_ret (v := .agg #[.int .i64 K, .slice (some ⟨w.heap.size + 1 + 1 + 1, 0, none⟩) ts.length ts.length]) ?_ rfl ⟨_, rfl, by omega, ?_, ?_⟩
  · simp [results, Try.results16, go_sem, k2, k3]
  · have ho : OwnT w1 (w.heap.size + 1 + 1 + 1) ts.length (tcell ts) := by simpa using hown
    exact ((ho.other (by simp) _).other (by simp) _).other (by simp) _
  · have hb : Below w.heap.size w w1 := (hb3 _ _ _).trans (hb1.mono (by simp; omega))
    exact ((hb.setCell (by simp; omega) _).setCell (by simp) _).setCell (by simp) _

set_option maxHeartbeats 400000 in
theorem szNet_yes (K : Int) (ao : Option Addr) (n cap : Nat) (w : World) (h : n ≤ 1048576) :
    Calls Try.prog 14 #[.agg #[.int .i64 K, .slice ao n cap], .int .i64 1048576] w fun e w' => e = .returned (.int .i64 (1048576 - (n : Int))) ∧ Below w.heap.size w w' := by
  have h' : ¬ ((1048576 : Int) - (n : Int) < 0) := by omega
  go_enter Try.func14, Try.ntmps14
  go_wp2_with fail
  refine (szTieS_yes ao n cap _ h).mono ?_
  rintro e w1 ⟨rfl, rfl⟩
  go_wp2
  go_ret
  exact ⟨rfl, below_one _ _⟩
set_option maxHeartbeats 400000 in
theorem szNet_no (K : Int) (ao : Option Addr) (n cap : Nat) (w : World) (h : 1048576 < n) (hn : n ≤ 9223372036854775807) :
    Calls Try.prog 14 #[.agg #[.int .i64 K, .slice ao n cap], .int .i64 1048576] w fun e w' => e = .returned (.int .i64 (-1)) ∧ Below w.heap.size w w' := by
  go_enter Try.func14, Try.ntmps14
  go_wp2_with fail
  refine (szTieS_no ao n cap _ h hn).mono ?_
  rintro e w1 ⟨rfl, rfl⟩
  go_wp2
  go_ret
  exact ⟨rfl, below_one _ _⟩


set_option maxHeartbeats 800000 in
theorem eqTieS_same (a1 a2 : Option Addr) (cap1 cap2 : Nat) (ts : List (Int × Int)) (w : World) (hn : ts.length ≤ 1099511627776) (h1 : TiesIn w w.heap.size a1 ts) (h2 : TiesIn w w.heap.size a2 ts) :
    Calls Try.prog 22 #[.slice a1 ts.length cap1, .slice a2 ts.length cap2] w fun e w' => e = .returned (.bool true) ∧ Below w.heap.size w w' := by
  obtain ⟨n, hnn⟩ : ∃ n, n = ts.length := ⟨_, rfl⟩
  have HN : Hid (n = ts.length) := hnn
  rw [← hnn] at hn ⊢
  clear hnn
  go_enter Try.func22, Try.ntmps22
  go_wp2
  go_loopw [5] (fun i wr => ∃ k : Nat, k ≤ n ∧ i = .int .i64 k ∧ Below w.heap.size w wr)
    (fun i _ => n - (intOf i).toNat)
  case atStart => exact ⟨0, Nat.zero_le _, rfl, Below.refl _ _⟩
  case round =>
    obtain ⟨k, hk, rfl, hbel⟩ := hrel
    by_cases hlt : k < n
    · obtain ⟨b, off, rfl, hbw, c0, c1⟩ := h1 k (by rw [← HN.out]; exact hlt)
      obtain ⟨b2, off2, rfl, hbw2, e0, e1⟩ := h2 k (by rw [← HN.out]; exact hlt)
      have c0' : wr.cell? ⟨b, off + k * 2, none⟩ = some (.int .i64 (tA ts k)) := (hbel.cell (p := ⟨b, off + k * 2, none⟩) hbw).trans c0
      have c1' : wr.cell? ⟨b, off + k * 2 + 1, none⟩ = some (.int .i64 (tB ts k)) := (hbel.cell (p := ⟨b, off + k * 2 + 1, none⟩) hbw).trans c1
      have e0' : wr.cell? ⟨b2, off2 + k * 2, none⟩ = some (.int .i64 (tA ts k)) := (hbel.cell (p := ⟨b2, off2 + k * 2, none⟩) hbw2).trans e0
      have e1' : wr.cell? ⟨b2, off2 + k * 2 + 1, none⟩ = some (.int .i64 (tB ts k)) := (hbel.cell (p := ⟨b2, off2 + k * 2 + 1, none⟩) hbw2).trans e1
      obtain ⟨x, hx⟩ : ∃ x, x = tA ts k := ⟨_, rfl⟩
      obtain ⟨y, hy⟩ : ∃ y, y = tB ts k := ⟨_, rfl⟩
      rw [← hx] at c0' e0'; rw [← hy] at c1' e1'
      have hbz : b < wr.heap.size := Nat.lt_of_lt_of_le hbw hbel.size
      have hbz2 : b2 < wr.heap.size := Nat.lt_of_lt_of_le hbw2 hbel.size
      have hk0 : (0 : Int) ≤ (k : Int) := by omega
      have hk1 : (k : Int) < (n : Int) := by omega
      clear c0 c1 e0 e1 hx hy h1 h2
      go_wp2
      go_region_held3 (fun w' => w'.cell? ⟨b, off + k * 2, none⟩ = some (.int .i64 x) ∧ w'.cell? ⟨b, off + k * 2 + 1, none⟩ = some (.int .i64 y) ∧ w'.cell? ⟨b2, off2 + k * 2, none⟩ = some (.int .i64 x) ∧ w'.cell? ⟨b2, off2 + k * 2 + 1, none⟩ = some (.int .i64 y)) (first | (go_keep; done) | exact ⟨(cell_twod _ _ _ _ _ hbz).trans c0', (cell_twod _ _ _ _ _ hbz).trans c1', (cell_twod _ _ _ _ _ hbz2).trans e0', (cell_twod _ _ _ _ _ hbz2).trans e1'⟩) (first | (go_at_call 46; refine (eqTie_any x y _).mono ?_; rintro e w' ⟨rfl, rfl⟩))
      go_wp2
      go_roundw
      case rel => exact ⟨k + 1, by omega, by go_num, ((hbel.alloc hbel.size _).alloc (by have := hbel.size; simp; omega) _).drew⟩
      case measure => simp [intOf]; omega
    · have hkn : k = n := by omega
      subst hkn
      go_wp2
      go_ret
      exact ⟨rfl, hbel⟩

set_option maxHeartbeats 400000 in
theorem eqNet_same (K : Int) (a1 a2 : Option Addr) (cap1 cap2 : Nat) (ts : List (Int × Int)) (w : World) (hn : ts.length ≤ 1099511627776) (h1 : TiesIn w w.heap.size a1 ts) (h2 : TiesIn w w.heap.size a2 ts) :
    Calls Try.prog 18 #[.agg #[.int .i64 K, .slice a1 ts.length cap1], .agg #[.int .i64 K, .slice a2 ts.length cap2]] w fun e w' => e = .returned (.bool true) ∧ Below w.heap.size w w' := by
  have hb := fun o p => below_two w o p
  go_enter Try.func18, Try.ntmps18
  go_wp2_with fail
  refine (eqTieS_same a1 a2 cap1 cap2 ts _ hn ((h1.below (hb _ _) (Nat.le_refl _)).wide (by simp; omega)) ((h2.below (hb _ _) (Nat.le_refl _)).wide (by simp; omega))).mono ?_
  rintro e w1 ⟨rfl, hb1⟩
  have hbb : Below w.heap.size w w1 := (hb _ _).trans (hb1.mono (by simp; omega))
  clear hb1 hb
  go_wp2
  go_ret
  exact ⟨rfl, hbb⟩

end Go.Proofs.Ytljnjpjnadlmhaa
