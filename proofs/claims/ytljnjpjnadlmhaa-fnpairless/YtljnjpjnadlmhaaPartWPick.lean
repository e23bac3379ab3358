/- Texts put together: WPick, WKnot. -/
import Derived.Test.YtljnjpjnadlmhaaPartWLeaf
import Derived.Laws.BitsLemmas
import Derived.Deep.RegionWith
/- Walk of (*l6Rd).pick: it answers a number from 0 to below n, and counts on. -/
namespace Go.Proofs.Ytljnjpjnadlmhaa
open Go.RowKit
set_option linter.unusedVariables false

/-- a reader at block R: its bytes, and how many it has taken -/
structure Rdr (w : World) (R : Nat) (bo : Option Addr) (bn bcap : Nat) (p : Nat) : Prop where
  c0 : w.cell? ⟨R, 0, none⟩ = some (.slice bo bn bcap)
  c1 : w.cell? ⟨R, 1, none⟩ = some (.int .i64 (p : Int))
  f1 : w.frozen? ⟨R, 1, none⟩ = false
  lt : R < w.heap.size
  short : bn ≤ 2000
  bytes : ∀ i, i < bn → ∃ b off v, bo = some ⟨b, off, none⟩ ∧ b < R ∧ w.cell? ⟨b, off + i, none⟩ = some (.int .u8 v) ∧ 0 ≤ v ∧ v ≤ 255
theorem Rdr.next {w w' : World} {R : Nat} {bo : Option Addr} {bn bcap p : Nat} (h : Rdr w R bo bn bcap p) (hb : Below w.heap.size w w') : Rdr w' R bo bn bcap p :=
  ⟨(hb.cell (p := ⟨R, 0, none⟩) h.lt).trans h.c0, (hb.cell (p := ⟨R, 1, none⟩) h.lt).trans h.c1, (hb.frozen (p := ⟨R, 1, none⟩) h.lt).trans h.f1, Nat.lt_of_lt_of_le h.lt hb.size, h.short, fun i hi => by
    obtain ⟨b, off, v, e, h1, h3, h4⟩ := h.bytes i hi
    exact ⟨b, off, v, e, h1, (hb.cell (p := ⟨b, off + i, none⟩) (Nat.lt_trans h1 h.lt)).trans h3, h4⟩⟩
theorem Rdr.count {w : World} {R : Nat} {bo : Option Addr} {bn bcap p : Nat} (h : Rdr w R bo bn bcap p) : Rdr (w.setCell ⟨R, 1, none⟩ (.int .i64 ((p : Int) + 1))) R bo bn bcap (p + 1) := by
  refine ⟨?_, ?_, ?_, by simpa [World.setCell] using h.lt, h.short, fun i hi => ?_⟩
  · rw [World.cell?_setCell_other _ _ _ _ (by simp)]; exact h.c0
  · rw [World.cell?_setCell_same w ⟨R, 1, none⟩ _ h.c1]; simp
  · rw [World.frozen?_setCell]; exact h.f1
  · obtain ⟨b, off, v, e, h1, h3, h4⟩ := h.bytes i hi
    exact ⟨b, off, v, e, h1, by rw [World.cell?_setCell_other _ _ _ _ (by simp only [ne_eq, Addr.mk.injEq, not_and]; intro e; omega)]; exact h3, h4⟩
theorem Turned.count (w : World) (R : Nat) (u : Value) : Turned R (R + 1) w (w.setCell ⟨R, 1, none⟩ u) :=
  ⟨rfl, rfl, rfl, by simp [World.setCell], fun k hk ho => Below.heap_setCell w ⟨R, 1, none⟩ u k (by show k ≠ R; omega)⟩
theorem Turned.drewN {lo hi : Nat} {w w' : World} (h : Turned lo hi w w') (n : Nat) : Turned lo hi w (w'.drewN n) := ⟨h.os, h.tape, h.output, h.size, h.block⟩
theorem mod_in {x n : Int} (hn : 1 ≤ n) : 0 ≤ x % n ∧ x % n < n := by
  exact ⟨Int.emod_nonneg _ (by omega), Int.emod_lt_of_pos _ (by omega)⟩

theorem xor_nat (a b : Nat) (ha : a < 2 ^ 62) (hb : b < 2 ^ 62) : bits .xor .i64 (a : Int) (b : Int) = ((a ^^^ b : Nat) : Int) := by
  have hx : a ^^^ b < 2 ^ 62 := Nat.xor_lt_two_pow ha hb
  have h1 : (BitVec.ofInt 64 (a : Int)).toNat = a := by
    rw [BitVec.ofInt_natCast, BitVec.toNat_ofNat]; exact Nat.mod_eq_of_lt (by omega)
  have h2 : (BitVec.ofInt 64 (b : Int)).toNat = b := by
    rw [BitVec.ofInt_natCast, BitVec.toNat_ofNat]; exact Nat.mod_eq_of_lt (by omega)
  show IntKind.i64.wrap ((BitVec.ofInt 64 (a : Int) ^^^ BitVec.ofInt 64 (b : Int)).toNat : Int) = _
  rw [BitVec.toNat_xor, h1, h2, IntKind.wrap_i64]
  omega
theorem xor_in (x : Int) (h0 : 0 ≤ x) (h1 : x < 1000000000) : 0 ≤ bits .xor .i64 x (x / 64) ∧ bits .xor .i64 x (x / 64) < 4611686018427387904 := by
  obtain ⟨a, rfl⟩ := Int.eq_ofNat_of_zero_le h0
  have ha : a < 2 ^ 62 := by omega
  have hb : a / 64 < 2 ^ 62 := by omega
  have e : ((a : Int) / 64) = ((a / 64 : Nat) : Int) := by omega
  rw [e, xor_nat a (a / 64) ha hb]
  have hx : a ^^^ a / 64 < 2 ^ 62 := Nat.xor_lt_two_pow ha hb
  omega

set_option maxHeartbeats 1600000 in
theorem pick_any (R : Nat) (bo : Option Addr) (bn bcap p : Nat) (n : Int) (w : World) (h : Rdr w R bo bn bcap p) (hp : p ≤ 1000000) :
    Calls Try.prog 26 #[.pointer (some ⟨R, 0, none⟩), .int .i64 n] w fun e w' => ∃ v : Int, e = .returned (.int .i64 v) ∧ 0 ≤ v ∧ (1 ≤ n → v < n) ∧ Rdr w' R bo bn bcap (p + 1) ∧ Turned R (R + 1) w w' := by
  have hc := hideP h.count
  have ht := hideP (Turned.count w R (.int .i64 ((p : Int) + 1)))
  have c0 := h.c0
  have c1 := h.c1
  have f1 := h.f1
  have hlt := h.lt
  have hp0 : (0 : Int) ≤ (p : Int) := by omega
  have hp1 : (p : Int) ≤ 1000000 := by omega
  by_cases hn : n < 1
  · clear h
    go_enter Try.func26, Try.ntmps26
    go_wp2
    go_ret
    exact ⟨0, rfl, by omega, by omega, hc.out, ht.out⟩
  · have hn1 : 1 ≤ n := by omega
    have hdn : decide (n < 1) = false := by simp; omega
    clear hn
    by_cases hb0 : bn = 0
    · have he : ((bn : Int) == 0) = true := by simp [hb0]
      clear h
      go_enter Try.func26, Try.ntmps26
      go_wp2
      go_ret
      exact ⟨0, rfl, by omega, by omega, hc.out, ht.out⟩
    · have he : ((bn : Int) == 0) = false := by simp [hb0]
      by_cases hk : p < bn
      · obtain ⟨b, off, v, rfl, h2, h3, h4, h5⟩ := h.bytes p hk
        have h1 : b ≠ R := by omega
        have hk' : (p : Int) < (bn : Int) := by omega
        have hm := mod_in (x := v) hn1
        have hne : ¬ n = 0 := by omega
        have hnb : (n == 0) = false := by simp [hne]
        clear h
        go_enter Try.func26, Try.ntmps26
        go_wp2
        go_ret
        exact ⟨v % n, rfl, hm.1, fun _ => hm.2, hc.out, ht.out⟩
      · have hbp : 0 < bn := by omega
        have l1 : p % bn < bn := Nat.mod_lt _ hbp
        have l2 : (p * 7 + 3) % bn < bn := Nat.mod_lt _ hbp
        obtain ⟨i1, hi1⟩ : ∃ i1, i1 = p % bn := ⟨_, rfl⟩
        obtain ⟨i2, hi2⟩ : ∃ i2, i2 = (p * 7 + 3) % bn := ⟨_, rfl⟩
        rw [← hi1] at l1
        rw [← hi2] at l2
        obtain ⟨b, off, v, rfl, h2, h3, h4, h5⟩ := h.bytes i1 l1
        obtain ⟨b', off', v', hbo, h2', h3', h4', h5'⟩ := h.bytes i2 l2
        have h1 : b ≠ R := by omega
        simp only [Option.some.injEq, Addr.mk.injEq, and_true] at hbo
        obtain ⟨rfl, rfl⟩ := hbo
        have e1 : (p : Int).tmod (bn : Int) = (i1 : Int) := by rw [hi1]; simp [Int.tmod]
        have e2 : ((p : Int) * 7 + 3).tmod (bn : Int) = (i2 : Int) := by
          rw [hi2, show ((p : Int) * 7 + 3) = ((p * 7 + 3 : Nat) : Int) by omega]; simp [Int.tmod]
        have hnb : (n == 0) = false := by simp; omega
        have hk' : ¬ ((p : Int) < (bn : Int)) := by omega
        have l1' : (i1 : Int) < (bn : Int) := by omega
        have l2' : (i2 : Int) < (bn : Int) := by omega
        have wr1 : IntKind.i64.wrap ((p : Int) * 7) = (p : Int) * 7 := by rw [IntKind.wrap_i64]; omega
        have wr2 : IntKind.i64.wrap ((p : Int) * 7 + 3) = (p : Int) * 7 + 3 := by rw [IntKind.wrap_i64]; omega
        obtain ⟨q, hq⟩ : ∃ q : Int, q = (p : Int) / (bn : Int) := ⟨_, rfl⟩
        have hq0 : 0 ≤ (p : Int) / (bn : Int) := Int.ediv_nonneg (by omega) (by omega)
        have hq1 : (p : Int) / (bn : Int) ≤ 1000000 := Int.le_trans (Int.ediv_le_self _ (by omega)) hp1
        obtain ⟨x, hx⟩ : ∃ x : Int, x = v * 131 + v' * 1117 + (p : Int) * 29 + (p : Int) / (bn : Int) * 53 := ⟨_, rfl⟩
        have hx0 : 0 ≤ x := by rw [hx]; omega
        have hx1 : x < 1000000000 := by rw [hx]; omega
        have hX := xor_in x hx0 hx1
        have HX := hideP hx
        have hm := hideP (mod_in (x := bits .xor .i64 x (x / 64)) hn1)
        clear h hi1 hi2 hq hx
        go_enter Try.func26, Try.ntmps26
        go_wp2
        go_quiet (fail)
        rw [← HX.out]
        go_wp2
        go_ret
        exact ⟨_, rfl, hm.out.1, fun _ => hm.out.2, hc.out.next (below_drewN (Below.refl _ _) nq), ht.out.drewN nq⟩

end Go.Proofs.Ytljnjpjnadlmhaa

/- Walks of spec.l6Open and spec.l71Knot. -/
namespace Go.Proofs.Ytljnjpjnadlmhaa
open Go.RowKit
set_option linter.unusedVariables false

/-- the bytes of a slice that came in -/
def BytesIn (w : World) (bo : Option Addr) (n : Nat) : Prop :=
  ∀ i, i < n → ∃ b off v, bo = some ⟨b, off, none⟩ ∧ b < w.heap.size ∧ w.cell? ⟨b, off + i, none⟩ = some (.int .u8 v) ∧ 0 ≤ v ∧ v ≤ 255
theorem rdr_new {w : World} {bo : Option Addr} {n bcap : Nat} (t : TypeId) (hb : BytesIn w bo n) (hn : n ≤ 2000) : Rdr (w.alloc (.cells #[.slice bo n bcap, .int .i64 0] t)) w.heap.size bo n bcap 0 := by
  refine ⟨by simp, by simp, by simp, by simp, hn, fun i hi => ?_⟩
  obtain ⟨b, off, v, e, h1, h2, h3⟩ := hb i hi
  exact ⟨b, off, v, e, h1, by rw [World.cell?_alloc_past _ _ _ h1]; exact h2, h3⟩

def Opened (w' : World) (R : Nat) (bo : Option Addr) : Prop := ∃ bn bcap, Rdr w' R bo bn bcap 0
/-- so many more bytes at most are taken -/
def Stepped (w' : World) (R : Nat) (bo : Option Addr) (bn bcap p c : Nat) : Prop := ∃ p', p' ≤ p + c ∧ Rdr w' R bo bn bcap p'

set_option maxHeartbeats 400000 in
theorem l6Open_any (bo : Option Addr) (n cap : Nat) (w : World) (hb : BytesIn w bo n) (hnil : bo = none → n = 0 ∧ cap = 0) (hc : n ≤ cap) (hm : cap ≤ maxLen) :
    Calls Try.prog 23 #[.slice bo n cap] w fun e w' => e = .returned (.pointer (some ⟨w.heap.size, 0, none⟩)) ∧ Opened w' w.heap.size bo ∧ Below w.heap.size w w' := by
  unfold maxLen at hm
  by_cases hl : 2000 < n
  · have hl' : (2000 : Int) < (n : Int) := by omega
    have hc' : (2000 : Int) ≤ (cap : Int) := by omega
    have HR := hideP (rdr_new (bcap := cap) 84 (fun i hi => hb i (by omega) : BytesIn w bo 2000) (Nat.le_refl _))
    cases bo with
    | none => have := hnil rfl; omega
    | some ad =>
      clear hb hnil
      go_enter Try.func23, Try.ntmps23
      go_wp2
      go_ret
      exact ⟨rfl, ⟨2000, cap, HR.out⟩, below_one _ _⟩
  · have hl' : ¬ ((2000 : Int) < (n : Int)) := by omega
    have HR := hideP (rdr_new (bcap := cap) 84 hb (by omega))
    clear hb hnil
    go_enter Try.func23, Try.ntmps23
    go_wp2
    go_ret
    exact ⟨rfl, ⟨n, cap, HR.out⟩, below_one _ _⟩

def sel (K y : Int) : Int := if y = 0 then -1 else if y = 1 then K else 3
theorem sel_in {K y : Int} (h : -1 ≤ K ∧ K ≤ 9) : -1 ≤ sel K y ∧ sel K y ≤ 9 := by unfold sel; split <;> (try split) <;> omega
theorem sel_cell (w : World) (K y : Int) (t : TypeId) (h0 : 0 ≤ y) (h3 : y < 3) : (w.alloc (.cells #[.int .i64 (-1), .int .i64 K, .int .i64 3] t)).cell? ⟨w.heap.size, y.toNat, none⟩ = some (.int .i64 (sel K y)) := by
  rw [World.cell?_alloc_at _ _ _ _ rfl]
  have : y = 0 ∨ y = 1 ∨ y = 2 := by omega
  rcases this with rfl | rfl | rfl <;> rfl

theorem turned_one {R : Nat} (w : World) (o : Obj) : Turned R (R + 1) w (w.alloc o) := ⟨rfl, rfl, rfl, by simp, fun k hk _ => Below.heap_alloc _ _ _ hk⟩
theorem turned_trans {lo hi : Nat} {a b c : World} (h : Turned lo hi a b) (k : Turned lo hi b c) : Turned lo hi a c :=
  ⟨k.os.trans h.os, k.tape.trans h.tape, k.output.trans h.output, Nat.le_trans h.size k.size, fun i hi ho => (k.block i (Nat.lt_of_lt_of_le hi h.size) ho).trans (h.block i hi ho)⟩
theorem turned_drew {lo hi : Nat} {a b : World} (h : Turned lo hi a b) : Turned lo hi a b.drew := ⟨h.os, h.tape, h.output, h.size, h.block⟩

set_option maxHeartbeats 1600000 in
theorem l71Knot_any (R : Nat) (bo : Option Addr) (bn bcap p : Nat) (K : Int) (sv : Value) (w : World) (h : Rdr w R bo bn bcap p) (hp : p ≤ 999900) (hK : -1 ≤ K ∧ K ≤ 9) :
    Calls Try.prog 47 #[.pointer (some ⟨R, 0, none⟩), .agg #[.int .i64 K, sv]] w fun e w' => ∃ v : Int, e = .returned (.int .i64 v) ∧ -1 ≤ v ∧ v ≤ 9 ∧ Stepped w' R bo bn bcap p 3 ∧ Turned R (R + 1) w w' := by
  have hR := h.lt
  by_cases hK1 : K < 1
  · have HR := hideP ((h.next (below_one w (.cells #[.int .i64 K, sv] 25))).next (Below.refl _ _).drew)
    have HRA := hideP (((h.next (below_one w (.cells #[.int .i64 K, sv] 25))).next (below_one _ (.cells #[.int .i64 (-1), .int .i64 K, .int .i64 3] 3))).next (Below.refl _ _).drew)
    have T2 := hideP (turned_drew (turned_one (R := R) w (.cells #[.int .i64 K, sv] 25)))
    have T3 := hideP (turned_drew (turned_trans (turned_one (R := R) w (.cells #[.int .i64 K, sv] 25)) (turned_one _ (.cells #[.int .i64 (-1), .int .i64 K, .int .i64 3] 3))))
    go_enter Try.func47, Try.ntmps47
    go_wp2
    go_region_with (first | (go_at_call 26; refine (pick_any R bo bn bcap p 3 _ HR.out (by omega)).mono ?_; rintro e w7 ⟨y, rfl, y0, y1, rd7, tr7⟩; have y1' := y1 (by omega); have hk7 : w7.cell? ⟨w.heap.size, 0, none⟩ = some (.int .i64 K) := (tr7.cell (p := ⟨w.heap.size, 0, none⟩) (by simp) (Or.inr (by show R + 1 ≤ w.heap.size; omega))).trans (by simp); have hsel := sel_cell w7 K y 3 y0 y1') | (go_at_call 26; refine (pick_any R bo bn bcap p 3 _ HRA.out (by omega)).mono ?_; rintro e w7 ⟨y, rfl, y0, y1, rd7, tr7⟩; have y1' := y1 (by omega); have hsel : w7.cell? ⟨w.heap.size + 1, y.toNat, none⟩ = some (.int .i64 (sel K y)) := (tr7.cell (p := ⟨w.heap.size + 1, y.toNat, none⟩) (by simp) (Or.inr (by show R + 1 ≤ w.heap.size + 1; omega))).trans (by simpa using sel_cell (w.alloc (.cells #[.int .i64 K, sv] 25)) K y 3 y0 y1')))
    all_goals
      have hs := sel_in (y := y) hK
      go_wp2
      go_ret
      first
      | exact ⟨sel K y, rfl, hs.1, hs.2, ⟨p + 1, by omega, rd7⟩, turned_trans T3.out tr7⟩
      | exact ⟨sel K y, rfl, hs.1, hs.2, ⟨p + 1, by omega, rd7.next (below_one _ _)⟩, turned_trans (turned_trans T2.out tr7) (turned_one _ _)⟩
  · have hK1' : 1 ≤ K := by omega
    have hd : decide (K < 1) = false := by simp; omega
    have h1 := fun o => h.next (below_one w o)
    have T1 := hideP (turned_one (R := R) w (.cells #[.int .i64 K, sv] 25))
    go_enter Try.func47, Try.ntmps47
    go_wp2_with fail
    refine (pick_any R bo bn bcap p 24 _ (h1 _) (by omega)).mono ?_
    rintro e w1 ⟨z, rfl, z0, z1, rd1, tr1⟩
    have k1 : w1.cell? ⟨w.heap.size, 0, none⟩ = some (.int .i64 K) := (tr1.cell (p := ⟨w.heap.size, 0, none⟩) (by simp) (Or.inr (by show R + 1 ≤ w.heap.size; omega))).trans (by simp)
    have sz1 : w.heap.size < w1.heap.size := by have := tr1.size; simp at this; omega
    have T4 := hideP (turned_trans T1.out tr1)
    have HR1 := hideP rd1
    clear tr1 rd1 h1 h T1 z1
    by_cases hz : z = 0
    · have hzb : (z == 0) = true := by simp [hz]
      have HR := hideP (HR1.out.next (Below.refl _ _).drew)
      have HRA := hideP ((HR1.out.next (below_one w1 (.cells #[.int .i64 (-1), .int .i64 K, .int .i64 3] 3))).next (Below.refl _ _).drew)
      have T5 := hideP (turned_drew T4.out)
      have T6 := hideP (turned_drew (turned_trans T4.out (turned_one _ (.cells #[.int .i64 (-1), .int .i64 K, .int .i64 3] 3))))
      clear hz
      go_wp2
      go_region_with (first | (go_at_call 26; refine (pick_any R bo bn bcap (p + 1) 3 _ HR.out (by omega)).mono ?_; rintro e w7 ⟨y, rfl, y0, y1, rd7, tr7⟩; have y1' := y1 (by omega); have hk7 : w7.cell? ⟨w.heap.size, 0, none⟩ = some (.int .i64 K) := (tr7.cell (p := ⟨w.heap.size, 0, none⟩) sz1 (Or.inr (by show R + 1 ≤ w.heap.size; omega))).trans k1; have hsel := sel_cell w7 K y 3 y0 y1') | (go_at_call 26; refine (pick_any R bo bn bcap (p + 1) 3 _ HRA.out (by omega)).mono ?_; rintro e w7 ⟨y, rfl, y0, y1, rd7, tr7⟩; have y1' := y1 (by omega); have hsel : w7.cell? ⟨w1.heap.size, y.toNat, none⟩ = some (.int .i64 (sel K y)) := (tr7.cell (p := ⟨w1.heap.size, y.toNat, none⟩) (by simp) (Or.inr (by show R + 1 ≤ w1.heap.size; omega))).trans (sel_cell w1 K y 3 y0 y1')))
      all_goals
        have hs := sel_in (y := y) hK
        go_wp2
        go_ret
        first
        | exact ⟨sel K y, rfl, hs.1, hs.2, ⟨p + 1 + 1, by omega, rd7⟩, turned_trans T6.out tr7⟩
        | exact ⟨sel K y, rfl, hs.1, hs.2, ⟨p + 1 + 1, by omega, rd7.next (below_one _ _)⟩, turned_trans (turned_trans T5.out tr7) (turned_one _ _)⟩
    · have hzb : (z == 0) = false := by simp [hz]
      clear hz
      go_wp2_with fail
      refine (pick_any R bo bn bcap (p + 1) K _ HR1.out (by omega)).mono ?_
      rintro e w2 ⟨y, rfl, y0, y1, rd2, tr2⟩
      have y1' := y1 hK1'
      have T7 := hideP (turned_trans T4.out tr2)
      have HR2 := hideP rd2
      clear tr2 rd2
      go_wp2
      go_ret
      exact ⟨y, rfl, by omega, by omega, ⟨p + 1 + 1, by omega, HR2.out⟩, T7.out⟩

end Go.Proofs.Ytljnjpjnadlmhaa
