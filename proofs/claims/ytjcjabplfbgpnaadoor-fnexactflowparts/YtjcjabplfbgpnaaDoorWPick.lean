/- Walk of (*l6Rd).pick: it answers a number from 0 to below n, and counts on. -/
import Derived.Test.YtjcjabplfbgpnaaDoorPartWLeaf
import Derived.Laws.BitsLemmas
namespace Go.Proofs.YtjcjabplfbgpnaaDoor
open Go.RowKit
set_option linter.unusedVariables false

/-- a reader at block R: its bytes, and how many it has taken -/
structure Rdr (w : World) (R : Nat) (bo : Option Addr) (bn bcap : Nat) (p : Nat) : Prop where
  c0 : w.cell? ⟨R, 0, none⟩ = some (.slice bo bn bcap)
  c1 : w.cell? ⟨R, 1, none⟩ = some (.int .i64 (p : Int))
  f1 : w.frozen? ⟨R, 1, none⟩ = false
  lt : R < w.heap.size
  short : bn ≤ 2000
  bytes : ∀ i, i < bn → ∃ b off v, bo = some ⟨b, off, none⟩ ∧ b < R ∧ w.cell? ⟨b, off + i, none⟩ = some (.int .u8 v) ∧ 0 ≤ v ∧ v ≤ 255
theorem Rdr.next {w w' : World} {R : Nat} {bo : Option Addr} {bn bcap p : Nat} (h : Rdr w R bo bn bcap p) (hb : Below w.heap.size w w') : Rdr w' R bo bn bcap p :=
  ⟨(hb.cell (p := ⟨R, 0, none⟩) h.lt).trans h.c0, (hb.cell (p := ⟨R, 1, none⟩) h.lt).trans h.c1, (hb.frozen (p := ⟨R, 1, none⟩) h.lt).trans h.f1, Nat.lt_of_lt_of_le h.lt hb.size, h.short, fun i hi => by
    obtain ⟨b, off, v, e, h1, h3, h4⟩ := h.bytes i hi
    exact ⟨b, off, v, e, h1, (hb.cell (p := ⟨b, off + i, none⟩) (Nat.lt_trans h1 h.lt)).trans h3, h4⟩⟩
theorem Rdr.count {w : World} {R : Nat} {bo : Option Addr} {bn bcap p : Nat} (h : Rdr w R bo bn bcap p) : Rdr (w.setCell ⟨R, 1, none⟩ (.int .i64 ((p : Int) + 1))) R bo bn bcap (p + 1) := by
  refine ⟨?_, ?_, ?_, by simpa [World.setCell] using h.lt, h.short, fun i hi => ?_⟩
  · rw [World.cell?_setCell_other _ _ _ _ (by simp)]; exact h.c0
  · rw [World.cell?_setCell_same w ⟨R, 1, none⟩ _ h.c1]; simp
  · rw [World.frozen?_setCell]; exact h.f1
  · obtain ⟨b, off, v, e, h1, h3, h4⟩ := h.bytes i hi
    exact ⟨b, off, v, e, h1, by rw [World.cell?_setCell_other _ _ _ _ (by simp only [ne_eq, Addr.mk.injEq, not_and]; intro e; omega)]; exact h3, h4⟩
theorem Turned.count (w : World) (R : Nat) (u : Value) : Turned R (R + 1) w (w.setCell ⟨R, 1, none⟩ u) :=
  ⟨rfl, rfl, rfl, by simp [World.setCell], fun k hk ho => Below.heap_setCell w ⟨R, 1, none⟩ u k (by show k ≠ R; omega)⟩
theorem Turned.drewN {lo hi : Nat} {w w' : World} (h : Turned lo hi w w') (n : Nat) : Turned lo hi w (w'.drewN n) := ⟨h.os, h.tape, h.output, h.size, h.block⟩
theorem mod_in {x n : Int} (hn : 1 ≤ n) : 0 ≤ x % n ∧ x % n < n := by
  exact ⟨Int.emod_nonneg _ (by omega), Int.emod_lt_of_pos _ (by omega)⟩

theorem xor_nat (a b : Nat) (ha : a < 2 ^ 62) (hb : b < 2 ^ 62) : bits .xor .i64 (a : Int) (b : Int) = ((a ^^^ b : Nat) : Int) := by
  have hx : a ^^^ b < 2 ^ 62 := Nat.xor_lt_two_pow ha hb
  have h1 : (BitVec.ofInt 64 (a : Int)).toNat = a := by
    rw [BitVec.ofInt_natCast, BitVec.toNat_ofNat]; exact Nat.mod_eq_of_lt (by omega)
  have h2 : (BitVec.ofInt 64 (b : Int)).toNat = b := by
    rw [BitVec.ofInt_natCast, BitVec.toNat_ofNat]; exact Nat.mod_eq_of_lt (by omega)
  show IntKind.i64.wrap ((BitVec.ofInt 64 (a : Int) ^^^ BitVec.ofInt 64 (b : Int)).toNat : Int) = _
  rw [BitVec.toNat_xor, h1, h2, IntKind.wrap_i64]
  omega
theorem xor_in (x : Int) (h0 : 0 ≤ x) (h1 : x < 1000000000) : 0 ≤ bits .xor .i64 x (x / 64) ∧ bits .xor .i64 x (x / 64) < 4611686018427387904 := by
  obtain ⟨a, rfl⟩ := Int.eq_ofNat_of_zero_le h0
  have ha : a < 2 ^ 62 := by omega
  have hb : a / 64 < 2 ^ 62 := by omega
  have e : ((a : Int) / 64) = ((a / 64 : Nat) : Int) := by omega
  rw [e, xor_nat a (a / 64) ha hb]
  have hx : a ^^^ a / 64 < 2 ^ 62 := Nat.xor_lt_two_pow ha hb
  omega

end Go.Proofs.YtjcjabplfbgpnaaDoor
