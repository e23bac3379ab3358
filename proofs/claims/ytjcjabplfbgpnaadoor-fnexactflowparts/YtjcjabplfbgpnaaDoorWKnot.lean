/- Walks of spec.l6Open and spec.l71Knot. -/
import Derived.Test.YtjcjabplfbgpnaaDoorWPick
import Derived.Deep.RegionWith
namespace Go.Proofs.YtjcjabplfbgpnaaDoor
open Go.RowKit
set_option linter.unusedVariables false

/-- the bytes of a slice that came in -/
def BytesIn (w : World) (bo : Option Addr) (n : Nat) : Prop :=
  ∀ i, i < n → ∃ b off v, bo = some ⟨b, off, none⟩ ∧ b < w.heap.size ∧ w.cell? ⟨b, off + i, none⟩ = some (.int .u8 v) ∧ 0 ≤ v ∧ v ≤ 255
theorem rdr_new {w : World} {bo : Option Addr} {n bcap : Nat} (t : TypeId) (hb : BytesIn w bo n) (hn : n ≤ 2000) : Rdr (w.alloc (.cells #[.slice bo n bcap, .int .i64 0] t)) w.heap.size bo n bcap 0 := by
  refine ⟨by simp, by simp, by simp, by simp, hn, fun i hi => ?_⟩
  obtain ⟨b, off, v, e, h1, h2, h3⟩ := hb i hi
  exact ⟨b, off, v, e, h1, by rw [World.cell?_alloc_past _ _ _ h1]; exact h2, h3⟩

def Opened (w' : World) (R : Nat) (bo : Option Addr) : Prop := ∃ bn bcap, Rdr w' R bo bn bcap 0
/-- so many more bytes at most are taken -/
def Stepped (w' : World) (R : Nat) (bo : Option Addr) (bn bcap p c : Nat) : Prop := ∃ p', p' ≤ p + c ∧ Rdr w' R bo bn bcap p'

def sel (K y : Int) : Int := if y = 0 then -1 else if y = 1 then K else 3
theorem sel_in {K y : Int} (h : -1 ≤ K ∧ K ≤ 9) : -1 ≤ sel K y ∧ sel K y ≤ 9 := by unfold sel; split <;> (try split) <;> omega
theorem sel_cell (w : World) (K y : Int) (t : TypeId) (h0 : 0 ≤ y) (h3 : y < 3) : (w.alloc (.cells #[.int .i64 (-1), .int .i64 K, .int .i64 3] t)).cell? ⟨w.heap.size, y.toNat, none⟩ = some (.int .i64 (sel K y)) := by
  rw [World.cell?_alloc_at _ _ _ _ rfl]
  have : y = 0 ∨ y = 1 ∨ y = 2 := by omega
  rcases this with rfl | rfl | rfl <;> rfl

theorem turned_one {R : Nat} (w : World) (o : Obj) : Turned R (R + 1) w (w.alloc o) := ⟨rfl, rfl, rfl, by simp, fun k hk _ => Below.heap_alloc _ _ _ hk⟩
theorem turned_trans {lo hi : Nat} {a b c : World} (h : Turned lo hi a b) (k : Turned lo hi b c) : Turned lo hi a c :=
  ⟨k.os.trans h.os, k.tape.trans h.tape, k.output.trans h.output, Nat.le_trans h.size k.size, fun i hi ho => (k.block i (Nat.lt_of_lt_of_le hi h.size) ho).trans (h.block i hi ho)⟩
theorem turned_drew {lo hi : Nat} {a b : World} (h : Turned lo hi a b) : Turned lo hi a b.drew := ⟨h.os, h.tape, h.output, h.size, h.block⟩


end Go.Proofs.YtjcjabplfbgpnaaDoor
