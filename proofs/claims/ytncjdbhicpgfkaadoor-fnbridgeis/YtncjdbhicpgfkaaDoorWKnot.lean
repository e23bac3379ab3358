/- Walks of spec.l6Open and spec.l71Knot. -/
import Derived.Test.YtncjdbhicpgfkaaDoorWPick
import Derived.Deep.RegionWith
namespace Go.Proofs.YtncjdbhicpgfkaaDoor
open Go.RowKit
set_option linter.unusedVariables false

/-- the bytes of a slice that came in -/
def BytesIn (w : World) (bo : Option Addr) (n : Nat) : Prop :=
  ∀ i, i < n → ∃ b off v, bo = some ⟨b, off, none⟩ ∧ b < w.heap.size ∧ w.cell? ⟨b, off + i, none⟩ = some (.int .u8 v) ∧ 0 ≤ v ∧ v ≤ 255
theorem rdr_new {w : World} {bo : Option Addr} {n bcap : Nat} (t : TypeId) (hb : BytesIn w bo n) (hn : n ≤ 2000) : Rdr (w.alloc (.cells #[.slice bo n bcap, .int .i64 0] t)) w.heap.size bo n bcap 0 := by
  refine ⟨by simp, by simp, by simp, by simp, hn, fun i hi => ?_⟩
  obtain ⟨b, off, v, e, h1, h2, h3⟩ := hb i hi
  exact ⟨b, off, v, e, h1, by rw [World.cell?_alloc_past _ _ _ h1]; exact h2, h3⟩

def Opened (w' : World) (R : Nat) (bo : Option Addr) : Prop := ∃ bn bcap, Rdr w' R bo bn bcap 0
/-- so many more bytes at most are taken -/
def Stepped (w' : World) (R : Nat) (bo : Option Addr) (bn bcap p c : Nat) : Prop := ∃ p', p' ≤ p + c ∧ Rdr w' R bo bn bcap p'

set_option maxHeartbeats 400000 in
theorem l6Open_any (bo : Option Addr) (n cap : Nat) (w : World) (hb : BytesIn w bo n) (hnil : bo = none → n = 0 ∧ cap = 0) (hc : n ≤ cap) (hm : cap ≤ maxLen) :
    Calls Tryd.prog 50 #[.slice bo n cap] w fun e w' => e = .returned (.pointer (some ⟨w.heap.size, 0, none⟩)) ∧ Opened w' w.heap.size bo ∧ Below w.heap.size w w' := by
  unfold maxLen at hm
  by_cases hl : 2000 < n
  · have hl' : (2000 : Int) < (n : Int) := by omega
    have hc' : (2000 : Int) ≤ (cap : Int) := by omega
    have HR := hideP (rdr_new (bcap := cap) 90 (fun i hi => hb i (by omega) : BytesIn w bo 2000) (Nat.le_refl _))
    cases bo with
    | none => have := hnil rfl; omega
    | some ad =>
      clear hb hnil
      go_enter Tryd.func50, Tryd.ntmps50
      go_wp2
      go_ret
      exact ⟨rfl, ⟨2000, cap, HR.out⟩, below_one _ _⟩
  · have hl' : ¬ ((2000 : Int) < (n : Int)) := by omega
    have HR := hideP (rdr_new (bcap := cap) 90 hb (by omega))
    clear hb hnil
    go_enter Tryd.func50, Tryd.ntmps50
    go_wp2
    go_ret
    exact ⟨rfl, ⟨n, cap, HR.out⟩, below_one _ _⟩

def sel (K y : Int) : Int := if y = 0 then -1 else if y = 1 then K else 3
theorem sel_in {K y : Int} (h : -1 ≤ K ∧ K ≤ 9) : -1 ≤ sel K y ∧ sel K y ≤ 9 := by unfold sel; split <;> (try split) <;> omega
theorem sel_cell (w : World) (K y : Int) (t : TypeId) (h0 : 0 ≤ y) (h3 : y < 3) : (w.alloc (.cells #[.int .i64 (-1), .int .i64 K, .int .i64 3] t)).cell? ⟨w.heap.size, y.toNat, none⟩ = some (.int .i64 (sel K y)) := by
  rw [World.cell?_alloc_at _ _ _ _ rfl]
  have : y = 0 ∨ y = 1 ∨ y = 2 := by omega
  rcases this with rfl | rfl | rfl <;> rfl

theorem turned_one {R : Nat} (w : World) (o : Obj) : Turned R (R + 1) w (w.alloc o) := ⟨rfl, rfl, rfl, by simp, fun k hk _ => Below.heap_alloc _ _ _ hk⟩
theorem turned_trans {lo hi : Nat} {a b c : World} (h : Turned lo hi a b) (k : Turned lo hi b c) : Turned lo hi a c :=
  ⟨k.os.trans h.os, k.tape.trans h.tape, k.output.trans h.output, Nat.le_trans h.size k.size, fun i hi ho => (k.block i (Nat.lt_of_lt_of_le hi h.size) ho).trans (h.block i hi ho)⟩
theorem turned_drew {lo hi : Nat} {a b : World} (h : Turned lo hi a b) : Turned lo hi a b.drew := ⟨h.os, h.tape, h.output, h.size, h.block⟩

set_option maxHeartbeats 1600000 in
theorem l71Knot_any (R : Nat) (bo : Option Addr) (bn bcap p : Nat) (K : Int) (sv : Value) (w : World) (h : Rdr w R bo bn bcap p) (hp : p ≤ 999900) (hK : -1 ≤ K ∧ K ≤ 9) :
    Calls Tryd.prog 103 #[.pointer (some ⟨R, 0, none⟩), .agg #[.int .i64 K, sv]] w fun e w' => ∃ v : Int, e = .returned (.int .i64 v) ∧ -1 ≤ v ∧ v ≤ 9 ∧ Stepped w' R bo bn bcap p 3 ∧ Turned R (R + 1) w w' := by
  have hR := h.lt
  by_cases hK1 : K < 1
  · have HR := hideP ((h.next (below_one w (.cells #[.int .i64 K, sv] 25))).next (Below.refl _ _).drew)
    have HRA := hideP (((h.next (below_one w (.cells #[.int .i64 K, sv] 25))).next (below_one _ (.cells #[.int .i64 (-1), .int .i64 K, .int .i64 3] 3))).next (Below.refl _ _).drew)
    have T2 := hideP (turned_drew (turned_one (R := R) w (.cells #[.int .i64 K, sv] 25)))
    have T3 := hideP (turned_drew (turned_trans (turned_one (R := R) w (.cells #[.int .i64 K, sv] 25)) (turned_one _ (.cells #[.int .i64 (-1), .int .i64 K, .int .i64 3] 3))))
    go_enter Tryd.func103, Tryd.ntmps103
    go_wp2
    go_region_with (first | (go_at_call 52; refine (pick_any R bo bn bcap p 3 _ HR.out (by omega)).mono ?_; rintro e w7 ⟨y, rfl, y0, y1, rd7, tr7⟩; have y1' := y1 (by omega); have hk7 : w7.cell? ⟨w.heap.size, 0, none⟩ = some (.int .i64 K) := (tr7.cell (p := ⟨w.heap.size, 0, none⟩) (by simp) (Or.inr (by show R + 1 ≤ w.heap.size; omega))).trans (by simp); have hsel := sel_cell w7 K y 3 y0 y1') | (go_at_call 52; refine (pick_any R bo bn bcap p 3 _ HRA.out (by omega)).mono ?_; rintro e w7 ⟨y, rfl, y0, y1, rd7, tr7⟩; have y1' := y1 (by omega); have hsel : w7.cell? ⟨w.heap.size + 1, y.toNat, none⟩ = some (.int .i64 (sel K y)) := (tr7.cell (p := ⟨w.heap.size + 1, y.toNat, none⟩) (by simp) (Or.inr (by show R + 1 ≤ w.heap.size + 1; omega))).trans (by simpa using sel_cell (w.alloc (.cells #[.int .i64 K, sv] 25)) K y 3 y0 y1')))
    all_goals
      have hs := sel_in (y := y) hK
      go_wp2
      go_ret
      first
      | exact ⟨sel K y, rfl, hs.1, hs.2, ⟨p + 1, by omega, rd7⟩, turned_trans T3.out tr7⟩
      | exact ⟨sel K y, rfl, hs.1, hs.2, ⟨p + 1, by omega, rd7.next (below_one _ _)⟩, turned_trans (turned_trans T2.out tr7) (turned_one _ _)⟩
  · have hK1' : 1 ≤ K := by omega
    have hd : decide (K < 1) = false := by simp; omega
    have h1 := fun o => h.next (below_one w o)
    have T1 := hideP (turned_one (R := R) w (.cells #[.int .i64 K, sv] 25))
    go_enter Tryd.func103, Tryd.ntmps103
    go_wp2_with fail
    refine (pick_any R bo bn bcap p 24 _ (h1 _) (by omega)).mono ?_
    rintro e w1 ⟨z, rfl, z0, z1, rd1, tr1⟩
    have k1 : w1.cell? ⟨w.heap.size, 0, none⟩ = some (.int .i64 K) := (tr1.cell (p := ⟨w.heap.size, 0, none⟩) (by simp) (Or.inr (by show R + 1 ≤ w.heap.size; omega))).trans (by simp)
    have sz1 : w.heap.size < w1.heap.size := by have := tr1.size; simp at this; omega
    have T4 := hideP (turned_trans T1.out tr1)
    have HR1 := hideP rd1
    clear tr1 rd1 h1 h T1 z1
    by_cases hz : z = 0
    · have hzb : (z == 0) = true := by simp [hz]
      have HR := hideP (HR1.out.next (Below.refl _ _).drew)
      have HRA := hideP ((HR1.out.next (below_one w1 (.cells #[.int .i64 (-1), .int .i64 K, .int .i64 3] 3))).next (Below.refl _ _).drew)
      have T5 := hideP (turned_drew T4.out)
      have T6 := hideP (turned_drew (turned_trans T4.out (turned_one _ (.cells #[.int .i64 (-1), .int .i64 K, .int .i64 3] 3))))
      clear hz
      go_wp2
      go_region_with (first | (go_at_call 52; refine (pick_any R bo bn bcap (p + 1) 3 _ HR.out (by omega)).mono ?_; rintro e w7 ⟨y, rfl, y0, y1, rd7, tr7⟩; have y1' := y1 (by omega); have hk7 : w7.cell? ⟨w.heap.size, 0, none⟩ = some (.int .i64 K) := (tr7.cell (p := ⟨w.heap.size, 0, none⟩) sz1 (Or.inr (by show R + 1 ≤ w.heap.size; omega))).trans k1; have hsel := sel_cell w7 K y 3 y0 y1') | (go_at_call 52; refine (pick_any R bo bn bcap (p + 1) 3 _ HRA.out (by omega)).mono ?_; rintro e w7 ⟨y, rfl, y0, y1, rd7, tr7⟩; have y1' := y1 (by omega); have hsel : w7.cell? ⟨w1.heap.size, y.toNat, none⟩ = some (.int .i64 (sel K y)) := (tr7.cell (p := ⟨w1.heap.size, y.toNat, none⟩) (by simp) (Or.inr (by show R + 1 ≤ w1.heap.size; omega))).trans (sel_cell w1 K y 3 y0 y1')))
      all_goals
        have hs := sel_in (y := y) hK
        go_wp2
        go_ret
        first
        | exact ⟨sel K y, rfl, hs.1, hs.2, ⟨p + 1 + 1, by omega, rd7⟩, turned_trans T6.out tr7⟩
        | exact ⟨sel K y, rfl, hs.1, hs.2, ⟨p + 1 + 1, by omega, rd7.next (below_one _ _)⟩, turned_trans (turned_trans T5.out tr7) (turned_one _ _)⟩
    · have hzb : (z == 0) = false := by simp [hz]
      clear hz
      go_wp2_with fail
      refine (pick_any R bo bn bcap (p + 1) K _ HR1.out (by omega)).mono ?_
      rintro e w2 ⟨y, rfl, y0, y1, rd2, tr2⟩
      have y1' := y1 hK1'
      have T7 := hideP (turned_trans T4.out tr2)
      have HR2 := hideP rd2
      clear tr2 rd2
      go_wp2
      go_ret
      exact ⟨y, rfl, by omega, by omega, ⟨p + 1 + 1, by omega, HR2.out⟩, T7.out⟩

end Go.Proofs.YtncjdbhicpgfkaaDoor
