/- Walks of spec.l71Any, spec.l71Pair, spec.l71Tied, spec.DrawNetHas. -/
import Derived.Test.YtncjdbhicpgfkaaDoorWSpoil2
namespace Go.Proofs.YtncjdbhicpgfkaaDoor
open Go.RowKit
set_option linter.unusedVariables false

/-- some net, of memory made since w, and its reader some bytes further -/
def AnyNet (w w' : World) (R : Nat) (bo : Option Addr) (bn bcap p q : Nat) (K : Int) (ao : Option Addr) (us : List (Int × Int)) : Prop :=
  Stepped w' R bo bn bcap p q ∧ Turned R (R + 1) w w' ∧ OwnN w' w.heap.size w'.heap.size ao us.length (tcell us) ∧ -1 ≤ K ∧ K ≤ 9 ∧ us.length ≤ 66
theorem AnyNet.turn {w w1 w2 : World} {R : Nat} {bo : Option Addr} {bn bcap p q q' : Nat} {K : Int} {ao : Option Addr} {us : List (Int × Int)} (h : AnyNet w w1 R bo bn bcap p q K ao us) (hR : R < w.heap.size) (hs : Stepped w2 R bo bn bcap p q') (ht : Turned R (R + 1) w1 w2) : AnyNet w w2 R bo bn bcap p q' K ao us :=
  ⟨hs, h.2.1.trans ht, (h.2.2.1.aside ht (Or.inr (by omega))).up ht.size, h.2.2.2⟩
theorem AnyNet.next {w w1 w2 : World} {R : Nat} {bo : Option Addr} {bn bcap p q : Nat} {K : Int} {ao : Option Addr} {us : List (Int × Int)} (h : AnyNet w w1 R bo bn bcap p q K ao us) (hR : R < w.heap.size) (hb : Below w1.heap.size w1 w2) : AnyNet w w2 R bo bn bcap p q K ao us := by
  obtain ⟨p', hp', hr⟩ := h.1
  exact h.turn hR ⟨p', hp', hr.next hb⟩ (Turned.of_below hb)

theorem Rdr.far {w : World} {R : Nat} {bo : Option Addr} {bn bcap p : Nat} (h : Rdr w R bo bn bcap p) {q : Addr} (hq : R < q.block) (u : Value) : Rdr (w.setCell q u) R bo bn bcap p := by
  have ea : ∀ k, k ≠ q.block → (w.setCell q u).heap[k]? = w.heap[k]? := fun k hk => Below.heap_setCell _ _ _ _ hk
  refine ⟨(World.cell?_of_block (a := ⟨R, 0, none⟩) (ea _ (by show R ≠ _; omega))).trans h.c0, (World.cell?_of_block (a := ⟨R, 1, none⟩) (ea _ (by show R ≠ _; omega))).trans h.c1, (World.frozen?_of_block (a := ⟨R, 1, none⟩) (ea _ (by show R ≠ _; omega))).trans h.f1, by simpa [World.setCell] using h.lt, h.short, fun i hi => ?_⟩
  obtain ⟨b, off, v, e, q1, q3, q4⟩ := h.bytes i hi
  exact ⟨b, off, v, e, q1, (World.cell?_of_block (a := ⟨b, off + i, none⟩) (ea b (by omega))).trans q3, q4⟩
theorem AnyNet.fin {w wr : World} {R : Nat} {bo : Option Addr} {bn bcap p q : Nat} {K : Int} {ao : Option Addr} {us : List (Int × Int)} (hR : R < w.heap.size) (hs : Stepped wr R bo bn bcap p q) (ht : Turned R (R + 1) w wr) (ho : OwnN wr (w.heap.size + 1) wr.heap.size ao us.length (tcell us)) (hK : -1 ≤ K ∧ K ≤ 9) (hl : us.length ≤ 66) (u0 u1 : Value) :
    AnyNet w ((wr.setCell ⟨w.heap.size, 0, none⟩ u0).setCell ⟨w.heap.size, 1, none⟩ u1) R bo bn bcap p q K ao us := by
  obtain ⟨p', hp', hr⟩ := hs
  have hsz : ((wr.setCell ⟨w.heap.size, 0, none⟩ u0).setCell ⟨w.heap.size, 1, none⟩ u1).heap.size = wr.heap.size := by simp [World.setCell]
  refine ⟨⟨p', hp', (hr.far (by exact hR) _).far (by exact hR) _⟩, (ht.set (Nat.le_refl _) _).set (Nat.le_refl _) _, ?_, hK.1, hK.2, hl⟩
  rw [hsz]
  exact ((ho.far (Or.inl (Nat.lt_succ_self _)) _).far (Or.inl (Nat.lt_succ_self _)) _).down (Nat.le_succ _)
/-- a pair of cells -/
structure Cel (w : World) (A : Nat) (K : Int) (v : Value) : Prop where
  c0 : w.cell? ⟨A, 0, none⟩ = some (.int .i64 K)
  c1 : w.cell? ⟨A, 1, none⟩ = some v
  f0 : w.frozen? ⟨A, 0, none⟩ = false
  f1 : w.frozen? ⟨A, 1, none⟩ = false
  lt : A < w.heap.size
theorem Cel.new (w : World) (K : Int) (v : Value) (t : TypeId) : Cel (w.alloc (.cells #[.int .i64 K, v] t)) w.heap.size K v := ⟨by simp, by simp, by simp, by simp, by simp⟩
theorem Cel.turn {w w' : World} {A R : Nat} {K : Int} {v : Value} (h : Cel w A K v) (ht : Turned R (R + 1) w w') (hA : R < A) : Cel w' A K v :=
  ⟨(ht.cell (p := ⟨A, 0, none⟩) h.lt (Or.inr hA)).trans h.c0, (ht.cell (p := ⟨A, 1, none⟩) h.lt (Or.inr hA)).trans h.c1, (ht.frozen (p := ⟨A, 0, none⟩) h.lt (Or.inr hA)).trans h.f0, (ht.frozen (p := ⟨A, 1, none⟩) h.lt (Or.inr hA)).trans h.f1, Nat.lt_of_lt_of_le h.lt ht.size⟩

set_option maxHeartbeats 1600000 in
theorem l71Any_any (R : Nat) (bo : Option Addr) (bn bcap p : Nat) (w : World) (h : Rdr w R bo bn bcap p) (hp : p ≤ 999000) :
    Calls Tryd.prog 51 #[.pointer (some ⟨R, 0, none⟩)] w fun e w' => ∃ K ao cap us, e = .returned (.agg #[.int .i64 K, .slice ao us.length cap]) ∧ AnyNet w w' R bo bn bcap p 60 K ao us := by
  have hR := h.lt
  go_enter Tryd.func51, Tryd.ntmps51
  go_wp2_with fail
  refine (l71Net_any R bo bn bcap p _ (h.next (below_one w _)) hp).mono ?_
  rintro e w1 ⟨K, ao, cap, us, rfl, ⟨p1, hp1, rd1⟩, tr1, ho1, hK0, hK8, hl⟩
  have C1 := hideP ((Cel.new w 0 (.slice none 0 0) 25).turn tr1 hR)
  have T1 := hideP ((turned_one (R := R) w _).trans tr1)
  have HO1 := hideP ho1
  have HR1 := hideP (rd1.next (below_one w1 (.cells #[.int .i64 K, .slice ao us.length cap] 25)))
  have N1 := hideP (Cel.new w1 K (.slice ao us.length cap) 25)
  have hw1 := tr1.size
  simp at hw1
  clear ho1 tr1 rd1
  go_wp2_with fail
  refine (pick_any R bo bn bcap p1 12 _ HR1.out (by omega)).mono ?_
  rintro e w2 ⟨z, rfl, z0, z1, rd2, tr2⟩
  have C2 := hideP ((C1.out.turn (turned_one w1 _) hR).turn tr2 hR)
  have T2 := hideP ((T1.out.trans (turned_one w1 _)).trans tr2)
  have N2 := hideP (N1.out.turn tr2 (by omega))
  have hw2 := tr2.size
  simp at hw2
  have HO2 := hideP (((HO1.out.next (below_one w1 _)).aside tr2 (Or.inr (by simp; omega))).up (hi' := w2.heap.size) (by omega))
  clear tr2 HO1 N1 T1 C1 HR1 z1
  have n0 := N2.out.c0
  have n1 := N2.out.c1
  have r0 := C2.out.c0
  have r1 := C2.out.c1
  have g0 := C2.out.f0
  have g1 := C2.out.f1
  by_cases hz : z = 0
  · have hzb : (z == 0) = true := by simp [hz]
    clear hz
    go_wp2_with fail
    refine (l71Spoil_any _ _ R bo bn bcap (p1 + 1) K ao cap us _ hl HO2.out rd2 (by omega) ⟨hK0, hK8⟩).mono ?_
    rintro e w3 ⟨K', ao', cap', us', rfl, k0, k9, l66, own3, ⟨p3, hp3, rd3⟩, tr3⟩
    have C3 := hideP (C2.out.turn tr3 hR)
    have q0 := C3.out.c0
    have q1 := C3.out.c1
    have q2 := C3.out.f0
    have q3 := C3.out.f1
    have F := fun u0 u1 => AnyNet.fin (p := p) (q := 60) hR ⟨p3, by omega, rd3⟩ (T2.out.trans tr3) ((OwnN.of_row own3).down (by omega)) ⟨k0, k9⟩ l66 u0 u1
    have HF := hideP F
    clear F own3 rd3 tr3 r0 r1 g0 g1 n0 n1 rd2
    go_wp2
    refine bodyPost_ret (v := .agg #[.int .i64 K', .slice ao' us'.length cap']) ?_ rfl ⟨K', ao', cap', us', rfl, HF.out _ _⟩
    simp [results, Tryd.results51, go_sem, q0, q1]
  · have hzb : (z == 0) = false := by simp [hz]
    clear hz
    have F := fun u0 u1 => AnyNet.fin (K := K) (p := p) (q := 60) hR ⟨p1 + 1, by omega, rd2⟩ T2.out (HO2.out.down (by simp)) ⟨by omega, by omega⟩ (by omega) u0 u1
    have HF := hideP F
    clear F rd2
    go_wp2
    refine bodyPost_ret (v := .agg #[.int .i64 K, .slice ao us.length cap]) ?_ rfl ⟨K, ao, cap, us, rfl, HF.out _ _⟩
    simp [results, Tryd.results51, go_sem, r0, r1]
theorem Turned.toBelow {lo hi B : Nat} {w w' : World} (h : Turned lo hi w w') (hB : B ≤ lo) (hl : lo ≤ w.heap.size) : Below B w w' :=
  ⟨h.os, h.tape, h.output, h.size, fun k hk => h.block k (by omega) (Or.inl (by omega))⟩
/-- a net was drawn since w, and nothing that was there has turned -/
structure Dealt (w w' : World) (K : Int) (ao : Option Addr) (us : List (Int × Int)) : Prop where
  own : OwnN w' w.heap.size w'.heap.size ao us.length (tcell us)
  lo : -1 ≤ K
  hi : K ≤ 9
  short : us.length ≤ 66
  bel : Below w.heap.size w w'
theorem Dealt.end {w w1 w2 : World} {R : Nat} {bo : Option Addr} {bn bcap p q : Nat} {K : Int} {ao : Option Addr} {us : List (Int × Int)} (h : AnyNet w1 w2 R bo bn bcap p q K ao us) (hb : Below w.heap.size w w1) (hR : w.heap.size ≤ R) (hl : R < w1.heap.size) (h0 : w.heap.size < w1.heap.size) (u0 u1 : Value) :
    Dealt w ((w2.setCell ⟨w.heap.size, 0, none⟩ u0).setCell ⟨w.heap.size, 1, none⟩ u1) K ao us := by
  obtain ⟨_, ht, ho, k0, k9, l66⟩ := h
  have hsz : ((w2.setCell ⟨w.heap.size, 0, none⟩ u0).setCell ⟨w.heap.size, 1, none⟩ u1).heap.size = w2.heap.size := by simp [World.setCell]
  refine ⟨?_, k0, k9, l66, ((hb.trans (ht.toBelow hR (Nat.le_of_lt hl))).setCell (Nat.le_refl _) _).setCell (Nat.le_refl _) _⟩
  rw [hsz]
  exact ((ho.far (Or.inl h0) _).far (Or.inl h0) _).down (Nat.le_of_lt h0)
theorem Cel.below {w w' : World} {A B : Nat} {K : Int} {v : Value} (h : Cel w A K v) (hb : Below B w w') (hA : A < B) : Cel w' A K v :=
  ⟨(hb.cell (p := ⟨A, 0, none⟩) hA).trans h.c0, (hb.cell (p := ⟨A, 1, none⟩) hA).trans h.c1, (hb.frozen (p := ⟨A, 0, none⟩) hA).trans h.f0, (hb.frozen (p := ⟨A, 1, none⟩) hA).trans h.f1, Nat.lt_of_lt_of_le h.lt hb.size⟩
theorem Cel.turn' {w w' : World} {A R : Nat} {K : Int} {v : Value} (h : Cel w A K v) (ht : Turned R (R + 1) w w') (hA : A < R) : Cel w' A K v :=
  ⟨(ht.cell (p := ⟨A, 0, none⟩) h.lt (Or.inl hA)).trans h.c0, (ht.cell (p := ⟨A, 1, none⟩) h.lt (Or.inl hA)).trans h.c1, (ht.frozen (p := ⟨A, 0, none⟩) h.lt (Or.inl hA)).trans h.f0, (ht.frozen (p := ⟨A, 1, none⟩) h.lt (Or.inl hA)).trans h.f1, Nat.lt_of_lt_of_le h.lt ht.size⟩


end Go.Proofs.YtncjdbhicpgfkaaDoor
