/- Walk of impl.forestOf. -/
import Derived.Test.YtdocfmhpafghgaaDoorWForest
import Derived.Test.YtdocfmhpafghgaaDoorWTies
namespace Go.Proofs.YtdocfmhpafghgaaDoor
open Go.RowKit
set_option linter.unusedVariables false

theorem ties_two' (K : Int) (ts : List (Int × Int)) (m : Nat) (w : World) (hT : Tab w) (hK : K ≤ 8) (hg : GoodTo K ts ts.length) (hn : ts.length ≤ 64) (hb : BitsFrom m ts 0) (hm : m < 2 ^ 64) :
    Calls Tryd.prog 41 #[.int .u64 (m : Int)] w fun e w' => ∃ ao cap, e = .returned (.slice ao ts.length cap) ∧ OwnN w' w.heap.size w'.heap.size ao ts.length (tcell ts) ∧ Below w.heap.size w w' := by
  refine (ties_any K ts m w hT hK hg hn hb hm).mono ?_
  rintro e w' ⟨v, rfl, ho, hb⟩
  obtain ⟨ao, cap, rfl⟩ := own_slice ho
  exact ⟨ao, cap, rfl, OwnN.of_row ho, hb⟩
theorem OwnI.same {w w' : World} {g n : Nat} {f : Nat → Value} (h : OwnI w g n f) (e : w'.heap[g]? = w.heap[g]?) (hs : w.heap.size ≤ w'.heap.size) : OwnI w' g n f :=
  ⟨fun j hj => (World.cell?_of_block (a := ⟨g, j, none⟩) e).trans (h.1 j hj), fun j => (World.frozen?_of_block (a := ⟨g, j, none⟩) e).trans (h.2.1 j), Nat.lt_of_lt_of_le h.2.2 hs⟩
theorem OwnI.turn {w w' : World} {g n lo hi : Nat} {f : Nat → Value} (h : OwnI w g n f) (ht : Turned lo hi w w') (hg : g < lo ∨ hi ≤ g) : OwnI w' g n f := h.same (ht.block g h.2.2 hg) ht.size
theorem Turned.under {lo hi B : Nat} {w w' : World} (h : Turned lo hi w w') (hB : B ≤ lo) (hl : B ≤ w.heap.size) : Below B w w' :=
  ⟨h.os, h.tape, h.output, h.size, fun k hk => h.block k (by omega) (Or.inl (by omega))⟩
def zcell (_ : Nat) : Value := .int .i64 0
def idTo (k j : Nat) : Value := .int .i64 (if j < k then (j : Int) else 0)
theorem idTo_step (k j : Nat) : (if j = k then Value.int .i64 (k : Int) else idTo k j) = idTo (k + 1) j := by
  unfold idTo
  by_cases h : j = k
  · subst h; rw [if_pos rfl, if_pos (by omega)]
  · rw [if_neg h]
    by_cases h2 : j < k
    · rw [if_pos h2, if_pos (by omega)]
    · rw [if_neg h2, if_neg (by omega)]
/-- a forest as a value -/
def forestV (f : Nat → Nat) : Value := .agg #[.int .i64 ((f 0 : Nat) : Int), .int .i64 ((f 1 : Nat) : Int), .int .i64 ((f 2 : Nat) : Int), .int .i64 ((f 3 : Nat) : Int), .int .i64 ((f 4 : Nat) : Int), .int .i64 ((f 5 : Nat) : Int), .int .i64 ((f 6 : Nat) : Int), .int .i64 ((f 7 : Nat) : Int)]
theorem zeros_own (w : World) (t : TypeId) : OwnI (w.alloc (.cells #[.int .i64 0, .int .i64 0, .int .i64 0, .int .i64 0, .int .i64 0, .int .i64 0, .int .i64 0, .int .i64 0] t)) w.heap.size 8 zcell := by
  refine ⟨fun j hj => (World.cell?_alloc_at _ _ _ _ rfl).trans ?_, fun j => World.frozen?_alloc_at _ _ _ _ rfl, by simp⟩
  have : j = 0 ∨ j = 1 ∨ j = 2 ∨ j = 3 ∨ j = 4 ∨ j = 5 ∨ j = 6 ∨ j = 7 := by omega
  rcases this with rfl | rfl | rfl | rfl | rfl | rfl | rfl | rfl <;> rfl

/-- what stands while a forest is made: its own block F, the answer's block, all that was there -/
structure Fst (w wr : World) (c : Nat → Value) : Prop where
  R : OwnI wr w.heap.size 8 zcell
  F : OwnI wr (w.heap.size + 1) 8 c
  B : Below w.heap.size w wr
theorem Fst.next {w wr w' : World} {c : Nat → Value} (h : Fst w wr c) (hb : Below wr.heap.size wr w') : Fst w w' c :=
  ⟨h.R.below hb h.R.2.2, h.F.below hb h.F.2.2, h.B.trans (hb.mono h.B.size)⟩
theorem Fst.turn {w wr w' : World} {c c' : Nat → Value} (h : Fst w wr c) (ht : Turned (w.heap.size + 1) (w.heap.size + 1 + 1) wr w') (hF : OwnI w' (w.heap.size + 1) 8 c') : Fst w w' c' :=
  ⟨h.R.turn ht (Or.inl (by omega)), hF, h.B.trans (ht.under (by omega) h.B.size)⟩
theorem Fst.start (w : World) (t : TypeId) : Fst w ((w.alloc (.cells #[.int .i64 0, .int .i64 0, .int .i64 0, .int .i64 0, .int .i64 0, .int .i64 0, .int .i64 0, .int .i64 0] t)).alloc (.cells #[.int .i64 0, .int .i64 0, .int .i64 0, .int .i64 0, .int .i64 0, .int .i64 0, .int .i64 0, .int .i64 0] t)) (idTo 0) := by
  refine ⟨(zeros_own w t).below (below_one _ _) (by simp), ?_, below_two _ _ _⟩
  have h := zeros_own (w.alloc (.cells #[.int .i64 0, .int .i64 0, .int .i64 0, .int .i64 0, .int .i64 0, .int .i64 0, .int .i64 0, .int .i64 0] t)) t
  have e : (w.alloc (.cells #[.int .i64 0, .int .i64 0, .int .i64 0, .int .i64 0, .int .i64 0, .int .i64 0, .int .i64 0, .int .i64 0] t)).heap.size = w.heap.size + 1 := by simp
  rw [e] at h
  exact h.congr (fun j _ => by simp [zcell, idTo])

set_option maxHeartbeats 1600000 in
theorem forestOf_any (K : Int) (ts : List (Int × Int)) (m : Nat) (w : World) (hT : Tab w) (hK : K ≤ 8) (hg : GoodTo K ts ts.length) (hn : ts.length ≤ 64) (hb : BitsFrom m ts 0) (hm : m < 2 ^ 64) :
    Calls Tryd.prog 32 #[.int .u64 (m : Int)] w fun e w' => e = .returned (forestV (forest ts ts.length)) ∧ Below w.heap.size w w' := by
  have S0 := fun t => Fst.start w t
  have HS0 := hideP S0
  have HTab := hideP hT
  clear hT S0
  go_enter Tryd.func32, Tryd.ntmps32
  go_wp2
  go_loopw [7] (fun i wr => ∃ k : Nat, k ≤ 8 ∧ i = .int .i64 k ∧ Fst w wr (idTo k))
    (fun i _ => 8 - (intOf i).toNat)
  case atStart => exact ⟨0, by omega, rfl, HS0.out _⟩
  case round =>
    obtain ⟨k, hk, rfl, hS⟩ := hrel
    by_cases hlt : k < 8
    · have c0 : wr.cell? ⟨w.heap.size + 1, k, none⟩ = some (idTo k k) := hS.F.1 k hlt
      have f0 := hS.F.2.1 k
      have hk0 : (0 : Int) ≤ (k : Int) := by omega
      have hk8 : (k : Int) < 8 := by omega
      have HS : Hid (Fst w (wr.setCell ⟨w.heap.size + 1, k, none⟩ (.int .i64 (k : Int))) (idTo (k + 1))) :=
        hS.turn ⟨rfl, rfl, rfl, by simp [World.setCell], fun i _ hi => Below.heap_setCell _ _ _ _ (by show i ≠ w.heap.size + 1; omega)⟩ ((hS.F.set hlt _).congr (fun j _ => idTo_step k j))
      clear hS
      go_wp2
      go_roundw
      case rel => exact ⟨k + 1, by omega, by go_num, HS.out⟩
      case measure => simp [intOf]; omega
    · obtain rfl : k = 8 := by omega
      have S1 := hideP (show Fst w wr (pcellN (forest ts 0)) from ⟨hS.R, hS.F.congr (fun j hj => by simp [idTo, pcellN, forest, hj]), hS.B⟩)
      have T1 := hideP (HTab.out.below hS.B HTab.out.2)
      clear hS
      go_wp2_with fail
      refine (ties_two' K ts m _ T1.out hK hg hn hb hm).mono ?_
      rintro e w2 ⟨ao, cap, rfl, ho, hb2⟩
      have S2 := hideP (S1.out.next hb2)
      have hFlo : w.heap.size + 1 + 1 ≤ wr.heap.size := S1.out.F.2.2
      have HO := hideP ho
      obtain ⟨lo, hlo⟩ : ∃ lo, lo = wr.heap.size := ⟨_, rfl⟩
      obtain ⟨hi, hhi⟩ : ∃ hi, hi = w2.heap.size := ⟨_, rfl⟩
      rw [← hlo, ← hhi] at HO
      rw [← hlo] at hFlo
      have hi2 : hi ≤ w2.heap.size := by omega
      clear S1 T1 hb2 ho hlo hhi
      go_wp2
      go_loopw [17] (fun i wr => ∃ k : Nat, k ≤ ts.length ∧ i = .int .i64 k ∧ Fst w wr (pcellN (forest ts k)) ∧ OwnN wr lo hi ao ts.length (tcell ts) ∧ hi ≤ wr.heap.size)
        (fun i _ => ts.length - (intOf i).toNat)
      case atStart => exact ⟨0, Nat.zero_le _, rfl, S2.out, HO.out, hi2⟩
      case round =>
        obtain ⟨k, hk, rfl, hS, hO, hhz⟩ := hrel
        by_cases hlt : k < ts.length
        · obtain ⟨g, off, rfl, hgw, c0, c1⟩ := hO.ties (B := hi) (Nat.le_refl _) k hlt
          obtain ⟨q1, q2, q3⟩ := (hg k hlt).1
          obtain ⟨a, ha⟩ : ∃ a : Nat, tA ts k = (a : Int) := ⟨(tA ts k).toNat, by omega⟩
          obtain ⟨b, hb'⟩ : ∃ b : Nat, tB ts k = (b : Int) := ⟨(tB ts k).toNat, by omega⟩
          have HF : Hid (join (forest ts k) a b = forest ts (k + 1)) := by
            show join (forest ts k) a b = join (forest ts k) (tA ts k).toNat (tB ts k).toNat
            rw [ha, hb']; simp
          have ha8 : a < 8 := by omega
          have hb8 : b < 8 := by omega
          rw [ha] at c0
          rw [hb'] at c1
          have hk1 : (k : Int) < (ts.length : Int) := by omega
          have hgz : g < wr.heap.size := by omega
          have bo1 := below_one wr (.cells #[.int .i64 (a : Int), .int .i64 (b : Int)] 33)
          have S3 := hideP (hS.next bo1)
          have O3 := hideP (hO.next bo1)
          clear hS hO bo1 ha hb' q1 q2 q3
          go_wp2_with fail
          refine (join_any (w.heap.size + 1) (forest ts k) a b _ S3.out.F (forest_low ts k) ha8 hb8).mono ?_
          rintro e w3 ⟨rfl, hF3, ht3⟩
          rw [HF.out] at hF3
          have S4 := hideP (S3.out.turn ht3 hF3)
          have O4 := hideP (O3.out.aside ht3 (Or.inr hFlo))
          have hz3 : hi ≤ w3.heap.size := by have := ht3.size; simp at this; omega
          clear hF3 ht3 S3 O3
          go_wp2
          go_roundw
          case rel => exact ⟨k + 1, by omega, by go_num, S4.out, O4.out, hz3⟩
          case measure => simp [intOf]; omega
        · obtain rfl : k = ts.length := by omega
          obtain ⟨f, hf⟩ : ∃ f, f = forest ts ts.length := ⟨_, rfl⟩
          have HXX : Hid (forestV (forest ts ts.length) = .agg #[.int .i64 ((f 0 : Nat) : Int), .int .i64 ((f 1 : Nat) : Int), .int .i64 ((f 2 : Nat) : Int), .int .i64 ((f 3 : Nat) : Int), .int .i64 ((f 4 : Nat) : Int), .int .i64 ((f 5 : Nat) : Int), .int .i64 ((f 6 : Nat) : Int), .int .i64 ((f 7 : Nat) : Int)]) := by rw [← hf]; rfl
          rw [← hf] at hS
          clear hf
          have d0 : wr.cell? ⟨w.heap.size + 1, 0, none⟩ = some (.int .i64 ((f 0 : Nat) : Int)) := hS.F.1 0 (by omega)
          have d1 : wr.cell? ⟨w.heap.size + 1, 1, none⟩ = some (.int .i64 ((f 1 : Nat) : Int)) := hS.F.1 1 (by omega)
          have d2 : wr.cell? ⟨w.heap.size + 1, 2, none⟩ = some (.int .i64 ((f 2 : Nat) : Int)) := hS.F.1 2 (by omega)
          have d3 : wr.cell? ⟨w.heap.size + 1, 3, none⟩ = some (.int .i64 ((f 3 : Nat) : Int)) := hS.F.1 3 (by omega)
          have d4 : wr.cell? ⟨w.heap.size + 1, 4, none⟩ = some (.int .i64 ((f 4 : Nat) : Int)) := hS.F.1 4 (by omega)
          have d5 : wr.cell? ⟨w.heap.size + 1, 5, none⟩ = some (.int .i64 ((f 5 : Nat) : Int)) := hS.F.1 5 (by omega)
          have d6 : wr.cell? ⟨w.heap.size + 1, 6, none⟩ = some (.int .i64 ((f 6 : Nat) : Int)) := hS.F.1 6 (by omega)
          have d7 : wr.cell? ⟨w.heap.size + 1, 7, none⟩ = some (.int .i64 ((f 7 : Nat) : Int)) := hS.F.1 7 (by omega)
          have r0 : wr.cell? ⟨w.heap.size, 0, none⟩ = some (.int .i64 0) := hS.R.1 0 (by omega)
          have g0 := hS.R.2.1 0
          have r1 : wr.cell? ⟨w.heap.size, 1, none⟩ = some (.int .i64 0) := hS.R.1 1 (by omega)
          have g1 := hS.R.2.1 1
          have r2 : wr.cell? ⟨w.heap.size, 2, none⟩ = some (.int .i64 0) := hS.R.1 2 (by omega)
          have g2 := hS.R.2.1 2
          have r3 : wr.cell? ⟨w.heap.size, 3, none⟩ = some (.int .i64 0) := hS.R.1 3 (by omega)
          have g3 := hS.R.2.1 3
          have r4 : wr.cell? ⟨w.heap.size, 4, none⟩ = some (.int .i64 0) := hS.R.1 4 (by omega)
          have g4 := hS.R.2.1 4
          have r5 : wr.cell? ⟨w.heap.size, 5, none⟩ = some (.int .i64 0) := hS.R.1 5 (by omega)
          have g5 := hS.R.2.1 5
          have r6 : wr.cell? ⟨w.heap.size, 6, none⟩ = some (.int .i64 0) := hS.R.1 6 (by omega)
          have g6 := hS.R.2.1 6
          have r7 : wr.cell? ⟨w.heap.size, 7, none⟩ = some (.int .i64 0) := hS.R.1 7 (by omega)
          have g7 := hS.R.2.1 7
          have HB := hideP hS.B
          clear hS hO
          go_wp2
          refine bodyPost_ret (v := .agg #[.int .i64 ((f 0 : Nat) : Int), .int .i64 ((f 1 : Nat) : Int), .int .i64 ((f 2 : Nat) : Int), .int .i64 ((f 3 : Nat) : Int), .int .i64 ((f 4 : Nat) : Int), .int .i64 ((f 5 : Nat) : Int), .int .i64 ((f 6 : Nat) : Int), .int .i64 ((f 7 : Nat) : Int)]) ?_ rfl ⟨by rw [HXX.out], ?_⟩
          · simp [results, Tryd.results32, go_sem, r0, r1, r2, r3, r4, r5, r6, r7]
          · exact ((((((((HB.out.setCell (p := ⟨w.heap.size, 0, none⟩) (Nat.le_refl _) _).setCell (p := ⟨w.heap.size, 1, none⟩) (Nat.le_refl _) _).setCell (p := ⟨w.heap.size, 2, none⟩) (Nat.le_refl _) _).setCell (p := ⟨w.heap.size, 3, none⟩) (Nat.le_refl _) _).setCell (p := ⟨w.heap.size, 4, none⟩) (Nat.le_refl _) _).setCell (p := ⟨w.heap.size, 5, none⟩) (Nat.le_refl _) _).setCell (p := ⟨w.heap.size, 6, none⟩) (Nat.le_refl _) _).setCell (p := ⟨w.heap.size, 7, none⟩) (Nat.le_refl _) _)

end Go.Proofs.YtdocfmhpafghgaaDoor
