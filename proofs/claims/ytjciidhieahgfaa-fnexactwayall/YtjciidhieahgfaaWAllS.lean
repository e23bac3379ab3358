/- Walk of spec.WayAll: it is all ways, too. -/
import Derived.Test.YtjciidhieahgfaaWOnS2
import Derived.Test.YtjciidhieahgfaaWSpecOk
import Derived.Test.YtjciidhieahgfaaMathS
namespace Go.Proofs.Ytjciidhieahgfaa
open Go.RowKit
set_option linter.unusedVariables false

theorem Acc.new (w : World) : Acc (w.alloc (.cells #[] 26)) w.heap.size w.heap.size 0 [] (fun _ => 0) (fun _ => 0) :=
  ⟨by simpa [rowVs] using World.ownsRow_lit w #[] 0 (base := w.heap.size) (e := 26) (size := 1) (Nat.le_refl _) (by simp) rfl, ⟨fun i hi => absurd hi (by simp), fun i j _ hj => absurd hj (by simp)⟩⟩
theorem Acc.down {W : World} {lo lo' G C : Nat} {pre : List (List Nat)} {gs cs : Nat → Nat} (h : Acc W lo G C pre gs cs) (hl : lo' ≤ lo) : Acc W lo' G C pre gs cs := ⟨own_low h.out hl, ⟨fun i hi => own_low (h.row.row i hi) hl, h.row.ne⟩⟩
theorem one_row (w : World) (a : Nat) : (w.alloc (.cells #[.int .i64 (a : Int)] 3)).ownsRow w.heap.size 3 1 (.slice (some ⟨w.heap.size, 0, none⟩) 1 1) 1 (plist [a]) := by
  simpa [plist] using World.ownsRow_lit w #[.int .i64 (a : Int)] 1 (base := w.heap.size) (e := 3) (size := 1) (Nat.le_refl _) (by simp [maxLen]) rfl
/-- what stands while spec.WayAll goes through the sizes -/
structure Sst (w wr : World) (Kn : Nat) (nv : Value) (ps : List (List Nat)) (G C : Nat) (gs cs : Nat → Nat) : Prop where
  X : Bx w wr (Kn : Int) nv
  A : Acc wr (w.heap.size + 1) G C ps gs cs
theorem Sst.next {w wr w' : World} {Kn : Nat} {nv : Value} {ps : List (List Nat)} {G C : Nat} {gs cs : Nat → Nat} (h : Sst w wr Kn nv ps G C gs cs) (hb : Below wr.heap.size wr w') : Sst w w' Kn nv ps G C gs cs := ⟨h.X.next hb, h.A.kept hb⟩
theorem Sst.then {w wr w' : World} {Kn : Nat} {nv : Value} {ps ps' : List (List Nat)} {G C G2 C2 : Nat} {gs cs gs2 cs2 : Nat → Nat} (h : Sst w wr Kn nv ps G C gs cs) (hA : Acc w' (w.heap.size + 1) G2 C2 ps' gs2 cs2) (hg : wr.grownBy w' (some G)) : Sst w w' Kn nv ps' G2 C2 gs2 cs2 := by
  have hG := h.A.lt.1
  have hb : Below (w.heap.size + 1) wr w' := ⟨hg.os, hg.tape, hg.output, hg.size, fun k hk => hg.block k (by have := h.X.lt; omega) (by intro e; cases e; omega)⟩
  exact ⟨⟨(hb.cell (p := ⟨w.heap.size, 0, none⟩) (by show w.heap.size < w.heap.size + 1; omega)).trans h.X.c0, (hb.cell (p := ⟨w.heap.size, 1, none⟩) (by show w.heap.size < w.heap.size + 1; omega)).trans h.X.c1, Nat.lt_of_lt_of_le h.X.lt hb.size, h.X.B.trans (hb.mono (by omega))⟩, hA⟩

set_option maxHeartbeats 1600000 in
theorem specAll_no (K : Int) (ao : Option Addr) (cap : Nat) (ts : List (Int × Int)) (a b : Int) (w : World) (hn : ts.length ≤ 1099511627776) (ht : TiesIn w w.heap.size ao ts) (hno : (okB K ts && knotB a K && knotB b K) = false) :
    Calls Try.prog 14 #[.agg #[.int .i64 K, .slice ao ts.length cap], .int .i64 a, .int .i64 b] w fun e w' => ∃ G C gs cs, e = .returned (.slice (some ⟨G, 0, none⟩) 0 C) ∧ Acc w' w.heap.size G C [] gs cs ∧ Below w.heap.size w w' := by
  have X0 := fun (t u : TypeId) => (Bx.start w K (.slice ao ts.length cap) t).next (below_one _ (.cells #[] u))
  have R0 : ∀ t : TypeId, Acc ((w.alloc (.cells #[.int .i64 K, .slice ao ts.length cap] t)).alloc (.cells #[] 26)) (w.heap.size + 1) (w.heap.size + 1) 0 [] (fun _ => 0) (fun _ => 0) := fun t => by
    have h := Acc.new (w.alloc (.cells #[.int .i64 K, .slice ao ts.length cap] t))
    rw [World.size_alloc] at h
    exact h
  have HX0 := hideP X0
  have HR0 := hideP R0
  have HT := hideP ht
  clear X0 R0 ht
  cases h1 : (okB K ts && knotB a K)
  · have HV := hideP h1
    clear h1 hno
    go_enter Try.func14, Try.ntmps14
    go_wp2_with fail
    refine (l1Knot_v false K ao cap ts a _ hn ((HT.out.below (HX0.out _ _).B (Nat.le_refl _)).wide (Nat.le_of_lt (HX0.out _ _).lt)) HV.out).mono ?_
    rintro e w1 ⟨rfl, hb1⟩
    have X1 := hideP ((HX0.out _ _).next hb1)
    have R1 := hideP ((HR0.out _).kept hb1)
    clear hb1
    go_wp2
    go_ret
    exact ⟨_, _, _, _, rfl, R1.out.down (by omega), X1.out.B⟩
  · have HV := hideP h1
    have h2 : (okB K ts && knotB b K) = false := by
      rw [h1] at hno
      simp only [Bool.and_eq_true] at h1
      rw [h1.1]; simpa using hno
    have HV2 := hideP h2
    clear h1 hno h2
    go_enter Try.func14, Try.ntmps14
    go_wp2_with fail
    refine (l1Knot_v true K ao cap ts a _ hn ((HT.out.below (HX0.out _ _).B (Nat.le_refl _)).wide (Nat.le_of_lt (HX0.out _ _).lt)) HV.out).mono ?_
    rintro e w1 ⟨rfl, hb1⟩
    have X1 := hideP ((HX0.out _ _).next hb1)
    have R1 := hideP ((HR0.out _).kept hb1)
    clear hb1
    have c0 := X1.out.c0
    have c1 := X1.out.c1
    go_wp2_with fail
    refine (l1Knot_v false K ao cap ts b _ hn ((HT.out.below X1.out.B (Nat.le_refl _)).wide (Nat.le_of_lt X1.out.lt)) HV2.out).mono ?_
    rintro e w2 ⟨rfl, hb2⟩
    have X2 := hideP (X1.out.next hb2)
    have R2 := hideP (R1.out.kept hb2)
    clear hb2 c0 c1 X1 R1
    go_wp2
    go_ret
    exact ⟨_, _, _, _, rfl, R2.out.down (by omega), X2.out.B⟩

set_option maxHeartbeats 1600000 in
theorem specAll_ok (Kn : Nat) (ao : Option Addr) (cap : Nat) (ts : List (Int × Int)) (a b : Nat) (w : World) (hn : ts.length ≤ 1099511627776) (ht : TiesIn w w.heap.size ao ts) (hok : okB (Kn : Int) ts = true) (haK : a < Kn) (hbK : b < Kn) :
    Calls Try.prog 14 #[.agg #[.int .i64 (Kn : Int), .slice ao ts.length cap], .int .i64 (a : Int), .int .i64 (b : Int)] w fun e w' => ∃ G C gs cs, e = .returned (.slice (some ⟨G, 0, none⟩) (allTo (tieNB ts) a b Kn).length C) ∧ Acc w' w.heap.size G C (allTo (tieNB ts) a b Kn) gs cs ∧ Below w.heap.size w w' := by
  have hK8 : Kn ≤ 8 := by have := (okB_iff.1 hok).2.1; omega
  have h1 : (okB (Kn : Int) ts && knotB (a : Int) (Kn : Int)) = true := by rw [hok]; simp [knotB]; omega
  have h2 : (okB (Kn : Int) ts && knotB (b : Int) (Kn : Int)) = true := by rw [hok]; simp [knotB]; omega
  have HV := hideP h1
  have HV2 := hideP h2
  have HFW : Hid (∀ k, k < Kn → (allTo (tieNB ts) a b k).length + (onW (tieNB ts) b (k + 1) k [a]).length ≤ 20000000) := fun k hk => by
    have h3 := waysB_few (Kn : Int) ts (a : Int) (b : Int)
    rw [waysB_yes (by rw [hok]; simp [knotB]; omega)] at h3
    simp only [Int.toNat_natCast] at h3
    have h4 := (allTo_le (E := tieNB ts) (a := a) (b := b) (k := k + 1) (j := Kn) (by omega)).length_le
    rw [allTo_succ, List.length_append] at h4
    omega
  have X0 := fun (t u : TypeId) => (Bx.start w (Kn : Int) (.slice ao ts.length cap) t).next (below_one _ (.cells #[] u))
  have R0 : ∀ t : TypeId, Acc ((w.alloc (.cells #[.int .i64 (Kn : Int), .slice ao ts.length cap] t)).alloc (.cells #[] 26)) (w.heap.size + 1) (w.heap.size + 1) 0 [] (fun _ => 0) (fun _ => 0) := fun t => by
    have h := Acc.new (w.alloc (.cells #[.int .i64 (Kn : Int), .slice ao ts.length cap] t))
    rw [World.size_alloc] at h
    exact h
  have HX0 := hideP X0
  have HR0 := hideP R0
  have HT := hideP ht
  clear X0 R0 ht h1 h2
  go_enter Try.func14, Try.ntmps14
  go_wp2_with fail
  refine (l1Knot_v true _ ao cap ts _ _ hn ((HT.out.below (HX0.out _ _).B (Nat.le_refl _)).wide (Nat.le_of_lt (HX0.out _ _).lt)) HV.out).mono ?_
  rintro e w1 ⟨rfl, hb1⟩
  have X1 := hideP ((HX0.out _ _).next hb1)
  have R1 := hideP ((HR0.out _).kept hb1)
  clear hb1 HX0 HR0
  have c0 := X1.out.c0
  have c1 := X1.out.c1
  go_wp2_with fail
  refine (l1Knot_v true _ ao cap ts _ _ hn ((HT.out.below X1.out.B (Nat.le_refl _)).wide (Nat.le_of_lt X1.out.lt)) HV2.out).mono ?_
  rintro e w2 ⟨rfl, hb2⟩
  have S2 : Hid (Sst w w2 Kn (.slice ao ts.length cap) (allTo (tieNB ts) a b 0) (w.heap.size + 1) 0 (fun _ => 0) (fun _ => 0)) := ⟨X1.out.next hb2, R1.out.kept hb2⟩
  clear hb2 c0 c1 X1 R1
  go_wp2
  go_loopw [7, 8] (fun v i wr => ∃ (k G C : Nat) (gs cs : Nat → Nat), k ≤ Kn ∧ i = .int .i64 ((k : Int) + 1) ∧ v = .slice (some ⟨G, 0, none⟩) (allTo (tieNB ts) a b k).length C ∧ Sst w wr Kn (.slice ao ts.length cap) (allTo (tieNB ts) a b k) G C gs cs)
    (fun _ i _ => 9 - (intOf i).toNat)
  case atStart => exact ⟨0, w.heap.size + 1, 0, _, _, Nat.zero_le _, rfl, rfl, S2.out⟩
  case round =>
    clear S2
    obtain ⟨k, G, C, gs, cs, hk, rfl, rfl, hS⟩ := hrel
    have c0 := hS.X.c0
    have c1 := hS.X.c1
    have HS := hideP hS
    have nl := hS.X.lt
    clear hS
    by_cases hlt : k < Kn
    · have hk1 : (k : Int) + 1 ≤ (Kn : Int) := by omega
      have bo := below_one wr (.cells #[.int .i64 (a : Int)] 3)
      have S3 := hideP (HS.out.next bo)
      have T3 : Hid (TiesIn (wr.alloc (.cells #[.int .i64 (a : Int)] 3)) (w.heap.size + 1) ao ts) := (HT.out.below S3.out.X.B (Nat.le_refl _)).wide (by omega)
      have OC : Hid (Calls Try.prog 28 #[.agg #[.int .i64 (Kn : Int), .slice ao ts.length cap], .slice (some ⟨wr.heap.size, 0, none⟩) 1 1, .int .i64 (b : Int), .int .i64 ((k : Int) + 1), .slice (some ⟨G, 0, none⟩) (allTo (tieNB ts) a b k).length C] (wr.alloc (.cells #[.int .i64 (a : Int)] 3)) (OnPost (wr.alloc (.cells #[.int .i64 (a : Int)] 3)) (w.heap.size + 1) G (allTo (tieNB ts) a b (k + 1)))) := by
        rw [allTo_succ]
        exact hideP (on_any Kn ao cap ts hn hok b (k + 1) (w.heap.size + 1) (by omega) k [a] wr.heap.size wr.heap.size 1 G C (allTo (tieNB ts) a b k) gs cs _ (by simp; omega) (by simp) T3.out (one_row wr a) S3.out.A (by simp; omega) (HFW.out k hlt))
      obtain ⟨m, hm⟩ : ∃ m, m = (allTo (tieNB ts) a b k).length := ⟨_, rfl⟩
      rw [← hm] at OC ⊢
      clear bo hm HFW HS T3
      go_wp2_with fail
      refine OC.out.mono ?_
      rintro e w5 ⟨G2, C2, gs2, cs2, rfl, r1, r2, r3⟩
      have S5 := hideP (S3.out.then r1 r2)
      clear r1 r2 r3 S3 OC c0 c1
      obtain ⟨m2, hm2⟩ : ∃ m2, m2 = (allTo (tieNB ts) a b (k + 1)).length := ⟨_, rfl⟩
      have HM2 := hideP hm2
      rw [← hm2]
      clear hm2
      go_wp2
      go_roundw
      case rel => exact ⟨k + 1, G2, C2, gs2, cs2, by omega, by go_num, by rw [← HM2.out], S5.out⟩
      case measure => simp [intOf]; omega
    · obtain rfl : k = Kn := by omega
      have hk1 : ¬ ((k : Int) + 1 ≤ (k : Int)) := by omega
      obtain ⟨m, hm⟩ : ∃ m, m = (allTo (tieNB ts) a b k).length := ⟨_, rfl⟩
      have HMM := hideP hm
      rw [← hm]
      clear hm
      go_wp2
      go_ret
      exact ⟨G, C, (by rw [← HMM.out]; rfl), ⟨gs, cs, HS.out.A.down (by omega)⟩, HS.out.X.B⟩
/-- spec.WayAll is all ways -/
theorem specAll_any (K : Int) (ao : Option Addr) (cap : Nat) (ts : List (Int × Int)) (a b : Int) (w : World) (hn : ts.length ≤ 1099511627776) (ht : TiesIn w w.heap.size ao ts) :
    Calls Try.prog 14 #[.agg #[.int .i64 K, .slice ao ts.length cap], .int .i64 a, .int .i64 b] w fun e w' => ∃ G C gs cs, e = .returned (.slice (some ⟨G, 0, none⟩) (waysB K ts a b).length C) ∧ Acc w' w.heap.size G C (waysB K ts a b) gs cs ∧ Below w.heap.size w w' := by
  cases hc : (okB K ts && knotB a K && knotB b K)
  · rw [waysB_no hc]
    exact specAll_no K ao cap ts a b w hn ht hc
  · have hc' := hc
    simp only [Bool.and_eq_true] at hc'
    obtain ⟨⟨h1, h2⟩, h3⟩ := hc'
    have hK := (okB_iff.1 h1)
    have ha : 0 ≤ a ∧ a < K := by simpa [knotB] using h2
    have hb : 0 ≤ b ∧ b < K := by simpa [knotB] using h3
    obtain ⟨Kn, rfl⟩ : ∃ n : Nat, K = (n : Int) := ⟨K.toNat, by omega⟩
    obtain ⟨x, rfl⟩ : ∃ n : Nat, a = (n : Int) := ⟨a.toNat, by omega⟩
    obtain ⟨y, rfl⟩ : ∃ n : Nat, b = (n : Int) := ⟨b.toNat, by omega⟩
    have e := waysB_yes hc
    simp only [Int.toNat_natCast] at e
    rw [e]
    exact specAll_ok Kn ao cap ts x y w hn ht h1 (by omega) (by omega)

end Go.Proofs.Ytjciidhieahgfaa
