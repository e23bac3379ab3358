/- Walks of impl.WayCount, spec.WayCount. -/
import Derived.Test.YtdocfmhpafghgaaDoorWParts2
namespace Go.Proofs.YtdocfmhpafghgaaDoor
open Go.RowKit
set_option linter.unusedVariables false

def cnt (ts : List (Int × Int)) : Nat → Nat
  | 0 => 0
  | n + 1 => cnt ts n + if topN ts n = n then 1 else 0
theorem cnt_yes {ts : List (Int × Int)} {n : Nat} (h : topN ts n = n) : cnt ts (n + 1) = cnt ts n + 1 := by simp [cnt, h]
theorem cnt_no {ts : List (Int × Int)} {n : Nat} (h : ¬ topN ts n = n) : cnt ts (n + 1) = cnt ts n := by simp [cnt, h]
theorem cnt_le (ts : List (Int × Int)) : ∀ n, cnt ts n ≤ n := by
  intro n
  induction n with
  | zero => exact Nat.le_refl _
  | succ n ih => simp only [cnt]; split <;> omega
def countV (K : Int) (ts : List (Int × Int)) : Int := if okB K ts = true then (cnt ts K.toNat : Int) else -1
theorem OwnR.at {w : World} {lo hi n : Nat} {ao : Option Addr} {f : Nat → Value} (h : OwnR w lo hi ao n f) {j : Nat} (hj : j < n) : ∃ g, ao = some ⟨g, 0, none⟩ ∧ w.cell? ⟨g, j, none⟩ = some (f j) := by
  rcases h with ⟨h0, _⟩ | ⟨g, e, _, _, ho⟩
  · omega
  · exact ⟨g, e, ho.1 j hj⟩
theorem netOk_v (v : Bool) (K : Int) (ao : Option Addr) (cap : Nat) (ts : List (Int × Int)) (w : World) (hn : ts.length ≤ 1099511627776) (ht : TiesIn w w.heap.size ao ts) (h : okB K ts = v) :
    Calls Tryd.prog 37 #[.agg #[.int .i64 K, .slice ao ts.length cap]] w fun e w' => e = .returned (.bool v) ∧ Below w.heap.size w w' := by
  rw [← h]; exact netOk_any K ao cap ts w hn ht

set_option maxHeartbeats 800000 in
theorem implCount_any (K : Int) (ao : Option Addr) (cap : Nat) (ts : List (Int × Int)) (w : World) (hn : ts.length ≤ 1099511627776) (ht : TiesIn w w.heap.size ao ts) (hT : Tab w) :
    Calls Tryd.prog 18 #[.agg #[.int .i64 K, .slice ao ts.length cap]] w fun e w' => e = .returned (.int .i64 (countV K ts)) ∧ Below w.heap.size w w' := by
  have X0 := fun (t : TypeId) => Bx.start w K (.slice ao ts.length cap) t
  have HX0 := hideP X0
  have HT := hideP ht
  have HTab := hideP hT
  clear X0 ht hT
  cases hok : okB K ts
  · have HV : Hid (countV K ts = -1) := by show countV K ts = -1; simp [countV, hok]
    have HOK := hideP hok
    clear hok
    go_enter Tryd.func18, Tryd.ntmps18
    go_wp2_with fail
    refine (netOk_v false K ao cap ts _ hn ((HT.out.below (HX0.out _).B (Nat.le_refl _)).wide (Nat.le_of_lt (HX0.out _).lt)) HOK.out).mono ?_
    rintro e w1 ⟨rfl, hb1⟩
    have HB := hideP ((HX0.out _).next hb1).B
    clear hb1
    go_wp2
    go_ret
    exact ⟨by rw [HV.out]; rfl, HB.out⟩
  have hnet := okB_iff.1 hok
  have HOK := hideP hok
  have HV : Hid (countV K ts = (cnt ts K.toNat : Int)) := by show countV K ts = _; simp [countV, hok]
  have HPN : Hid (partN K ts = K.toNat) := by show partN K ts = _; simp [partN, hok]
  obtain ⟨Kn, hKn⟩ : ∃ n : Nat, K = (n : Int) := ⟨K.toNat, by have := hnet.1; omega⟩
  subst hKn
  have hK8 : Kn ≤ 8 := by have := hnet.2.1; omega
  clear hok hnet
  go_enter Tryd.func18, Tryd.ntmps18
  go_wp2_with fail
  refine (netOk_v true _ ao cap ts _ hn ((HT.out.below (HX0.out _).B (Nat.le_refl _)).wide (Nat.le_of_lt (HX0.out _).lt)) HOK.out).mono ?_
  rintro e w1 ⟨rfl, hb1⟩
  have X1 := hideP ((HX0.out _).next hb1)
  have T1 := hideP ((HT.out.below X1.out.B (Nat.le_refl _)).wide (Nat.le_of_lt X1.out.lt))
  have TB1 := hideP (HTab.out.below X1.out.B HTab.out.2)
  have c0 := X1.out.c0
  have c1 := X1.out.c1
  clear hb1
  go_wp2_with fail
  refine (implParts_any _ ao cap ts _ hn T1.out TB1.out).mono ?_
  rw [HPN.out]
  simp only [Int.toNat_natCast]
  rintro e w2 ⟨ao2, cap2, rfl, ho2, hb2⟩
  have O2 := hideP ho2
  have B2 := hideP (X1.out.next hb2).B
  clear hb2 ho2 c0 c1
  go_wp2
  go_loopw [3, 12] (fun c i wr => ∃ k : Nat, k ≤ Kn ∧ i = .int .i64 k ∧ c = .int .i64 ((cnt ts k : Nat) : Int) ∧ wr = w2)
    (fun _ i _ => Kn - (intOf i).toNat)
  case atStart => exact ⟨0, Nat.zero_le _, rfl, rfl, rfl⟩
  case round =>
    obtain ⟨k, hk, rfl, rfl, rfl⟩ := hrel
    by_cases hlt : k < Kn
    · obtain ⟨g, rfl, cg⟩ := O2.out.at hlt
      have hcl := cnt_le ts k
      have cg' : wr.cell? ⟨g, k, none⟩ = some (.int .i64 ((topN ts k : Nat) : Int)) := cg
      have hk0 : (0 : Int) ≤ (k : Int) := by omega
      have hk1 : (k : Int) < (Kn : Int) := by omega
      clear cg
      by_cases htk : topN ts k = k
      · have HC := hideP (cnt_yes htk)
        rw [htk] at cg'
        clear htk
        go_wp2
        go_roundw
        case rel => exact ⟨k + 1, by omega, by go_num, by rw [HC.out]; go_num, trivial⟩
        case measure => simp [intOf]; omega
      · have HC := hideP (cnt_no htk)
        obtain ⟨t, ht⟩ : ∃ t, t = topN ts k := ⟨_, rfl⟩
        rw [← ht] at cg' htk
        have hne : ((k : Int) == (t : Int)) = false := by simp; omega
        clear ht htk
        go_wp2
        go_roundw
        case rel => exact ⟨k + 1, by omega, by go_num, by rw [HC.out], trivial⟩
        case measure => simp [intOf]; omega
    · obtain rfl : k = Kn := by omega
      go_wp2
      go_ret
      exact ⟨by rw [HV.out]; rfl, B2.out⟩

set_option maxHeartbeats 800000 in
theorem specCount_any (K : Int) (ao : Option Addr) (cap : Nat) (ts : List (Int × Int)) (w : World) (hn : ts.length ≤ 1099511627776) (ht : TiesIn w w.heap.size ao ts) :
    Calls Tryd.prog 19 #[.agg #[.int .i64 K, .slice ao ts.length cap]] w fun e w' => e = .returned (.int .i64 (countV K ts)) ∧ Below w.heap.size w w' := by
  have X0 := fun (t : TypeId) => Bx.start w K (.slice ao ts.length cap) t
  have HX0 := hideP X0
  have HT := hideP ht
  clear X0 ht
  cases hok : okB K ts
  · have HV : Hid (countV K ts = -1) := by show countV K ts = -1; simp [countV, hok]
    have HOK := hideP hok
    clear hok
    go_enter Tryd.func19, Tryd.ntmps19
    go_wp2_with fail
    refine (specOk_is false K ao cap ts _ hn ((HT.out.below (HX0.out _).B (Nat.le_refl _)).wide (Nat.le_of_lt (HX0.out _).lt)) HOK.out).mono ?_
    rintro e w1 ⟨rfl, hb1⟩
    have HB := hideP ((HX0.out _).next hb1).B
    clear hb1
    go_wp2
    go_ret
    exact ⟨by rw [HV.out]; rfl, HB.out⟩
  have hnet := okB_iff.1 hok
  have HOK := hideP hok
  have HV : Hid (countV K ts = (cnt ts K.toNat : Int)) := by show countV K ts = _; simp [countV, hok]
  have HPN : Hid (partN K ts = K.toNat) := by show partN K ts = _; simp [partN, hok]
  obtain ⟨Kn, hKn⟩ : ∃ n : Nat, K = (n : Int) := ⟨K.toNat, by have := hnet.1; omega⟩
  subst hKn
  have hK8 : Kn ≤ 8 := by have := hnet.2.1; omega
  clear hok hnet
  go_enter Tryd.func19, Tryd.ntmps19
  go_wp2_with fail
  refine (specOk_is true _ ao cap ts _ hn ((HT.out.below (HX0.out _).B (Nat.le_refl _)).wide (Nat.le_of_lt (HX0.out _).lt)) HOK.out).mono ?_
  rintro e w1 ⟨rfl, hb1⟩
  have X1 := hideP ((HX0.out _).next hb1)
  have T1 := hideP ((HT.out.below X1.out.B (Nat.le_refl _)).wide (Nat.le_of_lt X1.out.lt))
  have c0 := X1.out.c0
  have c1 := X1.out.c1
  clear hb1
  go_wp2_with fail
  refine (specParts_any _ ao cap ts _ hn T1.out).mono ?_
  rw [HPN.out]
  simp only [Int.toNat_natCast]
  rintro e w2 ⟨g, off, cap2, rfl, ho2, hb2⟩
  have O2 := hideP ho2
  have B2 := hideP (X1.out.next hb2).B
  clear hb2 ho2 c0 c1
  go_wp2
  go_loopw [4, 5] (fun c i wr => ∃ k : Nat, k ≤ Kn ∧ i = .int .i64 k ∧ c = .int .i64 ((cnt ts k : Nat) : Int) ∧ wr = w2)
    (fun _ i _ => Kn - (intOf i).toNat)
  case atStart => exact ⟨0, Nat.zero_le _, rfl, rfl, rfl⟩
  case round =>
    obtain ⟨k, hk, rfl, rfl, rfl⟩ := hrel
    by_cases hlt : k < Kn
    · have cg' : wr.cell? ⟨g, off + k, none⟩ = some (.int .i64 ((topN ts k : Nat) : Int)) := by
        rw [O2.out.cells k (by simpa using hlt)]
        simp [ncell, hlt]
      have hcl := cnt_le ts k
      have hk0 : (0 : Int) ≤ (k : Int) := by omega
      have hk1 : (k : Int) < (Kn : Int) := by omega
      by_cases htk : topN ts k = k
      · have HC := hideP (cnt_yes htk)
        rw [htk] at cg'
        clear htk
        go_wp2
        go_roundw
        case rel => exact ⟨k + 1, by omega, by go_num, by rw [HC.out]; go_num, trivial⟩
        case measure => simp [intOf]; omega
      · have HC := hideP (cnt_no htk)
        obtain ⟨t, ht⟩ : ∃ t, t = topN ts k := ⟨_, rfl⟩
        rw [← ht] at cg' htk
        have hne : ((t : Int) == (k : Int)) = false := by simp; omega
        clear ht htk
        go_wp2
        go_roundw
        case rel => exact ⟨k + 1, by omega, by go_num, by rw [HC.out], trivial⟩
        case measure => simp [intOf]; omega
    · obtain rfl : k = Kn := by omega
      go_wp2
      go_ret
      exact ⟨by rw [HV.out]; rfl, B2.out⟩

end Go.Proofs.YtdocfmhpafghgaaDoor
