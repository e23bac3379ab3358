/- Walk of impl.bridgesOf: it is all bridges of a net. -/
import Derived.Test.YtadcfinjmialnaaDoorWDive3
namespace Go.Proofs.YtadcfinjmialnaaDoor
open Go.RowKit
set_option linter.unusedVariables false

/-- a dive under way that began in w -/
structure Dst (E : Nat → Nat → Prop) (w wr : World) (A s : Nat) (d : Dv) (mB : Nat) (v : Value) : Prop where
  M : Dm wr A s mB d v
  lt : mB < 2 ^ 64
  B : BrBits mB d.br
  I : Inv E d
  X : Aux d
  bel : Below w.heap.size w wr
theorem BitsOf.is {m : Nat} {us : List (Int × Int)} (h : BitsOf m us) : m = maskN us us.length := by
  apply Nat.eq_of_testBit_eq
  intro j
  rw [Bool.eq_iff_iff, h j, mask_bitsOf us j]
theorem Dst.answer {K : Int} {ts : List (Int × Int)} (hok : okB K ts = true) {w wr : World} {A s : Nat} {d : Dv} {mB : Nat} {v : Value} (h : Dst (EE ts) w wr A s d mB v) (hm : d.m = 0) (hall : ∀ x, x < 8 → 0 < d.tu x) : mB = setN K (brTs K ts) := by
  rw [setN_yes (brTs_ok hok)]
  exact (br_bits hok h.B (h.I.answer (EE.gr (okB_iff.1 hok)) hm hall)).is

def noDv : Dv := ⟨0, fun _ => 0, fun _ => 0, fun _ => 0, fun _ => 0, fun _ => 0, 0, fun _ _ => False, fun _ => 0⟩
theorem Dst.begin (E : Nat → Nat → Prop) (w : World) (s : Nat) : Dst E w (w.alloc (.cells #[.int .u64 (s : Int), .slice none 0 0, .int .i64 0, .int .i64 0, .int .i64 0, .int .i64 0, .int .i64 0, .int .i64 0, .int .i64 0, .int .i64 0, .int .i64 0, .int .u64 0] 84)) w.heap.size s noDv 0 (.slice none 0 0) := by
  refine ⟨⟨⟨fun j hj => ?_, fun j => by simp, by simp⟩, World.ownsRow_nil _ _ _ _⟩, by omega, BrBits.none, inv_begin _ (fun _ => rfl) _ _ _ _ _, Aux.begin _ (fun _ => rfl) _ _ _ _ _, below_one _ _⟩
  rw [World.cell?_alloc_at _ _ _ _ rfl]
  have : j = 0 ∨ j = 1 ∨ j = 2 ∨ j = 3 ∨ j = 4 ∨ j = 5 ∨ j = 6 ∨ j = 7 ∨ j = 8 ∨ j = 9 ∨ j = 10 ∨ j = 11 := by omega
  rcases this with rfl | rfl | rfl | rfl | rfl | rfl | rfl | rfl | rfl | rfl | rfl | rfl <;> rfl

theorem move_any (E : Nat → Nat → Prop) (G : Gr E) (A s mB : Nat) (d : Dv) (v : Value) (w : World) (hD : Dm w A s mB d v) (hmB : mB < 2 ^ 64) (hs : s < 2 ^ 64) (hE : ∀ x y : Nat, decide (s &&& pbit (x : Int) (y : Int) ≠ 0) = true ↔ E x y) (hb : BrBits mB d.br) (hI : Inv E d) (hX : Aux d) (hm : 0 < d.m) :
    Calls Tryd.prog 59 #[.pointer (some ⟨A, 0, none⟩)] w (Went E A s d w) := by
  obtain ⟨i, hi⟩ : ∃ i, d.m = i + 1 := ⟨d.m - 1, by omega⟩
  have hn8 := (hI.knk i (by omega)).2.2.2.1
  by_cases hn : d.nx i = 8
  · exact move_left E G A s mB d v w hD hmB hb hI hX i hi hn
  · exact move_on E G A s mB d v w hD hmB hs hE hb hI hX i hi (d.nx i) rfl (by omega)
theorem sm_le (nx : Nat → Nat) : ∀ m, sm nx m ≤ 9 * m := by
  intro m
  induction m with
  | zero => exact Nat.le_refl _
  | succ m ih => simp only [sm]; omega
theorem mu_le {d : Dv} (h : Aux d) : mu d ≤ 1000 := by
  have h1 := sm_le d.nx d.m
  have h2 := unm_le (vis d.tu) 8
  have h3 := h.mcn
  have h4 := h.sum
  unfold mu; omega
/-- going down from one knot -/
def Going (ts : List (Int × Int)) (w wr : World) (A s k gk : Nat) : Prop := ∃ d mB v, mu d ≤ gk ∧ Dst (EE ts) w wr A s d mB v ∧ ∀ x, x < k → 0 < d.tu x

set_option maxHeartbeats 1600000 in
theorem bridgesOf_any (K : Int) (ts : List (Int × Int)) (w : World) (hok : okB K ts = true) :
    Calls Tryd.prog 34 #[.int .u64 ((setN K ts : Nat) : Int)] w fun e w' => e = .returned (.int .u64 ((setN K (brTs K ts) : Nat) : Int)) ∧ Below w.heap.size w w' := by
  have HG := hideP (EE.gr (okB_iff.1 hok))
  have HE : Hid (∀ x y : Nat, decide (setN K ts &&& pbit (x : Int) (y : Int) ≠ 0) = true ↔ EE ts x y) := fun x y => by rw [has_set K ts _ _ hok, hasB_ok hok]; rfl
  have HS := hideP (setN_lt K ts)
  have HA := hideP (fun (wr : World) (A s : Nat) (d : Dv) (mB : Nat) (v : Value) (h : Dst (EE ts) w wr A s d mB v) => h.answer hok)
  obtain ⟨s, hs⟩ : ∃ s, s = setN K ts := ⟨_, rfl⟩
  obtain ⟨m', hm'⟩ : ∃ m', m' = setN K (brTs K ts) := ⟨_, rfl⟩
  rw [← hs] at HE HS ⊢
  rw [← hm'] at HA ⊢
  clear hs hm' hok
  go_enter Tryd.func34, Tryd.ntmps34
  have S0 := hideP (Dst.begin (EE ts) w s)
  go_wp2
  obtain ⟨A, hA⟩ : ∃ A, A = w.heap.size := ⟨_, rfl⟩
  rw [← hA] at S0 ⊢
  have hAw : w.heap.size ≤ A := by omega
  clear hA
  go_loopw [7] (fun i wr => ∃ k : Nat, k ≤ 8 ∧ i = .int .i64 k ∧ ∃ d mB v, Dst (EE ts) w wr A s d mB v ∧ d.m = 0 ∧ ∀ x, x < k → 0 < d.tu x)
    (fun i _ => 8 - (intOf i).toNat)
  case atStart => exact ⟨0, Nat.zero_le _, rfl, noDv, 0, _, S0.out, rfl, fun x hx => by omega⟩
  case round =>
    clear S0
    obtain ⟨k, hk, rfl, d, mB, v, hS, hm, hall⟩ := hrel
    by_cases hlt : k < 8
    · have hk8 : (k : Int) < 8 := by omega
      have hk0 : (0 : Int) ≤ (k : Int) := by omega
      have ct := hS.M.ct hlt
      have HST := hideP hS
      have HALL := hideP hall
      have hAz := hS.M.lt
      have hc8 : d.cn ≤ 8 := by have := hS.X.sum; omega
      clear hS hall
      by_cases htz : d.tu k = 0
      · rw [htz] at ct
        have ct' : wr.cell? ⟨A, 2 + k, none⟩ = some (.int .i64 0) := ct
        clear ct
        go_wp2_with fail
        refine (enter_any A s mB d v k k _ HST.out.M hlt hlt (by omega) hc8).mono ?_
        rintro e w1 ⟨rfl, v1, M1, b1⟩
        have D1 : Hid (Going ts w w1 A s (k + 1) 1000) := by
          refine ⟨d.push k k, mB, v1, mu_le (HST.out.X.push hlt htz), ⟨M1, HST.out.lt, HST.out.B, HST.out.I.pushRoot HG.out hm hlt htz, HST.out.X.push hlt htz, HST.out.bel.trans (b1.mono hAw)⟩, fun x hx => ?_⟩
          show 0 < upd d.tu k (d.cn + 1) x
          by_cases e : x = k
          · subst e; rw [upd_at]; omega
          · rw [upd_no _ _ e]; exact HALL.out x (by omega)
        clear M1 b1 HST HALL hc8 htz hm
        go_wp2
        go_loopg [] 1000 (fun gk wr => Going ts w wr A s (k + 1) gk)
        case atStart => exact D1.out
        case round =>
          clear D1
          obtain ⟨d, mB, v, hmu, hS, hall⟩ := hrel
          have hlen := hS.X.mcn
          have hsum := hS.X.sum
          have HST := hideP hS
          have HALL := hideP hall
          have c1 := hS.M.c1
          have hown := hS.M.own
          by_cases hm0 : d.m = 0
          · have F : Hid (∃ d mB v, Dst (EE ts) w wr A s d mB v ∧ d.m = 0 ∧ ∀ x, x < k + 1 → 0 < d.tu x) := ⟨d, mB, v, hS, hm0, hall⟩
            rw [hm0] at hown
            obtain ⟨so, cap, rfl⟩ := own_slice hown
            clear hS hall hown hsum hlen HST HALL hmu hm0
            go_wp2
            exact ⟨⟨k + 1, by omega, by go_num, F.out⟩, by simp [intOf]; omega⟩
          · have hmp : 0 < d.m := by omega
            obtain ⟨g, cap, rfl, _, _⟩ := hown.form hmp
            have hmi : (0 : Int) < (d.m : Int) := by omega
            have MV := hideP (move_any (EE ts) HG.out A s mB d _ wr hS.M hS.lt HS.out HE.out hS.B hS.I hS.X hmp)
            have hb := hS.bel
            clear hS hall hown
            go_wp2_with fail
            refine MV.out.mono ?_
            rintro e w2 ⟨rfl, d', mB', v', M', l', B', I', X', mu', t', b'⟩
            have F : Hid (Going ts w w2 A s (k + 1) (gk - 1)) := ⟨d', mB', v', by omega, ⟨M', l', B', I', X', hb.trans (b'.mono hAw)⟩, fun x hx => t' x (HALL.out x hx)⟩
            have hgk : 0 < gk := by omega
            clear M' l' B' I' X' t' b' mu' HST HALL MV c1 hb
            go_wp2
            go_roundg (gk - 1)
            case measure => omega
            case rel => exact F.out
      · have hne : ((d.tu k : Int) == 0) = false := by simp; omega
        have D1 : Hid (Going ts w wr A s (k + 1) 1000) := by
          refine ⟨d, mB, v, mu_le HST.out.X, HST.out, fun x hx => ?_⟩
          by_cases e : x = k
          · subst e; omega
          · exact HALL.out x (by omega)
        clear HST HALL hc8 htz hm
        go_wp2
        go_loopg [] 1000 (fun gk wr => Going ts w wr A s (k + 1) gk)
        case atStart => exact D1.out
        case round =>
          clear D1
          obtain ⟨d, mB, v, hmu, hS, hall⟩ := hrel
          have hlen := hS.X.mcn
          have hsum := hS.X.sum
          have HST := hideP hS
          have HALL := hideP hall
          have c1 := hS.M.c1
          have hown := hS.M.own
          by_cases hm0 : d.m = 0
          · have F : Hid (∃ d mB v, Dst (EE ts) w wr A s d mB v ∧ d.m = 0 ∧ ∀ x, x < k + 1 → 0 < d.tu x) := ⟨d, mB, v, hS, hm0, hall⟩
            rw [hm0] at hown
            obtain ⟨so, cap, rfl⟩ := own_slice hown
            clear hS hall hown hsum hlen HST HALL hmu hm0
            go_wp2
            exact ⟨⟨k + 1, by omega, by go_num, F.out⟩, by simp [intOf]; omega⟩
          · have hmp : 0 < d.m := by omega
            obtain ⟨g, cap, rfl, _, _⟩ := hown.form hmp
            have hmi : (0 : Int) < (d.m : Int) := by omega
            have MV := hideP (move_any (EE ts) HG.out A s mB d _ wr hS.M hS.lt HS.out HE.out hS.B hS.I hS.X hmp)
            have hb := hS.bel
            clear hS hall hown
            go_wp2_with fail
            refine MV.out.mono ?_
            rintro e w2 ⟨rfl, d', mB', v', M', l', B', I', X', mu', t', b'⟩
            have F : Hid (Going ts w w2 A s (k + 1) (gk - 1)) := ⟨d', mB', v', by omega, ⟨M', l', B', I', X', hb.trans (b'.mono hAw)⟩, fun x hx => t' x (HALL.out x hx)⟩
            have hgk : 0 < gk := by omega
            clear M' l' B' I' X' t' b' mu' HST HALL MV c1 hb
            go_wp2
            go_roundg (gk - 1)
            case measure => omega
            case rel => exact F.out
    · obtain rfl : k = 8 := by omega
      have HF : Hid (mB = m') := HA.out wr A s d mB v hS hm hall
      have HB := hideP hS.bel
      have cb := hS.M.cb
      clear hS hall hlt HA
      go_wp2
      go_ret
      exact ⟨by rw [← HF.out]; rfl, HB.out⟩

end Go.Proofs.YtadcfinjmialnaaDoor
