/- Texts put together: WReach3, WLoLess. -/
import Derived.Test.YtljnjpjnadlmhaaDoorPartMathL
import Derived.Test.YtljnjpjnadlmhaaDoorPartMathT
import Derived.Test.YtljnjpjnadlmhaaDoorPartWLeaf
import Derived.Test.YtljnjpjnadlmhaaDoorPartWReach
import Derived.BigRegion
/- The answers of impl.WayReach, WayCount, as the laws ask them. -/
namespace Go.Proofs.YtljnjpjnadlmhaaDoor
open Go.RowKit
set_option linter.unusedVariables false

theorem countV_ok {K : Int} {ts : List (Int × Int)} (h : okB K ts = true) : countV K ts = (cnt ts K.toNat : Int) := by simp [countV, h]

end Go.Proofs.YtljnjpjnadlmhaaDoor

/- Walk of laws.loLess, where it answers no. -/
namespace Go.Proofs.YtljnjpjnadlmhaaDoor
open Go.RowKit
set_option linter.unusedVariables false

set_option maxHeartbeats 800000 in
theorem loLess_no (a1 a2 : Option Addr) (cap1 cap2 : Nat) (ts us : List (Int × Int)) (w : World) (hn : ts.length ≤ 1099511627776) (hn2 : us.length ≤ 1099511627776) (h1 : TiesIn w w.heap.size a1 ts) (h2 : TiesIn w w.heap.size a2 us) (hno : NoLess ts us) :
    Calls Tryd.prog 15 #[.slice a1 ts.length cap1, .slice a2 us.length cap2] w fun e w' => e = .returned (.bool false) ∧ Below w.heap.size w w' := by
  have HNO := hideP hno
  clear hno
  go_enter Tryd.func15, Tryd.ntmps15
  go_wp2
  go_loopw [5] (fun i wr => ∃ k : Nat, k ≤ ts.length ∧ i = .int .i64 k ∧ (∀ j, j < k → tA ts j = tA us j ∧ tB ts j = tB us j) ∧ Below w.heap.size w wr)
    (fun i _ => ts.length - (intOf i).toNat)
  case atStart => exact ⟨0, Nat.zero_le _, rfl, fun j hj => by omega, Below.refl _ _⟩
  case round =>
    obtain ⟨k, hk, rfl, hpre, hbel⟩ := hrel
    by_cases hlt : k < ts.length
    · by_cases hlt2 : k < us.length
      · obtain ⟨b, off, rfl, hbw, c0, c1⟩ := h1 k hlt
        obtain ⟨b2, off2, rfl, hbw2, e0, e1⟩ := h2 k hlt2
        have c0' : wr.cell? ⟨b, off + k * 2, none⟩ = some (.int .i64 (tA ts k)) := (hbel.cell (p := ⟨b, off + k * 2, none⟩) hbw).trans c0
        have c1' : wr.cell? ⟨b, off + k * 2 + 1, none⟩ = some (.int .i64 (tB ts k)) := (hbel.cell (p := ⟨b, off + k * 2 + 1, none⟩) hbw).trans c1
        have e0' : wr.cell? ⟨b2, off2 + k * 2, none⟩ = some (.int .i64 (tA us k)) := (hbel.cell (p := ⟨b2, off2 + k * 2, none⟩) hbw2).trans e0
        have e1' : wr.cell? ⟨b2, off2 + k * 2 + 1, none⟩ = some (.int .i64 (tB us k)) := (hbel.cell (p := ⟨b2, off2 + k * 2 + 1, none⟩) hbw2).trans e1
        have hk0 : (0 : Int) ≤ (k : Int) := by omega
        have hk1 : (k : Int) < (ts.length : Int) := by omega
        have hk2 : (k : Int) < (us.length : Int) := by omega
        clear c0 c1 e0 e1 h1 h2
        by_cases he : tA ts k = tA us k ∧ tB ts k = tB us k
        · have HN : Hid (∀ j, j < k + 1 → tA ts j = tA us j ∧ tB ts j = tB us j) := fun j hj => by
            by_cases hjk : j = k
            · subst hjk; exact he
            · exact hpre j (by omega)
          rw [← he.1] at e0'
          rw [← he.2] at e1'
          obtain ⟨x, hx⟩ : ∃ x, x = tA ts k := ⟨_, rfl⟩
          obtain ⟨y, hy⟩ : ∃ y, y = tB ts k := ⟨_, rfl⟩
          rw [← hx] at c0' e0'; rw [← hy] at c1' e1'
          clear he hpre hx hy
          go_wp2
          go_region
          go_wp2
          go_roundw
          case rel => exact ⟨k + 1, by omega, by go_num, HN.out, hbel.drew⟩
          case measure => simp [intOf]; omega
        · have hl := HNO.out k hlt hlt2 hpre he
          obtain ⟨x, hx⟩ : ∃ x, x = tA ts k := ⟨_, rfl⟩
          obtain ⟨y, hy⟩ : ∃ y, y = tB ts k := ⟨_, rfl⟩
          obtain ⟨x2, hx2⟩ : ∃ x, x = tA us k := ⟨_, rfl⟩
          obtain ⟨y2, hy2⟩ : ∃ y, y = tB us k := ⟨_, rfl⟩
          rw [← hx] at c0' he hl; rw [← hy] at c1' he hl
          rw [← hx2] at e0' he hl; rw [← hy2] at e1' he hl
          rw [← Bool.not_eq_true, lessB_iff] at hl
          clear hpre hx hy hx2 hy2
          by_cases hxx : x = x2
          · subst hxx
            have hyy : ¬ y = y2 := fun e => he ⟨rfl, e⟩
            have hyl : ¬ y < y2 := fun e => hl (Or.inr ⟨rfl, e⟩)
            clear he hl
            go_wp2
            go_region
            go_wp2
            go_region
            go_wp2
            go_ret
            exact ⟨congrArg (fun b => Ending.returned (Value.bool b)) (decide_eq_false (by omega)), hbel.drew.drew⟩
          · have hxl : ¬ x < x2 := fun e => hl (Or.inl e)
            have hne : Nonempty (Cls (Below wr.heap.size wr)) := ⟨⟨wr, Below.refl _ _⟩⟩
            have hbz : b < wr.heap.size := Nat.lt_of_lt_of_le hbw hbel.size
            have hbz2 : b2 < wr.heap.size := Nat.lt_of_lt_of_le hbw2 hbel.size
            have p0 : ∀ u : Cls (Below wr.heap.size wr), u.w.cell? ⟨b, off + k * 2, none⟩ = some (.int .i64 x) := fun u => (u.ok.cell (p := ⟨b, off + k * 2, none⟩) hbz).trans c0'
            have p1 : ∀ u : Cls (Below wr.heap.size wr), u.w.cell? ⟨b, off + k * 2 + 1, none⟩ = some (.int .i64 y) := fun u => (u.ok.cell (p := ⟨b, off + k * 2 + 1, none⟩) hbz).trans c1'
            have p2 : ∀ u : Cls (Below wr.heap.size wr), u.w.cell? ⟨b2, off2 + k * 2, none⟩ = some (.int .i64 x2) := fun u => (u.ok.cell (p := ⟨b2, off2 + k * 2, none⟩) hbz2).trans e0'
            have p3 : ∀ u : Cls (Below wr.heap.size wr), u.w.cell? ⟨b2, off2 + k * 2 + 1, none⟩ = some (.int .i64 y2) := fun u => (u.ok.cell (p := ⟨b2, off2 + k * 2 + 1, none⟩) hbz2).trans e1'
            have hxe : (x == x2) = false := by rw [beq_eq_false_iff_ne]; exact hxx
            have hxd : decide (x < x2) = false := decide_eq_false hxl
            clear he hl hxl
            go_wp2
            go_region
            go_wp2
            refine wp_region_cls (Below wr.heap.size wr) (by kernel_rfl) (by kernel_rfl) (Below.refl _ _).drew.drew ?_
            repeat (go_big_quiet_step (fail))
            refine wpQuiet_nil ?_
            intro wz hw'
            have hz : Below wr.heap.size wr wz := by obtain ⟨u, e⟩ := hw'; rw [e]; exact u.ok
            clear hw'
            have HBZ := hideP (hbel.trans (hz.mono hbel.size))
            clear hz p0 p1 p2 p3
            go_wp2
            go_ret
            exact ⟨rfl, HBZ.out⟩
      · have hk2 : ¬ ((k : Int) < (us.length : Int)) := by omega
        have hk1 : (k : Int) < (ts.length : Int) := by omega
        clear hpre h1 h2
        go_wp2
        go_ret
        exact ⟨rfl, hbel⟩
    · have hkn : k = ts.length := by omega
      subst hkn
      clear hpre h1 h2
      go_wp2
      go_ret
      exact ⟨rfl, hbel⟩

end Go.Proofs.YtljnjpjnadlmhaaDoor
