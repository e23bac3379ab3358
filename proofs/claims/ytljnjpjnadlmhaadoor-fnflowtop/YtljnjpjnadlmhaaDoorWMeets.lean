/- Walk of impl.flow.meets. -/
import Derived.Test.YtljnjpjnadlmhaaDoorPartWFull
namespace Go.Proofs.YtljnjpjnadlmhaaDoor
open Go.RowKit
set_option linter.unusedVariables false

/-- what goes over a way's k-th step -/
def overP (F : Nat → Nat → Int) (p : List Nat) (k : Nat) : Int := F (min (p.getD (k - 1) 0) (p.getD k 0)) (max (p.getD (k - 1) 0) (p.getD k 0))
/-- something goes over a tie of a way -/
def metB (F : Nat → Nat → Int) (p : List Nat) : Bool := (List.range p.length).any fun k => decide (1 ≤ k) && decide (overP F p k ≠ 0)
theorem met_at {F : Nat → Nat → Int} {p : List Nat} {k : Nat} (h1 : 1 ≤ k) (hk : k < p.length) (h : overP F p k ≠ 0) : metB F p = true := by
  unfold metB
  rw [List.any_eq_true]
  exact ⟨k, List.mem_range.2 hk, by rw [decide_eq_true h1, decide_eq_true h]; rfl⟩
theorem met_no {F : Nat → Nat → Int} {p : List Nat} (h : ∀ k, 1 ≤ k → k < p.length → overP F p k = 0) : metB F p = false := by
  unfold metB
  rw [List.any_eq_false]
  intro k hk
  by_cases h1 : 1 ≤ k
  · rw [h k h1 (List.mem_range.1 hk)]; simp
  · rw [decide_eq_false h1]; simp
set_option maxRecDepth 100000 in
set_option maxHeartbeats 1600000 in
theorem meets_any (B n : Nat) (F : Nat → Nat → Int) (g off cap : Nat) (p : List Nat) (w : World) (hp8 : p.length ≤ 8) (hp0 : 0 < p.length) (hlt : ∀ z, z ∈ p → z < 8) (hnd : p.Nodup) (hg : g < w.heap.size)
    (hf : Fm w B n F) (hc : ∀ i, i < p.length → w.cell? ⟨g, off + i, none⟩ = some (.int .i64 ((p.getD i 0 : Nat) : Int))) :
    Calls Tryd.prog 23 #[.map (some B), .slice (some ⟨g, off, none⟩) p.length cap] w fun e w' => e = .returned (.bool (metB F p)) ∧ Below w.heap.size w w' := by
  have HC := hideP hc
  have HLT := hideP hlt
  have HND := hideP hnd
  have HF0 := hideP hf
  have hB := hf.lt
  obtain ⟨r, hr⟩ : ∃ r, metB F p = r := ⟨_, rfl⟩
  have HR := hideP hr
  rw [hr]
  clear hf hc hlt hnd hr
  go_enter Tryd.func23, Tryd.ntmps23
  go_wp2
  go_loopw [5] (fun i wr => ∃ k : Nat, 1 ≤ k ∧ k ≤ p.length ∧ i = .int .i64 (k : Int) ∧ (∀ j, 1 ≤ j → j < k → overP F p j = 0) ∧ Below w.heap.size w wr)
    (fun i _ => p.length - (intOf i).toNat)
  case atStart => exact ⟨1, Nat.le_refl _, hp0, rfl, fun j h1 h2 => by omega, Below.refl _ _⟩
  case round =>
    obtain ⟨k, hk1, hk, rfl, hP, hBr⟩ := hrel
    have HP := hideP hP
    have HBr := hideP hBr
    have HF := hideP (HF0.out.below hBr hB)
    clear hP hBr
    by_cases hlt : k < p.length
    · obtain ⟨x, hx⟩ : ∃ x, x = p.getD (k - 1) 0 := ⟨_, rfl⟩
      obtain ⟨y, hy⟩ : ∃ y, y = p.getD k 0 := ⟨_, rfl⟩
      obtain ⟨j, hj⟩ : ∃ j, j = k - 1 := ⟨k - 1, rfl⟩
      have hov : overP F p k = F (min x y) (max x y) := by unfold overP; rw [← hx, ← hy]
      rw [← hj] at hx
      have hjk : k = j + 1 := by omega
      have e0 : wr.cell? ⟨g, off + j, none⟩ = some (.int .i64 (x : Int)) := by rw [hx, HBr.out.cell (p := ⟨g, off + j, none⟩) hg]; exact HC.out j (by omega)
      have e1 : wr.cell? ⟨g, off + k, none⟩ = some (.int .i64 (y : Int)) := by rw [hy, HBr.out.cell (p := ⟨g, off + k, none⟩) hg]; exact HC.out k hlt
      have hgr : g < wr.heap.size := Nat.lt_of_lt_of_le hg HBr.out.size
      have hBrr : B < wr.heap.size := Nat.lt_of_lt_of_le hB HBr.out.size
      have hx8 : x < 8 := by rw [hx, List.getD_eq_getElem?_getD, List.getElem?_eq_getElem (by omega)]; exact HLT.out _ (List.getElem_mem _)
      have hy8 : y < 8 := by rw [hy, List.getD_eq_getElem?_getD, List.getElem?_eq_getElem hlt]; exact HLT.out _ (List.getElem_mem _)
      have hxy : x ≠ y := by
        rw [hx, hy, List.getD_eq_getElem?_getD, List.getD_eq_getElem?_getD, List.getElem?_eq_getElem (show j < p.length by omega), List.getElem?_eq_getElem hlt]
        exact List.pairwise_iff_getElem.1 HND.out j k (by omega) hlt (by omega)
      obtain ⟨c, hcc⟩ : ∃ c, c = F (min x y) (max x y) := ⟨_, rfl⟩
      have L0 := hideP ((HF.out.below (Below.refl wr.heap.size wr).drew hBrr).look hx8 hy8 hxy)
      have L1 := hideP (fun W (hb : Below wr.heap.size wr W) => (HF.out.below hb hBrr).look hx8 hy8 hxy)
      rw [← hcc] at L0 L1 hov
      have HOV := hideP hov
      have i0 : (0 : Int) ≤ (j : Int) := by omega
      have i1 : (j : Int) < (p.length : Int) := by omega
      have i2 : (0 : Int) ≤ (k : Int) := by omega
      have i3 : (k : Int) < (p.length : Int) := by omega
      have i4 : IntKind.i64.wrap ((k : Int) - 1) = (j : Int) := by
        rw [show (k : Int) - 1 = (j : Int) by omega]
        rw [IntKind.wrap_i64]; omega
      have HE : Hid (∀ W, Below wr.heap.size wr W → W.cell? ⟨g, off + j, none⟩ = some (.int .i64 (x : Int)) ∧ W.cell? ⟨g, off + k, none⟩ = some (.int .i64 (y : Int)) ∧ (Instr.lookup 51 (.map (some B)) (.agg #[.int .i64 (min (x : Int) (y : Int)), .int .i64 (max (x : Int) (y : Int))]) false).run Tryd.prog W = .ok (.int .i64 c) W) := hideP (fun W hb => ⟨(hb.cell (p := ⟨g, off + j, none⟩) hgr).trans e0, (hb.cell (p := ⟨g, off + k, none⟩) hgr).trans e1, L1.out W hb⟩)
      have b0 : Below wr.heap.size wr wr.drew := (Below.refl _ _).drew
      clear hx hy hj hjk hov hcc hx8 hy8 hxy HF e0 e1 L0 L1 HLT HND HC
      go_wp2
      go_region_held3 (fun w' => w'.cell? ⟨g, off + j, none⟩ = some (.int .i64 (x : Int)) ∧ w'.cell? ⟨g, off + k, none⟩ = some (.int .i64 (y : Int)) ∧ (Instr.lookup 51 (.map (some B)) (.agg #[.int .i64 (min (x : Int) (y : Int)), .int .i64 (max (x : Int) (y : Int))]) false).run Tryd.prog w' = .ok (.int .i64 c) w') (first | exact HE.out _ b1 | exact HE.out _ b0) (first | (go_at_call 47; refine (tieOf_any _ _ _).mono ?_; rintro e w1 ⟨rfl, bz⟩; have b1 : Below wr.heap.size wr w1 := b0.trans bz))
      have B1 := hideP (HBr.out.trans (b1.mono HBr.out.size))
      clear b1 b0 HE
      by_cases hc0 : c = 0
      · have hcb : (c != 0) = false := by simp [hc0]
        have HP2 : Hid (∀ j, 1 ≤ j → j < k + 1 → overP F p j = 0) := hideP (fun j h1 h2 => by
          rcases Nat.lt_or_ge j k with h | h
          · exact HP.out j h1 h
          · obtain rfl : j = k := by omega
            rw [HOV.out]; exact hc0)
        clear hc0 HOV HP
        go_wp2
        go_roundw
        case measure => (simp [intOf] <;> omega)
        case rel => exact ⟨k + 1, by omega, by omega, by go_num, HP2.out, B1.out⟩
      · have hcb : (c != 0) = true := by simp [hc0]
        have HN : Hid (r = true) := hideP (by rw [← HR.out]; exact met_at hk1 hlt (by rw [HOV.out]; exact hc0))
        clear hc0 HOV HP
        go_wp2
        go_ret
        exact ⟨by rw [HN.out]; rfl, B1.out⟩
    · obtain rfl : k = p.length := by omega
      have HN : Hid (r = false) := hideP (by rw [← HR.out]; exact met_no HP.out)
      clear HP HF
      go_wp2
      go_ret
      exact ⟨by rw [HN.out]; rfl, HBr.out⟩

end Go.Proofs.YtljnjpjnadlmhaaDoor
