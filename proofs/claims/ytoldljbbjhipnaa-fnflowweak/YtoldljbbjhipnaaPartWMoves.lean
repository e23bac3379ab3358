/- Texts put together: WMoves, WBridge, WBridgeI. -/
import Derived.Test.YtoldljbbjhipnaaPartWRange
import Derived.Sort.LoopGhostIn
import Derived.RangeFuncBound
import Derived.RangeFuncLeaves
import Derived.Shelf.Abstract
import Derived.Shelf.RegionOpen
import Derived.Test.YtoldljbbjhipnaaPartWReach2
/- Walk of impl.dive.moves: it tells all moves of a dive. -/
namespace Go.Proofs.Ytoldljbbjhipnaa
open Go.RowKit
set_option linter.unusedVariables false
attribute [local go_sem] Oper.semAt_some

theorem own_cells {W : World} {A n : Nat} {f : Nat → Value} (h : OwnI W A (n + 1) f) : ∃ cs t fr, W.heap[A]? = some (Obj.cells cs t fr) := by
  have h0 := h.1 0 (by omega)
  unfold World.cell? at h0
  cases hb : W.heap[A]? with
  | none => simp [hb] at h0
  | some o => cases o <;> simp_all
/-- a move that is told: the dive ahead of it, and behind it -/
structure Mw where
  d : Dv
  x : Mv
  d' : Dv
def encM (m : Mw) : Array Value := #[mvV m.x.f m.x.t m.x.u m.x.l]
theorem sm_le (nx : Nat → Nat) : ∀ m, sm nx m ≤ 9 * m := by
  intro m
  induction m with
  | zero => exact Nat.le_refl _
  | succ m ih => simp only [sm]; omega
theorem mu_le {d : Dv} (h : Aux d) : mu d ≤ 1000 := by
  have h1 := sm_le d.nx d.m
  have h2 := unm_le (vis d.tu) 8
  have h3 := h.mcn
  have h4 := h.sum
  unfold mu; omega
def noDv : Dv := ⟨0, fun _ => 0, fun _ => 0, fun _ => 0, fun _ => 0, fun _ => 0, 0, fun _ _ => False, fun _ => 0⟩

theorem box_cell1 {wr : World} {B : Nat} {t : TypeId} {fr : Nat × Nat} {v0 : Value} (h : wr.heap[B]? = some (Obj.cells #[v0] t fr)) : wr.cell? ⟨B, 0, none⟩ = some v0 := by simp [World.cell?, h]
theorem mu_pos {d : Dv} (h : Aux d) (hm : 0 < d.m) (hn : d.nx (d.m - 1) ≤ 8) : 0 < mu d := by
  obtain ⟨i, hi⟩ : ∃ i, d.m = i + 1 := ⟨d.m - 1, by omega⟩
  rw [hi] at hn
  unfold mu
  rw [hi]
  show 0 < 10 * unm (vis d.tu) 8 + (sm d.nx i + (9 - d.nx i))
  simp at hn
  omega
end Go.Proofs.Ytoldljbbjhipnaa

/- Walk of impl.bridgesOf: it is all bridges of a net. -/
namespace Go.Proofs.Ytoldljbbjhipnaa
open Go.RowKit Go.Shelf
set_option linter.unusedVariables false
attribute [local go_sem] Oper.semAt_some

theorem cells_put {W : World} {k : Nat} {cs : Array Value} {t : TypeId} {fr : Nat × Nat} (hk : W.heap[k]? = some (Obj.cells cs t fr)) {l : Nat} {o : Obj} (o' : Obj) (hl : W.heap[l]? = some o) (ho : o.isCells = false) : (W.putObj l o').heap[k]? = some (Obj.cells cs t fr) :=
  (World.putObj_heap_other (fun e => by subst e; rw [hl] at hk; cases hk; cases ho)).trans hk
theorem BitsOf.is {m : Nat} {us : List (Int × Int)} (h : BitsOf m us) : m = maskN us us.length := by
  apply Nat.eq_of_testBit_eq
  intro j
  rw [Bool.eq_iff_iff, h j, mask_bitsOf us j]
/-- what bridgesOf has put together -/
def Jb (w : World) (Bb : Nat) (d : Dv) (W : World) : Prop := ∃ mB : Nat, mB < 2 ^ 64 ∧ BrBits mB d.br ∧ W.heap[Bb]? = some (Obj.cells #[.int .u64 (mB : Int)] 37 (0, 0)) ∧ Below w.heap.size w W
theorem Tr.br {E : Nat → Nat → Prop} {d d' : Dv} (t : Tr E d none d') : d'.br = d.br := by
  cases t <;> rfl
theorem Jb.tr {E : Nat → Nat → Prop} {w W : World} {Bb : Nat} {d d' : Dv} (t : Tr E d none d') (h : Jb w Bb d W) : Jb w Bb d' W := by
  obtain ⟨mB, h1, h2, h3, h4⟩ := h
  exact ⟨mB, h1, by rw [t.br]; exact h2, h3, h4⟩
theorem Jb.puts {w : World} {Bb B : Nat} (hB : w.heap.size ≤ B) (d : Dv) : Puts B (Jb w Bb d) := fun W l o o' hl0 hl ho ⟨mB, h1, h2, h3, h4⟩ =>
  ⟨mB, h1, h2, cells_put h3 o' hl ho, h4.trans ((Below.refl _ W).grown (grownBy_putObj' W l o') (by have := (Array.getElem?_eq_some_iff.1 hl).1; have := h4.size; omega) (fun k e => by cases e; omega))⟩

theorem leave_bits {mB : Nat} {d : Dv} {i : Nat} (hb : BrBits mB d.br) (hf : d.fr (i + 1) < 8) (hk : d.kn (i + 1) < 8) (hne : d.fr (i + 1) ≠ d.kn (i + 1)) : BrBits (if d.le (i + 1) = d.tu (d.kn (i + 1)) then mB ||| pbit (d.fr (i + 1) : Int) (d.kn (i + 1) : Int) else mB) (d.leave i).br := by
  by_cases h : d.le (i + 1) = d.tu (d.kn (i + 1))
  · rw [if_pos h]
    refine (hb.with hf hk hne).same (fun x y => ?_)
    exact ⟨fun q => q.elim Or.inl (fun q => Or.inr ⟨h, q⟩), fun q => q.elim Or.inl (fun q => Or.inr q.2)⟩
  · rw [if_neg h]
    refine hb.same (fun x y => ?_)
    exact ⟨Or.inl, fun q => q.elim id (fun q => absurd q.1 h)⟩
theorem wpIn_once {F : Fence} {n : Nat} {P : Program} {c : Code} {Q' : Exit → Act → World → Prop} {K : Act → World → Prop} {a : Act} {w : World} {aa : Act} {wz : World} (h : c.wpIn F n P (Exit.then (fun a' w' => a' = aa ∧ w' = wz) Q') a w) (hk : K aa wz) : c.wpIn F n P (Exit.then K Q') a w :=
  wpIn_mono h (fun e a' w' h => by
    cases e with
    | normal => obtain ⟨rfl, rfl⟩ := h; exact hk
    | _ => exact h)
theorem keeps_drew {W W' : World} (h : KeepsOthers W W') : KeepsOthers W W'.drew := ⟨h.size, h.same⟩
/-- what a move that is told means for the bridges -/
theorem Tr.told {E : Nat → Nat → Prop} (G : Gr E) {d d' : Dv} {x : Mv} (t : Tr E d (some x) d') (h : Inv E d) : x.t < 8 ∧ (x.u = false → d'.br = d.br) ∧ (x.u = true → ∀ mB, BrBits mB d.br → BrBits (if x.l = d'.tu x.t then mB ||| pbit (x.f : Int) (x.t : Int) else mB) d'.br) := by
  cases t with
  | down hi hn hx he hf ht => exact ⟨hx, fun _ => rfl, fun e => by cases e⟩
  | back hi hn hx he hf h0 ht => exact ⟨hx, fun _ => rfl, fun e => by cases e⟩
  | @up i hi hn =>
    have c := h.chain i (by omega)
    have p := h.knk i (by omega)
    have q := h.knk (i + 1) (by omega)
    have hne : d.fr (i + 1) ≠ d.kn (i + 1) := fun e => G.irr (d.kn i) (by have := c.2.1; rw [← e, c.1] at this; exact this)
    exact ⟨q.1, fun e => (by cases e), fun _ mB hb => leave_bits hb (by rw [c.1]; exact p.1) q.1 hne⟩
end Go.Proofs.Ytoldljbbjhipnaa

/- Walks of impl.BridgeList, impl.BridgeIs. -/
namespace Go.Proofs.Ytoldljbbjhipnaa
open Go.RowKit
set_option linter.unusedVariables false

/-- the net that is gone down through: this one, or, if it is not ok, one without ties -/
def okK (K : Int) (ts : List (Int × Int)) : Int := if okB K ts = true then K else 8
def okTs (K : Int) (ts : List (Int × Int)) : List (Int × Int) := if okB K ts = true then ts else []
theorem okK_no {K : Int} {ts : List (Int × Int)} (h : okB K ts = false) : okK K ts = 8 := if_neg (by simp [h])
theorem okTs_no {K : Int} {ts : List (Int × Int)} (h : okB K ts = false) : okTs K ts = [] := if_neg (by simp [h])
theorem okK_yes {K : Int} {ts : List (Int × Int)} (h : okB K ts = true) : okK K ts = K := if_pos h
theorem okTs_yes {K : Int} {ts : List (Int × Int)} (h : okB K ts = true) : okTs K ts = ts := if_pos h
theorem okTs_ok (K : Int) (ts : List (Int × Int)) : okB (okK K ts) (okTs K ts) = true := by
  cases h : okB K ts
  · rw [okK_no h, okTs_no h]; decide
  · rw [okK_yes h, okTs_yes h]; exact h
theorem okTs_set (K : Int) (ts : List (Int × Int)) : setN (okK K ts) (okTs K ts) = setN K ts := by
  cases h : okB K ts
  · rw [setN_no h, okK_no h, okTs_no h]; decide
  · rw [okK_yes h, okTs_yes h]
theorem okTs_br (K : Int) (ts : List (Int × Int)) : brTs (okK K ts) (okTs K ts) = brTs K ts := by
  cases h : okB K ts
  · rw [show brTs K ts = [] by simp [brTs, h], okK_no h, okTs_no h]; decide
  · rw [okK_yes h, okTs_yes h]
theorem brTs_okK (K : Int) (ts : List (Int × Int)) : okB (okK K ts) (brTs K ts) = true := by
  rw [← okTs_br]; exact brTs_ok (okTs_ok K ts)
theorem br_has (K : Int) (ts : List (Int × Int)) (a b : Int) : decide (setN (okK K ts) (brTs K ts) &&& pbit a b ≠ 0) = bridgeB K ts a b := by
  rw [has_set _ _ _ _ (brTs_okK K ts)]
  cases h : okB K ts
  · rw [show brTs K ts = [] by simp [brTs, h], show bridgeB K ts a b = false by simp [bridgeB, hasB_no h]]
    rw [okK_no h, hasB_ok (by decide)]; rfl
  · rw [okK_yes h]; exact brTs_has h a b



end Go.Proofs.Ytoldljbbjhipnaa
