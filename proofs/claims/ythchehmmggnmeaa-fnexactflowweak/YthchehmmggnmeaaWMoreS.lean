/- What stands while spec.l21Flow.more goes: the flow's rows, from where one came, who waits. -/
import Derived.Test.YthchehmmggnmeaaPartMathFN
import Derived.Test.YthchehmmggnmeaaWMost
import Derived.Test.YthchehmmggnmeaaWRowZ
import Derived.Test.YthchehmmggnmeaaPartWRows
namespace Go.Proofs.Ythchehmmggnmeaa
open Go.RowKit
set_option linter.unusedVariables false

def zcellF (f : Nat → Int) (j : Nat) : Value := .int .i64 (f j)
/-- from where one came to each knot -/
structure Frm (w : World) (lo H o Kn : Nat) (fr : Nat → Int) : Prop where
  cells : ∀ j, j < Kn → w.cell? ⟨H, o + j, none⟩ = some (.int .i64 (fr j))
  fz : ∀ i, w.frozen? ⟨H, i, none⟩ = false
  lo : lo ≤ H
  lt : H < w.heap.size
theorem Frm.same {w w' : World} {lo H o Kn : Nat} {fr : Nat → Int} (h : Frm w lo H o Kn fr) (e : w'.heap[H]? = w.heap[H]?) (hs : w.heap.size ≤ w'.heap.size) : Frm w' lo H o Kn fr :=
  ⟨fun j hj => (World.cell?_of_block (a := ⟨H, o + j, none⟩) e).trans (h.cells j hj), fun i => (World.frozen?_of_block (a := ⟨H, i, none⟩) e).trans (h.fz i), h.lo, Nat.lt_of_lt_of_le h.lt hs⟩
theorem Frm.next {w w' : World} {lo H o Kn : Nat} {fr : Nat → Int} (h : Frm w lo H o Kn fr) (hb : Below w.heap.size w w') : Frm w' lo H o Kn fr := h.same (hb.block H h.lt) hb.size
theorem Frm.kept {w w' : World} {lo H o Kn : Nat} {fr : Nat → Int} {bad : Nat → Prop} (h : Frm w lo H o Kn fr) (k : Kp bad w w') (hb : ¬ bad H) : Frm w' lo H o Kn fr := h.same (k.block H h.lt hb) k.size
theorem Frm.set {w : World} {lo H o Kn : Nat} {fr : Nat → Int} (h : Frm w lo H o Kn fr) {k x : Nat} (hk : k < Kn) : Frm (w.setCell ⟨H, o + k, none⟩ (.int .i64 (x : Int))) lo H o Kn (setF fr k x) := by
  refine ⟨fun j hj => ?_, fun i => by rw [World.frozen?_setCell]; exact h.fz i, h.lo, by simpa using h.lt⟩
  unfold setF
  by_cases e : j = k
  · rw [if_pos e, e, World.cell?_setCell_same w ⟨H, o + k, none⟩ _ (h.cells k hk)]
  · rw [if_neg e, World.cell?_setCell_other _ _ _ _ (by simp; try omega)]; exact h.cells j hj
theorem Frm.ofZ {w : World} {lo H o cap Kn : Nat} {fr : Nat → Int} {xs : List Int} (h : RowZ w lo H o cap xs) (hl : xs.length = Kn) (he : ∀ j, j < Kn → xs.getD j 0 = fr j) : Frm w lo H o Kn fr :=
  ⟨fun j hj => (h.cells j (by omega)).trans (by rw [he j hj]; rfl), h.fr, h.lo, h.lt⟩

/-- the flow's rows -/
structure Gsr (w : World) (lo G Kn : Nat) (gs : Nat → Nat) (F : Nat → Nat → Int) : Prop where
  out : ∀ i, i < Kn → w.cell? ⟨G, i, none⟩ = some (.slice (some ⟨gs i, 0, none⟩) Kn Kn)
  row : ∀ i, i < Kn → OwnI w (gs i) Kn (zcellF (F i))
  ne : ∀ i j, i < Kn → j < Kn → i ≠ j → gs i ≠ gs j
  neG : ∀ i, i < Kn → gs i ≠ G
  los : ∀ i, i < Kn → lo ≤ gs i
  loG : lo ≤ G
  ltG : G < w.heap.size
theorem Gsr.kept {w w' : World} {lo G Kn : Nat} {gs : Nat → Nat} {F : Nat → Nat → Int} {bad : Nat → Prop} (h : Gsr w lo G Kn gs F) (k : Kp bad w w') (hG : ¬ bad G) (hr : ∀ i, i < Kn → ¬ bad (gs i)) : Gsr w' lo G Kn gs F :=
  ⟨fun i hi => (k.cell (p := ⟨G, i, none⟩) h.ltG hG).trans (h.out i hi), fun i hi => (h.row i hi).kept k (hr i hi), h.ne, h.neG, h.los, h.loG, Nat.lt_of_lt_of_le h.ltG k.size⟩
theorem Gsr.next {w w' : World} {lo G Kn : Nat} {gs : Nat → Nat} {F : Nat → Nat → Int} (h : Gsr w lo G Kn gs F) (hb : Below w.heap.size w w') : Gsr w' lo G Kn gs F :=
  h.kept (bad := fun _ => False) (Kp.ofB hb) (fun q => q) (fun _ _ q => q)
theorem Gsr.congr {w : World} {lo G Kn : Nat} {gs : Nat → Nat} {F F' : Nat → Nat → Int} (h : Gsr w lo G Kn gs F) (he : ∀ i j, i < Kn → j < Kn → F i j = F' i j) : Gsr w lo G Kn gs F' :=
  ⟨h.out, fun i hi => (h.row i hi).congr (fun j hj => by unfold zcellF; rw [he i j hi hj]), h.ne, h.neG, h.los, h.loG, h.ltG⟩
/-- one cell is written anew -/
theorem Gsr.put {w : World} {lo G Kn : Nat} {gs : Nat → Nat} {F : Nat → Nat → Int} (h : Gsr w lo G Kn gs F) {x y : Nat} (hx : x < Kn) (hy : y < Kn) (c : Int) : Gsr (w.setCell ⟨gs x, y, none⟩ (.int .i64 c)) lo G Kn gs (fun u v => if u = x ∧ v = y then c else F u v) := by
  have k : Kp (fun b => b = gs x) w (w.setCell ⟨gs x, y, none⟩ (.int .i64 c)) := Kp.set _ _ rfl
  refine ⟨fun i hi => (k.cell (p := ⟨G, i, none⟩) h.ltG (fun q => h.neG x hx q.symm)).trans (h.out i hi), fun i hi => ?_, h.ne, h.neG, h.los, h.loG, Nat.lt_of_lt_of_le h.ltG k.size⟩
  by_cases e : i = x
  · subst e
    refine ((h.row i hi).set hy (.int .i64 c)).congr (fun j hj => ?_)
    show (if j = y then Value.int .i64 c else zcellF (F i) j) = Value.int .i64 (if i = i ∧ j = y then c else F i j)
    by_cases e2 : j = y
    · rw [if_pos e2, if_pos ⟨rfl, e2⟩]
    · rw [if_neg e2, if_neg (fun q => e2 q.2)]; rfl
  · refine ((h.row i hi).kept k (h.ne i x hi hx e)).congr (fun j hj => ?_)
    show Value.int .i64 (F i j) = Value.int .i64 (if i = x ∧ j = y then c else F i j)
    rw [if_neg (fun q => e q.1)]

/-- what stands while one goes: from where one came, who waits -/
structure Mor (w wr : World) (Kn : Nat) (fr : Nat → Int) (H o : Nat) (row : List Nat) (g off cap : Nat) : Prop where
  B : Below w.heap.size w wr
  I : Frm wr w.heap.size H o Kn fr
  R : RowS wr (H + 1) g off cap row
theorem Mor.next {w wr w' : World} {Kn : Nat} {fr : Nat → Int} {H o : Nat} {row : List Nat} {g off cap : Nat} (h : Mor w wr Kn fr H o row g off cap) (hb : Below wr.heap.size wr w') : Mor w w' Kn fr H o row g off cap :=
  ⟨h.B.trans (hb.mono h.B.size), h.I.next hb, h.R.next hb⟩
theorem Mor.set {w wr : World} {Kn : Nat} {fr : Nat → Int} {H o : Nat} {row : List Nat} {g off cap : Nat} (h : Mor w wr Kn fr H o row g off cap) {k x : Nat} (hk : k < Kn) : Mor w (wr.setCell ⟨H, o + k, none⟩ (.int .i64 (x : Int))) Kn (setF fr k x) H o row g off cap :=
  have hlo := h.R.lo
  ⟨h.B.setCell (p := ⟨H, o + k, none⟩) h.I.lo _, h.I.set hk, h.R.same (Below.heap_setCell _ _ _ _ (by show g ≠ H; omega)) (by simp)⟩
def postV (Q : Exit → Act → World → Prop) (aa : Act) (J : World → Prop) : Exit → Act → World → Prop
  | .normal, a', w' => a' = aa ∧ J w'
  | e, a', w' => Q e a' w'
theorem wp_weakV {P : Program} {c : Code} {Q : Exit → Act → World → Prop} {a : Act} {w : World} {aa : Act} (J : World → Prop) (h : c.wp P (postV Q aa J) a w) (hk : ∀ w', J w' → Q .normal aa w') : c.wp P Q a w :=
  Code.wp_mono (fun e a' w' h => by
    cases e with
    | normal => obtain ⟨rfl, hj⟩ := h; exact hk _ hj
    | _ => exact h) h
theorem repl_snoc (k : Nat) (x : Int) : List.replicate (k + 1) x = List.replicate k x ++ [x] := List.replicate_succ'

end Go.Proofs.Ythchehmmggnmeaa
