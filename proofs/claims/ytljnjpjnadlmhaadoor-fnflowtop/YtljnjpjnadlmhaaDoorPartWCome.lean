/- Texts put together: WCome, WCan. -/
import Derived.Test.YtljnjpjnadlmhaaDoorPartWQueue
import Derived.Test.YtljnjpjnadlmhaaDoorPartMathFN
/- Walk of the closure come in impl.wayWhere: a way is put to those that wait, and its end is known. -/
namespace Go.Proofs.YtljnjpjnadlmhaaDoor
open Go.RowKit
set_option linter.unusedVariables false

/-- eight knots of an array: which are known -/
def KnA (w : World) (B : Nat) (M : Nat → Bool) : Prop := B < w.heap.size ∧ (∀ z, z < 8 → w.cell? ⟨B, z, none⟩ = some (.bool (M z))) ∧ ∀ i, w.frozen? ⟨B, i, none⟩ = false
theorem KnA.same {w w' : World} {B : Nat} {M : Nat → Bool} (h : KnA w B M) (e : w'.heap[B]? = w.heap[B]?) (hs : w.heap.size ≤ w'.heap.size) : KnA w' B M :=
  ⟨Nat.lt_of_lt_of_le h.1 hs, fun z hz => (World.cell?_of_block (a := ⟨B, z, none⟩) e).trans (h.2.1 z hz), fun i => (World.frozen?_of_block (a := ⟨B, i, none⟩) e).trans (h.2.2 i)⟩
theorem KnA.put {w : World} {B : Nat} {M : Nat → Bool} (h : KnA w B M) {k : Nat} (hk : k < 8) : KnA (w.setCell ⟨B, k, none⟩ (.bool true)) B (mark M k) := by
  refine ⟨by simp [World.setCell]; exact h.1, fun z hz => ?_, fun i => ?_⟩
  · unfold mark
    by_cases e : z = k
    · rw [if_pos e, e]; exact World.cell?_setCell_same' w ⟨B, k, none⟩ _ (by rw [h.2.1 k hk]; rfl)
    · rw [if_neg e, show (w.setCell ⟨B, k, none⟩ (.bool true)).cell? ⟨B, z, none⟩ = w.cell? ⟨B, z, none⟩ from World.cell?_setCell_other _ _ _ _ (fun q => e (by injection q with _ q; exact q.symm))]
      exact h.2.1 z hz
  · rw [World.frozen?_setCell]; exact h.2.2 i
theorem QRow.other_set {w : World} {lo : Nat} {v : Value} {ps : List (List Int)} (h : QRow w lo v ps) {p : Addr} {u : Value} (hn : v.ownBlock ≠ some p.block) : QRow (w.setCell p u) lo v ps := by
  rcases h with h | ⟨g, off, cap, e, h⟩
  · exact Or.inl h
  · refine Or.inr ⟨g, off, cap, e, h.same (Below.heap_setCell _ _ _ _ (fun q => hn ?_)) (by simp [World.setCell])⟩
    rw [e, ← q]; rfl
set_option maxHeartbeats 1600000 in
set_option maxRecDepth 100000 in
theorem come_any (A Q lo : Nat) (M : Nat → Bool) (v : Value) (ps : List (List Int)) (l : List Int) (k : Nat) (w : World) (hk : k < 8) (hl0 : 0 < l.length) (hl : l.length ≤ 8) (he : lastI l = (k : Int)) (hA : KnA w A M) (hAQ : A ≠ Q) (hvA : v.ownBlock ≠ some A)
    (hQ : Q < w.heap.size) (h : w.cell? ⟨Q, 0, none⟩ = some v) (hf : w.frozen? ⟨Q, 0, none⟩ = false) (hr : QRow w lo v ps) (hlo : lo ≤ w.heap.size) (hvQ : v.ownBlock ≠ some Q) (hshort : ps.length ≤ 1000) :
    Calls Tryd.prog 71 #[pathV l, .pointer (some ⟨A, 0, none⟩), .pointer (some ⟨Q, 0, none⟩)] w fun e w' => e = .returned (.tuple #[]) ∧ KnA w' A (mark M k) ∧ (∃ g' off' cap', w'.cell? ⟨Q, 0, none⟩ = some (.slice (some ⟨g', off', none⟩) (ps.length + 1) cap') ∧ RowP w' lo g' off' cap' (ps ++ [l]) ∧ g' ≠ Q ∧ g' ≠ A ∧ (v.ownBlock = some g' ∨ w.heap.size ≤ g')) ∧ Kp (fun b => b = Q ∨ b = A ∨ v.ownBlock = some b) w w' ∧ w'.frozen? ⟨Q, 0, none⟩ = false := by
  have E1 := hideP (fun W => end_path l W hl0 hl)
  have HA := hideP hA
  have HR := hideP hr
  have hAlt := hA.1
  rw [he] at E1
  have k0 : (0 : Int) ≤ (k : Int) := by omega
  have k1 : (k : Int) < 8 := by omega
  have HP := hideP (fun W v' (h1 : Q < W.heap.size) (h2 : W.cell? ⟨Q, 0, none⟩ = some v') (h3 : W.frozen? ⟨Q, 0, none⟩ = false) (h4 : QRow W lo v' ps) (h5 : lo ≤ W.heap.size) (h6 : v'.ownBlock ≠ some Q) => put_any Q lo v' ps l W h1 h2 h3 h4 h5 h6 hshort)
  clear hA hr
  unfold pathV at E1 HP ⊢
  go_enter Tryd.func71, Tryd.ntmps71
  have HX : Hid (∀ w2, Below (w.heap.size + 1) (w.alloc (.cells #[.int .i64 (xi l 0), .int .i64 (xi l 1), .int .i64 (xi l 2), .int .i64 (xi l 3), .int .i64 (xi l 4), .int .i64 (xi l 5), .int .i64 (xi l 6), .int .i64 (xi l 7), .int .i64 (l.length : Int)] 87)) w2 → ∀ W, W = w2.setCell ⟨A, k, none⟩ (.bool true) → W.cell? ⟨w.heap.size, 0, none⟩ = some (.int .i64 (xi l 0)) ∧ W.cell? ⟨w.heap.size, 1, none⟩ = some (.int .i64 (xi l 1)) ∧ W.cell? ⟨w.heap.size, 2, none⟩ = some (.int .i64 (xi l 2)) ∧ W.cell? ⟨w.heap.size, 3, none⟩ = some (.int .i64 (xi l 3)) ∧ W.cell? ⟨w.heap.size, 4, none⟩ = some (.int .i64 (xi l 4)) ∧ W.cell? ⟨w.heap.size, 5, none⟩ = some (.int .i64 (xi l 5)) ∧ W.cell? ⟨w.heap.size, 6, none⟩ = some (.int .i64 (xi l 6)) ∧ W.cell? ⟨w.heap.size, 7, none⟩ = some (.int .i64 (xi l 7)) ∧ W.cell? ⟨w.heap.size, 8, none⟩ = some (.int .i64 (l.length : Int))) := hideP (fun w2 hb W hW => by
    have q : ∀ j, j < 9 → W.cell? ⟨w.heap.size, j, none⟩ = some (pcell l j) := fun j hj => by
      rw [hW]
      have e1 : (w2.setCell ⟨A, k, none⟩ (.bool true)).heap[w.heap.size]? = w2.heap[w.heap.size]? := Below.heap_setCell _ _ _ _ (by show w.heap.size ≠ A; omega)
      rw [World.cell?_of_block (a := ⟨w.heap.size, j, none⟩) e1, hb.cell (p := ⟨w.heap.size, j, none⟩) (by show w.heap.size < w.heap.size + 1; omega)]
      exact (World.cell?_alloc_at _ _ _ _ rfl).trans (pathV_cells l j hj)
    exact ⟨q 0 (by omega), q 1 (by omega), q 2 (by omega), q 3 (by omega), q 4 (by omega), q 5 (by omega), q 6 (by omega), q 7 (by omega), q 8 (by omega)⟩)
  have B1 : Hid (Below w.heap.size w (w.alloc (.cells #[.int .i64 (xi l 0), .int .i64 (xi l 1), .int .i64 (xi l 2), .int .i64 (xi l 3), .int .i64 (xi l 4), .int .i64 (xi l 5), .int .i64 (xi l 6), .int .i64 (xi l 7), .int .i64 (l.length : Int)] 87))) := hideP (below_one _ _)
  have s1 : Hid ((w.alloc (.cells #[.int .i64 (xi l 0), .int .i64 (xi l 1), .int .i64 (xi l 2), .int .i64 (xi l 3), .int .i64 (xi l 4), .int .i64 (xi l 5), .int .i64 (xi l 6), .int .i64 (xi l 7), .int .i64 (l.length : Int)] 87)).heap.size = w.heap.size + 1) := hideP (by simp)
  have HC := hideP h
  have HF := hideP hf
  clear h hf
  go_wp2_with (first | (go_at_call 72; refine (E1.out _).mono ?_; rintro e w2 ⟨rfl, hb2⟩; have b2 : Hid (Below w.heap.size w w2) := hideP (B1.out.trans (hb2.mono (by rw [s1.out]; omega))); have A2 : Hid (KnA w2 A M) := hideP (HA.out.same (b2.out.block A hAlt) b2.out.size); have a1 := A2.out.2.1 k hk; have a2 := A2.out.2.2 k; obtain ⟨x0, x1, x2, x3, x4, x5, x6, x7, x8⟩ := HX.out w2 (by rw [← s1.out]; exact hb2) _ rfl; clear hb2) | (go_at_call 73; have eQ3 : (w2.setCell ⟨A, k, none⟩ (.bool true)).heap[Q]? = w2.heap[Q]? := (Below.heap_setCell _ _ _ _ (by show Q ≠ A; omega)); have hs3 : (w2.setCell ⟨A, k, none⟩ (.bool true)).heap.size = w2.heap.size := (by simp [World.setCell]); have hs2 := b2.out.size; refine (HP.out _ v (by rw [hs3]; omega) ((World.cell?_of_block (a := ⟨Q, 0, none⟩) eQ3).trans ((b2.out.cell (p := ⟨Q, 0, none⟩) hQ).trans HC.out)) ((World.frozen?_of_block (a := ⟨Q, 0, none⟩) eQ3).trans ((b2.out.frozen (p := ⟨Q, 0, none⟩) hQ).trans HF.out)) ((HR.out.next b2.out).other_set hvA) (by rw [hs3]; omega) hvQ).mono ?_; rintro e w4 ⟨rfl, g', off', cap', q1, q2, q3, q4, q5, q6⟩))
  go_end0
  have A3 := A2.out.put hk
  refine ⟨rfl, A3.same (q5.block A A3.1 (by rintro (e | e); exact hAQ e; exact hvA e)) q5.size, ⟨g', off', cap', q1, q2, q3, ?_, ?_⟩, ?_, q6⟩
  · rcases q4 with e | e
    · intro e2; rw [e2] at e; exact hvA e
    · rw [hs3] at e; omega
  · rcases q4 with e | e
    · exact Or.inl e
    · exact Or.inr (by rw [hs3] at e; omega)
  · refine ((Kp.ofB b2.out).trans (Kp.set ⟨A, k, none⟩ _ (Or.inr (Or.inl rfl)))).trans (q5.mono (fun k _ h => ?_))
    rcases h with h | h
    · exact Or.inl h
    · exact Or.inr (Or.inr h)

end Go.Proofs.YtljnjpjnadlmhaaDoor

/- Walk of the closure can in impl.mostWays: a step can be taken if there is a tie, over which nothing goes this way. -/
namespace Go.Proofs.YtljnjpjnadlmhaaDoor
open Go.RowKit
set_option linter.unusedVariables false

def stepC (S : Nat) (F : Nat → Nat → Int) (x y : Nat) : Bool := decide (S &&& pbit (x : Int) (y : Int) ≠ 0) && !decide (F x y = 1)
theorem stepC_no {S : Nat} {F : Nat → Nat → Int} {x y : Nat} (h : decide (S &&& pbit (x : Int) (y : Int) ≠ 0) = false) : stepC S F x y = false := by unfold stepC; rw [h]; rfl
theorem stepC_yes {S : Nat} {F : Nat → Nat → Int} {x y : Nat} (h : decide (S &&& pbit (x : Int) (y : Int) ≠ 0) = true) : stepC S F x y = !decide (F x y = 1) := by unfold stepC; rw [h]; rfl
theorem can_ne {S x y : Nat} (h : decide (S &&& pbit (x : Int) (y : Int) ≠ 0) = true) : x ≠ y := by
  intro e
  rw [e, pbit_no (Or.inr (Or.inl (by omega)))] at h
  simp at h
theorem can_has_v (v : Bool) (p : Nat) (a b : Int) (w : World) (hp : p < 2 ^ 64) (h : decide (p &&& pbit a b ≠ 0) = v) :
    Calls Tryd.prog 51 #[.int .u64 (p : Int), .int .i64 a, .int .i64 b] w fun e w' => e = .returned (.bool v) ∧ w' = w := by
  rw [← h]; exact has_any p a b w hp
set_option maxRecDepth 100000 in
set_option maxHeartbeats 800000 in
theorem can_any (S Sb Fb B n : Nat) (F : Nat → Nat → Int) (x y : Nat) (w : World) (hS : S < 2 ^ 64) (hset : w.cell? ⟨Sb, 0, none⟩ = some (.int .u64 (S : Int))) (hf : w.cell? ⟨Fb, 0, none⟩ = some (.map (some B))) (hm : Fm w B n F) (ha : ∀ x y, F y x = - F x y) (hx : x < 8) (hy : y < 8) :
    Calls Tryd.prog 50 #[.int .i64 (x : Int), .int .i64 (y : Int), .pointer (some ⟨Sb, 0, none⟩), .pointer (some ⟨Fb, 0, none⟩)] w fun e w' => e = .returned (.bool (stepC S F x y)) ∧ Below w.heap.size w w' := by
  cases hd : decide (S &&& pbit (x : Int) (y : Int) ≠ 0)
  · have HC : Hid (stepC S F x y = false) := hideP (stepC_no hd)
    have HH := hideP (fun W => can_has_v false S (x : Int) (y : Int) W hS hd)
    clear hd hm ha
    go_enter Tryd.func50, Tryd.ntmps50
    go_wp2_with (first | (go_at_call 51; refine (HH.out _).mono ?_; rintro e w2 ⟨rfl, rfl⟩))
    go_ret
    exact ⟨by rw [HC.out]; rfl, Below.refl _ _⟩
  · have hne := can_ne hd
    have HC : Hid (stepC S F x y = !decide (F x y = 1)) := hideP (stepC_yes hd)
    have HH := hideP (fun W => can_has_v true S (x : Int) (y : Int) W hS hd)
    have HI := hideP (isFull_any B n F x y w hx hy hne ha hm)
    clear hd hm ha
    go_enter Tryd.func50, Tryd.ntmps50
    go_wp2_with (first | (go_at_call 51; refine (HH.out _).mono ?_; rintro e w2 ⟨rfl, rfl⟩) | (go_at_call 52; refine (HI.out).mono ?_; rintro e w2 ⟨rfl, hb2⟩))
    go_ret
    exact ⟨by rw [HC.out]; rfl, hb2⟩

end Go.Proofs.YtljnjpjnadlmhaaDoor
