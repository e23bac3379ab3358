/- Texts put together: WWhere, WWhere2, WWhere3, WMost. -/
import Derived.Test.YtljnjpjnadlmhaaPartWCome
import Derived.Test.YtljnjpjnadlmhaaPartWWayOk2
import Derived.Test.YtljnjpjnadlmhaaPartWTell
import Derived.Deep.LoopGhost
import Derived.Deep.RegionLaw
/- Walk of impl.wayWhere: a way by steps that can be taken, or none. -/
namespace Go.Proofs.Ytljnjpjnadlmhaa
open Go.RowKit
set_option linter.unusedVariables false

end Go.Proofs.Ytljnjpjnadlmhaa

/- Walk of impl.wayWhere: what stands while one goes. -/
namespace Go.Proofs.Ytljnjpjnadlmhaa
open Go.RowKit
set_option linter.unusedVariables false

def stepT (S : Nat) (x y : Nat) : Bool := decide (S &&& pbit (x : Int) (y : Int) ≠ 0)
theorem stepC_iff {S : Nat} {F : Nat → Nat → Int} (hle : ∀ x y, F x y ≤ 1) {x y : Nat} : stepC S F x y = true ↔ stepT S x y = true ∧ F x y < 1 := by
  unfold stepC stepT
  rw [Bool.and_eq_true, Bool.not_eq_true', decide_eq_false_iff_not]
  have := hle x y
  constructor
  · rintro ⟨h1, h2⟩; exact ⟨h1, by omega⟩
  · rintro ⟨h1, h2⟩; exact ⟨h1, by omega⟩

/-- what stands: the result's place, what is known, what waits -/
structure Ws (w wr : World) (M : Nat → Bool) (v : Value) (ps : List (List Int)) : Prop where
  B : Below w.heap.size w wr
  sz : w.heap.size + 3 ≤ wr.heap.size
  kn : KnA wr (w.heap.size + 1) M
  q : wr.cell? ⟨w.heap.size + 2, 0, none⟩ = some v
  qf : wr.frozen? ⟨w.heap.size + 2, 0, none⟩ = false
  row : QRow wr (w.heap.size + 3) v ps
  res : OwnI wr w.heap.size 9 (pcell [])
theorem QRow.own_ge {w : World} {lo : Nat} {v : Value} {ps : List (List Int)} (h : QRow w lo v ps) {k : Nat} (hk : k < lo) : v.ownBlock ≠ some k := by
  rcases h with ⟨rfl, _⟩ | ⟨g, off, cap, rfl, h⟩
  · intro e; cases e
  · intro e
    have e2 : g = k := by simpa [Value.ownBlock] using e
    have := h.lo; omega
theorem QRow.kept {w w' : World} {lo : Nat} {v : Value} {ps : List (List Int)} {bad : Nat → Prop} (h : QRow w lo v ps) (k : Kp bad w w') (hb : ∀ b, bad b → v.ownBlock ≠ some b) : QRow w' lo v ps := by
  rcases h with h | ⟨g, off, cap, rfl, h⟩
  · exact Or.inl h
  · exact Or.inr ⟨g, off, cap, rfl, h.same (k.block g h.lt (fun q => hb g q rfl)) k.size⟩
theorem OwnI.kept {w w' : World} {g n : Nat} {f : Nat → Value} {bad : Nat → Prop} (h : OwnI w g n f) (k : Kp bad w w') (hb : ¬ bad g) : OwnI w' g n f :=
  ⟨fun j hj => (k.cell (p := ⟨g, j, none⟩) h.2.2 hb).trans (h.1 j hj), fun j => (k.frozen (p := ⟨g, j, none⟩) h.2.2 hb).trans (h.2.1 j), Nat.lt_of_lt_of_le h.2.2 k.size⟩
theorem Ws.kept {w wr w' : World} {M : Nat → Bool} {v : Value} {ps : List (List Int)} {bad : Nat → Prop} (h : Ws w wr M v ps) (k : Kp bad wr w') (hb : ∀ b, bad b → w.heap.size + 3 ≤ b ∧ v.ownBlock ≠ some b) : Ws w w' M v ps := by
  have hn : ∀ b, b < w.heap.size + 3 → ¬ bad b := fun b h1 h2 => by have := (hb b h2).1; omega
  have hz := h.sz
  exact ⟨h.B.trans ((k.mono (bad' := fun b => w.heap.size ≤ b) (fun b _ q => by have := (hb b q).1; omega)).below h.B.size), Nat.le_trans h.sz k.size, h.kn.same (k.block _ (by omega) (hn _ (by omega))) k.size, (k.cell (p := ⟨w.heap.size + 2, 0, none⟩) (by show w.heap.size + 2 < _; omega) (hn _ (by show w.heap.size + 2 < _; omega))).trans h.q, (k.frozen (p := ⟨w.heap.size + 2, 0, none⟩) (by show w.heap.size + 2 < _; omega) (hn _ (by show w.heap.size + 2 < _; omega))).trans h.qf, h.row.kept k (fun b q => (hb b q).2), h.res.kept k (hn _ (by omega))⟩
theorem Ws.next {w wr w' : World} {M : Nat → Bool} {v : Value} {ps : List (List Int)} (h : Ws w wr M v ps) (hb : Below wr.heap.size wr w') : Ws w w' M v ps :=
  h.kept (bad := fun _ => False) (Kp.ofB hb) (fun _ q => q.elim)
theorem Ws.first (w : World) (t1 t2 t3 : TypeId) : Ws w (((w.alloc (.cells #[.int .i64 0, .int .i64 0, .int .i64 0, .int .i64 0, .int .i64 0, .int .i64 0, .int .i64 0, .int .i64 0, .int .i64 0] t1)).alloc (.cells #[.bool false, .bool false, .bool false, .bool false, .bool false, .bool false, .bool false, .bool false] t2)).alloc (.cells #[.slice none 0 0] t3)) (fun _ => false) (.slice none 0 0) [] := by
  obtain ⟨W1, h1⟩ : ∃ W1, W1 = w.alloc (.cells #[.int .i64 0, .int .i64 0, .int .i64 0, .int .i64 0, .int .i64 0, .int .i64 0, .int .i64 0, .int .i64 0, .int .i64 0] t1) := ⟨_, rfl⟩
  have b1 : Below w.heap.size w W1 := by rw [h1]; exact below_one _ _
  have s1 : W1.heap.size = w.heap.size + 1 := by rw [h1]; simp
  have r1 : OwnI W1 w.heap.size 9 (pcell []) := by
    rw [h1]
    refine ⟨fun j hj => (World.cell?_alloc_at _ _ _ _ rfl).trans ?_, fun j => World.frozen?_alloc_at _ _ _ _ rfl, by simp⟩
    have : j = 0 ∨ j = 1 ∨ j = 2 ∨ j = 3 ∨ j = 4 ∨ j = 5 ∨ j = 6 ∨ j = 7 ∨ j = 8 := by omega
    rcases this with rfl | rfl | rfl | rfl | rfl | rfl | rfl | rfl | rfl <;> rfl
  rw [← h1]
  clear h1
  obtain ⟨W2, h2⟩ : ∃ W2, W2 = W1.alloc (.cells #[.bool false, .bool false, .bool false, .bool false, .bool false, .bool false, .bool false, .bool false] t2) := ⟨_, rfl⟩
  have b2 : Below W1.heap.size W1 W2 := by rw [h2]; exact below_one _ _
  have s2 : W2.heap.size = w.heap.size + 2 := by rw [h2]; simp; omega
  have k2 : KnA W2 (w.heap.size + 1) (fun _ => false) := by
    rw [h2, ← s1]
    refine ⟨by simp, fun j hj => (World.cell?_alloc_at _ _ _ _ rfl).trans ?_, fun j => World.frozen?_alloc_at _ _ _ _ rfl⟩
    have : j = 0 ∨ j = 1 ∨ j = 2 ∨ j = 3 ∨ j = 4 ∨ j = 5 ∨ j = 6 ∨ j = 7 := by omega
    rcases this with rfl | rfl | rfl | rfl | rfl | rfl | rfl | rfl <;> rfl
  rw [← h2]
  clear h2
  have b3 := below_one W2 (.cells #[.slice none 0 0] t3)
  refine ⟨b1.trans ((b2.mono (by omega)).trans (b3.mono (by omega))), by simp; omega, k2.same (b3.block _ (by omega)) b3.size, ?_, ?_, Or.inl ⟨rfl, rfl⟩, (r1.below b2 (by omega)).below b3 (by omega)⟩
  · exact (World.cell?_alloc_at _ _ (w.heap.size + 2) 0 s2.symm)
  · exact (World.frozen?_alloc_at _ _ (w.heap.size + 2) 0 s2.symm)
end Go.Proofs.Ytljnjpjnadlmhaa

/- Walk of impl.wayWhere. -/
namespace Go.Proofs.Ytljnjpjnadlmhaa
open Go.RowKit
set_option linter.unusedVariables false

theorem nodup_len {n : Nat} : ∀ {p : List Nat}, p.Nodup → (∀ z, z ∈ p → z < n) → p.length ≤ n := by
  induction n with
  | zero => intro p _ h; cases p with | nil => exact Nat.le_refl _ | cons x _ => exact absurd (h x (by simp)) (by omega)
  | succ n ih =>
    intro p hn h
    by_cases e : n ∈ p
    · have h1 := ih (p := p.erase n) (hn.erase n) (fun z hz => by
        have q := (hn.mem_erase_iff).1 hz
        have := h z q.2
        omega)
      rw [List.length_erase_of_mem e] at h1
      omega
    · have := ih hn (fun z hz => by have := h z hz; have : z ≠ n := fun q => e (q ▸ hz); omega)
      omega
theorem own9 {w : World} {P : Nat} {l : List Int} (h : OwnI w P 9 (pcell l)) : w.cell? ⟨P, 0, none⟩ = some (.int .i64 (xi l 0)) ∧ w.cell? ⟨P, 1, none⟩ = some (.int .i64 (xi l 1)) ∧ w.cell? ⟨P, 2, none⟩ = some (.int .i64 (xi l 2)) ∧ w.cell? ⟨P, 3, none⟩ = some (.int .i64 (xi l 3)) ∧ w.cell? ⟨P, 4, none⟩ = some (.int .i64 (xi l 4)) ∧ w.cell? ⟨P, 5, none⟩ = some (.int .i64 (xi l 5)) ∧ w.cell? ⟨P, 6, none⟩ = some (.int .i64 (xi l 6)) ∧ w.cell? ⟨P, 7, none⟩ = some (.int .i64 (xi l 7)) ∧ w.cell? ⟨P, 8, none⟩ = some (.int .i64 (l.length : Int)) :=
  ⟨h.1 0 (by omega), h.1 1 (by omega), h.1 2 (by omega), h.1 3 (by omega), h.1 4 (by omega), h.1 5 (by omega), h.1 6 (by omega), h.1 7 (by omega), h.1 8 (by omega)⟩
theorem putPath_eq (w : World) (P : Nat) (l : List Int) : putPath w P l = (((((((((w.setCell ⟨P, 0, none⟩ (.int .i64 (xi l 0))).setCell ⟨P, 1, none⟩ (.int .i64 (xi l 1))).setCell ⟨P, 2, none⟩ (.int .i64 (xi l 2))).setCell ⟨P, 3, none⟩ (.int .i64 (xi l 3))).setCell ⟨P, 4, none⟩ (.int .i64 (xi l 4))).setCell ⟨P, 5, none⟩ (.int .i64 (xi l 5))).setCell ⟨P, 6, none⟩ (.int .i64 (xi l 6))).setCell ⟨P, 7, none⟩ (.int .i64 (xi l 7))).setCell ⟨P, 8, none⟩ (.int .i64 (l.length : Int))) := rfl
theorem putPath_nil (w : World) (P : Nat) : putPath w P [] = (((((((((w.setCell ⟨P, 0, none⟩ (.int .i64 0)).setCell ⟨P, 1, none⟩ (.int .i64 0)).setCell ⟨P, 2, none⟩ (.int .i64 0)).setCell ⟨P, 3, none⟩ (.int .i64 0)).setCell ⟨P, 4, none⟩ (.int .i64 0)).setCell ⟨P, 5, none⟩ (.int .i64 0)).setCell ⟨P, 6, none⟩ (.int .i64 0)).setCell ⟨P, 7, none⟩ (.int .i64 0)).setCell ⟨P, 8, none⟩ (.int .i64 0)) := rfl
theorem putPath_nil2 (w : World) (P : Nat) : putPath w P [] = (((((((((w.setCell ⟨P, 0, none⟩ (.int .i64 (xi [] 0))).setCell ⟨P, 1, none⟩ (.int .i64 (xi [] 1))).setCell ⟨P, 2, none⟩ (.int .i64 (xi [] 2))).setCell ⟨P, 3, none⟩ (.int .i64 (xi [] 3))).setCell ⟨P, 4, none⟩ (.int .i64 (xi [] 4))).setCell ⟨P, 5, none⟩ (.int .i64 (xi [] 5))).setCell ⟨P, 6, none⟩ (.int .i64 (xi [] 6))).setCell ⟨P, 7, none⟩ (.int .i64 (xi [] 7))).setCell ⟨P, 8, none⟩ (.int .i64 0)) := rfl
theorem putPath_kp (w : World) (P : Nat) (l : List Int) : Kp (fun b => b = P) w (putPath w P l) := by
  unfold putPath
  have k : ∀ W j u, Kp (fun b => b = P) W (W.setCell ⟨P, j, none⟩ u) := fun W j u => Kp.set _ _ rfl
  exact ((((((((k _ _ _).trans (k _ _ _)).trans (k _ _ _)).trans (k _ _ _)).trans (k _ _ _)).trans (k _ _ _)).trans (k _ _ _)).trans (k _ _ _)).trans (k _ _ _)
theorem with_path9 (l : List Int) (k : Int) (w : World) (h : l.length < 8) : Calls Try.prog 65 #[.agg #[.int .i64 (xi l 0), .int .i64 (xi l 1), .int .i64 (xi l 2), .int .i64 (xi l 3), .int .i64 (xi l 4), .int .i64 (xi l 5), .int .i64 (xi l 6), .int .i64 (xi l 7), .int .i64 (l.length : Int)], .int .i64 k] w fun x w' => x = .returned (pathV (l ++ [k])) ∧ Below w.heap.size w w' := with_path l k w h
theorem lastI_snoc (l : List Int) (k : Int) : lastI (l ++ [k]) = k := by unfold lastI xi; simp
/-- what stands while one goes on from a way that was taken: its box too -/
structure Wl (S : Nat) (F : Nat → Nat → Int) (a b : Nat) (w wr : World) (P : Nat) (p : List Nat) (M : Nat → Bool) (ws : List (List Nat)) (v : Value) : Prop where
  s : Ws w wr M v (ws.map cI)
  o : OwnI wr P 9 (pcell (cI p))
  ge : w.heap.size + 3 ≤ P
  ne : v.ownBlock ≠ some P
  f : WayF (stepT S) F a M p
  q : Wq (stepT S) F a b M ws (fun y => y = endW p)
theorem Wl.next {S : Nat} {F : Nat → Nat → Int} {a b : Nat} {w wr w' : World} {P : Nat} {p : List Nat} {M : Nat → Bool} {ws : List (List Nat)} {v : Value} (h : Wl S F a b w wr P p M ws v) (hb : Below wr.heap.size wr w') : Wl S F a b w w' P p M ws v :=
  ⟨h.s.next hb, h.o.below hb h.o.2.2, h.ge, h.ne, h.f, h.q⟩
theorem WayF.len {T : Nat → Nat → Bool} {F : Nat → Nat → Int} {a : Nat} {M : Nat → Bool} {p : List Nat} (h : WayF T F a M p) : p.length ≤ 8 := nodup_len h.nodup (fun z hz => (h.known z hz).1)
theorem WayF.pos {T : Nat → Nat → Bool} {F : Nat → Nat → Int} {a : Nat} {M : Nat → Bool} {p : List Nat} (h : WayF T F a M p) : 0 < p.length := List.length_pos_iff.2 h.ne
theorem WayF.end8 {T : Nat → Nat → Bool} {F : Nat → Nat → Int} {a : Nat} {M : Nat → Bool} {p : List Nat} (h : WayF T F a M p) : endW p < 8 := (h.known _ (endW_mem h.ne)).1
theorem WayF.room {T : Nat → Nat → Bool} {F : Nat → Nat → Int} {a : Nat} {M : Nat → Bool} {p : List Nat} (h : WayF T F a M p) {k : Nat} (hk : k < 8) (hM : M k = false) : p.length < 8 := by
  have hno : k ∉ p := fun q => by have := (h.known k q).2; rw [hM] at this; cases this
  have := nodup_len (p := k :: p) (n := 8) (List.nodup_cons.2 ⟨hno, h.nodup⟩) (fun z hz => by rcases List.mem_cons.1 hz with e | e; (rw [e]; exact hk); exact (h.known z e).1)
  simp at this; omega
end Go.Proofs.Ytljnjpjnadlmhaa

/- Walk of impl.mostWays: one way more, again and again. -/
namespace Go.Proofs.Ytljnjpjnadlmhaa
open Go.RowKit
set_option linter.unusedVariables false

theorem stepT_comm (S x y : Nat) : stepT S x y = stepT S y x := by unfold stepT pbit; rw [Int.min_comm, Int.max_comm]
theorem Flw.void (T : Nat → Nat → Bool) (a b : Nat) : Flw T a b (fun _ _ => 0) 0 := ⟨fun _ _ => by simp, fun _ _ => by simp, fun _ _ _ => rfl, fun _ _ _ _ => su_zero 8, su_zero 8⟩
theorem Fm.first (w : World) : Fm (w.alloc (.map #[] 0)) w.heap.size 0 (fun _ _ => 0) := ⟨.map [], World.ownsMap_made _ _ _ _, fun _ _ _ _ => rfl⟩
theorem Fm.next {w w' : World} {B n : Nat} {F : Nat → Nat → Int} (h : Fm w B n F) (hb : Below w.heap.size w w') : Fm w' B n F := h.below hb h.lt
/-- what stands: the set, the map of what goes, and its variable -/
structure Mst (w wr : World) (S n : Nat) (F : Nat → Nat → Int) : Prop where
  B : Below w.heap.size w wr
  sz : w.heap.size + 3 ≤ wr.heap.size
  set : wr.cell? ⟨w.heap.size, 0, none⟩ = some (.int .u64 (S : Int))
  f : wr.cell? ⟨w.heap.size + 2, 0, none⟩ = some (.map (some (w.heap.size + 1)))
  m : Fm wr (w.heap.size + 1) n F
theorem Mst.next {w wr w' : World} {S n : Nat} {F : Nat → Nat → Int} (h : Mst w wr S n F) (hb : Below wr.heap.size wr w') : Mst w w' S n F :=
  have hz := h.sz
  ⟨h.B.trans (hb.mono h.B.size), Nat.le_trans h.sz hb.size, (hb.cell (p := ⟨w.heap.size, 0, none⟩) (by show w.heap.size < _; omega)).trans h.set, (hb.cell (p := ⟨w.heap.size + 2, 0, none⟩) (by show w.heap.size + 2 < _; omega)).trans h.f, h.m.next hb⟩
theorem Mst.first (w : World) (S : Nat) (t1 t2 : TypeId) : Mst w (((w.alloc (.cells #[.int .u64 (S : Int)] t1)).alloc (.map #[] 0)).alloc (.cells #[.map (some (w.heap.size + 1))] t2)) S 0 (fun _ _ => 0) := by
  have b1 := below_one w (.cells #[.int .u64 (S : Int)] t1)
  have c1 : (w.alloc (.cells #[.int .u64 (S : Int)] t1)).cell? ⟨w.heap.size, 0, none⟩ = some (.int .u64 (S : Int)) := World.cell?_alloc_at _ _ _ _ rfl
  obtain ⟨W1, h1⟩ : ∃ W1, W1 = w.alloc (.cells #[.int .u64 (S : Int)] t1) := ⟨_, rfl⟩
  have s1 : W1.heap.size = w.heap.size + 1 := by rw [h1]; simp
  rw [← h1] at b1 c1 ⊢
  clear h1
  have b2 := below_one W1 (.map #[] 0)
  have m2 := Fm.first W1
  rw [s1] at m2
  obtain ⟨W2, h2⟩ : ∃ W2, W2 = W1.alloc (.map #[] 0) := ⟨_, rfl⟩
  have s2 : W2.heap.size = w.heap.size + 2 := by rw [h2]; simp; omega
  rw [← h2] at b2 m2 ⊢
  clear h2
  have b3 := below_one W2 (.cells #[.map (some (w.heap.size + 1))] t2)
  exact ⟨b1.trans ((b2.mono (by omega)).trans (b3.mono (by omega))), by simp; omega, (b3.cell (p := ⟨w.heap.size, 0, none⟩) (by show w.heap.size < _; omega)).trans ((b2.cell (p := ⟨w.heap.size, 0, none⟩) (by show w.heap.size < _; omega)).trans c1), World.cell?_alloc_at _ _ _ _ s2.symm, m2.next b3⟩
/-- what one was told: a way, or that there is none -/
def Wr (S : Nat) (F : Nat → Nat → Int) (a b : Nat) (l : List Int) (ok : Bool) : Prop := (ok = true ∧ ∃ M p, l = cI p ∧ WayF (stepT S) F a M p ∧ endW p = b) ∨ (ok = false ∧ ∃ M, Wq (stepT S) F a b M [] (fun _ => False))
end Go.Proofs.Ytljnjpjnadlmhaa
