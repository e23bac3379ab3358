/- Texts put together: WWhere, WWhere2, WWhere3. -/
import Derived.Test.YtljnjpjnadlmhaaDoorPartWCome
import Derived.Test.YtljnjpjnadlmhaaDoorPartWWayOk2
import Derived.Test.YtljnjpjnadlmhaaDoorPartWTell
import Derived.Deep.LoopGhost
import Derived.Deep.RegionLaw
/- Walk of impl.wayWhere: a way by steps that can be taken, or none. -/
namespace Go.Proofs.YtljnjpjnadlmhaaDoor
open Go.RowKit
set_option linter.unusedVariables false

theorem take_nil (Q lo : Nat) (v : Value) (w : World) (hQ : Q < w.heap.size) (h : w.cell? ⟨Q, 0, none⟩ = some v) (hr : QRow w lo v []) :
    Calls Tryd.prog 74 #[.pointer (some ⟨Q, 0, none⟩)] w fun e w' => e = .returned (.tuple #[pathV [], .bool false]) ∧ Below w.heap.size w w' := by
  rcases hr with ⟨rfl, _⟩ | ⟨g, off, cap, rfl, _⟩
  · exact take_none Q _ _ w hQ h
  · exact take_none Q _ _ w hQ h
theorem take_cons (Q lo : Nat) (v : Value) (l : List Int) (ps : List (List Int)) (w : World) (hQ : Q < w.heap.size) (h : w.cell? ⟨Q, 0, none⟩ = some v) (hf : w.frozen? ⟨Q, 0, none⟩ = false) (hr : QRow w lo v (l :: ps)) (hvQ : v.ownBlock ≠ some Q) :
    Calls Tryd.prog 74 #[.pointer (some ⟨Q, 0, none⟩)] w fun e w' => e = .returned (.tuple #[pathV l, .bool true]) ∧ ∃ v', w'.cell? ⟨Q, 0, none⟩ = some v' ∧ QRow w' lo v' ps ∧ v'.ownBlock = v.ownBlock ∧ Turned Q (Q + 1) w w' ∧ w'.frozen? ⟨Q, 0, none⟩ = false := by
  rcases hr with ⟨_, h0⟩ | ⟨g, off, cap, rfl, hr⟩
  · cases h0
  · obtain ⟨c, rfl⟩ : ∃ c, cap = c + 1 := ⟨cap - 1, by have := hr.len; simp at this; omega⟩
    have hgQ : g ≠ Q := fun e => hvQ (by rw [e]; rfl)
    refine (take_some Q g off ps.length c l w hQ hr.lt hgQ (by have := hr.len; simp at this; omega) (by simpa using h) hf (fun j hj => hr.head j hj)).mono ?_
    rintro e w' ⟨rfl, off', h1, h2, h3, h4⟩
    refine ⟨rfl, _, h2, Or.inr ⟨g, off', c, rfl, ?_⟩, rfl, h3, h4⟩
    by_cases h0 : c = 0
    · subst h0
      obtain rfl : ps = [] := by have := hr.len; simp at this; exact this
      exact (hr.void off').turn h3 (by omega)
    · rw [h1 h0]
      exact hr.tail.turn h3 (by omega)

end Go.Proofs.YtljnjpjnadlmhaaDoor

/- Walk of impl.wayWhere: what stands while one goes. -/
namespace Go.Proofs.YtljnjpjnadlmhaaDoor
open Go.RowKit
set_option linter.unusedVariables false

def stepT (S : Nat) (x y : Nat) : Bool := decide (S &&& pbit (x : Int) (y : Int) ≠ 0)
theorem stepC_iff {S : Nat} {F : Nat → Nat → Int} (hle : ∀ x y, F x y ≤ 1) {x y : Nat} : stepC S F x y = true ↔ stepT S x y = true ∧ F x y < 1 := by
  unfold stepC stepT
  rw [Bool.and_eq_true, Bool.not_eq_true', decide_eq_false_iff_not]
  have := hle x y
  constructor
  · rintro ⟨h1, h2⟩; exact ⟨h1, by omega⟩
  · rintro ⟨h1, h2⟩; exact ⟨h1, by omega⟩

/-- what stands: the result's place, what is known, what waits -/
structure Ws (w wr : World) (M : Nat → Bool) (v : Value) (ps : List (List Int)) : Prop where
  B : Below w.heap.size w wr
  sz : w.heap.size + 3 ≤ wr.heap.size
  kn : KnA wr (w.heap.size + 1) M
  q : wr.cell? ⟨w.heap.size + 2, 0, none⟩ = some v
  qf : wr.frozen? ⟨w.heap.size + 2, 0, none⟩ = false
  row : QRow wr (w.heap.size + 3) v ps
  res : OwnI wr w.heap.size 9 (pcell [])
theorem QRow.own_ge {w : World} {lo : Nat} {v : Value} {ps : List (List Int)} (h : QRow w lo v ps) {k : Nat} (hk : k < lo) : v.ownBlock ≠ some k := by
  rcases h with ⟨rfl, _⟩ | ⟨g, off, cap, rfl, h⟩
  · intro e; cases e
  · intro e
    have e2 : g = k := by simpa [Value.ownBlock] using e
    have := h.lo; omega
theorem QRow.kept {w w' : World} {lo : Nat} {v : Value} {ps : List (List Int)} {bad : Nat → Prop} (h : QRow w lo v ps) (k : Kp bad w w') (hb : ∀ b, bad b → v.ownBlock ≠ some b) : QRow w' lo v ps := by
  rcases h with h | ⟨g, off, cap, rfl, h⟩
  · exact Or.inl h
  · exact Or.inr ⟨g, off, cap, rfl, h.same (k.block g h.lt (fun q => hb g q rfl)) k.size⟩
theorem OwnI.kept {w w' : World} {g n : Nat} {f : Nat → Value} {bad : Nat → Prop} (h : OwnI w g n f) (k : Kp bad w w') (hb : ¬ bad g) : OwnI w' g n f :=
  ⟨fun j hj => (k.cell (p := ⟨g, j, none⟩) h.2.2 hb).trans (h.1 j hj), fun j => (k.frozen (p := ⟨g, j, none⟩) h.2.2 hb).trans (h.2.1 j), Nat.lt_of_lt_of_le h.2.2 k.size⟩
theorem Ws.kept {w wr w' : World} {M : Nat → Bool} {v : Value} {ps : List (List Int)} {bad : Nat → Prop} (h : Ws w wr M v ps) (k : Kp bad wr w') (hb : ∀ b, bad b → w.heap.size + 3 ≤ b ∧ v.ownBlock ≠ some b) : Ws w w' M v ps := by
  have hn : ∀ b, b < w.heap.size + 3 → ¬ bad b := fun b h1 h2 => by have := (hb b h2).1; omega
  have hz := h.sz
  exact ⟨h.B.trans ((k.mono (bad' := fun b => w.heap.size ≤ b) (fun b _ q => by have := (hb b q).1; omega)).below h.B.size), Nat.le_trans h.sz k.size, h.kn.same (k.block _ (by omega) (hn _ (by omega))) k.size, (k.cell (p := ⟨w.heap.size + 2, 0, none⟩) (by show w.heap.size + 2 < _; omega) (hn _ (by show w.heap.size + 2 < _; omega))).trans h.q, (k.frozen (p := ⟨w.heap.size + 2, 0, none⟩) (by show w.heap.size + 2 < _; omega) (hn _ (by show w.heap.size + 2 < _; omega))).trans h.qf, h.row.kept k (fun b q => (hb b q).2), h.res.kept k (hn _ (by omega))⟩
theorem Ws.next {w wr w' : World} {M : Nat → Bool} {v : Value} {ps : List (List Int)} (h : Ws w wr M v ps) (hb : Below wr.heap.size wr w') : Ws w w' M v ps :=
  h.kept (bad := fun _ => False) (Kp.ofB hb) (fun _ q => q.elim)
theorem Ws.first (w : World) (t1 t2 t3 : TypeId) : Ws w (((w.alloc (.cells #[.int .i64 0, .int .i64 0, .int .i64 0, .int .i64 0, .int .i64 0, .int .i64 0, .int .i64 0, .int .i64 0, .int .i64 0] t1)).alloc (.cells #[.bool false, .bool false, .bool false, .bool false, .bool false, .bool false, .bool false, .bool false] t2)).alloc (.cells #[.slice none 0 0] t3)) (fun _ => false) (.slice none 0 0) [] := by
  obtain ⟨W1, h1⟩ : ∃ W1, W1 = w.alloc (.cells #[.int .i64 0, .int .i64 0, .int .i64 0, .int .i64 0, .int .i64 0, .int .i64 0, .int .i64 0, .int .i64 0, .int .i64 0] t1) := ⟨_, rfl⟩
  have b1 : Below w.heap.size w W1 := by rw [h1]; exact below_one _ _
  have s1 : W1.heap.size = w.heap.size + 1 := by rw [h1]; simp
  have r1 : OwnI W1 w.heap.size 9 (pcell []) := by
    rw [h1]
    refine ⟨fun j hj => (World.cell?_alloc_at _ _ _ _ rfl).trans ?_, fun j => World.frozen?_alloc_at _ _ _ _ rfl, by simp⟩
    have : j = 0 ∨ j = 1 ∨ j = 2 ∨ j = 3 ∨ j = 4 ∨ j = 5 ∨ j = 6 ∨ j = 7 ∨ j = 8 := by omega
    rcases this with rfl | rfl | rfl | rfl | rfl | rfl | rfl | rfl | rfl <;> rfl
  rw [← h1]
  clear h1
  obtain ⟨W2, h2⟩ : ∃ W2, W2 = W1.alloc (.cells #[.bool false, .bool false, .bool false, .bool false, .bool false, .bool false, .bool false, .bool false] t2) := ⟨_, rfl⟩
  have b2 : Below W1.heap.size W1 W2 := by rw [h2]; exact below_one _ _
  have s2 : W2.heap.size = w.heap.size + 2 := by rw [h2]; simp; omega
  have k2 : KnA W2 (w.heap.size + 1) (fun _ => false) := by
    rw [h2, ← s1]
    refine ⟨by simp, fun j hj => (World.cell?_alloc_at _ _ _ _ rfl).trans ?_, fun j => World.frozen?_alloc_at _ _ _ _ rfl⟩
    have : j = 0 ∨ j = 1 ∨ j = 2 ∨ j = 3 ∨ j = 4 ∨ j = 5 ∨ j = 6 ∨ j = 7 := by omega
    rcases this with rfl | rfl | rfl | rfl | rfl | rfl | rfl | rfl <;> rfl
  rw [← h2]
  clear h2
  have b3 := below_one W2 (.cells #[.slice none 0 0] t3)
  refine ⟨b1.trans ((b2.mono (by omega)).trans (b3.mono (by omega))), by simp; omega, k2.same (b3.block _ (by omega)) b3.size, ?_, ?_, Or.inl ⟨rfl, rfl⟩, (r1.below b2 (by omega)).below b3 (by omega)⟩
  · exact (World.cell?_alloc_at _ _ (w.heap.size + 2) 0 s2.symm)
  · exact (World.frozen?_alloc_at _ _ (w.heap.size + 2) 0 s2.symm)
theorem come_ws {w wr : World} {M : Nat → Bool} {v : Value} {ps : List (List Int)} (h : Ws w wr M v ps) (l : List Int) (k : Nat) (hk : k < 8) (hl0 : 0 < l.length) (hl : l.length ≤ 8) (he : lastI l = (k : Int)) (hshort : ps.length ≤ 1000) :
    Calls Tryd.prog 71 #[pathV l, .pointer (some ⟨w.heap.size + 1, 0, none⟩), .pointer (some ⟨w.heap.size + 2, 0, none⟩)] wr fun e w' => e = .returned (.tuple #[]) ∧ ∃ v', Ws w w' (mark M k) v' (ps ++ [l]) ∧ ∀ b, b < wr.heap.size → w.heap.size + 3 ≤ b → v.ownBlock ≠ some b → v'.ownBlock ≠ some b ∧ w'.heap[b]? = wr.heap[b]? := by
  have hz := h.sz
  have o1 := h.row.own_ge (k := w.heap.size + 1) (by omega)
  have o2 := h.row.own_ge (k := w.heap.size + 2) (by omega)
  refine (come_any (w.heap.size + 1) (w.heap.size + 2) (w.heap.size + 3) M v ps l k wr hk hl0 hl he h.kn (by omega) o1 (by omega) h.q h.qf h.row h.sz o2 hshort).mono ?_
  rintro e w' ⟨rfl, h1, ⟨g', off', cap', h2, h3, h4, h5, h6⟩, h7, h8⟩
  have hge : w.heap.size + 3 ≤ g' := h3.lo
  have hbad : ∀ b, (b = w.heap.size + 2 ∨ b = w.heap.size + 1 ∨ v.ownBlock = some b) → w.heap.size ≤ b := by
    rintro b (e | e | e)
    · omega
    · omega
    · rcases Nat.lt_or_ge b (w.heap.size + 3) with q | q
      · exact absurd e (h.row.own_ge q)
      · omega
  have o0 := h.row.own_ge (k := w.heap.size) (by omega)
  refine ⟨rfl, _, ⟨h.B.trans ((h7.mono (bad' := fun b => w.heap.size ≤ b) (fun b _ q => hbad b q)).below h.B.size), Nat.le_trans h.sz h7.size, h1, h2, h8, Or.inr ⟨g', off', cap', by rw [List.length_append]; rfl, h3⟩, h.res.kept h7 ?_⟩, fun b hb hb3 hn => ⟨?_, h7.block b hb ?_⟩⟩
  · rintro (e | e | e)
    · omega
    · omega
    · exact o0 e
  · intro e
    have e2 : g' = b := by simpa [Value.ownBlock] using e
    rcases h6 with q | q
    · rw [e2] at q; exact hn q
    · omega
  · rintro (e | e | e)
    · omega
    · omega
    · exact hn e

theorem take_ws_nil {w wr : World} {M : Nat → Bool} {v : Value} (h : Ws w wr M v []) :
    Calls Tryd.prog 74 #[.pointer (some ⟨w.heap.size + 2, 0, none⟩)] wr fun e w' => e = .returned (.tuple #[pathV [], .bool false]) ∧ Below wr.heap.size wr w' := by
  have hz := h.sz
  exact take_nil _ _ v wr (by omega) h.q h.row
theorem take_ws_cons {w wr : World} {M : Nat → Bool} {v : Value} {l : List Int} {ps : List (List Int)} (h : Ws w wr M v (l :: ps)) :
    Calls Tryd.prog 74 #[.pointer (some ⟨w.heap.size + 2, 0, none⟩)] wr fun e w' => e = .returned (.tuple #[pathV l, .bool true]) ∧ ∃ v', Ws w w' M v' ps ∧ v'.ownBlock = v.ownBlock ∧ Kp (fun b => b = w.heap.size + 2) wr w' := by
  have hz := h.sz
  refine (take_cons (w.heap.size + 2) (w.heap.size + 3) v l ps wr (by omega) h.q h.qf h.row (h.row.own_ge (by omega))).mono ?_
  rintro e w' ⟨rfl, v', h1, h2, h3, h4, h5⟩
  have k : Kp (fun b => b = w.heap.size + 2) wr w' := ⟨h4.os, h4.tape, h4.output, h4.size, fun b hb hn => h4.block b hb (by omega)⟩
  exact ⟨rfl, v', ⟨h.B.trans ((k.mono (bad' := fun b => w.heap.size ≤ b) (fun b _ q => by omega)).below h.B.size), Nat.le_trans h.sz k.size, h.kn.same (k.block _ (by omega) (by omega)) k.size, h1, h5, h2, h.res.kept k (by omega)⟩, h3, k⟩

end Go.Proofs.YtljnjpjnadlmhaaDoor

/- Walk of impl.wayWhere. -/
namespace Go.Proofs.YtljnjpjnadlmhaaDoor
open Go.RowKit
set_option linter.unusedVariables false

theorem nodup_len {n : Nat} : ∀ {p : List Nat}, p.Nodup → (∀ z, z ∈ p → z < n) → p.length ≤ n := by
  induction n with
  | zero => intro p _ h; cases p with | nil => exact Nat.le_refl _ | cons x _ => exact absurd (h x (by simp)) (by omega)
  | succ n ih =>
    intro p hn h
    by_cases e : n ∈ p
    · have h1 := ih (p := p.erase n) (hn.erase n) (fun z hz => by
        have q := (hn.mem_erase_iff).1 hz
        have := h z q.2
        omega)
      rw [List.length_erase_of_mem e] at h1
      omega
    · have := ih hn (fun z hz => by have := h z hz; have : z ≠ n := fun q => e (q ▸ hz); omega)
      omega
theorem own9 {w : World} {P : Nat} {l : List Int} (h : OwnI w P 9 (pcell l)) : w.cell? ⟨P, 0, none⟩ = some (.int .i64 (xi l 0)) ∧ w.cell? ⟨P, 1, none⟩ = some (.int .i64 (xi l 1)) ∧ w.cell? ⟨P, 2, none⟩ = some (.int .i64 (xi l 2)) ∧ w.cell? ⟨P, 3, none⟩ = some (.int .i64 (xi l 3)) ∧ w.cell? ⟨P, 4, none⟩ = some (.int .i64 (xi l 4)) ∧ w.cell? ⟨P, 5, none⟩ = some (.int .i64 (xi l 5)) ∧ w.cell? ⟨P, 6, none⟩ = some (.int .i64 (xi l 6)) ∧ w.cell? ⟨P, 7, none⟩ = some (.int .i64 (xi l 7)) ∧ w.cell? ⟨P, 8, none⟩ = some (.int .i64 (l.length : Int)) :=
  ⟨h.1 0 (by omega), h.1 1 (by omega), h.1 2 (by omega), h.1 3 (by omega), h.1 4 (by omega), h.1 5 (by omega), h.1 6 (by omega), h.1 7 (by omega), h.1 8 (by omega)⟩
theorem putPath_eq (w : World) (P : Nat) (l : List Int) : putPath w P l = (((((((((w.setCell ⟨P, 0, none⟩ (.int .i64 (xi l 0))).setCell ⟨P, 1, none⟩ (.int .i64 (xi l 1))).setCell ⟨P, 2, none⟩ (.int .i64 (xi l 2))).setCell ⟨P, 3, none⟩ (.int .i64 (xi l 3))).setCell ⟨P, 4, none⟩ (.int .i64 (xi l 4))).setCell ⟨P, 5, none⟩ (.int .i64 (xi l 5))).setCell ⟨P, 6, none⟩ (.int .i64 (xi l 6))).setCell ⟨P, 7, none⟩ (.int .i64 (xi l 7))).setCell ⟨P, 8, none⟩ (.int .i64 (l.length : Int))) := rfl
theorem putPath_nil (w : World) (P : Nat) : putPath w P [] = (((((((((w.setCell ⟨P, 0, none⟩ (.int .i64 0)).setCell ⟨P, 1, none⟩ (.int .i64 0)).setCell ⟨P, 2, none⟩ (.int .i64 0)).setCell ⟨P, 3, none⟩ (.int .i64 0)).setCell ⟨P, 4, none⟩ (.int .i64 0)).setCell ⟨P, 5, none⟩ (.int .i64 0)).setCell ⟨P, 6, none⟩ (.int .i64 0)).setCell ⟨P, 7, none⟩ (.int .i64 0)).setCell ⟨P, 8, none⟩ (.int .i64 0)) := rfl
theorem putPath_nil2 (w : World) (P : Nat) : putPath w P [] = (((((((((w.setCell ⟨P, 0, none⟩ (.int .i64 (xi [] 0))).setCell ⟨P, 1, none⟩ (.int .i64 (xi [] 1))).setCell ⟨P, 2, none⟩ (.int .i64 (xi [] 2))).setCell ⟨P, 3, none⟩ (.int .i64 (xi [] 3))).setCell ⟨P, 4, none⟩ (.int .i64 (xi [] 4))).setCell ⟨P, 5, none⟩ (.int .i64 (xi [] 5))).setCell ⟨P, 6, none⟩ (.int .i64 (xi [] 6))).setCell ⟨P, 7, none⟩ (.int .i64 (xi [] 7))).setCell ⟨P, 8, none⟩ (.int .i64 0)) := rfl
theorem putPath_kp (w : World) (P : Nat) (l : List Int) : Kp (fun b => b = P) w (putPath w P l) := by
  unfold putPath
  have k : ∀ W j u, Kp (fun b => b = P) W (W.setCell ⟨P, j, none⟩ u) := fun W j u => Kp.set _ _ rfl
  exact ((((((((k _ _ _).trans (k _ _ _)).trans (k _ _ _)).trans (k _ _ _)).trans (k _ _ _)).trans (k _ _ _)).trans (k _ _ _)).trans (k _ _ _)).trans (k _ _ _)
theorem with_path9 (l : List Int) (k : Int) (w : World) (h : l.length < 8) : Calls Tryd.prog 69 #[.agg #[.int .i64 (xi l 0), .int .i64 (xi l 1), .int .i64 (xi l 2), .int .i64 (xi l 3), .int .i64 (xi l 4), .int .i64 (xi l 5), .int .i64 (xi l 6), .int .i64 (xi l 7), .int .i64 (l.length : Int)], .int .i64 k] w fun x w' => x = .returned (pathV (l ++ [k])) ∧ Below w.heap.size w w' := with_path l k w h
theorem lastI_snoc (l : List Int) (k : Int) : lastI (l ++ [k]) = k := by unfold lastI xi; simp
/-- what stands while one goes on from a way that was taken: its box too -/
structure Wl (S : Nat) (F : Nat → Nat → Int) (a b : Nat) (w wr : World) (P : Nat) (p : List Nat) (M : Nat → Bool) (ws : List (List Nat)) (v : Value) : Prop where
  s : Ws w wr M v (ws.map cI)
  o : OwnI wr P 9 (pcell (cI p))
  ge : w.heap.size + 3 ≤ P
  ne : v.ownBlock ≠ some P
  f : WayF (stepT S) F a M p
  q : Wq (stepT S) F a b M ws (fun y => y = endW p)
theorem Wl.next {S : Nat} {F : Nat → Nat → Int} {a b : Nat} {w wr w' : World} {P : Nat} {p : List Nat} {M : Nat → Bool} {ws : List (List Nat)} {v : Value} (h : Wl S F a b w wr P p M ws v) (hb : Below wr.heap.size wr w') : Wl S F a b w w' P p M ws v :=
  ⟨h.s.next hb, h.o.below hb h.o.2.2, h.ge, h.ne, h.f, h.q⟩
theorem WayF.len {T : Nat → Nat → Bool} {F : Nat → Nat → Int} {a : Nat} {M : Nat → Bool} {p : List Nat} (h : WayF T F a M p) : p.length ≤ 8 := nodup_len h.nodup (fun z hz => (h.known z hz).1)
theorem WayF.pos {T : Nat → Nat → Bool} {F : Nat → Nat → Int} {a : Nat} {M : Nat → Bool} {p : List Nat} (h : WayF T F a M p) : 0 < p.length := List.length_pos_iff.2 h.ne
theorem WayF.end8 {T : Nat → Nat → Bool} {F : Nat → Nat → Int} {a : Nat} {M : Nat → Bool} {p : List Nat} (h : WayF T F a M p) : endW p < 8 := (h.known _ (endW_mem h.ne)).1
theorem WayF.room {T : Nat → Nat → Bool} {F : Nat → Nat → Int} {a : Nat} {M : Nat → Bool} {p : List Nat} (h : WayF T F a M p) {k : Nat} (hk : k < 8) (hM : M k = false) : p.length < 8 := by
  have hno : k ∉ p := fun q => by have := (h.known k q).2; rw [hM] at this; cases this
  have := nodup_len (p := k :: p) (n := 8) (List.nodup_cons.2 ⟨hno, h.nodup⟩) (fun z hz => by rcases List.mem_cons.1 hz with e | e; (rw [e]; exact hk); exact (h.known z e).1)
  simp at this; omega
def canV (Sb Fb : Nat) : Value := .func (.func 50) #[] #[.pointer (some ⟨Sb, 0, none⟩), .pointer (some ⟨Fb, 0, none⟩)]
set_option maxRecDepth 100000 in
set_option maxHeartbeats 3200000 in
theorem wayWhere_any (S Sb Fb B n : Nat) (F : Nat → Nat → Int) (a b : Nat) (w : World) (ha : a < 8) (hb : b < 8) (hS : S < 2 ^ 64) (hset : w.cell? ⟨Sb, 0, none⟩ = some (.int .u64 (S : Int))) (hSb : Sb < w.heap.size) (hf : w.cell? ⟨Fb, 0, none⟩ = some (.map (some B))) (hFb : Fb < w.heap.size) (hm : Fm w B n F) (hanti : ∀ x y, F y x = - F x y) (hle : ∀ x y, F x y ≤ 1) :
    Calls Tryd.prog 53 #[.int .i64 (a : Int), .int .i64 (b : Int), canV Sb Fb] w fun e w' => Below w.heap.size w w' ∧ ((∃ M p, e = .returned (.tuple #[pathV (cI p), .bool true]) ∧ WayF (stepT S) F a M p ∧ endW p = b) ∨ (e = .returned (.tuple #[pathV [], .bool false]) ∧ ∃ M, Wq (stepT S) F a b M [] (fun _ => False))) := by
  have CAN : Hid (∀ W, Below w.heap.size w W → ∀ x y : Nat, x < 8 → y < 8 → Calls Tryd.prog 50 #[.int .i64 (x : Int), .int .i64 (y : Int), .pointer (some ⟨Sb, 0, none⟩), .pointer (some ⟨Fb, 0, none⟩)] W fun e w' => e = .returned (.bool (stepC S F x y)) ∧ Below W.heap.size W w') := hideP (fun W hb x y hx hy => can_any S Sb Fb B n F x y W hS ((hb.cell (p := ⟨Sb, 0, none⟩) hSb).trans hset) ((hb.cell (p := ⟨Fb, 0, none⟩) hFb).trans hf) (hm.below hb hm.lt) hanti hx hy)
  have HLE := hideP hle
  have S0 := hideP (Ws.first w)
  clear hset hSb hf hFb hm hanti hle
  unfold canV
  go_enter Tryd.func53, Tryd.ntmps53
  go_wp2_with fail
  refine (with_path [] (a : Int) _ (by simp)).mono ?_
  rintro e w1 ⟨rfl, hb1⟩
  have S1 := hideP ((S0.out _ _ _).next hb1)
  clear S0 hb1
  go_wp2_with fail
  refine (come_ws S1.out [(a : Int)] a ha (by simp) (by simp) (by simp [lastI, xi]) (by simp)).mono ?_
  rintro e w2 ⟨rfl, v1, hS1, _⟩
  have S2 : Hid (Ws w w2 (mark (fun _ => false) a) v1 [[(a : Int)]]) := hideP hS1
  clear hS1 S1
  go_wp2_with fail
  refine (take_ws_cons S2.out).mono ?_
  rintro e w3 ⟨rfl, v2, hS2, _, _⟩
  have S3 := hideP hS2
  clear hS2 S2
  have P3 : ∀ t, Hid (Ws w (w3.alloc (.cells #[.int .i64 (xi [(a : Int)] 0), .int .i64 (xi [(a : Int)] 1), .int .i64 (xi [(a : Int)] 2), .int .i64 (xi [(a : Int)] 3), .int .i64 (xi [(a : Int)] 4), .int .i64 (xi [(a : Int)] 5), .int .i64 (xi [(a : Int)] 6), .int .i64 (xi [(a : Int)] 7), .int .i64 1] t)) (mark (fun _ => false) a) v2 [] ∧ OwnI (w3.alloc (.cells #[.int .i64 (xi [(a : Int)] 0), .int .i64 (xi [(a : Int)] 1), .int .i64 (xi [(a : Int)] 2), .int .i64 (xi [(a : Int)] 3), .int .i64 (xi [(a : Int)] 4), .int .i64 (xi [(a : Int)] 5), .int .i64 (xi [(a : Int)] 6), .int .i64 (xi [(a : Int)] 7), .int .i64 1] t)) w3.heap.size 9 (pcell (cI [a]))) := fun t => hideP ⟨S3.out.next (below_one _ _), own_path w3 [(a : Int)] t⟩
  have hz3 := S3.out.sz
  have HO3 : Hid (v2.ownBlock ≠ some w3.heap.size) := hideP (S3.out.row.own_lt (Nat.le_refl _))
  unfold pathV
  go_wp2
  go_loopg [11, 12] 17 (fun gk pv ok wr => gk ≤ 17 ∧ ∃ M ws v P p, pv = .pointer (some ⟨P, 0, none⟩) ∧ ((ok = .bool true ∧ Wl S F a b w wr P p M ws v ∧ 2 * unm M 8 + ws.length + 1 ≤ gk) ∨ (ok = .bool false ∧ Below w.heap.size w wr ∧ OwnI wr w.heap.size 9 (pcell []) ∧ Wq (stepT S) F a b M [] (fun _ => False))))
  case atStart =>
    refine ⟨Nat.le_refl _, mark (fun _ => false) a, [], v2, w3.heap.size, [a], rfl, Or.inl ⟨rfl, ⟨(P3 _).out.1, (P3 _).out.2, hz3, HO3.out, WayF.one ha (by simp [mark]), ?_⟩, ?_⟩⟩
    · exact (Wq.first ha).take.2
    · have := unm_le (mark (fun _ => false) a) 8
      simp; omega
  case round =>
    clear P3 HO3 S3 hz3
    obtain ⟨hg17, M, ws, v, P, p, rfl, h⟩ := hrel
    rcases h with ⟨rfl, hL, hgk⟩ | ⟨rfl, hB, hR, hQ⟩
    · have HL := hideP hL
      have hf8 := hL.f.len
      have hf0 := hL.f.pos
      have he8 := hL.f.end8
      obtain ⟨x, hx⟩ : ∃ x, x = endW p := ⟨_, rfl⟩
      have hge := hL.ge
      have hPlt := hL.o.2.2
      have hBB := hL.s.sz
      have HEL : Hid (lastI (cI p) = (x : Int)) := hideP (by rw [cI_last hf0, hx]; rfl)
      have HEND := hideP (fun W => end_path9 (cI p) (x : Int) W (by rw [cI_len]; exact hf0) (by rw [cI_len]; exact hf8) HEL.out)
      obtain ⟨p0, p1, p2, p3, p4, p5, p6, p7, p8⟩ := own9 hL.o
      clear hL
      by_cases hxb : x = b
      · have co : ((x : Int) == (b : Int)) = true := by rw [hxb]; simp
        go_wp2_with fail
        refine (HEND.out _).mono ?_
        rintro e w5 ⟨rfl, hb5⟩
        have L5 := hideP (HL.out.next hb5)
        obtain ⟨q0, q1, q2, q3, q4, q5, q6, q7, q8⟩ := own9 L5.out.o
        have R5 := hideP L5.out.s.res
        obtain ⟨r0, r1, r2, r3, r4, r5, r6, r7, r8⟩ := own9 R5.out
        have rf := R5.out.2.1
        have HB := hideP L5.out.s.B
        clear HEND HL p0 p1 p2 p3 p4 p5 p6 p7 p8 hb5
        go_wp2
        have PB := putPath_below (P := w.heap.size) (l := cI p) HB.out (Nat.le_refl _)
        have PO := putPath_own (l2 := cI p) R5.out
        obtain ⟨W, hW⟩ : ∃ W, W = putPath w5 w.heap.size (cI p) := ⟨_, rfl⟩
        rw [← hW] at PB PO
        obtain ⟨o0, o1, o2, o3, o4, o5, o6, o7, o8⟩ := own9 PO
        rw [← putPath_eq w5 w.heap.size (cI p), ← hW]
        clear hW r0 r1 r2 r3 r4 r5 r6 r7 r8 q0 q1 q2 q3 q4 q5 q6 q7 q8
        refine bodyPost_ret (v := .tuple #[pathV (cI p), .bool true]) (by simp [results, Tryd.results53, go_sem, pathV, o0, o1, o2, o3, o4, o5, o6, o7, o8]) rfl ⟨PB, Or.inl ⟨M, p, rfl, L5.out.f, by rw [← hx, hxb]⟩⟩
      · have co : ((x : Int) == (b : Int)) = false := by simp; omega
        go_wp2_with fail
        refine (HEND.out _).mono ?_
        rintro e w5 ⟨rfl, hb5⟩
        have L5 := hideP (HL.out.next hb5)
        clear HL p0 p1 p2 p3 p4 p5 p6 p7 p8 hb5
        have HGK : Hid (2 * unm M 8 + ws.length < gk) := hideP (by omega)
        have HX := hideP hx
        clear hx
        rw [HX.out.symm] at he8
        go_wp2
        go_loopw [34] (fun i wr => ∃ (k : Nat) (M' : Nat → Bool) (ws' : List (List Nat)) (v' : Value), k ≤ 8 ∧ i = .int .i64 (k : Int) ∧ Wl S F a b w wr P p M' ws' v' ∧ (∀ z, z < k → stepT S x z = true → F x z < 1 → M' z = true) ∧ 2 * unm M' 8 + ws'.length < gk)
          (fun i _ => 8 - (intOf i).toNat)
        case atStart => exact ⟨0, M, ws, v, by omega, rfl, L5.out, fun z hz => absurd hz (by omega), HGK.out⟩
        case round =>
          clear HGK L5
          obtain ⟨k, M', ws', v', hk, rfl, hL', hall, hgk'⟩ := hrel
          have HL' := hideP hL'
          have HALL := hideP hall
          have hPlt' := hL'.o.2.2
          by_cases hlt : k < 8
          · have ck : wr.cell? ⟨w.heap.size + 1, k, none⟩ = some (.bool (M' k)) := hL'.s.kn.2.1 k hlt
            have i0 : (0 : Int) ≤ (k : Int) := by omega
            have i1 : (k : Int) < 8 := by omega
            obtain ⟨p0, p1, p2, p3, p4, p5, p6, p7, p8⟩ := own9 hL'.o
            clear hL' hall
            cases hMk : M' k
            · rw [hMk] at ck
              obtain ⟨c, hc⟩ : ∃ c, c = stepC S F x k := ⟨_, rfl⟩
              have HCN : Hid (∀ W, Below w.heap.size w W → Calls Tryd.prog 50 #[.int .i64 (x : Int), .int .i64 (k : Int), .pointer (some ⟨Sb, 0, none⟩), .pointer (some ⟨Fb, 0, none⟩)] W fun e w' => e = .returned (.bool c) ∧ Below W.heap.size W w') := hideP (fun W hb => by rw [hc]; exact CAN.out W hb x k he8 hlt)
              have HMK := hideP hMk
              have HC := hideP hc
              clear hMk hc
              cases c
              · have HR : Hid (∀ z, z < k + 1 → stepT S x z = true → F x z < 1 → M' z = true) := hideP (fun z hz h1 h2 => by
                  by_cases e : z = k
                  · have := (stepC_iff HLE.out (S := S) (x := x) (y := k)).2 ⟨by rw [← e]; exact h1, by rw [← e]; exact h2⟩
                    rw [← HC.out] at this; cases this
                  · exact HALL.out z (by omega) h1 h2)
                go_wp2_with (first | (go_at_call 72; refine (HEND.out _).mono ?_; rintro e w6 ⟨rfl, hb6⟩; have L6 := hideP (HL'.out.next hb6); clear hb6) | (go_at_call 50; refine (HCN.out _ L6.out.s.B).mono ?_; rintro e w7 ⟨rfl, hb7⟩; have L7 := hideP (L6.out.next hb7); clear hb7))
                go_roundw
                case rel => exact ⟨k + 1, M', ws', v', by omega, by go_num, L7.out, HR.out, hgk'⟩
                case measure => simp [intOf]; omega
              · have hcc := (stepC_iff HLE.out (S := S) (x := x) (y := k)).1 HC.out.symm
                have HCC := hideP hcc
                have hp7 : (cI p).length < 8 := by rw [cI_len]; exact HL'.out.f.room hlt HMK.out
                have HW7 := hideP (fun W => with_path9 (cI p) (k : Int) W hp7)
                have hwl : ws'.length ≤ 1000 := by omega
                have HR : Hid (∀ z, z < k + 1 → stepT S x z = true → F x z < 1 → mark M' k z = true) := hideP (fun z hz h1 h2 => by
                  by_cases e : z = k
                  · rw [e]; simp [mark]
                  · exact mark_old (HALL.out z (by omega) h1 h2))
                have HU : Hid (2 * unm (mark M' k) 8 + (ws' ++ [p ++ [k]]).length < gk) := hideP (by
                  have := unm_mark M' HMK.out 8 hlt
                  rw [List.length_append]
                  show 2 * unm (mark M' k) 8 + (ws'.length + 1) < gk
                  omega)
                clear hcc
                go_wp2_with (first | (go_at_call 72; refine (HEND.out _).mono ?_; rintro e w6 ⟨rfl, hb6⟩; have L6 := hideP (HL'.out.next hb6); clear hb6) | (go_at_call 50; refine (HCN.out _ L6.out.s.B).mono ?_; rintro e w7 ⟨rfl, hb7⟩; have L7 := hideP (L6.out.next hb7); obtain ⟨q0, q1, q2, q3, q4, q5, q6, q7, q8⟩ := own9 L7.out.o; clear hb7) | (go_at_call 69; refine (HW7.out _).mono ?_; rintro e w8 ⟨rfl, hb8⟩; have L8 := hideP (L7.out.next hb8); clear hb8) | (go_at_call 71; refine (come_ws L8.out.s (cI p ++ [(k : Int)]) k hlt (by simp) (by simp; omega) (lastI_snoc _ _) (by simpa using hwl)).mono ?_; rintro e w9 ⟨rfl, v9, hS9, hk9⟩))
                have L9 : Hid (Wl S F a b w w9 P p (mark M' k) (ws' ++ [p ++ [k]]) v9) := hideP (by
                  have hk := hk9 P L8.out.o.2.2 hge L8.out.ne
                  refine ⟨?_, ⟨fun j hj => (World.cell?_of_block (a := ⟨P, j, none⟩) hk.2).trans (L8.out.o.1 j hj), fun j => (World.frozen?_of_block (a := ⟨P, j, none⟩) hk.2).trans (L8.out.o.2.1 j), ?_⟩, hge, hk.1, L8.out.f.know k, L8.out.q.put L8.out.f hlt HMK.out (by rw [← HX.out]; exact HCC.out.1) (by rw [← HX.out]; exact HCC.out.2)⟩
                  · rw [List.map_append]
                    show Ws w w9 (mark M' k) v9 (ws'.map cI ++ [cI (p ++ [k])])
                    rw [cI_snoc]; exact hS9
                  · have h1 := L8.out.o.2.2
                    have h2 := hS9.sz
                    have h3 : w9.heap[P]? = w8.heap[P]? := hk.2
                    rw [Array.getElem?_eq_getElem h1] at h3
                    exact (Array.getElem?_eq_some_iff.1 h3).1)
                clear hS9 hk9
                go_roundw
                case rel => exact ⟨k + 1, mark M' k, ws' ++ [p ++ [k]], v9, by omega, by go_num, L9.out, HR.out, HU.out⟩
                case measure => simp [intOf]; omega
            · have HR : Hid (∀ z, z < k + 1 → stepT S x z = true → F x z < 1 → M' z = true) := hideP (fun z hz h1 h2 => by
                by_cases e : z = k
                · rw [e]; exact hMk
                · exact HALL.out z (by omega) h1 h2)
              rw [hMk] at ck
              clear hMk
              go_wp2
              go_roundw
              case rel => exact ⟨k + 1, M', ws', v', by omega, by go_num, HL'.out, HR.out, hgk'⟩
              case measure => simp [intOf]; omega
          · obtain rfl : k = 8 := by omega
            obtain ⟨p0, p1, p2, p3, p4, p5, p6, p7, p8⟩ := own9 hL'.o
            have QD : Hid (Wq (stepT S) F a b M' ws' (fun _ => False)) := hideP ((show Wq (stepT S) F a b M' ws' (fun y => y = x) from HX.out ▸ hL'.q).done hxb (fun z hz h1 h2 => hall z hz h1 h2))
            have S6 : ∀ o, Hid (Ws w (wr.alloc o) M' v' (ws'.map cI)) := fun o => hideP (hL'.s.next (below_one _ _))
            have O6 : ∀ t, Hid (OwnI (wr.alloc (.cells #[.int .i64 (xi (cI p) 0), .int .i64 (xi (cI p) 1), .int .i64 (xi (cI p) 2), .int .i64 (xi (cI p) 3), .int .i64 (xi (cI p) 4), .int .i64 (xi (cI p) 5), .int .i64 (xi (cI p) 6), .int .i64 (xi (cI p) 7), .int .i64 ((cI p).length : Int)] t)) wr.heap.size 9 (pcell (cI p))) := fun t => hideP (own_path wr (cI p) t)
            have hz6 := hL'.s.sz
            have HN6 : Hid (v'.ownBlock ≠ some wr.heap.size) := hideP (hL'.s.row.own_lt (Nat.le_refl _))
            clear hL' hall
            cases ws' with
            | nil =>
              go_wp2_with fail
              refine (take_ws_nil (S6 _).out).mono ?_
              rintro e w7 ⟨rfl, hb7⟩
              have S7 := hideP ((S6 _).out.next hb7)
              have O7 := hideP ((O6 _).out.below hb7 (O6 _).out.2.2)
              obtain ⟨q0, q1, q2, q3, q4, q5, q6, q7, q8⟩ := own9 O7.out
              have qf := O7.out.2.1
              clear S6 O6 p0 p1 p2 p3 p4 p5 p6 p7 p8 hb7
              unfold pathV
              go_wp2
              have PB := putPath_below (P := wr.heap.size) (l := []) S7.out.B (by omega)
              have PR := hideP (S7.out.res.kept (putPath_kp w7 wr.heap.size []) (by show ¬ w.heap.size = wr.heap.size; omega))
              obtain ⟨W, hW⟩ : ∃ W, W = putPath w7 wr.heap.size [] := ⟨_, rfl⟩
              rw [← hW] at PB PR
              rw [← putPath_nil2 w7 wr.heap.size, ← hW]
              have PBH := hideP PB
              clear hW PB q0 q1 q2 q3 q4 q5 q6 q7 q8 qf
              go_roundg 0
              case measure => omega
              case rel => exact ⟨by omega, M', [], v', wr.heap.size, p, rfl, Or.inr ⟨rfl, PBH.out, PR.out, QD.out⟩⟩
            | cons q ws2 =>
              go_wp2_with fail
              refine (take_ws_cons (l := cI q) (ps := ws2.map cI) (S6 _).out).mono ?_
              rintro e w7 ⟨rfl, v7, hS7, hv7, hk7⟩
              have S7 := hideP hS7
              have O7 := hideP ((O6 _).out.kept hk7 (by show ¬ wr.heap.size = w.heap.size + 2; omega))
              have hgs : w7.heap.size ≥ wr.heap.size := by have := hk7.size; simp at this; omega
              obtain ⟨q0, q1, q2, q3, q4, q5, q6, q7, q8⟩ := own9 O7.out
              have qf := O7.out.2.1
              have HV7 : Hid (v7.ownBlock ≠ some wr.heap.size) := hideP (by rw [hv7]; exact HN6.out)
              clear S6 O6 p0 p1 p2 p3 p4 p5 p6 p7 p8 hS7 hv7 hk7
              unfold pathV
              go_wp2
              have PS := hideP (S7.out.kept (putPath_kp w7 wr.heap.size (cI q)) (by rintro b rfl; exact ⟨hz6, HV7.out⟩))
              have PO := hideP (putPath_own (l2 := cI q) O7.out)
              obtain ⟨W, hW⟩ : ∃ W, W = putPath w7 wr.heap.size (cI q) := ⟨_, rfl⟩
              rw [← hW] at PS PO
              rw [← putPath_eq w7 wr.heap.size (cI q), ← hW]
              clear hW q0 q1 q2 q3 q4 q5 q6 q7 q8 qf
              have hlen : 2 * unm M' 8 + ws2.length + 1 < gk := by simp at hgk'; omega
              have QT := hideP QD.out.take
              go_roundg (2 * unm M' 8 + ws2.length + 1)
              case measure => exact hlen
              case rel => exact ⟨by omega, M', ws2, v7, wr.heap.size, q, rfl, Or.inl ⟨rfl, ⟨PS.out, PO.out, hz6, HV7.out, QT.out.1, QT.out.2⟩, Nat.le_refl _⟩⟩
    · have HB := hideP hB
      have HQ := hideP hQ
      obtain ⟨r0, r1, r2, r3, r4, r5, r6, r7, r8⟩ := own9 hR
      have rf := hR.2.1
      have HR := hideP hR
      simp only [List.length_nil] at r8
      clear hB hQ hR
      go_wp2
      have PB := putPath_below (P := w.heap.size) (l := []) HB.out (Nat.le_refl _)
      have PO := putPath_own (l2 := []) HR.out
      obtain ⟨W, hW⟩ : ∃ W, W = putPath wr w.heap.size [] := ⟨_, rfl⟩
      rw [← hW] at PB PO
      obtain ⟨o0, o1, o2, o3, o4, o5, o6, o7, o8⟩ := own9 PO
      rw [← putPath_nil wr w.heap.size, ← hW]
      simp only [List.length_nil] at o8
      clear hW r0 r1 r2 r3 r4 r5 r6 r7 r8
      refine bodyPost_ret (v := .tuple #[pathV [], .bool false]) (by simp [results, Tryd.results53, go_sem, pathV, o0, o1, o2, o3, o4, o5, o6, o7, o8]) rfl ⟨PB, Or.inr ⟨rfl, M, HQ.out⟩⟩

end Go.Proofs.YtljnjpjnadlmhaaDoor
