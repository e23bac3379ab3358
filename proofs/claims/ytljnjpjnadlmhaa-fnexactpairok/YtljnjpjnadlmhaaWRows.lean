/- Rows of knots of the call's own that begin anywhere in a block: shortened at the head, appended to. -/
import Derived.Test.YtljnjpjnadlmhaaWInts
import Derived.ArgAppend
import Derived.OwnWalk
namespace Go.Proofs.Ytljnjpjnadlmhaa
open Go.RowKit
set_option linter.unusedVariables false

def ncell (x : Nat) : Value := .int .i64 (x : Int)
structure RowS (w : World) (lo g off cap : Nat) (xs : List Nat) : Prop where
  len : xs.length ≤ cap
  cells : ∀ i, i < xs.length → w.cell? ⟨g, off + i, none⟩ = some (ncell (xs.getD i 0))
  room : ∀ i, i < cap → (w.cell? ⟨g, off + i, none⟩).isSome = true
  fr : ∀ i, w.frozen? ⟨g, i, none⟩ = false
  lo : lo ≤ g
  lt : g < w.heap.size
theorem RowS.same {w w' : World} {lo g off cap : Nat} {xs : List Nat} (h : RowS w lo g off cap xs) (e : w'.heap[g]? = w.heap[g]?) (hs : w.heap.size ≤ w'.heap.size) : RowS w' lo g off cap xs :=
  ⟨h.len, fun i hi => (World.cell?_of_block (a := ⟨g, off + i, none⟩) e).trans (h.cells i hi), fun i hi => by rw [World.cell?_of_block (a := ⟨g, off + i, none⟩) e]; exact h.room i hi, fun i => (World.frozen?_of_block (a := ⟨g, i, none⟩) e).trans (h.fr i), h.lo, Nat.lt_of_lt_of_le h.lt hs⟩
theorem RowS.next {w w' : World} {lo g off cap : Nat} {xs : List Nat} (h : RowS w lo g off cap xs) (hb : Below w.heap.size w w') : RowS w' lo g off cap xs := h.same (hb.block g h.lt) hb.size
theorem RowS.turn {w w' : World} {lo g off cap a b : Nat} {xs : List Nat} (h : RowS w lo g off cap xs) (ht : Turned a b w w') (hg : g < a ∨ b ≤ g) : RowS w' lo g off cap xs := h.same (ht.block g h.lt hg) ht.size
theorem RowS.down {w : World} {lo lo' g off cap : Nat} {xs : List Nat} (h : RowS w lo g off cap xs) (hl : lo' ≤ lo) : RowS w lo' g off cap xs := ⟨h.len, h.cells, h.room, h.fr, Nat.le_trans hl h.lo, h.lt⟩
theorem RowS.tail {w : World} {lo g off cap x : Nat} {xs : List Nat} (h : RowS w lo g off (cap + 1) (x :: xs)) : RowS w lo g (off + 1) cap xs := by
  refine ⟨by have := h.len; simp at this; omega, fun i hi => ?_, fun i hi => ?_, h.fr, h.lo, h.lt⟩
  · have := h.cells (i + 1) (by simp; omega)
    rw [show off + 1 + i = off + (i + 1) by omega, this]; simp
  · rw [show off + 1 + i = off + (i + 1) by omega]; exact h.room (i + 1) (by omega)
theorem RowS.void {w : World} {lo g off cap : Nat} {xs : List Nat} (h : RowS w lo g off cap xs) (off' : Nat) : RowS w lo g off' 0 [] :=
  ⟨by simp, fun i hi => absurd hi (by simp), fun i hi => absurd hi (by omega), h.fr, h.lo, h.lt⟩
theorem RowS.push {w : World} {lo g off cap : Nat} {xs : List Nat} (h : RowS w lo g off cap xs) (y : Nat) (hl : xs.length < cap) : RowS (w.setCell ⟨g, off + xs.length, none⟩ (ncell y)) lo g off cap (xs ++ [y]) := by
  obtain ⟨u, hu⟩ := Option.isSome_iff_exists.1 (h.room xs.length hl)
  refine ⟨by simp; omega, fun i hi => ?_, fun i hi => ?_, fun i => by rw [World.frozen?_setCell]; exact h.fr i, h.lo, by simpa using h.lt⟩
  · simp at hi
    by_cases e : i = xs.length
    · subst e
      rw [World.cell?_setCell_same w ⟨g, off + xs.length, none⟩ _ hu]
      simp
    · rw [World.cell?_setCell_other _ _ _ _ (by simp; try omega), h.cells i (by omega)]
      simp [List.getElem?_append_left (show i < xs.length by omega)]
  · by_cases e : i = xs.length
    · subst e; rw [World.cell?_setCell_same w ⟨g, off + xs.length, none⟩ _ hu]; rfl
    · rw [World.cell?_setCell_other _ _ _ _ (by simp; try omega)]; exact h.room i hi
theorem RowS.ofOwn {w : World} {base n cap : Nat} {e : TypeId} {v : Value} {xs : List Nat} (h : w.ownsRow base e 1 v n (xs.map ncell)) (hn : 0 < n) : ∃ g cap, v = .slice (some ⟨g, 0, none⟩) n cap ∧ RowS w base g 0 cap xs := by
  have hlen : xs.length = n := by have := h.1; simpa using this
  rcases h.2 with ⟨_, e0⟩ | ⟨g, cap', cur, rfl, hg, hh, hc1, hc2, hc3, hc4⟩
  · omega
  · have hlt : g < w.heap.size := (Array.getElem?_eq_some_iff.1 hh).1
    refine ⟨g, cap', rfl, by omega, fun i hi => ?_, fun i hi => ?_, fun i => h.frozenAt i, hg, hlt⟩
    · rw [show 0 + i = i by omega, h.cellAt i (by omega)]
      simp [hi]
    · rw [show 0 + i = i by omega]
      have : i < cur.size := by rw [hc3]; omega
      simp [World.cell?, hh, this]

theorem wpList_append_rowS {P : Program} (w : World) {ops : Array Oper} {rest : List Oper} {o : Oper} {a : Act} {Q : Exit → Act → World → Prop} (hgd : o.guard = none) (s x : Operand) (t : TypeId)
    (ho : o.op = .call { callee := .builtin .append, args := #[s, x], argTypes := #[t, t] })
    (lo : Nat) (e : TypeId) (i : TypeInfo) (ht : P.underlying t = some (.slice e)) (hi : P.info? e = some i) (hz : i.zero = some (.int .i64 0)) (hsize : i.size = 1) (hby : i.bytes = 8)
    (g off cap : Nat) (xs : List Nat) (n : Nat) (hn : xs.length = n) (hs : a.eval s = .slice (some ⟨g, off, none⟩) n cap) (hr : RowS w lo g off cap xs)
    (q y : Nat) (hx : a.eval x = .slice (some ⟨q, 0, none⟩) 1 1) (hq : w.cell? ⟨q, 0, none⟩ = some (ncell y)) (hshort : xs.length ≤ 1000) (hlo : lo ≤ w.heap.size)
    (h : ∀ g' off' cap' w', RowS w' lo g' off' cap' (xs ++ [y]) → (g' = g ∨ w.heap.size ≤ g') → Turned g (g + 1) w w' → wpList P ops Q rest (a.put o.dst (.slice (some ⟨g', off', none⟩) (n + 1) cap')) w') : wpList P ops Q (o :: rest) a w := by
  subst hn
  refine wpList_plain hgd fun K hK => ?_
  have hnews : ∀ j u, [ncell y][j]? = some u → w.cell? ((⟨q, 0, none⟩ : Addr).add j) = some u := by
    intro j u hj
    cases j with
    | zero => simp at hj; subst hj; simpa [Addr.add] using hq
    | succ j => simp at hj
  by_cases hroom : xs.length < cap
  · have hrun := run_append_room_cells (P := P) w t o.type e i ht hi g off xs.length cap ⟨q, 0, none⟩ 1 1 [ncell y] (by simp [hsize]) hnews (by intro u hu; simp at hu; subst hu; rfl) (by omega)
      (by intro j hj; simp at hj; subst hj; rw [hsize]; simpa using hr.room xs.length hroom) (by intro j hj; exact hr.fr _)
    have hset : w.setCells g (off + xs.length * i.size) [ncell y] = w.setCell ⟨g, off + xs.length, none⟩ (ncell y) := by
      rw [hsize]; simp [World.setCells]
    rw [hset] at hrun
    unfold Oper.wp execOp
    simp only [ho, resolve, invoke, builtin, Sem.run_bind, Sem.run_pure, Result.andThen_ok, List.map_toArray, List.map_cons, List.map_nil, hs, hx, hrun]
    exact hK _ _ (h g off cap _ (hr.push y hroom) (Or.inl rfl) ⟨rfl, rfl, rfl, by simp [World.setCell], fun k _ hk => Below.heap_setCell _ _ _ _ (by show k ≠ g; omega)⟩)
  · have holds : ∀ j u, (xs.map ncell)[j]? = some u → w.cell? ((⟨g, off, none⟩ : Addr).add j) = some u := by
      intro j u hj
      have hj' : j < xs.length := by have := (List.getElem?_eq_some_iff.1 hj).1; simpa using this
      have hc := hr.cells j hj'
      have ha : (⟨g, off, none⟩ : Addr).add j = ⟨g, off + j, none⟩ := by unfold Addr.add; split <;> simp_all
      rw [ha, hc]
      simp [hj'] at hj ⊢
      exact hj
    obtain ⟨v', w', hrun, hown, hgr⟩ := run_append_arg_grows (P := P) w t o.type e i (.int .i64 0) 1 8 ht hi hz hsize hby rfl (by omega) ⟨g, off, none⟩ xs.length cap (xs.map ncell) (by simp) holds ⟨q, 0, none⟩ 1 1 [ncell y] (by simp) hnews (by omega) (by unfold maxLen; omega) (by omega)
    have hown' : w'.ownsRow w.heap.size e 1 v' (xs.length + 1) ((xs ++ [y]).map ncell) := by simpa using hown
    obtain ⟨g', cap', rfl, hrow⟩ := RowS.ofOwn (cap := 0) hown' (by omega)
    unfold Oper.wp execOp
    simp only [ho, resolve, invoke, builtin, Sem.run_bind, Sem.run_pure, Result.andThen_ok, List.map_toArray, List.map_cons, List.map_nil, hs, hx, hrun]
    exact hK _ _ (h g' 0 cap' w' (hrow.down hlo) (Or.inr hrow.lo) ⟨hgr.os, hgr.tape, hgr.output, hgr.size, fun k hk _ => hgr.block k hk (by simp)⟩)

end Go.Proofs.Ytljnjpjnadlmhaa
