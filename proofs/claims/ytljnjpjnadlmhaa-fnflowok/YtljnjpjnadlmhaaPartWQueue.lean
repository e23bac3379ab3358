/- Texts put together: WQueue, WRowP, WPut. -/
import Derived.Test.YtljnjpjnadlmhaaPartWFull
import Derived.Test.YtljnjpjnadlmhaaPartWPath
import Derived.Test.YtljnjpjnadlmhaaPartWRows
import Derived.Laws.IdiomCopy
import Derived.Maps.AppendAt
import Derived.Deep.RegionHeld3
import Derived.Deep.RegionLaw
/- Walks of impl.queue[path]. -/
namespace Go.Proofs.Ytljnjpjnadlmhaa
open Go.RowKit
set_option linter.unusedVariables false

/-- where a row begins that is shorter at its head: where it began, if no room is left behind -/
def OffAt (c off off' : Nat) : Prop := c ≠ 0 → off' = off + 9
theorem take_end {w : World} {Q : Nat} {u s : Value} (o1 o2 : Obj) (h : w.cell? ⟨Q, 0, none⟩ = some u) (hf : w.frozen? ⟨Q, 0, none⟩ = false) (hQ : Q < w.heap.size) :
    (((w.setCell ⟨Q, 0, none⟩ s).alloc o1).alloc o2).cell? ⟨Q, 0, none⟩ = some s ∧ Turned Q (Q + 1) w (((w.setCell ⟨Q, 0, none⟩ s).alloc o1).alloc o2) ∧ (((w.setCell ⟨Q, 0, none⟩ s).alloc o1).alloc o2).frozen? ⟨Q, 0, none⟩ = false := by
  have hs : (w.setCell ⟨Q, 0, none⟩ s).heap.size = w.heap.size := by simp [World.setCell]
  have b1 := below_one (w.setCell ⟨Q, 0, none⟩ s) o1
  have b2 := below_one ((w.setCell ⟨Q, 0, none⟩ s).alloc o1) o2
  have b3 := b1.trans (b2.mono b1.size)
  refine ⟨(b3.cell (p := ⟨Q, 0, none⟩) (by show Q < _; omega)).trans (World.cell?_setCell_same' w ⟨Q, 0, none⟩ s (by rw [h]; rfl)), ?_, (b3.frozen (p := ⟨Q, 0, none⟩) (by show Q < _; omega)).trans (by rw [World.frozen?_setCell]; exact hf)⟩
  have t1 : Turned Q (Q + 1) w (w.setCell ⟨Q, 0, none⟩ s) := ⟨rfl, rfl, rfl, by simp [World.setCell], fun k _ hk => Below.heap_setCell _ _ _ _ (by show k ≠ Q; omega)⟩
  exact t1.joined (Turned.ofB b3)
end Go.Proofs.Ytljnjpjnadlmhaa

/- Rows of ways, nine cells each, of the call's own, that begin anywhere in a block: shortened at the head, appended to. -/
namespace Go.Proofs.Ytljnjpjnadlmhaa
open Go.RowKit
set_option linter.unusedVariables false

/-- a way's nine cells -/
def cells9 (l : List Int) : List Value := [.int .i64 (xi l 0), .int .i64 (xi l 1), .int .i64 (xi l 2), .int .i64 (xi l 3), .int .i64 (xi l 4), .int .i64 (xi l 5), .int .i64 (xi l 6), .int .i64 (xi l 7), .int .i64 (l.length : Int)]
theorem cells9_at (l : List Int) (j : Nat) (h : j < 9) : (cells9 l)[j]? = some (pcell l j) := by
  have : j = 0 ∨ j = 1 ∨ j = 2 ∨ j = 3 ∨ j = 4 ∨ j = 5 ∨ j = 6 ∨ j = 7 ∨ j = 8 := by omega
  rcases this with rfl | rfl | rfl | rfl | rfl | rfl | rfl | rfl | rfl <;> rfl
def flat9 (ps : List (List Int)) : List Value := ps.flatMap cells9
theorem flat9_len (ps : List (List Int)) : (flat9 ps).length = ps.length * 9 := by
  induction ps with
  | nil => rfl
  | cons p ps ih =>
    show (cells9 p ++ flat9 ps).length = _
    rw [List.length_append, ih, List.length_cons]
    show 9 + _ = _
    omega
theorem flat9_snoc (ps : List (List Int)) (l : List Int) : flat9 (ps ++ [l]) = flat9 ps ++ cells9 l := by unfold flat9; simp
structure RowP (w : World) (lo g off cap : Nat) (ps : List (List Int)) : Prop where
  len : ps.length ≤ cap
  cells : ∀ j u, (flat9 ps)[j]? = some u → w.cell? ⟨g, off + j, none⟩ = some u
  room : ∀ j, j < cap * 9 → (w.cell? ⟨g, off + j, none⟩).isSome = true
  fr : ∀ i, w.frozen? ⟨g, i, none⟩ = false
  lo : lo ≤ g
  lt : g < w.heap.size
theorem RowP.same {w w' : World} {lo g off cap : Nat} {ps : List (List Int)} (h : RowP w lo g off cap ps) (e : w'.heap[g]? = w.heap[g]?) (hs : w.heap.size ≤ w'.heap.size) : RowP w' lo g off cap ps :=
  ⟨h.len, fun i u hi => (World.cell?_of_block (a := ⟨g, off + i, none⟩) e).trans (h.cells i u hi), fun i hi => by rw [World.cell?_of_block (a := ⟨g, off + i, none⟩) e]; exact h.room i hi, fun i => (World.frozen?_of_block (a := ⟨g, i, none⟩) e).trans (h.fr i), h.lo, Nat.lt_of_lt_of_le h.lt hs⟩
theorem RowP.next {w w' : World} {lo g off cap : Nat} {ps : List (List Int)} (h : RowP w lo g off cap ps) (hb : Below w.heap.size w w') : RowP w' lo g off cap ps := h.same (hb.block g h.lt) hb.size
theorem RowP.turn {w w' : World} {lo g off cap a b : Nat} {ps : List (List Int)} (h : RowP w lo g off cap ps) (ht : Turned a b w w') (hg : g < a ∨ b ≤ g) : RowP w' lo g off cap ps := h.same (ht.block g h.lt hg) ht.size
theorem RowP.down {w : World} {lo lo' g off cap : Nat} {ps : List (List Int)} (h : RowP w lo g off cap ps) (hl : lo' ≤ lo) : RowP w lo' g off cap ps := ⟨h.len, h.cells, h.room, h.fr, Nat.le_trans hl h.lo, h.lt⟩
theorem RowP.head {w : World} {lo g off cap : Nat} {l : List Int} {ps : List (List Int)} (h : RowP w lo g off cap (l :: ps)) (j : Nat) (hj : j < 9) : w.cell? ⟨g, off + j, none⟩ = some (pcell l j) := by
  refine h.cells j _ ?_
  show (cells9 l ++ flat9 ps)[j]? = _
  rw [List.getElem?_append_left (by show j < 9; exact hj)]
  exact cells9_at l j hj
theorem RowP.tail {w : World} {lo g off cap : Nat} {l : List Int} {ps : List (List Int)} (h : RowP w lo g off (cap + 1) (l :: ps)) : RowP w lo g (off + 9) cap ps := by
  refine ⟨by have := h.len; simp at this; omega, fun j u hj => ?_, fun j hj => ?_, h.fr, h.lo, h.lt⟩
  · rw [show off + 9 + j = off + (9 + j) by omega]
    refine h.cells (9 + j) u ?_
    show (cells9 l ++ flat9 ps)[9 + j]? = _
    rw [List.getElem?_append_right (by show 9 ≤ 9 + j; omega)]
    show (flat9 ps)[9 + j - 9]? = _
    rw [Nat.add_sub_cancel_left]; exact hj
  · rw [show off + 9 + j = off + (9 + j) by omega]; exact h.room (9 + j) (by omega)
theorem RowP.void {w : World} {lo g off cap : Nat} {ps : List (List Int)} (h : RowP w lo g off cap ps) (off' : Nat) : RowP w lo g off' 0 [] :=
  ⟨by simp, fun i u hi => by simp [flat9] at hi, fun i hi => absurd hi (by omega), h.fr, h.lo, h.lt⟩
theorem RowP.push {w : World} {lo g off cap : Nat} {ps : List (List Int)} (h : RowP w lo g off cap ps) (l : List Int) (hl : ps.length < cap) : RowP (w.setCells g (off + ps.length * 9) (cells9 l)) lo g off cap (ps ++ [l]) := by
  have hroom : ∀ j, j < (cells9 l).length → (w.cell? ⟨g, off + ps.length * 9 + j, none⟩).isSome = true := fun j hj => by
    have hj9 : j < 9 := hj
    rw [Nat.add_assoc]; exact h.room _ (by omega)
  have hsz : w.heap.size ≤ (w.setCells g (off + ps.length * 9) (cells9 l)).heap.size := by simp [World.setCells, cells9, World.setCell]
  refine ⟨by simp; omega, fun j u hj => ?_, fun j hj => ?_, fun i => by rw [World.frozen?_setCells]; exact h.fr i, h.lo, Nat.lt_of_lt_of_le h.lt hsz⟩
  · rw [flat9_snoc] at hj
    by_cases e : j < ps.length * 9
    · rw [List.getElem?_append_left (by rw [flat9_len]; exact e)] at hj
      rw [World.cell?_setCells_out g (cells9 l) (off + ps.length * 9) w ⟨g, off + j, none⟩ (fun _ _ => Or.inl (by show off + j < _; omega))]
      exact h.cells j u hj
    · rw [List.getElem?_append_right (by rw [flat9_len]; omega), flat9_len] at hj
      obtain ⟨hk, hu⟩ := List.getElem?_eq_some_iff.1 hj
      have := World.cell?_setCells_in g (cells9 l) (off + ps.length * 9) w hroom (j - ps.length * 9) hk
      rw [show off + ps.length * 9 + (j - ps.length * 9) = off + j by omega] at this
      rw [this, hu]
  · by_cases e : ps.length * 9 ≤ j ∧ j < ps.length * 9 + 9
    · have hk : j - ps.length * 9 < (cells9 l).length := by show _ < 9; omega
      have := World.cell?_setCells_in g (cells9 l) (off + ps.length * 9) w hroom (j - ps.length * 9) hk
      rw [show off + ps.length * 9 + (j - ps.length * 9) = off + j by omega] at this
      rw [this]; rfl
    · rw [World.cell?_setCells_out g (cells9 l) (off + ps.length * 9) w ⟨g, off + j, none⟩ (fun _ _ => by show off + j < _ ∨ off + ps.length * 9 + 9 ≤ off + j; omega)]
      exact h.room j hj
theorem RowP.ofOwn {w : World} {base n : Nat} {e : TypeId} {v : Value} {ps : List (List Int)} (h : w.ownsRow base e 9 v n (flat9 ps)) (hn : 0 < n) : ∃ g cap, v = .slice (some ⟨g, 0, none⟩) n cap ∧ RowP w base g 0 cap ps := by
  have hlen : ps.length = n := by have := h.1; rw [flat9_len] at this; omega
  rcases h.2 with ⟨_, e0⟩ | ⟨g, cap', cur, rfl, hg, hh, hc1, hc2, hc3, hc4⟩
  · omega
  · have hlt : g < w.heap.size := (Array.getElem?_eq_some_iff.1 hh).1
    refine ⟨g, cap', rfl, by omega, fun j u hj => ?_, fun j hj => ?_, fun i => h.frozenAt i, hg, hlt⟩
    · obtain ⟨hk, hu⟩ := List.getElem?_eq_some_iff.1 hj
      rw [flat9_len] at hk
      rw [show 0 + j = j by omega, h.cellAt j (by omega)]
      exact hj
    · rw [show 0 + j = j by omega]
      have : j < cur.size := by rw [hc3]; omega
      simp [World.cell?, hh, this]

/-- what waits in a queue: nothing was put in yet, or a row -/
def QRow (w : World) (lo : Nat) (v : Value) (ps : List (List Int)) : Prop :=
  (v = .slice none 0 0 ∧ ps = []) ∨ ∃ g off cap, v = .slice (some ⟨g, off, none⟩) ps.length cap ∧ RowP w lo g off cap ps
theorem setCells_turned (g : Nat) (vs : List Value) : ∀ (o : Nat) (w : World), Turned g (g + 1) w (w.setCells g o vs) := by
  induction vs with
  | nil => intro o w; exact Turned.refl _ _ _
  | cons x vs ih =>
    intro o w
    rw [World.setCells]
    have t : Turned g (g + 1) w (w.setCell ⟨g, o, none⟩ x) := ⟨rfl, rfl, rfl, by simp [World.setCell], fun k _ hk => Below.heap_setCell _ _ _ _ (by show k ≠ g; omega)⟩
    exact t.joined (ih _ _)
theorem cells9_one (l : List Int) (u : Value) (hu : u ∈ cells9 l) : u.oneCell' = true := by
  unfold cells9 at hu
  simp only [List.mem_cons, List.not_mem_nil, or_false] at hu
  rcases hu with h | h | h | h | h | h | h | h | h <;> (rw [h]; rfl)
set_option maxHeartbeats 800000 in
theorem run_append_rowP {P : Program} (w : World) (t ty : TypeId) (lo : Nat) (e : TypeId) (i : TypeInfo) (z : Value) (ht : P.underlying t = some (.slice e)) (hi : P.info? e = some i) (hz : i.zero = some z) (hzs : z.cells.size = 9) (hsize : i.size = 9) (hby : i.bytes = 72)
    (v : Value) (ps : List (List Int)) (hr : QRow w lo v ps) (q : Nat) (l : List Int) (hq : ∀ j u, (cells9 l)[j]? = some u → w.cell? ⟨q, j, none⟩ = some u) (hshort : ps.length ≤ 1000) (hlo : lo ≤ w.heap.size) :
    ∃ g' off' cap' w', (Builtin.append_ #[t, t] ty #[v, .slice (some ⟨q, 0, none⟩) 1 1]).run P w = .ok (.slice (some ⟨g', off', none⟩) (ps.length + 1) cap') w' ∧ RowP w' lo g' off' cap' (ps ++ [l]) ∧ (∀ a b, (∀ g off cap, v = .slice (some ⟨g, off, none⟩) ps.length cap → a ≤ g ∧ g < b) → Turned a b w w') ∧ (v.ownBlock = some g' ∨ w.heap.size ≤ g') := by
  have ha : ∀ (g off j : Nat), (⟨g, off, none⟩ : Addr).add j = ⟨g, off + j, none⟩ := fun g off j => by unfold Addr.add; split <;> simp_all
  have hnews : ∀ j u, (cells9 l)[j]? = some u → w.cell? ((⟨q, 0, none⟩ : Addr).add j) = some u := fun j u hj => by rw [ha, Nat.zero_add]; exact hq j u hj
  have h1 : ∀ u ∈ cells9 l, u.oneCell' = true := fun u hu => cells9_one l u hu
  have h9 : (cells9 l).length = 1 * 9 := rfl
  have hm1 : ps.length + 1 ≤ maxLen := by unfold maxLen; omega
  rcases hr with ⟨rfl, rfl⟩ | ⟨g, off, cap, rfl, hr⟩
  · obtain ⟨v', w', hrun, hown, hgr, h4, h5⟩ := run_append_own_at (P := P) w w.heap.size t ty e i z 9 72 ht hi hz hsize hby hzs (by omega) (.slice none 0 0) 0 [] (World.ownsRow_nil _ _ _ _) ⟨q, 0, none⟩ 1 1 (cells9 l) h9 hnews h1 (by simpa using hm1) (by omega) (Nat.le_refl _)
    have hown' : w'.ownsRow w.heap.size e 9 v' 1 (flat9 ([] ++ [l])) := by
      have e9 : flat9 ([] ++ [l]) = [] ++ cells9 l := by simp [flat9]
      rw [e9]; simpa using hown
    obtain ⟨g', cap', rfl, hrow⟩ := RowP.ofOwn hown' (by omega)
    exact ⟨g', 0, cap', w', hrun, hrow.down hlo, fun a b _ => ⟨hgr.os, hgr.tape, hgr.output, hgr.size, fun k hk _ => hgr.block k hk (by simp [Value.ownBlock])⟩, Or.inr hrow.lo⟩
  · by_cases hroom : ps.length < cap
    · have hrun := run_append_room_cells (P := P) w t ty e i ht hi g off ps.length cap ⟨q, 0, none⟩ 1 1 (cells9 l) (by rw [hsize]; exact h9) hnews h1 (by omega)
        (by intro j hj; have hj9 : j < 9 := hj; rw [hsize, Nat.add_assoc]; exact hr.room _ (by omega)) (by intro j hj; exact hr.fr _)
      rw [hsize] at hrun
      refine ⟨g, off, cap, _, hrun, hr.push l hroom, fun a b hab => ?_, Or.inl rfl⟩
      obtain ⟨h2, h3⟩ := hab g off cap rfl
      have ht := setCells_turned g (cells9 l) (off + ps.length * 9) w
      exact ⟨ht.os, ht.tape, ht.output, ht.size, fun k hk ho => ht.block k hk (by omega)⟩
    · obtain ⟨v', w', hrun, hown, hgr⟩ := run_append_arg_grows (P := P) w t ty e i z 9 72 ht hi hz hsize hby hzs (by omega) ⟨g, off, none⟩ ps.length cap (flat9 ps) (flat9_len ps) (fun j u hj => by rw [ha]; exact hr.cells j u hj) ⟨q, 0, none⟩ 1 1 (cells9 l) h9 hnews (by omega) hm1 (by omega)
      rw [← flat9_snoc] at hown
      obtain ⟨g', cap', rfl, hrow⟩ := RowP.ofOwn hown (by omega)
      exact ⟨g', 0, cap', w', hrun, hrow.down hlo, fun a b _ => ⟨hgr.os, hgr.tape, hgr.output, hgr.size, fun k hk _ => hgr.block k hk (by simp)⟩, Or.inr hrow.lo⟩

theorem step_rowP {P : Program} {w : World} {ops : Array Oper} {o : Oper} {a : Act} {K : Act → World → Prop} {Q : Exit → Act → World → Prop} {E : Prop} (hw : Region.wanted o (yielded ops a.tmps) = true) (s x : Operand) (t : TypeId)
    (ho : o.op = .call { callee := .builtin .append, args := #[s, x], argTypes := #[t, t] })
    (lo : Nat) (e : TypeId) (i : TypeInfo) (z : Value) (ht : P.underlying t = some (.slice e)) (hi : P.info? e = some i) (hz : i.zero = some z) (hzs : z.cells.size = 9) (hsize : i.size = 9) (hby : i.bytes = 72)
    (v : Value) (ps : List (List Int)) (hs : a.eval s = v) (hr : QRow w lo v ps) (q : Nat) (l : List Int) (hx : a.eval x = .slice (some ⟨q, 0, none⟩) 1 1) (hq : ∀ j u, (cells9 l)[j]? = some u → w.cell? ⟨q, j, none⟩ = some u) (hshort : ps.length ≤ 1000) (hlo : lo ≤ w.heap.size)
    (h : ∀ g' off' cap' w', RowP w' lo g' off' cap' (ps ++ [l]) → (∀ a b, (∀ g off cap, v = .slice (some ⟨g, off, none⟩) ps.length cap → a ≤ g ∧ g < b) → Turned a b w w') → (v.ownBlock = some g' ∨ w.heap.size ≤ g') → K (a.put o.dst (.slice (some ⟨g', off', none⟩) (ps.length + 1) cap')) w') :
    if Region.wanted o (yielded ops a.tmps) = true then Oper.wp P o a w K Q else E := by
  rw [if_pos hw]
  obtain ⟨g', off', cap', w', hrun, h1, h2, h3⟩ := run_append_rowP (P := P) w t o.type lo e i z ht hi hz hzs hsize hby v ps hr q l hq hshort hlo
  unfold Oper.wp execOp
  simp only [ho, resolve, invoke, builtin, Sem.run_bind, Sem.run_pure, Result.andThen_ok, List.map_toArray, List.map_cons, List.map_nil, hs, hx, hrun]
  exact h g' off' cap' w' h1 h2 h3

end Go.Proofs.Ytljnjpjnadlmhaa

/- Walk of impl.queue[path].put. -/
namespace Go.Proofs.Ytljnjpjnadlmhaa
open Go.RowKit
set_option linter.unusedVariables false

theorem QRow.next {w w' : World} {lo : Nat} {v : Value} {ps : List (List Int)} (h : QRow w lo v ps) (hb : Below w.heap.size w w') : QRow w' lo v ps := by
  rcases h with h | ⟨g, off, cap, e, h⟩
  · exact Or.inl h
  · exact Or.inr ⟨g, off, cap, e, h.next hb⟩
theorem QRow.other {w w' : World} {lo : Nat} {v : Value} {ps : List (List Int)} (h : QRow w lo v ps) (hT : ∀ a b, (∀ g off cap, v = .slice (some ⟨g, off, none⟩) ps.length cap → a ≤ g ∧ g < b) → Turned a b w w') (k : Nat) (hk : k < w.heap.size) (hv : v.ownBlock ≠ some k) : w'.heap[k]? = w.heap[k]? := by
  rcases h with ⟨rfl, _⟩ | ⟨g, off, cap, rfl, h⟩
  · exact (hT 0 0 (fun g off cap e => by cases e)).block k hk (Or.inr (Nat.zero_le _))
  · refine (hT g (g + 1) (fun g' off' cap' e => by injection e with e; injection e with e; injection e with e; omega)).block k hk ?_
    have : g ≠ k := fun e => hv (by rw [← e]; rfl)
    omega
theorem QRow.sizes {w w' : World} {lo : Nat} {v : Value} {ps : List (List Int)} (h : QRow w lo v ps) (hT : ∀ a b, (∀ g off cap, v = .slice (some ⟨g, off, none⟩) ps.length cap → a ≤ g ∧ g < b) → Turned a b w w') : w.heap.size ≤ w'.heap.size := by
  rcases h with ⟨rfl, _⟩ | ⟨g, off, cap, rfl, h⟩
  · exact (hT 0 0 (fun g off cap e => by cases e)).size
  · exact (hT g (g + 1) (fun g' off' cap' e => by injection e with e; injection e with e; injection e with e; omega)).size
theorem QRow.own_lt {w : World} {lo : Nat} {v : Value} {ps : List (List Int)} (h : QRow w lo v ps) {k : Nat} (hk : w.heap.size ≤ k) : v.ownBlock ≠ some k := by
  rcases h with ⟨rfl, _⟩ | ⟨g, off, cap, rfl, h⟩
  · intro e; cases e
  · intro e
    have e2 : g = k := by simpa [Value.ownBlock] using e
    have := h.lt; omega
theorem Try.infoPath : (Try.prog.info? 100).map (fun i => (i.zero, i.size, i.bytes)) = some (some (.agg #[.int .i64 0, .int .i64 0, .int .i64 0, .int .i64 0, .int .i64 0, .int .i64 0, .int .i64 0, .int .i64 0, .int .i64 0]), 9, 72) := by kernel_rfl
/-- what a call turns, but for some blocks -/
structure Kp (bad : Nat → Prop) (w w' : World) : Prop where
  os : w'.os = w.os
  tape : w'.tape = w.tape
  output : w'.output = w.output
  size : w.heap.size ≤ w'.heap.size
  block : ∀ k, k < w.heap.size → ¬ bad k → w'.heap[k]? = w.heap[k]?
theorem Kp.refl (bad : Nat → Prop) (w : World) : Kp bad w w := ⟨rfl, rfl, rfl, Nat.le_refl _, fun _ _ _ => rfl⟩
theorem Kp.trans {bad : Nat → Prop} {a b c : World} (h : Kp bad a b) (k : Kp bad b c) : Kp bad a c :=
  ⟨k.os.trans h.os, k.tape.trans h.tape, k.output.trans h.output, Nat.le_trans h.size k.size, fun i hi hb => (k.block i (Nat.lt_of_lt_of_le hi h.size) hb).trans (h.block i hi hb)⟩
theorem Kp.ofB {bad : Nat → Prop} {a b : World} (h : Below a.heap.size a b) : Kp bad a b := ⟨h.os, h.tape, h.output, h.size, fun k hk _ => h.block k hk⟩
theorem Kp.mono {bad bad' : Nat → Prop} {a b : World} (h : Kp bad a b) (hb : ∀ k, k < a.heap.size → bad k → bad' k) : Kp bad' a b := ⟨h.os, h.tape, h.output, h.size, fun k hk hn => h.block k hk (fun q => hn (hb k hk q))⟩
theorem Kp.cell {bad : Nat → Prop} {a b : World} (h : Kp bad a b) {p : Addr} (hp : p.block < a.heap.size) (hn : ¬ bad p.block) : b.cell? p = a.cell? p := World.cell?_of_block (h.block p.block hp hn)
theorem Kp.frozen {bad : Nat → Prop} {a b : World} (h : Kp bad a b) {p : Addr} (hp : p.block < a.heap.size) (hn : ¬ bad p.block) : b.frozen? p = a.frozen? p := World.frozen?_of_block (h.block p.block hp hn)
theorem Kp.below {C : Nat} {a b : World} (h : Kp (fun k => C ≤ k) a b) (hC : C ≤ a.heap.size) : Below C a b := ⟨h.os, h.tape, h.output, h.size, fun k hk => h.block k (Nat.lt_of_lt_of_le hk hC) (by omega)⟩
theorem Kp.set {bad : Nat → Prop} {w : World} (p : Addr) (u : Value) (hb : bad p.block) : Kp bad w (w.setCell p u) := ⟨rfl, rfl, rfl, by simp [World.setCell], fun k _ hk => Below.heap_setCell _ _ _ _ (fun e => hk (by rw [e]; exact hb))⟩
end Go.Proofs.Ytljnjpjnadlmhaa
