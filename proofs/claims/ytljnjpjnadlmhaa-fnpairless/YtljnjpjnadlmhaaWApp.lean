/- Ties appended to ties: rows put together. -/
import Derived.Test.YtljnjpjnadlmhaaPartWLeaf
import Derived.Test.YtljnjpjnadlmhaaWRange
import Derived.Maps.AppendAt
import Derived.Deep.AppendLies
namespace Go.Proofs.Ytljnjpjnadlmhaa
open Go.RowKit
set_option linter.unusedVariables false

/-- the cells of ties -/
def tlist (us : List (Int × Int)) : List Value := us.flatMap (fun t => [.int .i64 t.1, .int .i64 t.2])
theorem tlist_cons (t : Int × Int) (us : List (Int × Int)) : tlist (t :: us) = .int .i64 t.1 :: .int .i64 t.2 :: tlist us := rfl
theorem tlist_len (us : List (Int × Int)) : (tlist us).length = us.length * 2 := by
  induction us with
  | nil => rfl
  | cons t us ih => rw [tlist_cons, List.length_cons, List.length_cons, ih, List.length_cons]; omega
theorem tlist_app (us vs : List (Int × Int)) : tlist (us ++ vs) = tlist us ++ tlist vs := by simp [tlist]
theorem tlist_one (us : List (Int × Int)) : ∀ u ∈ tlist us, u.oneCell' = true := by
  intro u hu
  unfold tlist at hu
  rw [List.mem_flatMap] at hu
  obtain ⟨t, _, h⟩ := hu
  simp at h
  rcases h with rfl | rfl <;> rfl
theorem tlist_at : ∀ (us : List (Int × Int)) (j : Nat), j < us.length → (tlist us)[j * 2]? = some (.int .i64 (tA us j)) ∧ (tlist us)[j * 2 + 1]? = some (.int .i64 (tB us j)) := by
  intro us
  induction us with
  | nil => intro j h; simp at h
  | cons t us ih =>
    intro j h
    cases j with
    | zero => exact ⟨rfl, rfl⟩
    | succ j =>
      have := ih j (by simpa using h)
      have e1 : (j + 1) * 2 = j * 2 + 1 + 1 := by omega
      rw [tlist_cons, e1, List.getElem?_cons_succ, List.getElem?_cons_succ, show j * 2 + 1 + 1 + 1 = (j * 2 + 1) + 1 + 1 by omega, List.getElem?_cons_succ, List.getElem?_cons_succ]
      have ea : tA (t :: us) (j + 1) = tA us j := by simp [tA]
      have eb : tB (t :: us) (j + 1) = tB us j := by simp [tB]
      rw [ea, eb]; exact this
/-- a piece of ties, as what is appended -/
theorem TiesIn.piece {w : World} {B b off : Nat} {us : List (Int × Int)} (h : TiesIn w B (some ⟨b, off, none⟩) us) (k m : Nat) (hm : k + m ≤ us.length) : ∀ j u, (tlist ((us.drop k).take m))[j]? = some u → w.cell? ((⟨b, off + k * 2, none⟩ : Addr).add j) = some u := by
  intro j u hj
  have hl : j < m * 2 := by
    have := (List.getElem?_eq_some_iff.1 hj).1
    rw [tlist_len] at this
    simp at this; omega
  obtain ⟨q, hq⟩ : ∃ q, q = j / 2 := ⟨_, rfl⟩
  obtain ⟨b', off', e, _, h0, h1⟩ := h (k + q) (by omega)
  cases e
  have hlen : ((us.drop k).take m).length = m := by simp; omega
  have at' := tlist_at ((us.drop k).take m) q (by omega)
  have ea : tA ((us.drop k).take m) q = tA us (k + q) := by unfold tA; simp [List.getElem?_drop, show q < m by omega]
  have eb : tB ((us.drop k).take m) q = tB us (k + q) := by unfold tB; simp [List.getElem?_drop, show q < m by omega]
  have hadd : (⟨b, off + k * 2, none⟩ : Addr).add j = ⟨b, off + k * 2 + j, none⟩ := by simp [Addr.add]
  rw [hadd]
  by_cases ej : j % 2 = 0
  · have : j = q * 2 := by omega
    subst this
    rw [at'.1, ea] at hj
    rw [← hj, show off + k * 2 + q * 2 = off + (k + q) * 2 by omega]; exact h0
  · have : j = q * 2 + 1 := by omega
    subst this
    rw [at'.2, eb] at hj
    rw [← hj, show off + k * 2 + (q * 2 + 1) = off + (k + q) * 2 + 1 by omega]; exact h1
theorem own_tl {w : World} {base e g n cap : Nat} {us : List (Int × Int)} (h : w.ownsRow base e 2 (.slice (some ⟨g, 0, none⟩) n cap) n (tlist us)) (hn : us.length = n) : TiesIn w w.heap.size (some ⟨g, 0, none⟩) us := by
  intro j hj
  have hg : g < w.heap.size := by
    rcases h.2 with ⟨h', _⟩ | ⟨g', cap', cur, h', _, hb, _⟩
    · simp at h'
    · simp only [Value.slice.injEq, Option.some.injEq, Addr.mk.injEq, and_true, true_and] at h'
      obtain ⟨rfl, _⟩ := h'
      exact (Array.getElem?_eq_some_iff.1 hb).1
  have at' := tlist_at us j hj
  refine ⟨g, 0, rfl, hg, ?_, ?_⟩
  · rw [Nat.zero_add, h.cellAt _ (by omega)]; exact at'.1
  · rw [Nat.zero_add, h.cellAt _ (by omega)]; exact at'.2
theorem step_app {P : Program} {w : World} {ops : Array Oper} {o : Oper} {a : Act} {K : Act → World → Prop} {Q : Exit → Act → World → Prop} {E : Prop} (hw : Region.wanted o (yielded ops a.tmps) = true) (s x : Operand) (t : TypeId)
    (ho : o.op = .call { callee := .builtin .append, args := #[s, x], argTypes := #[t, t] })
    (base : Nat) (e : TypeId) (i : TypeInfo) (z : Value) (size bytes : Nat) (ht : P.underlying t = some (.slice e)) (hi : P.info? e = some i) (hz : i.zero = some z)
    (hsize : i.size = size) (hby : i.bytes = bytes) (hzs : z.cells.size = size) (hsz : 0 < size)
    (v : Value) (n : Nat) (xs : List Value) (hs : a.eval s = v) (hv : v ≠ .slice none 0 0) (hown : w.ownsRow base e size v n xs)
    (ad : Addr) (m c : Nat) (news : List Value) (hx : a.eval x = .slice (some ad) m c) (hl : news.length = m * size) (hnews : ∀ j u, news[j]? = some u → w.cell? (ad.add j) = some u) (h1 : ∀ u ∈ news, u.oneCell' = true)
    (h63 : n + m ≤ maxLen) (hbytes : (n + m) * bytes ≤ 140737488355328) (hbase : base ≤ w.heap.size)
    (h : ∀ g cap w', w'.ownsRow base e size (.slice (some ⟨g, 0, none⟩) (n + m) cap) (n + m) (xs ++ news) → w.grownBy w' v.ownBlock → K (a.put o.dst (.slice (some ⟨g, 0, none⟩) (n + m) cap)) w') :
    if Region.wanted o (yielded ops a.tmps) = true then Oper.wp P o a w K Q else E := by
  rw [if_pos hw]
  obtain ⟨v', w', hr, h2, h3, h4, _⟩ := run_append_own_at (P := P) w base t o.type e i z size bytes ht hi hz hsize hby hzs hsz v n xs hown ad m c news hl hnews h1 h63 hbytes hbase
  have hv' : ∃ g cap, v' = .slice (some ⟨g, 0, none⟩) (n + m) cap := by
    rcases h2.2 with ⟨q, _⟩ | ⟨g, cap, cur, q, _⟩
    · exact absurd (h4.1 q).1 hv
    · exact ⟨g, cap, q⟩
  obtain ⟨g, cap, rfl⟩ := hv'
  unfold Oper.wp execOp
  simp only [ho, resolve, invoke, builtin, Sem.run_bind, Sem.run_pure, Result.andThen_ok, List.map_toArray, List.map_cons, List.map_nil, hs, hx, hr]
  exact h g cap w' h2 h3
theorem step_appn {P : Program} {w : World} {ops : Array Oper} {o : Oper} {a : Act} {K : Act → World → Prop} {Q : Exit → Act → World → Prop} {E : Prop} (hw : Region.wanted o (yielded ops a.tmps) = true) (s x : Operand) (t : TypeId)
    (ho : o.op = .call { callee := .builtin .append, args := #[s, x], argTypes := #[t, t] })
    (base : Nat) (e : TypeId) (i : TypeInfo) (z : Value) (size bytes : Nat) (ht : P.underlying t = some (.slice e)) (hi : P.info? e = some i) (hz : i.zero = some z)
    (hsize : i.size = size) (hby : i.bytes = bytes) (hzs : z.cells.size = size) (hsz : 0 < size)
    (v : Value) (n : Nat) (xs : List Value) (hs : a.eval s = v) (hv : v ≠ .slice none 0 0) (hown : w.ownsRow base e size v n xs)
    (r : Nat) (ad : Addr) (m c : Nat) (hnm : n + m = r) (news : List Value) (hx : a.eval x = .slice (some ad) m c) (hl : news.length = m * size) (hnews : ∀ j u, news[j]? = some u → w.cell? (ad.add j) = some u) (h1 : ∀ u ∈ news, u.oneCell' = true)
    (h63 : n + m ≤ maxLen) (hbytes : (n + m) * bytes ≤ 140737488355328) (hbase : base ≤ w.heap.size)
    (h : ∀ g cap w', w'.ownsRow base e size (.slice (some ⟨g, 0, none⟩) r cap) r (xs ++ news) → w.grownBy w' v.ownBlock → (some g = v.ownBlock ∨ g = w.heap.size) → K (a.put o.dst (.slice (some ⟨g, 0, none⟩) r cap)) w') :
    if Region.wanted o (yielded ops a.tmps) = true then Oper.wp P o a w K Q else E := by
  subst hnm
  rw [if_pos hw]
  obtain ⟨v', w', hr, h2, h3, h4, h5⟩ := run_append_own_at (P := P) w base t o.type e i z size bytes ht hi hz hsize hby hzs hsz v n xs hown ad m c news hl hnews h1 h63 hbytes hbase
  have hv' : ∃ g cap, v' = .slice (some ⟨g, 0, none⟩) (n + m) cap := by
    rcases h2.2 with ⟨q, _⟩ | ⟨g, cap, cur, q, _⟩
    · exact absurd (h4.1 q).1 hv
    · exact ⟨g, cap, q⟩
  obtain ⟨g, cap, rfl⟩ := hv'
  unfold Oper.wp execOp
  simp only [ho, resolve, invoke, builtin, Sem.run_bind, Sem.run_pure, Result.andThen_ok, List.map_toArray, List.map_cons, List.map_nil, hs, hx, hr]
  refine h g cap w' h2 h3 ?_
  rcases h5 with q | q
  · exact Or.inl q
  · exact Or.inr (by simpa [Value.ownBlock] using q)
/-- an empty row of its own -/
theorem own_empty (W : World) (t : TypeId) (base : Nat) (hb : base ≤ W.heap.size) : (W.alloc (.cells #[] t)).ownsRow base t 2 (.slice (some ⟨W.heap.size, 0, none⟩) 0 0) 0 (tlist []) := by
  refine ⟨rfl, Or.inr ⟨W.heap.size, 0, #[], rfl, hb, World.alloc_heap_new W _, Nat.le_refl _, ?_, ?_, ?_⟩⟩
  all_goals first | rfl | (unfold maxLen; omega) | simp
theorem OwnN.at {w : World} {lo hi n : Nat} {ao : Option Addr} {f : Nat → Value} (h : OwnN w lo hi ao n f) : ∀ b, ao = some b → lo ≤ b.block ∧ b.block < hi := by
  intro b hb
  rcases h with ⟨_, e⟩ | ⟨g, e, h1, h2, _⟩
  · rw [e] at hb; cases hb
  · rw [e] at hb; cases hb; exact ⟨h1, h2⟩
theorem ties_grown {w w' : World} {r : Nat} {ao : Option Addr} {us : List (Int × Int)} (h : TiesIn w w.heap.size ao us) (g : w.grownBy w' (some r)) (ha : ∀ b, ao = some b → b.block ≠ r) : TiesIn w' w'.heap.size ao us := fun j hj => by
  obtain ⟨b, off, e2, hb, q0, q1⟩ := h j hj
  have e3 := g.block b hb (by have := ha _ e2; simpa using this)
  exact ⟨b, off, e2, Nat.lt_of_lt_of_le hb g.size, (World.cell?_of_block (a := ⟨b, off + j * 2, none⟩) e3).trans q0, (World.cell?_of_block (a := ⟨b, off + j * 2 + 1, none⟩) e3).trans q1⟩

end Go.Proofs.Ytljnjpjnadlmhaa
