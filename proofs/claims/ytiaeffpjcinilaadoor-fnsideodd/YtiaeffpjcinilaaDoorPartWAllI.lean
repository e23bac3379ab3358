/- Texts put together: WAllI, WAllI2, WAllV. -/
import Derived.Test.YtiaeffpjcinilaaDoorWFindI
import Derived.Maps.AppendAt
import Derived.Test.YtiaeffpjcinilaaDoorPartMathP
import Derived.Test.YtiaeffpjcinilaaDoorPartWCount
/- Walk of impl.WayAll: it is all ways, each in memory of its own. -/
namespace Go.Proofs.YtiaeffpjcinilaaDoor
open Go.RowKit Go.Shelf
set_option linter.unusedVariables false
attribute [local go_sem] Oper.semAt_some

theorem Tryd.infoInts : (Tryd.prog.info? 27).map (fun i => (i.zero, i.size, i.bytes)) = some (some (.slice none 0 0), 1, 24) := by kernel_rfl
/-- the k-th way as it came -/
def wayAt (pre : List (List Nat)) (i : Nat) : List Nat := clip (pre.getD i [])
def rowV (pre : List (List Nat)) (gs cs : Nat → Nat) (i : Nat) : Value := .slice (some ⟨gs i, 0, none⟩) (wayAt pre i).length (cs i)
def rowVs (pre : List (List Nat)) (gs cs : Nat → Nat) : List Value := (List.range pre.length).map (rowV pre gs cs)
/-- ways in rows of their own -/
structure Rws (W : World) (lo : Nat) (pre : List (List Nat)) (gs cs : Nat → Nat) : Prop where
  row : ∀ i, i < pre.length → W.ownsRow lo 3 1 (rowV pre gs cs i) (wayAt pre i).length (plist (wayAt pre i))
  ne : ∀ i j, i < j → j < pre.length → gs i ≠ gs j
theorem wayAt_old (pre : List (List Nat)) (x : List Nat) {i : Nat} (h : i < pre.length) : wayAt (pre ++ [x]) i = wayAt pre i := by
  unfold wayAt; rw [List.getD_eq_getElem?_getD, List.getD_eq_getElem?_getD, List.getElem?_append_left h]
theorem wayAt_new (pre : List (List Nat)) (x : List Nat) : wayAt (pre ++ [x]) pre.length = clip x := by
  unfold wayAt; simp
def upd' (f : Nat → Nat) (i v : Nat) : Nat → Nat := fun j => if j = i then v else f j
theorem rowV_old (pre : List (List Nat)) (x : List Nat) (gs cs : Nat → Nat) (g c : Nat) {i : Nat} (h : i < pre.length) : rowV (pre ++ [x]) (upd' gs pre.length g) (upd' cs pre.length c) i = rowV pre gs cs i := by
  unfold rowV upd'
  rw [wayAt_old pre x h, if_neg (by omega), if_neg (by omega)]

theorem rowVs_snoc (pre : List (List Nat)) (x : List Nat) (gs cs : Nat → Nat) (g c : Nat) : rowVs (pre ++ [x]) (upd' gs pre.length g) (upd' cs pre.length c) = rowVs pre gs cs ++ [.slice (some ⟨g, 0, none⟩) (clip x).length c] := by
  unfold rowVs
  have hl : (pre ++ [x]).length = pre.length + 1 := by simp
  rw [hl, List.range_succ, List.map_append]
  congr 1
  · apply List.map_congr_left
    intro i hi
    exact rowV_old pre x gs cs g c (List.mem_range.1 hi)
  · simp only [List.map_cons, List.map_nil, rowV, wayAt_new, upd', if_true]
theorem row_type {W : World} {lo : Nat} {e : TypeId} {v : Value} {g n c : Nat} {xs : List Value} (h : W.ownsRow lo e 1 v n xs) (hv : v = .slice (some ⟨g, 0, none⟩) n c) : ∃ cs fr, W.heap[g]? = some (Obj.cells cs e fr) ∧ lo ≤ g := by
  subst hv
  rcases h.2 with ⟨h', _⟩ | ⟨g', cap', cur, h', hb, hg, _⟩
  · simp at h'
  · simp only [Value.slice.injEq, Option.some.injEq, Addr.mk.injEq, and_true, true_and] at h'
    obtain ⟨rfl, _⟩ := h'
    exact ⟨_, _, hg, hb⟩
/-- rows stay where their blocks do -/
theorem Rws.kept {W W' : World} {lo : Nat} {pre : List (List Nat)} {gs cs : Nat → Nat} (h : Rws W lo pre gs cs) (hs : W.heap.size ≤ W'.heap.size) (hk : ∀ (k : Nat) (cs : Array Value) (fr : Nat × Nat), W.heap[k]? = some (Obj.cells cs 3 fr) → W'.heap[k]? = W.heap[k]?) : Rws W' lo pre gs cs := by
  refine ⟨fun i hi => ?_, h.ne⟩
  have hr := h.row i hi
  obtain ⟨c, fr, hb, hlo⟩ := row_type (g := gs i) (c := cs i) hr rfl
  have e := hk _ _ _ hb
  refine ⟨hr.1, ?_⟩
  rcases hr.2 with h1 | ⟨g, cap, cur, h1, h2, h3, h4⟩
  · exact Or.inl h1
  · refine Or.inr ⟨g, cap, cur, h1, h2, ?_, h4⟩
    have : g = gs i := by
      unfold rowV at h1
      simp only [Value.slice.injEq, Option.some.injEq, Addr.mk.injEq, and_true] at h1
      exact h1.1.symm
    subst this
    exact e.trans h3
/-- one way more -/
theorem Rws.snoc {W W' : World} {lo : Nat} {pre : List (List Nat)} {x : List Nat} {gs cs : Nat → Nat} {g c : Nat} (h : Rws W lo pre gs cs) (h' : Rws W' lo pre gs cs) (hn : W'.ownsRow lo 3 1 (.slice (some ⟨g, 0, none⟩) (clip x).length c) (clip x).length (plist (clip x))) (hg : W.heap.size ≤ g) : Rws W' lo (pre ++ [x]) (upd' gs pre.length g) (upd' cs pre.length c) := by
  refine ⟨fun i hi => ?_, fun i j hij hj => ?_⟩
  · simp at hi
    by_cases e : i = pre.length
    · subst e
      have : rowV (pre ++ [x]) (upd' gs pre.length g) (upd' cs pre.length c) pre.length = .slice (some ⟨g, 0, none⟩) (clip x).length c := by simp only [rowV, wayAt_new, upd', if_true]
      rw [this, wayAt_new]; exact hn
    · rw [rowV_old pre x gs cs g c (by omega), wayAt_old pre x (by omega)]; exact h'.row i (by omega)
  · simp at hj
    have old : ∀ i, i < pre.length → gs i < W.heap.size := fun i hi => by
      obtain ⟨_, _, hb, _⟩ := row_type (g := gs i) (c := cs i) (h.row i hi) rfl
      exact (Array.getElem?_eq_some_iff.1 hb).1
    by_cases e : j = pre.length
    · subst e
      have := old i hij
      simp only [upd', if_true, if_neg (show i ≠ pre.length by omega)]; omega
    · simp only [upd', if_neg e, if_neg (show i ≠ pre.length by omega)]; exact h.ne i j hij (by omega)
theorem stepIn_append {F : Fence} {n : Nat} {P : Program} {w : World} {ops : Array Oper} {o : Oper} {a : Act} {K : Act → World → Prop} {Q : Exit → Act → World → Prop} {E : Prop} (hgd : o.guard = none) (s x : Operand) (t : TypeId)
    (hop : o.op = .call { callee := .builtin .append, args := #[s, x], argTypes := #[t, t] })
    (base : Nat) (e : TypeId) (i : TypeInfo) (z : Value) (bytes : Nat) (ht : P.underlying t = some (.slice e)) (hi : P.info? e = some i) (hz : i.zero = some z) (h4 : i.size = 1) (h5 : i.bytes = bytes) (h6 : z.cells.size = 1)
    (v : Value) (k : Nat) (xs : List Value) (hs : a.eval s = v) (hown : w.ownsRow base e 1 v k xs) (ad : Addr) (c : Nat) (u : Value) (hx : a.eval x = .slice (some ad) 1 c) (hc : w.cell? ad = some u) (h1 : u.oneCell' = true)
    (b1 : k + 1 ≤ maxLen) (b2 : (k + 1) * bytes ≤ 140737488355328) (b3 : base ≤ w.heap.size)
    (hK : ∀ v' w', w'.ownsRow base e 1 v' (k + 1) (xs ++ [u]) → w.grownBy w' v.ownBlock → K (a.put o.dst v') w') :
    if Region.wanted o (yielded ops a.tmps) = true then Oper.wpIn F n P o a w K Q else E := by
  have hw : Region.wanted o (yielded ops a.tmps) = true := by simp [Region.wanted, hgd]
  rw [if_pos hw]
  obtain ⟨v', w', hrun, r1, r2, _⟩ := run_append_own (P := P) w base t o.type e i z 1 bytes ht hi hz h4 h5 h6 (by omega) v k xs hown ad 1 c [u] rfl (fun j q hq => by
    have hj : j = 0 := by have := (List.getElem?_eq_some_iff.1 hq).1; simp at this; omega
    subst hj
    simp at hq
    subst hq
    have hadd : ad.add 0 = ad := by unfold Addr.add; split <;> simp_all
    rw [hadd]; exact hc) (fun q hq => by simp at hq; subst hq; exact h1) b1 b2 b3
  unfold Oper.wpIn
  refine ⟨by simp [Oper.about, hop, resolve, Target.leads, Sem.run_pure], ?_⟩
  rw [Oper.semAt_plain F _ _ (by rw [hop]; intro c hc'; cases hc')]
  simp [execOp, hop, resolve, invoke, builtin, hs, hx, hrun, Result.andThen]
  exact hK _ _ r1 r2

theorem own_kept2 {w w' : World} {base : Nat} {e : TypeId} {size : Nat} {v : Value} {n : Nat} {xs : List Value} (h : w.ownsRow base e size v n xs) (hb : ∀ g, g < w.heap.size → w'.heap[g]? = w.heap[g]?) : w'.ownsRow base e size v n xs := by
  refine ⟨h.1, ?_⟩
  rcases h.2 with h1 | ⟨g, cap, cur, h1, h2, h3, h4⟩
  · exact Or.inl h1
  · exact Or.inr ⟨g, cap, cur, h1, h2, (hb g (Array.getElem?_eq_some_iff.1 h3).1).trans h3, h4⟩
theorem own_low {w : World} {base base' : Nat} {e : TypeId} {size : Nat} {v : Value} {n : Nat} {xs : List Value} (h : w.ownsRow base e size v n xs) (hb : base' ≤ base) : w.ownsRow base' e size v n xs := by
  refine ⟨h.1, ?_⟩
  rcases h.2 with h1 | ⟨g, cap, cur, h1, h2, h3⟩
  · exact Or.inl h1
  · exact Or.inr ⟨g, cap, cur, h1, by omega, h3⟩
theorem own_high {w w' : World} {base base' : Nat} {e : TypeId} {size : Nat} {v : Value} {n : Nat} {xs : List Value} (h : w.ownsRow base e size v n xs) (h' : w'.ownsRow base' e size v n xs) : w.ownsRow base' e size v n xs := by
  refine ⟨h.1, ?_⟩
  rcases h.2 with h1 | ⟨g, cap, cur, h1, h2, h3⟩
  · exact Or.inl h1
  · rcases h'.2 with ⟨q, _⟩ | ⟨g', cap', cur', q, q2, _⟩
    · rw [q] at h1; simp at h1
    · rw [h1] at q
      simp only [Value.slice.injEq, Option.some.injEq, Addr.mk.injEq, and_true, true_and] at q
      exact Or.inr ⟨g, cap, cur, h1, by omega, h3⟩
theorem own_at {w w' : World} {base : Nat} {e : TypeId} {size g n c : Nat} {xs : List Value} (h : w.ownsRow base e size (.slice (some ⟨g, 0, none⟩) n c) n xs) (hb : w'.heap[g]? = w.heap[g]?) : w'.ownsRow base e size (.slice (some ⟨g, 0, none⟩) n c) n xs := by
  refine ⟨h.1, ?_⟩
  rcases h.2 with h1 | ⟨g', cap, cur, h1, h2, h3, h4⟩
  · exact Or.inl h1
  · have : g' = g := by simp only [Value.slice.injEq, Option.some.injEq, Addr.mk.injEq, and_true, true_and] at h1; exact h1.1.symm
    subst this
    exact Or.inr ⟨g', cap, cur, h1, h2, hb.trans h3, h4⟩
/-- all ways in memory of the call's own -/
def AllR (W : World) (lo : Nat) (ao : Option Addr) (ps : List (List Nat)) : Prop :=
  (ps = [] ∧ ao = none) ∨ ∃ G gs cs, ao = some ⟨G, 0, none⟩ ∧ lo ≤ G ∧ OwnI W G ps.length (rowV ps gs cs) ∧ Rws W lo ps gs cs ∧ ∀ i, i < ps.length → gs i ≠ G

end Go.Proofs.YtiaeffpjcinilaaDoor

/- Walk of impl.WayAll. -/
namespace Go.Proofs.YtiaeffpjcinilaaDoor
open Go.RowKit Go.Shelf
set_option linter.unusedVariables false
attribute [local go_sem] Oper.semAt_some

theorem own_rws_low {W : World} {lo lo' : Nat} {pre : List (List Nat)} {gs cs : Nat → Nat} (h : Rws W lo pre gs cs) (hl : lo' ≤ lo) : Rws W lo' pre gs cs := ⟨fun i hi => own_low (h.row i hi) hl, h.ne⟩
end Go.Proofs.YtiaeffpjcinilaaDoor

/- Rows of ways that are read; walks of laws.loInts, laws.loAhead over any two rows. -/
namespace Go.Proofs.YtiaeffpjcinilaaDoor
open Go.RowKit
set_option linter.unusedVariables false

/-- all ways behind an address, read -/
structure AllV (W : World) (ao : Option Addr) (ps : List (List Nat)) : Prop where
  at' : ∀ i, i < ps.length → ∃ G off g c, ao = some ⟨G, off, none⟩ ∧ G < W.heap.size ∧ W.cell? ⟨G, off + i, none⟩ = some (.slice (some ⟨g, 0, none⟩) (ps.getD i []).length c) ∧ RowV W W.heap.size (some ⟨g, 0, none⟩) (ps.getD i []).length (pcellN (pn (ps.getD i [])))
theorem AllV.next {W W' : World} {ao : Option Addr} {ps : List (List Nat)} (h : AllV W ao ps) (hb : Below W.heap.size W W') : AllV W' ao ps := ⟨fun i hi => by
  obtain ⟨G, off, g, c, h1, h2, h3, h4⟩ := h.at' i hi
  exact ⟨G, off, g, c, h1, Nat.lt_of_lt_of_le h2 hb.size, (hb.cell (p := ⟨G, off + i, none⟩) h2).trans h3, (h4.next hb).wide hb.size⟩⟩
theorem AllR.seen {W : World} {lo : Nat} {ao : Option Addr} {ps : List (List Nat)} (h : AllR W lo ao ps) (hp : ∀ q, q ∈ ps → 0 < q.length ∧ q.length ≤ 8) : AllV W ao ps := ⟨fun i hi => by
  rcases h with ⟨h1, _⟩ | ⟨G, gs, cs, h1, h2, h3, h4, h5⟩
  · rw [h1] at hi; simp at hi
  have hm : ps.getD i [] ∈ ps := by simp [hi]
  have hc : wayAt ps i = ps.getD i [] := clip_is (hp _ hm).1 (hp _ hm).2
  have hr := h4.row i hi
  unfold rowV at hr
  rw [hc] at hr
  obtain ⟨ow, _, hlt⟩ := row_own hr rfl (hp _ hm).1
  refine ⟨G, 0, gs i, cs i, h1, h3.2.2, ?_, fun j hj => ⟨gs i, 0, rfl, hlt, by rw [Nat.zero_add]; exact ow.1 j hj⟩⟩
  rw [Nat.zero_add, h3.1 i hi]
  unfold rowV
  rw [hc]⟩
/-- two rows are the same up to there -/
def SameTo (p q : List Nat) (k : Nat) : Prop := ∀ j, j < k → pn p j = pn q j
theorem same_all {p q : List Nat} (hl : p.length = q.length) (h : SameTo p q p.length) : p = q := by
  apply List.ext_getElem hl
  intro i h1 h2
  have := h i h1
  simp [pn, h1, h2] at this
  exact this
theorem loInts_any (v : Bool) (a1 a2 : Option Addr) (cap1 cap2 : Nat) (p q : List Nat) (w : World) (h8 : p.length ≤ 1000) (h9 : q.length ≤ 1000) (h1 : RowV w w.heap.size a1 p.length (pcellN (pn p))) (h2 : RowV w w.heap.size a2 q.length (pcellN (pn q))) (hv : decide (p = q) = v) :
    Calls Tryd.prog 17 #[.slice a1 p.length cap1, .slice a2 q.length cap2] w fun e w' => e = .returned (.bool v) ∧ Below w.heap.size w w' := by
  by_cases hl : p.length = q.length
  · obtain ⟨n, hnn⟩ : ∃ n, n = p.length := ⟨_, rfl⟩
    have hq : q.length = n := by omega
    have HV : Hid ((∃ j, j < n ∧ pn p j ≠ pn q j) → v = false) := fun ⟨j, hj, hne⟩ => by
      rw [← hv]; exact decide_eq_false (fun e => hne (by rw [e]))
    have HY : Hid (SameTo p q n → v = true) := fun h => by
      rw [← hv]; exact decide_eq_true (same_all hl (by rw [← hnn]; exact h))
    rw [hq] at h2 h9 ⊢
    rw [← hnn] at h1 h8 ⊢
    have HR1 := hideP h1
    have HR2 := hideP h2
    clear hl hq h1 h2 hv hnn
    go_enter Tryd.func17, Tryd.ntmps17
    go_wp2
    go_loopw [5] (fun i wr => ∃ k : Nat, k ≤ n ∧ i = .int .i64 k ∧ SameTo p q k ∧ Below w.heap.size w wr) (fun i _ => n - (intOf i).toNat)
    case atStart => exact ⟨0, Nat.zero_le _, rfl, fun j hj => absurd hj (by omega), by repeat (first | exact Below.refl _ _ | apply Below.drew)⟩
    case round =>
      obtain ⟨k, hk, rfl, hs, hbr⟩ := hrel
      have HS := hideP hs
      have HBR := hideP hbr
      by_cases hlt : k < n
      · obtain ⟨g1, o1, rfl, l1, d1⟩ := HR1.out k hlt
        obtain ⟨g2, o2, rfl, l2, d2⟩ := HR2.out k hlt
        have e1 : wr.cell? ⟨g1, o1 + k, none⟩ = some (.int .i64 (pn p k : Int)) := (hbr.cell (p := ⟨g1, o1 + k, none⟩) l1).trans d1
        have e2 : wr.cell? ⟨g2, o2 + k, none⟩ = some (.int .i64 (pn q k : Int)) := (hbr.cell (p := ⟨g2, o2 + k, none⟩) l2).trans d2
        have hk0 : (0 : Int) ≤ (k : Int) := by omega
        have hk1 : (k : Int) < (n : Int) := by omega
        clear hs hbr d1 d2 l1 l2
        by_cases he : pn p k = pn q k
        · have hne : ((pn p k : Int) != (pn q k : Int)) = false := by simp [he]
          have HS2 : Hid (SameTo p q (k + 1)) := fun j hj => by
            by_cases e : j = k
            · subst e; exact he
            · exact HS.out j (by omega)
          rw [he] at e1
          obtain ⟨z, hz⟩ : ∃ z, z = pn q k := ⟨_, rfl⟩
          rw [← hz] at e1 e2
          clear hne he hz
          go_wp2
          go_region
          go_wp2
          go_roundw
          case rel => exact ⟨k + 1, by omega, by go_num, HS2.out, by repeat (first | exact HBR.out | apply Below.drew)⟩
          case measure => simp [intOf]; omega
        · have hne : ((pn p k : Int) == (pn q k : Int)) = false := by rw [beq_eq_false_iff_ne]; omega
          have HF : Hid (v = false) := HV.out ⟨k, hlt, he⟩
          clear he
          go_wp2
          go_region
          go_wp2
          go_ret
          exact ⟨by rw [HF.out]; rfl, by repeat (first | exact HBR.out | apply Below.drew)⟩
      · obtain rfl : k = n := by omega
        have HF : Hid (v = true) := HY.out hs
        clear hs hbr
        go_wp2
        go_ret
        exact ⟨by rw [HF.out]; rfl, HBR.out⟩
  · have hne : ((p.length : Int) == (q.length : Int)) = false := by rw [beq_eq_false_iff_ne]; omega
    have HF : Hid (v = false) := by
      rw [← hv]; exact hideP (decide_eq_false (fun e => hl (by rw [e])))
    clear hl hv h1 h2
    obtain ⟨n, hnn⟩ : ∃ n, n = p.length := ⟨_, rfl⟩
    obtain ⟨m, hmm⟩ : ∃ m, m = q.length := ⟨_, rfl⟩
    rw [← hnn, ← hmm] at hne
    rw [← hnn, ← hmm]
    rw [← hnn] at h8
    rw [← hmm] at h9
    clear hnn hmm
    go_enter Tryd.func17, Tryd.ntmps17
    go_wp2
    go_ret
    exact ⟨by rw [HF.out]; rfl, Below.refl _ _⟩

theorem lex_at {p q : List Nat} : ∀ {k : Nat}, k < p.length → k < q.length → SameTo p q k → pn p k ≠ pn q k → lexB p q = decide (pn p k < pn q k) := by
  intro k
  induction k generalizing p q with
  | zero =>
    intro h1 h2 _ hne
    cases p with
    | nil => simp at h1
    | cons x xs =>
      cases q with
      | nil => simp at h2
      | cons y ys =>
        have : x ≠ y := hne
        simp [lexB, this, pn]
  | succ k ih =>
    intro h1 h2 hs hne
    cases p with
    | nil => simp at h1
    | cons x xs =>
      cases q with
      | nil => simp at h2
      | cons y ys =>
        have h0 : x = y := hs 0 (by omega)
        have := ih (p := xs) (q := ys) (by simpa using h1) (by simpa using h2) (fun j hj => hs (j + 1) (by omega)) hne
        simp only [lexB, if_pos h0]
        exact this
end Go.Proofs.YtiaeffpjcinilaaDoor
