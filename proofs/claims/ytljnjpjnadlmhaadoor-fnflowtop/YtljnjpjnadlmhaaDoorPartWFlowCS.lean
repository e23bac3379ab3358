/- Texts put together: WFlowCS, WFlowCT. -/
import Derived.Test.YtljnjpjnadlmhaaDoorPartWMoreS
import Derived.Test.YtljnjpjnadlmhaaDoorPartWMost
import Derived.Laws.OwnMore
import Derived.Deep.RegionHeld3
import Derived.Deep.RegionLaw
/- Walk of spec.FlowCount. -/
namespace Go.Proofs.YtljnjpjnadlmhaaDoor
open Go.RowKit
set_option linter.unusedVariables false
set_option linter.unusedSimpArgs false

theorem step_make {P : Program} {w : World} {ops : Array Oper} {o : Oper} {a : Act} {K : Act → World → Prop} {Q : Exit → Act → World → Prop} {E : Prop} (hw : Region.wanted o (yielded ops a.tmps) = true) (l c : Operand) (t : TypeId) (hop : o.op = Op.makeSlice t l c)
    (base : Nat) (e : TypeId) (i : TypeInfo) (z : Value) (size : Nat) (h1 : P.underlying t = some (.slice e)) (h2 : P.info? e = some i) (h3 : i.zero = some z) (h4 : i.size = size)
    (kl kc : IntKind) (n : Nat) (hl : a.eval l = .int kl (n : Int)) (hc : a.eval c = .int kc (n : Int)) (b2 : i.bytes * n ≤ 281474976710656) (b3 : n ≤ maxLen) (b4 : base ≤ w.heap.size)
    (hK : ∀ w', w'.ownsRow base e size (.slice (some ⟨w.heap.size, 0, none⟩) n n) n (madeCells z.cells (n * size)).toList → w.grownBy w' none → K (a.put o.dst (.slice (some ⟨w.heap.size, 0, none⟩) n n)) w') :
    if Region.wanted o (yielded ops a.tmps) = true then Oper.wp P o a w K Q else E := by
  rw [if_pos hw]
  obtain ⟨w', hrun, r1, r2⟩ := run_make_full (P := P) w base t e i z size h1 h2 h3 h4 kl kc n b2 b3 b4
  unfold Oper.wp
  simp [execOp, hop, hl, hc, hrun, Result.andThen]
  exact hK w' r1 r2
theorem step_appG {P : Program} {w : World} {ops : Array Oper} {o : Oper} {a : Act} {K : Act → World → Prop} {Q : Exit → Act → World → Prop} {E : Prop} (hw : Region.wanted o (yielded ops a.tmps) = true) (s x : Operand) (t : TypeId)
    (ho : o.op = .call { callee := .builtin .append, args := #[s, x], argTypes := #[t, t] })
    (base : Nat) (e : TypeId) (i : TypeInfo) (z : Value) (ht : P.underlying t = some (.slice e)) (hi : P.info? e = some i) (hz : i.zero = some z)
    (hsize : i.size = 1) (hby : i.bytes = 24) (hzs : z.cells.size = 1)
    (v : Value) (n : Nat) (xs : List Value) (hs : a.eval s = v) (hown : w.ownsRow base e 1 v n xs)
    (q : Nat) (u : Value) (hx : a.eval x = .slice (some ⟨q, 0, none⟩) 1 1) (hq : w.cell? ⟨q, 0, none⟩ = some u) (h1 : u.oneCell' = true)
    (h63 : n ≤ 1000) (hbase : base ≤ w.heap.size)
    (h : ∀ g cap w', w'.ownsRow base e 1 (.slice (some ⟨g, 0, none⟩) (n + 1) cap) (n + 1) (xs ++ [u]) → w.grownBy w' v.ownBlock → (some g = v.ownBlock ∨ g = w.heap.size) → K (a.put o.dst (.slice (some ⟨g, 0, none⟩) (n + 1) cap)) w') :
    if Region.wanted o (yielded ops a.tmps) = true then Oper.wp P o a w K Q else E := by
  rw [if_pos hw]
  have hnews : ∀ j v', [u][j]? = some v' → w.cell? ((⟨q, 0, none⟩ : Addr).add j) = some v' := by
    intro j v' hj
    cases j with
    | zero => simp at hj; subst hj; exact hq
    | succ j => simp at hj
  obtain ⟨v', w', hr, h2, h3, h4, h5⟩ := run_append_own_at (P := P) w base t o.type e i z 1 24 ht hi hz hsize hby hzs (by omega) v n xs hown ⟨q, 0, none⟩ 1 1 [u] rfl hnews (by simpa using h1) (by unfold maxLen; omega) (by omega) hbase
  have hv' : ∃ g cap, v' = .slice (some ⟨g, 0, none⟩) (n + 1) cap := by
    rcases h2.2 with ⟨_, q0⟩ | ⟨g, cap, cur, q, _⟩
    · omega
    · exact ⟨g, cap, q⟩
  obtain ⟨g, cap, rfl⟩ := hv'
  unfold Oper.wp execOp
  simp only [ho, resolve, invoke, builtin, Sem.run_bind, Sem.run_pure, Result.andThen_ok, List.map_toArray, List.map_cons, List.map_nil, hs, hx, hr]
  refine h g cap w' h2 h3 ?_
  rcases h5 with q | q
  · exact Or.inl q
  · exact Or.inr (by simpa [Value.ownBlock] using q)
theorem Tryd.infoRows : (Tryd.prog.info? 44).map (fun i => (i.zero, i.size, i.bytes)) = some (some (.slice none 0 0), 1, 24) := by kernel_rfl

def rowsG (Kn : Nat) (gs : Nat → Nat) (k : Nat) : List Value := (List.range k).map (fun i => Value.slice (some ⟨gs i, 0, none⟩) Kn Kn)
/-- the flow's rows as they come, all nothing -/
structure Goe (w : World) (lo : Nat) (v : Value) (k Kn : Nat) (gs : Nat → Nat) : Prop where
  own : w.ownsRow lo 44 1 v k (rowsG Kn gs k)
  row : ∀ i, i < k → OwnI w (gs i) Kn (zcellF (fun _ => 0))
  ne : ∀ i j, i < k → j < k → i ≠ j → gs i ≠ gs j
  nv : ∀ i, i < k → v.ownBlock ≠ some (gs i)
  los : ∀ i, i < k → lo ≤ gs i
  lt : ∀ b, v.ownBlock = some b → b < w.heap.size ∧ lo ≤ b
theorem Goe.next {w w' : World} {lo : Nat} {v : Value} {k Kn : Nat} {gs : Nat → Nat} (h : Goe w lo v k Kn gs) (hb : Below w.heap.size w w') : Goe w' lo v k Kn gs := by
  refine ⟨⟨h.own.1, ?_⟩, fun i hi => (h.row i hi).below hb (h.row i hi).2.2, h.ne, h.nv, h.los, fun b e => ⟨Nat.lt_of_lt_of_le (h.lt b e).1 hb.size, (h.lt b e).2⟩⟩
  rcases h.own.2 with h1 | ⟨g, cap, cur, h1, h2, h3, h4⟩
  · exact Or.inl h1
  · exact Or.inr ⟨g, cap, cur, h1, h2, (hb.block g (Array.getElem?_eq_some_iff.1 h3).1).trans h3, h4⟩
theorem Goe.first (w : World) (lo Kn : Nat) : Goe w lo (.slice none 0 0) 0 Kn (fun _ => 0) :=
  ⟨World.ownsRow_nil w lo _ _, fun i hi => by omega, fun i j hi => by omega, fun i hi => by omega, fun i hi => by omega, fun b e => by simp [Value.ownBlock] at e⟩
theorem OwnI.madeZ {w : World} {g n cap : Nat} {base : Nat} {t : TypeId} (h : w.ownsRow base t 1 (.slice (some ⟨g, 0, none⟩) n cap) n (madeCells #[.int .i64 0] n).toList) : OwnI w g n (zcellF fun _ => 0) := by
  refine ⟨fun j hj => ?_, fun j => h.frozenAt j, ?_⟩
  · rw [h.cellAt j (by omega)]
    have hm : j % 1 = 0 := by omega
    simp [madeCells, hj, zcellF, hm]
  · rcases h.2 with ⟨h', _⟩ | ⟨g', cap', cur, h', _, hg, _⟩
    · simp at h'
    · simp only [Value.slice.injEq, Option.some.injEq, Addr.mk.injEq, and_true, true_and] at h'
      obtain ⟨rfl, _⟩ := h'
      exact (Array.getElem?_eq_some_iff.1 hg).1
/-- one row more -/
theorem Goe.snoc {w w1 w3 : World} {lo : Nat} {v : Value} {k Kn : Nat} {gs : Nat → Nat} {g cap : Nat} {u : TypeId} (h : Goe w lo v k Kn gs) (hlo : lo ≤ w.heap.size) (hb1 : Below w.heap.size w w1) (hr1 : OwnI w1 w.heap.size Kn (zcellF fun _ => 0))
    (h3 : w3.ownsRow lo 44 1 (.slice (some ⟨g, 0, none⟩) (k + 1) cap) (k + 1) (rowsG Kn gs k ++ [.slice (some ⟨w.heap.size, 0, none⟩) Kn Kn]))
    (hgr : (w1.alloc (.cells #[.slice (some ⟨w.heap.size, 0, none⟩) Kn Kn] u)).grownBy w3 v.ownBlock) (hg : some g = v.ownBlock ∨ g = w1.heap.size + 1) :
    Goe w3 lo (.slice (some ⟨g, 0, none⟩) (k + 1) cap) (k + 1) Kn (fun i => if i = k then w.heap.size else gs i) ∧ Kp (fun b => v.ownBlock = some b) w w3 := by
  have hw1 : w.heap.size < w1.heap.size := hr1.2.2
  have hs3 : w1.heap.size + 1 ≤ w3.heap.size := by have := hgr.size; simpa using this
  have blk : ∀ b, b < w1.heap.size → v.ownBlock ≠ some b → w3.heap[b]? = w1.heap[b]? := fun b hb hn => (hgr.block b (by simp; omega) (fun e => hn e.symm)).trans (Below.heap_alloc _ _ _ hb)
  have hvn : v.ownBlock ≠ some w.heap.size := fun e => by have := (h.lt _ e).1; omega
  have row' : ∀ i, i < k + 1 → OwnI w3 (if i = k then w.heap.size else gs i) Kn (zcellF fun _ => 0) := by
    intro i hi
    have keep : ∀ b, OwnI w1 b Kn (zcellF fun _ => 0) → v.ownBlock ≠ some b → OwnI w3 b Kn (zcellF fun _ => 0) := fun b ho hn =>
      ⟨fun j hj => (World.cell?_of_block (a := ⟨b, j, none⟩) (blk b ho.2.2 hn)).trans (ho.1 j hj), fun j => (World.frozen?_of_block (a := ⟨b, j, none⟩) (blk b ho.2.2 hn)).trans (ho.2.1 j), by have := ho.2.2; omega⟩
    by_cases e : i = k
    · rw [if_pos e]; exact keep _ hr1 hvn
    · rw [if_neg e]; exact keep _ ((h.row i (by omega)).below hb1 (h.row i (by omega)).2.2) (h.nv i (by omega))
  refine ⟨⟨?_, row', fun i j hi hj hij => ?_, fun i hi e => ?_, fun i hi => ?_, fun b e => ?_⟩, ⟨hgr.os.trans hb1.os, hgr.tape.trans hb1.tape, hgr.output.trans hb1.output, by omega, fun b hb hn => (blk b (by omega) hn).trans (hb1.block b hb)⟩⟩
  · have e : rowsG Kn (fun i => if i = k then w.heap.size else gs i) (k + 1) = rowsG Kn gs k ++ [.slice (some ⟨w.heap.size, 0, none⟩) Kn Kn] := by
      unfold rowsG
      rw [List.range_succ, List.map_append]
      congr 1
      · refine List.map_congr_left (fun i hi => ?_)
        have := List.mem_range.1 hi
        show Value.slice (some ⟨if i = k then w.heap.size else gs i, 0, none⟩) Kn Kn = _
        rw [if_neg (by omega)]
      · simp
    rw [e]; exact h3
  · show (if i = k then w.heap.size else gs i) ≠ (if j = k then w.heap.size else gs j)
    have l1 : ∀ i, i < k → gs i < w.heap.size := fun i hi => (h.row i hi).2.2
    by_cases e1 : i = k
    · rw [if_pos e1, if_neg (by omega)]
      have := l1 j (by omega); omega
    · rw [if_neg e1]
      by_cases e2 : j = k
      · rw [if_pos e2]; have := l1 i (by omega); omega
      · rw [if_neg e2]; exact h.ne i j (by omega) (by omega) hij
  · have e' : g = (if i = k then w.heap.size else gs i) := by simpa [Value.ownBlock] using e
    have l3 := (row' i hi).2.2
    rcases hg with q | q
    · rw [e'] at q
      by_cases e1 : i = k
      · rw [if_pos e1] at q; exact hvn q.symm
      · rw [if_neg e1] at q; exact h.nv i (by omega) q.symm
    · by_cases e1 : i = k
      · rw [if_pos e1] at e'; omega
      · rw [if_neg e1] at e'; have := (h.row i (by omega)).2.2; omega
  · show lo ≤ (if i = k then w.heap.size else gs i)
    by_cases e1 : i = k
    · rw [if_pos e1]; exact hlo
    · rw [if_neg e1]; exact h.los i (by omega)
  · have e' : g = b := by simpa [Value.ownBlock] using e
    subst e'
    rcases h3.2 with ⟨q, _⟩ | ⟨g2, c2, cur, q, h4, h5, _⟩
    · cases q
    · injection q with q _ _
      injection q with q
      injection q with q _ _
      rw [q]
      exact ⟨(Array.getElem?_eq_some_iff.1 h5).1, h4⟩

end Go.Proofs.YtljnjpjnadlmhaaDoor

/- Walk of spec.FlowCount: one way more, again and again. -/
namespace Go.Proofs.YtljnjpjnadlmhaaDoor
open Go.RowKit
set_option linter.unusedVariables false
set_option linter.unusedSimpArgs false

/-- what stands while the flow's rows come -/
structure Fls (w wr : World) (Kn : Nat) (nv : Value) (Fb k : Nat) (v : Value) (gs : Nat → Nat) : Prop where
  X : Bx w wr (Kn : Int) nv
  f0 : wr.cell? ⟨Fb, 0, none⟩ = some (.int .i64 (Kn : Int))
  f1 : wr.cell? ⟨Fb, 1, none⟩ = some nv
  f2 : wr.cell? ⟨Fb, 2, none⟩ = some v
  fz : ∀ i, wr.frozen? ⟨Fb, i, none⟩ = false
  ge : w.heap.size < Fb
  lt : Fb < wr.heap.size
  G : Goe wr (Fb + 1) v k Kn gs
theorem Fls.next {w wr w' : World} {Kn : Nat} {nv : Value} {Fb k : Nat} {v : Value} {gs : Nat → Nat} (h : Fls w wr Kn nv Fb k v gs) (hb : Below wr.heap.size wr w') : Fls w w' Kn nv Fb k v gs :=
  ⟨h.X.next hb, (hb.cell (p := ⟨Fb, 0, none⟩) h.lt).trans h.f0, (hb.cell (p := ⟨Fb, 1, none⟩) h.lt).trans h.f1, (hb.cell (p := ⟨Fb, 2, none⟩) h.lt).trans h.f2, fun i => (hb.frozen (p := ⟨Fb, i, none⟩) h.lt).trans (h.fz i), h.ge, Nat.lt_of_lt_of_le h.lt hb.size, h.G.next hb⟩
theorem Goe.put {w : World} {lo : Nat} {v : Value} {k Kn : Nat} {gs : Nat → Nat} (h : Goe w lo v k Kn gs) {p : Addr} {u : Value} (hp : p.block < lo) : Goe (w.setCell p u) lo v k Kn gs := by
  have e : ∀ b, lo ≤ b → (w.setCell p u).heap[b]? = w.heap[b]? := fun b hb => Below.heap_setCell _ _ _ _ (by omega)
  refine ⟨⟨h.own.1, ?_⟩, fun i hi => ⟨fun j hj => (World.cell?_of_block (a := ⟨gs i, j, none⟩) (e _ (h.los i hi))).trans ((h.row i hi).1 j hj), fun j => (World.frozen?_of_block (a := ⟨gs i, j, none⟩) (e _ (h.los i hi))).trans ((h.row i hi).2.1 j), by simpa using (h.row i hi).2.2⟩, h.ne, h.nv, h.los, fun b q => ⟨by simpa using (h.lt b q).1, (h.lt b q).2⟩⟩
  rcases h.own.2 with h1 | ⟨g, cap, cur, h1, h2, h3, h4⟩
  · exact Or.inl h1
  · exact Or.inr ⟨g, cap, cur, h1, h2, (e g h2).trans h3, h4⟩
theorem Fls.more {w wr w8 : World} {Kn : Nat} {nv : Value} {Fb k : Nat} {v v' : Value} {gs gs' : Nat → Nat} (h : Fls w wr Kn nv Fb k v gs) (hG : Goe w8 (Fb + 1) v' (k + 1) Kn gs') (hk : Kp (fun b => v.ownBlock = some b) wr w8) : Fls w (w8.setCell ⟨Fb, 2, none⟩ v') Kn nv Fb (k + 1) v' gs' := by
  have nvF : ∀ b, b ≤ Fb → v.ownBlock ≠ some b := fun b hb e => by have := (h.G.lt b e).2; omega
  have k2 : Kp (fun b => b = Fb) w8 (w8.setCell ⟨Fb, 2, none⟩ v') := Kp.set _ _ rfl
  have hge := h.ge
  have hlt8 := Nat.lt_of_lt_of_le h.lt hk.size
  have cc : ∀ p : Addr, p.block ≤ Fb → p.block < wr.heap.size → w8.cell? p = wr.cell? p := fun p h1 h2 => hk.cell h2 (nvF _ h1)
  have nF : ¬ w.heap.size = Fb := by omega
  refine ⟨⟨(k2.cell (p := ⟨w.heap.size, 0, none⟩) (Nat.lt_of_lt_of_le h.X.lt hk.size) nF).trans ((cc ⟨w.heap.size, 0, none⟩ (Nat.le_of_lt hge) h.X.lt).trans h.X.c0), (k2.cell (p := ⟨w.heap.size, 1, none⟩) (Nat.lt_of_lt_of_le h.X.lt hk.size) nF).trans ((cc ⟨w.heap.size, 1, none⟩ (Nat.le_of_lt hge) h.X.lt).trans h.X.c1), by simpa using Nat.lt_of_lt_of_le h.X.lt hk.size, ?_⟩, ?_, ?_, ?_, fun i => by rw [World.frozen?_setCell]; exact (hk.frozen (p := ⟨Fb, i, none⟩) h.lt (nvF _ (Nat.le_refl _))).trans (h.fz i), hge, by simpa using hlt8, hG.put (by show Fb < Fb + 1; omega)⟩
  · exact h.X.B.trans ((((hk.mono (bad' := fun b => w.heap.size ≤ b) (fun b _ q => by rcases Nat.lt_or_ge b (Fb + 1) with q2 | q2; exact absurd q (nvF b (by omega)); omega)).trans (k2.mono (fun b _ q => by omega))).below h.X.B.size))
  · rw [World.cell?_setCell_other _ _ _ _ (by simp)]; exact (cc ⟨Fb, 0, none⟩ (Nat.le_refl _) h.lt).trans h.f0
  · rw [World.cell?_setCell_other _ _ _ _ (by simp)]; exact (cc ⟨Fb, 1, none⟩ (Nat.le_refl _) h.lt).trans h.f1
  · exact World.cell?_setCell_same' w8 ⟨Fb, 2, none⟩ _ (by rw [cc ⟨Fb, 2, none⟩ (Nat.le_refl _) h.lt, h.f2]; rfl)
theorem Fls.first {w w2 : World} {Kn : Nat} {nv : Value} (h : Bx w w2 (Kn : Int) nv) (t : TypeId) : Fls w (w2.alloc (.cells #[.int .i64 (Kn : Int), nv, .slice none 0 0] t)) Kn nv w2.heap.size 0 (.slice none 0 0) (fun _ => 0) := by
  refine ⟨h.next (below_one _ _), ?_, ?_, ?_, fun i => World.frozen?_alloc_at _ _ _ _ rfl, h.lt, by simp, Goe.first _ _ _⟩
  · exact (World.cell?_alloc_at _ _ _ _ rfl).trans rfl
  · exact (World.cell?_alloc_at _ _ _ _ rfl).trans rfl
  · exact (World.cell?_alloc_at _ _ _ _ rfl).trans rfl
set_option maxRecDepth 100000 in
set_option maxHeartbeats 3200000 in
theorem specFlowCount_any (K : Int) (ao : Option Addr) (cap : Nat) (ts : List (Int × Int)) (a b : Int) (w : World) (hn : ts.length ≤ 1099511627776) (ht : TiesIn w w.heap.size ao ts) :
    Calls Tryd.prog 29 #[.agg #[.int .i64 K, .slice ao ts.length cap], .int .i64 a, .int .i64 b] w fun e w' => e = .returned (.int .i64 (countI K ts a b)) ∧ Below w.heap.size w w' := by
  have HT := hideP ht
  have HX0 : Hid (∀ t : TypeId, Bx w (w.alloc (.cells #[.int .i64 K, .slice ao ts.length cap] t)) K (.slice ao ts.length cap)) := hideP (fun t => Bx.start w K (.slice ao ts.length cap) t)
  have KN := hideP (fun (q : Bool) (k : Int) (h : (okB K ts && knotB k K) = q) W (X : Bx w W K (.slice ao ts.length cap)) => l1Knot_v q K ao cap ts k W hn ((HT.out.below X.B (Nat.le_refl _)).wide (Nat.le_of_lt X.lt)) h)
  clear ht
  cases hA : (okB K ts && knotB a K)
  · have HR : Hid (countI K ts a b = -1) := hideP (by unfold countI twoB; rw [hA]; simp)
    have K1 := hideP (KN.out false a hA)
    clear hA KN
    go_enter Tryd.func29, Tryd.ntmps29
    go_wp2_with (first | (go_at_call 32; refine (K1.out _ (HX0.out _)).mono ?_; rintro e w1 ⟨rfl, hb1⟩; have X1 := hideP ((HX0.out _).next hb1); clear hb1))
    go_ret
    exact ⟨by rw [HR.out]; rfl, X1.out.B⟩
  cases hB : (okB K ts && knotB b K)
  · have HR : Hid (countI K ts a b = -1) := hideP (by
      unfold countI twoB
      rw [Bool.and_eq_true] at hA
      rw [hA.1, Bool.true_and] at hB
      rw [hB]; simp)
    have K1 := hideP (KN.out true a hA)
    have K2 := hideP (KN.out false b hB)
    clear hA hB KN
    go_enter Tryd.func29, Tryd.ntmps29
    go_wp2_with fail
    refine (K1.out _ (HX0.out _)).mono ?_
    rintro e w1 ⟨rfl, hb1⟩
    have X1 := hideP ((HX0.out _).next hb1)
    have c0 := X1.out.c0
    have c1 := X1.out.c1
    clear hb1
    go_wp2_with fail
    refine (K2.out _ X1.out).mono ?_
    rintro e w2 ⟨rfl, hb2⟩
    have X2 := hideP (X1.out.next hb2)
    clear hb2 c0 c1
    go_wp2
    go_ret
    exact ⟨by rw [HR.out]; rfl, X2.out.B⟩
  by_cases hab : a = b
  · have HR : Hid (countI K ts a b = -1) := hideP (by unfold countI twoB; rw [hab]; simp)
    have K1 := hideP (KN.out true a hA)
    have K2 := hideP (KN.out true b hB)
    have co : (a == b) = true := by simpa using hab
    clear hA hB KN hab
    go_enter Tryd.func29, Tryd.ntmps29
    go_wp2_with fail
    refine (K1.out _ (HX0.out _)).mono ?_
    rintro e w1 ⟨rfl, hb1⟩
    have X1 := hideP ((HX0.out _).next hb1)
    have c0 := X1.out.c0
    have c1 := X1.out.c1
    clear hb1
    go_wp2_with fail
    refine (K2.out _ X1.out).mono ?_
    rintro e w2 ⟨rfl, hb2⟩
    have X2 := hideP (X1.out.next hb2)
    clear hb2 c0 c1
    go_wp2
    go_ret
    exact ⟨by rw [HR.out]; rfl, X2.out.B⟩
  have hP : twoB K ts a b = true := by
    unfold twoB
    rw [Bool.and_eq_true] at hA hB
    rw [hA.1, hA.2, hB.2, decide_eq_true hab]; rfl
  obtain ⟨hok, x, y, rfl, rfl, hx, hy, hxk, hyk, hxy⟩ := knot_nat hP
  have hnet := okB_iff.1 hok
  obtain ⟨Kn, hKn⟩ : ∃ n : Nat, K = (n : Int) := ⟨K.toNat, by have := hnet.1; omega⟩
  subst hKn
  have hK8 : Kn ≤ 8 := by have := hnet.2.1; omega
  have hxK : x < Kn := by simpa using hxk
  have hyK : y < Kn := by simpa using hyk
  have HR : Hid (countI (Kn : Int) ts (x : Int) (y : Int) = flowN (tieNB ts) x y) := hideP (by unfold countI; rw [hP, if_pos rfl]; rfl)
  have T8 : Hid (∀ x y, tieNB ts x y = true → y < Kn) := hideP (fun u v h => by simpa using tieNB_lt hnet h)
  have K1 := hideP (KN.out true (x : Int) hA)
  have K2 := hideP (KN.out true (y : Int) hB)
  have co : ((x : Int) == (y : Int)) = false := by simpa using hab
  obtain ⟨i0, hi0, hz0, hz1, hz2⟩ := info_parts Tryd.infoRows
  have HI0 : Hid (Tryd.prog.info? 44 = some i0 ∧ i0.zero = some (.slice none 0 0) ∧ i0.size = 1 ∧ i0.bytes = 24) := hideP ⟨hi0, hz0, hz1, hz2⟩
  obtain ⟨i1, hj, hy0, hy1, hy2⟩ := info_parts Tryd.infoInt
  have HI1 : Hid (Tryd.prog.info? 3 = some i1 ∧ i1.zero = some (.int .i64 0) ∧ i1.size = 1 ∧ i1.bytes = 8) := hideP ⟨hj, hy0, hy1, hy2⟩
  have HBY : Hid (i1.bytes * Kn ≤ 281474976710656) := hideP (by rw [hy2]; omega)
  clear hi0 hz0 hz1 hz2 hj hy0 hy1 hy2 hA hB KN hab hP hok hnet hxk hyk
  go_enter Tryd.func29, Tryd.ntmps29
  go_wp2_with fail
  refine (K1.out _ (HX0.out _)).mono ?_
  rintro e w1 ⟨rfl, hb1⟩
  have X1 := hideP ((HX0.out _).next hb1)
  have c0 := X1.out.c0
  have c1 := X1.out.c1
  clear hb1
  go_wp2_with fail
  refine (K2.out _ X1.out).mono ?_
  rintro e w2 ⟨rfl, hb2⟩
  have X2 := hideP (X1.out.next hb2)
  have d0 := X2.out.c0
  have d1 := X2.out.c1
  have FS := hideP (fun t => Fls.first X2.out t)
  obtain ⟨Fb, hFb⟩ : ∃ Fb, Fb = w2.heap.size := ⟨_, rfl⟩
  rw [← hFb] at FS
  clear hb2 c0 c1 K1 K2 HX0
  go_wp2
  rw [← hFb]
  clear hFb X1 X2 d0 d1
  go_loopw [8] (fun i wr => ∃ (k : Nat) (v : Value) (gs : Nat → Nat), k ≤ Kn ∧ i = .int .i64 (k : Int) ∧ Fls w wr Kn (.slice ao ts.length cap) Fb k v gs)
    (fun i _ => Kn - (intOf i).toNat)
  case atStart => exact ⟨0, _, _, Nat.zero_le _, rfl, FS.out _⟩
  case round =>
    clear FS
    obtain ⟨k, v, gs, hk, rfl, hF⟩ := hrel
    have HF := hideP hF
    have s0 := hF.X.c0
    have f2 := hF.f2
    by_cases hlt : k < Kn
    · have hlk : (k : Int) < (Kn : Int) := by omega
      clear hF
      obtain ⟨w6, hrun6, hown6, hgr6⟩ := run_make_full (P := Tryd.prog) wr.drew wr.heap.size 44 3 i1 (.int .i64 0) 1 Tryd.underlying44 HI1.out.1 HI1.out.2.1 HI1.out.2.2.1 .i64 .i64 Kn HBY.out (by unfold maxLen; omega) (Nat.le_refl _)
      rw [Nat.mul_one] at hown6
      have O6 := hideP (OwnI.madeZ (g := wr.heap.size) (n := Kn) (cap := Kn) hown6)
      have HB6 : Hid (Below wr.heap.size wr w6) := hideP (((Below.refl wr.heap.size wr).drew).grown hgr6 (Nat.le_refl _) (fun k h => by cases h))
      have F6 := hideP (HF.out.next HB6.out)
      have S6 : w6.cell? ⟨w.heap.size, 0, none⟩ = some (.int .i64 (Kn : Int)) := F6.out.X.c0
      have f6 : w6.cell? ⟨Fb, 2, none⟩ = some v := F6.out.f2
      have A6 := hideP (below_one w6 (.cells #[.slice (some ⟨wr.heap.size, 0, none⟩) Kn Kn] 44))
      have F7 := hideP (F6.out.next A6.out)
      have S7 : (w6.alloc (.cells #[.slice (some ⟨wr.heap.size, 0, none⟩) Kn Kn] 44)).cell? ⟨w.heap.size, 0, none⟩ = some (.int .i64 (Kn : Int)) := F7.out.X.c0
      have f7 : (w6.alloc (.cells #[.slice (some ⟨wr.heap.size, 0, none⟩) Kn Kn] 44)).cell? ⟨Fb, 2, none⟩ = some v := F7.out.f2
      clear hown6 hgr6
      go_wp2
      go_region_law ((refine step_appG (by rfl) _ _ _ (by rfl) (Fb + 1) 44 i0 _ Tryd.underlying26 HI0.out.1 HI0.out.2.1 HI0.out.2.2.1 HI0.out.2.2.2 rfl v k (rowsG Kn gs k) (by rfl) F7.out.G.own w6.heap.size (.slice (some ⟨wr.heap.size, 0, none⟩) Kn Kn) (by rfl) (by exact (World.cell?_alloc_at _ _ _ _ rfl).trans rfl) (by rfl) (by omega) (by have := F7.out.lt; omega) ?_; intro g8 c8 w8 h8 hg8 hh8; have hlt7 := HF.out.lt; obtain ⟨G8, K8⟩ := HF.out.G.snoc (by omega) HB6.out O6.out h8 hg8 (by rcases hh8 with q | q; exact Or.inl q; exact Or.inr (by simpa using q)); have HG8 := hideP G8; have HK8 := hideP K8; have nvF : Hid (∀ b, b ≤ Fb → v.ownBlock ≠ some b) := hideP (fun b hb e => by have := (HF.out.G.lt b e).2; omega); have c82 : w8.cell? ⟨Fb, 2, none⟩ = some v := (HK8.out.cell (p := ⟨Fb, 2, none⟩) HF.out.lt (nvF.out _ (Nat.le_refl _))).trans HF.out.f2; have z82 : w8.frozen? ⟨Fb, 2, none⟩ = false := (HK8.out.frozen (p := ⟨Fb, 2, none⟩) HF.out.lt (nvF.out _ (Nat.le_refl _))).trans (HF.out.fz 2); have F9 := hideP (HF.out.more HG8.out HK8.out); clear h8 hg8 hh8 G8 K8))
      all_goals
        clear f6 f7 S6 S7 c82 z82 F6 F7 A6 HB6 O6 HG8 HK8 nvF hrun6
        go_wp2
        go_roundw
        case rel => exact ⟨k + 1, _, _, by omega, by go_num, F9.out⟩
        case measure => simp [intOf]; omega
    · obtain rfl : k = Kn := by omega
      obtain ⟨G, C, rfl, GR⟩ : ∃ G C, v = .slice (some ⟨G, 0, none⟩) k C ∧ Gsr wr (Fb + 1) G k gs (fun _ _ => 0) := by
        have hG := hF.G
        rcases hG.own.2 with ⟨_, h0⟩ | ⟨G, C, cur, h1, h2, h3, h4⟩
        · omega
        · refine ⟨G, C, h1, ⟨fun i hi => ?_, hG.row, hG.ne, fun i hi e => hG.nv i hi (by rw [h1, e]; rfl), hG.los, h2, (Array.getElem?_eq_some_iff.1 h3).1⟩⟩
          have := hG.own
          rw [h1] at this
          rw [this.cellAt i (by omega)]
          unfold rowsG
          rw [List.getElem?_map, List.getElem?_range hi]; rfl
      have HGR := hideP GR
      have HFx := HF
      clear hF GR f2
      go_wp2
      go_loopg [9] 8 (fun gk cv wb => ∃ (c : Nat) (F : Nat → Nat → Int), cv = .int .i64 (c : Int) ∧ c + gk = 8 ∧ Flw (tieNB ts) x y F (c : Int) ∧ Gsr wb (Fb + 1) G k gs F ∧ Below w.heap.size w wb ∧ wb.cell? ⟨Fb, 0, none⟩ = some (.int .i64 (k : Int)) ∧ wb.cell? ⟨Fb, 1, none⟩ = some (.slice ao ts.length cap) ∧ wb.cell? ⟨Fb, 2, none⟩ = some (.slice (some ⟨G, 0, none⟩) k C) ∧ Fb < wb.heap.size)
      case atStart => exact ⟨0, _, rfl, rfl, Flw.void _ x y, HGR.out, HF.out.X.B, HF.out.f0, HF.out.f1, HF.out.f2, HF.out.lt⟩
      case round =>
        have hge := HFx.out.ge
        clear HGR HFx HF
        obtain ⟨c, F, rfl, hgk, hfl, hgr, hB, g0, g1, g2, hlt2⟩ := hrel
        have HFL := hideP hfl
        have HB := hideP hB
        have MO := hideP (more_any Fb G k (Fb + 1) gs F ao cap C ts x y (c : Int) wr hK8 hxK hyK hxy hn ((HT.out.below hB (Nat.le_refl _)).wide hB.size) hlt2 (by omega) g0 g1 g2 hgr hfl T8.out)
        have HG0 := hideP g0
        have HG1 := hideP g1
        have HG2 := hideP g2
        have HGS := hideP hgr
        clear hfl hgr hB g0 g1 g2
        go_wp2_with fail
        refine MO.out.mono ?_
        rintro e w5 (⟨rfl, hmw, hb5⟩ | ⟨rfl, F', hf', hg', hk5⟩)
        · have HA : Hid (flowN (tieNB ts) x y = (c : Int)) := hideP (flowN_eq (tieNB_turn ts) (by omega) hxy hmw)
          have HB5 := hideP (HB.out.trans (hb5.mono HB.out.size))
          clear hmw hb5 MO
          go_wp2
          go_ret
          exact ⟨by rw [HR.out, HA.out]; rfl, HB5.out⟩
        · have hc8 := hf'.few
          have HF' := hideP hf'
          have HG' := hideP hg'
          have HK5 := hideP hk5
          have nF : ∀ b, b ≤ Fb → ¬ ∃ i, i < k ∧ b = gs i := by rintro b hb ⟨i, hi, e⟩; have := HGS.out.los i hi; omega
          have B5 : Hid (Below w.heap.size w w5) := hideP (HB.out.trans ((hk5.mono (bad' := fun b => w.heap.size ≤ b) (fun b _ q => by obtain ⟨i, hi, e⟩ := q; have := HGS.out.los i hi; omega)).below HB.out.size))
          have i4 : IntKind.i64.wrap ((c : Int) + 1) = (c : Int) + 1 := by rw [IntKind.wrap_i64]; omega
          clear hf' hg' hk5 MO
          go_wp2
          go_roundg (gk - 1)
          case measure => omega
          case rel => exact ⟨c + 1, F', by go_num, by omega, by simpa using HF'.out, HG'.out, B5.out, (HK5.out.cell (p := ⟨Fb, 0, none⟩) hlt2 (nF _ (Nat.le_refl _))).trans HG0.out, (HK5.out.cell (p := ⟨Fb, 1, none⟩) hlt2 (nF _ (Nat.le_refl _))).trans HG1.out, (HK5.out.cell (p := ⟨Fb, 2, none⟩) hlt2 (nF _ (Nat.le_refl _))).trans HG2.out, Nat.lt_of_lt_of_le hlt2 HK5.out.size⟩

theorem countI_neg {K : Int} {ts : List (Int × Int)} {a b : Int} (h : ¬ countI K ts a b < 0) : twoB K ts a b = true := by
  unfold countI at h
  by_cases e : twoB K ts a b = true
  · exact e
  · rw [if_neg e] at h; omega
theorem countI_le8 (K : Int) (ts : List (Int × Int)) (a b : Int) : -1 ≤ countI K ts a b ∧ countI K ts a b ≤ 8 := by
  unfold countI
  by_cases e : twoB K ts a b = true
  · rw [if_pos e]
    obtain ⟨_, x, y, rfl, rfl, hx, hy, _, _, hxy⟩ := knot_nat e
    have h1 := flowV_nonneg ts (a := x) (b := y) hx hxy
    obtain ⟨F, hF⟩ := (flowN_is (tieNB_turn ts) (a := x) (b := y) hx hxy).2.1
    have h2 := hF.few
    have h3 : flowV ts ((x : Int)).toNat ((y : Int)).toNat = flowN (tieNB ts) x y := rfl
    have h4 : flowV ts x y = flowN (tieNB ts) x y := rfl
    rw [h3]; omega
  · rw [if_neg e]; omega
theorem implFlow_v (v : Int) (K : Int) (ao : Option Addr) (cap : Nat) (ts : List (Int × Int)) (a b : Int) (w : World) (hn : ts.length ≤ 1099511627776) (ht : TiesIn w w.heap.size ao ts) (h : countI K ts a b = v) :
    Calls Tryd.prog 11 #[.agg #[.int .i64 K, .slice ao ts.length cap], .int .i64 a, .int .i64 b] w fun e w' => e = .returned (.int .i64 v) ∧ Below w.heap.size w w' := by
  rw [← h]; exact implFlowCount_any K ao cap ts a b w hn ht
theorem specFlow_v (v : Int) (K : Int) (ao : Option Addr) (cap : Nat) (ts : List (Int × Int)) (a b : Int) (w : World) (hn : ts.length ≤ 1099511627776) (ht : TiesIn w w.heap.size ao ts) (h : countI K ts a b = v) :
    Calls Tryd.prog 29 #[.agg #[.int .i64 K, .slice ao ts.length cap], .int .i64 a, .int .i64 b] w fun e w' => e = .returned (.int .i64 v) ∧ Below w.heap.size w w' := by
  rw [← h]; exact specFlowCount_any K ao cap ts a b w hn ht

end Go.Proofs.YtljnjpjnadlmhaaDoor
