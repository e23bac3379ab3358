/- Texts put together: WRows, WNext. -/
import Derived.Test.YtljnjpjnadlmhaaPartWInts
import Derived.ArgAppend
import Derived.OwnWalk
import Derived.Test.YtljnjpjnadlmhaaMathB
import Derived.Test.YtljnjpjnadlmhaaPartWSpecOk
/- Rows of knots of the call's own that begin anywhere in a block: shortened at the head, appended to. -/
namespace Go.Proofs.Ytljnjpjnadlmhaa
open Go.RowKit
set_option linter.unusedVariables false

def ncell (x : Nat) : Value := .int .i64 (x : Int)
structure RowS (w : World) (lo g off cap : Nat) (xs : List Nat) : Prop where
  len : xs.length ≤ cap
  cells : ∀ i, i < xs.length → w.cell? ⟨g, off + i, none⟩ = some (ncell (xs.getD i 0))
  room : ∀ i, i < cap → (w.cell? ⟨g, off + i, none⟩).isSome = true
  fr : ∀ i, w.frozen? ⟨g, i, none⟩ = false
  lo : lo ≤ g
  lt : g < w.heap.size
theorem RowS.same {w w' : World} {lo g off cap : Nat} {xs : List Nat} (h : RowS w lo g off cap xs) (e : w'.heap[g]? = w.heap[g]?) (hs : w.heap.size ≤ w'.heap.size) : RowS w' lo g off cap xs :=
  ⟨h.len, fun i hi => (World.cell?_of_block (a := ⟨g, off + i, none⟩) e).trans (h.cells i hi), fun i hi => by rw [World.cell?_of_block (a := ⟨g, off + i, none⟩) e]; exact h.room i hi, fun i => (World.frozen?_of_block (a := ⟨g, i, none⟩) e).trans (h.fr i), h.lo, Nat.lt_of_lt_of_le h.lt hs⟩
theorem RowS.next {w w' : World} {lo g off cap : Nat} {xs : List Nat} (h : RowS w lo g off cap xs) (hb : Below w.heap.size w w') : RowS w' lo g off cap xs := h.same (hb.block g h.lt) hb.size
theorem RowS.turn {w w' : World} {lo g off cap a b : Nat} {xs : List Nat} (h : RowS w lo g off cap xs) (ht : Turned a b w w') (hg : g < a ∨ b ≤ g) : RowS w' lo g off cap xs := h.same (ht.block g h.lt hg) ht.size
theorem RowS.down {w : World} {lo lo' g off cap : Nat} {xs : List Nat} (h : RowS w lo g off cap xs) (hl : lo' ≤ lo) : RowS w lo' g off cap xs := ⟨h.len, h.cells, h.room, h.fr, Nat.le_trans hl h.lo, h.lt⟩
theorem RowS.tail {w : World} {lo g off cap x : Nat} {xs : List Nat} (h : RowS w lo g off (cap + 1) (x :: xs)) : RowS w lo g (off + 1) cap xs := by
  refine ⟨by have := h.len; simp at this; omega, fun i hi => ?_, fun i hi => ?_, h.fr, h.lo, h.lt⟩
  · have := h.cells (i + 1) (by simp; omega)
    rw [show off + 1 + i = off + (i + 1) by omega, this]; simp
  · rw [show off + 1 + i = off + (i + 1) by omega]; exact h.room (i + 1) (by omega)
theorem RowS.void {w : World} {lo g off cap : Nat} {xs : List Nat} (h : RowS w lo g off cap xs) (off' : Nat) : RowS w lo g off' 0 [] :=
  ⟨by simp, fun i hi => absurd hi (by simp), fun i hi => absurd hi (by omega), h.fr, h.lo, h.lt⟩
theorem RowS.push {w : World} {lo g off cap : Nat} {xs : List Nat} (h : RowS w lo g off cap xs) (y : Nat) (hl : xs.length < cap) : RowS (w.setCell ⟨g, off + xs.length, none⟩ (ncell y)) lo g off cap (xs ++ [y]) := by
  obtain ⟨u, hu⟩ := Option.isSome_iff_exists.1 (h.room xs.length hl)
  refine ⟨by simp; omega, fun i hi => ?_, fun i hi => ?_, fun i => by rw [World.frozen?_setCell]; exact h.fr i, h.lo, by simpa using h.lt⟩
  · simp at hi
    by_cases e : i = xs.length
    · subst e
      rw [World.cell?_setCell_same w ⟨g, off + xs.length, none⟩ _ hu]
      simp
    · rw [World.cell?_setCell_other _ _ _ _ (by simp; try omega), h.cells i (by omega)]
      simp [List.getElem?_append_left (show i < xs.length by omega)]
  · by_cases e : i = xs.length
    · subst e; rw [World.cell?_setCell_same w ⟨g, off + xs.length, none⟩ _ hu]; rfl
    · rw [World.cell?_setCell_other _ _ _ _ (by simp; try omega)]; exact h.room i hi
theorem RowS.ofOwn {w : World} {base n cap : Nat} {e : TypeId} {v : Value} {xs : List Nat} (h : w.ownsRow base e 1 v n (xs.map ncell)) (hn : 0 < n) : ∃ g cap, v = .slice (some ⟨g, 0, none⟩) n cap ∧ RowS w base g 0 cap xs := by
  have hlen : xs.length = n := by have := h.1; simpa using this
  rcases h.2 with ⟨_, e0⟩ | ⟨g, cap', cur, rfl, hg, hh, hc1, hc2, hc3, hc4⟩
  · omega
  · have hlt : g < w.heap.size := (Array.getElem?_eq_some_iff.1 hh).1
    refine ⟨g, cap', rfl, by omega, fun i hi => ?_, fun i hi => ?_, fun i => h.frozenAt i, hg, hlt⟩
    · rw [show 0 + i = i by omega, h.cellAt i (by omega)]
      simp [hi]
    · rw [show 0 + i = i by omega]
      have : i < cur.size := by rw [hc3]; omega
      simp [World.cell?, hh, this]

theorem wpList_append_rowS {P : Program} (w : World) {ops : Array Oper} {rest : List Oper} {o : Oper} {a : Act} {Q : Exit → Act → World → Prop} (hgd : o.guard = none) (s x : Operand) (t : TypeId)
    (ho : o.op = .call { callee := .builtin .append, args := #[s, x], argTypes := #[t, t] })
    (lo : Nat) (e : TypeId) (i : TypeInfo) (ht : P.underlying t = some (.slice e)) (hi : P.info? e = some i) (hz : i.zero = some (.int .i64 0)) (hsize : i.size = 1) (hby : i.bytes = 8)
    (g off cap : Nat) (xs : List Nat) (n : Nat) (hn : xs.length = n) (hs : a.eval s = .slice (some ⟨g, off, none⟩) n cap) (hr : RowS w lo g off cap xs)
    (q y : Nat) (hx : a.eval x = .slice (some ⟨q, 0, none⟩) 1 1) (hq : w.cell? ⟨q, 0, none⟩ = some (ncell y)) (hshort : xs.length ≤ 1000) (hlo : lo ≤ w.heap.size)
    (h : ∀ g' off' cap' w', RowS w' lo g' off' cap' (xs ++ [y]) → (g' = g ∨ w.heap.size ≤ g') → Turned g (g + 1) w w' → wpList P ops Q rest (a.put o.dst (.slice (some ⟨g', off', none⟩) (n + 1) cap')) w') : wpList P ops Q (o :: rest) a w := by
  subst hn
  refine wpList_plain hgd fun K hK => ?_
  have hnews : ∀ j u, [ncell y][j]? = some u → w.cell? ((⟨q, 0, none⟩ : Addr).add j) = some u := by
    intro j u hj
    cases j with
    | zero => simp at hj; subst hj; simpa [Addr.add] using hq
    | succ j => simp at hj
  by_cases hroom : xs.length < cap
  · have hrun := run_append_room_cells (P := P) w t o.type e i ht hi g off xs.length cap ⟨q, 0, none⟩ 1 1 [ncell y] (by simp [hsize]) hnews (by intro u hu; simp at hu; subst hu; rfl) (by omega)
      (by intro j hj; simp at hj; subst hj; rw [hsize]; simpa using hr.room xs.length hroom) (by intro j hj; exact hr.fr _)
    have hset : w.setCells g (off + xs.length * i.size) [ncell y] = w.setCell ⟨g, off + xs.length, none⟩ (ncell y) := by
      rw [hsize]; simp [World.setCells]
    rw [hset] at hrun
    unfold Oper.wp execOp
    simp only [ho, resolve, invoke, builtin, Sem.run_bind, Sem.run_pure, Result.andThen_ok, List.map_toArray, List.map_cons, List.map_nil, hs, hx, hrun]
    exact hK _ _ (h g off cap _ (hr.push y hroom) (Or.inl rfl) ⟨rfl, rfl, rfl, by simp [World.setCell], fun k _ hk => Below.heap_setCell _ _ _ _ (by show k ≠ g; omega)⟩)
  · have holds : ∀ j u, (xs.map ncell)[j]? = some u → w.cell? ((⟨g, off, none⟩ : Addr).add j) = some u := by
      intro j u hj
      have hj' : j < xs.length := by have := (List.getElem?_eq_some_iff.1 hj).1; simpa using this
      have hc := hr.cells j hj'
      have ha : (⟨g, off, none⟩ : Addr).add j = ⟨g, off + j, none⟩ := by unfold Addr.add; split <;> simp_all
      rw [ha, hc]
      simp [hj'] at hj ⊢
      exact hj
    obtain ⟨v', w', hrun, hown, hgr⟩ := run_append_arg_grows (P := P) w t o.type e i (.int .i64 0) 1 8 ht hi hz hsize hby rfl (by omega) ⟨g, off, none⟩ xs.length cap (xs.map ncell) (by simp) holds ⟨q, 0, none⟩ 1 1 [ncell y] (by simp) hnews (by omega) (by unfold maxLen; omega) (by omega)
    have hown' : w'.ownsRow w.heap.size e 1 v' (xs.length + 1) ((xs ++ [y]).map ncell) := by simpa using hown
    obtain ⟨g', cap', rfl, hrow⟩ := RowS.ofOwn (cap := 0) hown' (by omega)
    unfold Oper.wp execOp
    simp only [ho, resolve, invoke, builtin, Sem.run_bind, Sem.run_pure, Result.andThen_ok, List.map_toArray, List.map_cons, List.map_nil, hs, hx, hrun]
    exact hK _ _ (h g' 0 cap' w' (hrow.down hlo) (Or.inr hrow.lo) ⟨hgr.os, hgr.tape, hgr.output, hgr.size, fun k hk _ => hgr.block k hk (by simp)⟩)

end Go.Proofs.Ytljnjpjnadlmhaa

/- Walk of spec.l2Next. -/
namespace Go.Proofs.Ytljnjpjnadlmhaa
open Go.RowKit
set_option linter.unusedVariables false

/-- a net in the box of a function that began in w -/
structure Bx (w wr : World) (K : Int) (v : Value) : Prop where
  c0 : wr.cell? ⟨w.heap.size, 0, none⟩ = some (.int .i64 K)
  c1 : wr.cell? ⟨w.heap.size, 1, none⟩ = some v
  lt : w.heap.size < wr.heap.size
  B : Below w.heap.size w wr
theorem Bx.next {w wr w' : World} {K : Int} {v : Value} (h : Bx w wr K v) (hb : Below wr.heap.size wr w') : Bx w w' K v :=
  ⟨(hb.cell (p := ⟨w.heap.size, 0, none⟩) h.lt).trans h.c0, (hb.cell (p := ⟨w.heap.size, 1, none⟩) h.lt).trans h.c1, Nat.lt_of_lt_of_le h.lt hb.size, h.B.trans (hb.mono h.B.size)⟩
theorem Bx.turn {w wr w' : World} {K : Int} {v : Value} {a b : Nat} (h : Bx w wr K v) (ht : Turned a b wr w') (ha : w.heap.size < a) : Bx w w' K v :=
  ⟨(ht.cell (p := ⟨w.heap.size, 0, none⟩) h.lt (Or.inl ha)).trans h.c0, (ht.cell (p := ⟨w.heap.size, 1, none⟩) h.lt (Or.inl ha)).trans h.c1, Nat.lt_of_lt_of_le h.lt ht.size, h.B.trans (ht.under (by omega) h.B.size)⟩
theorem Bx.start (w : World) (K : Int) (v : Value) (t : TypeId) : Bx w (w.alloc (.cells #[.int .i64 K, v] t)) K v := ⟨by simp, by simp, by simp, below_one _ _⟩
theorem RowS.new (w : World) (t : TypeId) : RowS (w.alloc (.cells #[] t)) w.heap.size w.heap.size 0 0 [] :=
  ⟨by simp, fun i hi => absurd hi (by simp), fun i hi => absurd hi (by omega), fun i => World.frozen?_alloc_at _ _ _ _ rfl, Nat.le_refl _, by simp⟩
theorem RowS.one (w : World) (x : Nat) (t : TypeId) : RowS (w.alloc (.cells #[.int .i64 (x : Int)] t)) w.heap.size w.heap.size 0 1 [x] := by
  refine ⟨by simp, fun i hi => ?_, fun i hi => ?_, fun i => World.frozen?_alloc_at _ _ _ _ rfl, Nat.le_refl _, by simp⟩
  · simp at hi; subst hi; rw [World.cell?_alloc_at _ _ _ _ rfl]; rfl
  · obtain rfl : i = 0 := by omega
    rw [World.cell?_alloc_at _ _ _ _ rfl]; rfl
theorem l1Has_is (v : Bool) (K : Int) (ao : Option Addr) (cap : Nat) (ts : List (Int × Int)) (x y : Nat) (w : World) (hn : ts.length ≤ 1099511627776) (ht : TiesIn w w.heap.size ao ts) (h : tieNB ts x y = v) :
    Calls Try.prog 41 #[.agg #[.int .i64 K, .slice ao ts.length cap], .int .i64 (x : Int), .int .i64 (y : Int)] w fun e w' => e = .returned (.bool v) ∧ Below w.heap.size w w' := by
  rw [← h]; exact l1Has_any K ao cap ts x y w hn ht

set_option maxHeartbeats 800000 in
theorem l2Next_any (Kn : Nat) (ao : Option Addr) (cap : Nat) (ts : List (Int × Int)) (x : Nat) (w : World) (hn : ts.length ≤ 1099511627776) (ht : TiesIn w w.heap.size ao ts) (hK : Kn ≤ 8) :
    Calls Try.prog 49 #[.agg #[.int .i64 (Kn : Int), .slice ao ts.length cap], .int .i64 (x : Int)] w fun e w' => ∃ g off cap', e = .returned (.slice (some ⟨g, off, none⟩) (nbrs ts x Kn).length cap') ∧ RowS w' w.heap.size g off cap' (nbrs ts x Kn) ∧ Below w.heap.size w w' := by
  obtain ⟨i0, hi, hz0, hz1, hz2⟩ := info_parts Try.infoInt
  have HI : Hid (Try.prog.info? 3 = some i0 ∧ i0.zero = some (.int .i64 0) ∧ i0.size = 1 ∧ i0.bytes = 8) := ⟨hi, hz0, hz1, hz2⟩
  clear hi hz0 hz1 hz2
  have X0 := fun (t u : TypeId) => (Bx.start w (Kn : Int) (.slice ao ts.length cap) t).next (below_one _ (.cells #[] u))
  have R0 : ∀ t u : TypeId, RowS ((w.alloc (.cells #[.int .i64 (Kn : Int), .slice ao ts.length cap] t)).alloc (.cells #[] u)) (w.heap.size + 1) (w.heap.size + 1) 0 0 [] := fun t u => by
    have h := RowS.new (w.alloc (.cells #[.int .i64 (Kn : Int), .slice ao ts.length cap] t)) u
    have e : (w.alloc (.cells #[.int .i64 (Kn : Int), .slice ao ts.length cap] t)).heap.size = w.heap.size + 1 := by simp
    rw [e] at h
    exact h
  have HX0 := hideP X0
  have HR0 := hideP R0
  have HT := hideP ht
  clear X0 R0 ht
  go_enter Try.func49, Try.ntmps49
  go_wp2
  go_loopw [5, 6] (fun v i wr => ∃ k g off cap' : Nat, k ≤ Kn ∧ i = .int .i64 k ∧ v = .slice (some ⟨g, off, none⟩) (nbrs ts x k).length cap' ∧ RowS wr (w.heap.size + 1) g off cap' (nbrs ts x k) ∧ Bx w wr (Kn : Int) (.slice ao ts.length cap))
    (fun _ i _ => Kn - (intOf i).toNat)
  case atStart => exact ⟨0, w.heap.size + 1, 0, 0, Nat.zero_le _, rfl, rfl, HR0.out _ _, HX0.out _ _⟩
  case round =>
    obtain ⟨k, g, off, cap', hk, rfl, rfl, hR, hX⟩ := hrel
    have c0 := hX.c0
    have c1 := hX.c1
    by_cases hlt : k < Kn
    · have hk1 : (k : Int) < (Kn : Int) := by omega
      have T1 := hideP ((HT.out.below hX.B (Nat.le_refl _)).wide (Nat.le_of_lt hX.lt))
      have hX' := hideP hX
      have hR' := hideP hR
      have hlen := nbrs_len ts x k
      clear hX hR
      cases hv : tieNB ts x k
      · have HV := hideP hv
        have HNB : Hid (nbrs ts x (k + 1) = nbrs ts x k) := nbrs_no hv
        clear hv
        go_wp2_with fail
        refine (l1Has_is false (Kn : Int) ao cap ts x k _ hn T1.out HV.out).mono ?_
        rintro e w1 ⟨rfl, hb1⟩
        have X1 := hideP (hX'.out.next hb1)
        have R1 := hideP (hR'.out.next hb1)
        clear hb1 c0 c1
        go_wp2
        go_roundw
        case rel => exact ⟨k + 1, g, off, cap', by omega, by go_num, by rw [HNB.out], by rw [HNB.out]; exact R1.out, X1.out⟩
        case measure => simp [intOf]; omega
      · have HV := hideP hv
        have HNB : Hid (nbrs ts x (k + 1) = nbrs ts x k ++ [k]) := nbrs_yes hv
        have HLN : Hid ((nbrs ts x (k + 1)).length = (nbrs ts x k).length + 1) := by show (nbrs ts x (k + 1)).length = _; rw [HNB.out]; simp
        obtain ⟨L, hL⟩ : ∃ L, L = nbrs ts x k := ⟨_, rfl⟩
        have HL := hideP hL
        rw [← hL] at hR' hlen HNB HLN ⊢
        obtain ⟨m, hm⟩ : ∃ m, m = L.length := ⟨_, rfl⟩
        have HM := hideP hm
        rw [← hm] at hlen HLN ⊢
        clear hv hL hm
        go_wp2_with fail
        refine (l1Has_is true (Kn : Int) ao cap ts x k _ hn T1.out HV.out).mono ?_
        rintro e w1 ⟨rfl, hb1⟩
        have bo1 := below_one w1 (.cells #[.int .i64 (k : Int)] 3)
        have X1 := hideP ((hX'.out.next hb1).next bo1)
        have R1 := hideP ((hR'.out.next hb1).next bo1)
        clear hb1 c0 c1 bo1
        go_wp2_with (at_builtin; refine wpList_append_rowS _ rfl _ _ 30 rfl (w.heap.size + 1) 3 i0 Try.underlying30 HI.out.1 HI.out.2.1 HI.out.2.2.1 HI.out.2.2.2 g off cap' L m HM.out.symm rfl R1.out w1.heap.size k rfl ?c1 ?c2 ?c3 ?c4)
        · rw [World.cell?_alloc_at _ _ _ _ rfl]; rfl
        · rw [← HM.out]; omega
        · exact X1.out.lt
        intro g' off' cap'' w2 hR2 hg2 ht2
        have X2 := hideP (X1.out.turn ht2 R1.out.lo)
        have R2 := hideP hR2
        clear hR2 ht2 hg2
        go_wp2
        go_roundw
        case rel => exact ⟨k + 1, g', off', cap'', by omega, by go_num, by rw [HLN.out], by rw [HNB.out]; exact R2.out, X2.out⟩
        case measure => simp [intOf]; omega
    · obtain rfl : k = Kn := by omega
      have HR := hideP (hR.down (Nat.le_succ _))
      have HB := hideP hX.B
      clear hR hX
      go_wp2
      go_ret
      exact ⟨g, off, cap', rfl, HR.out, HB.out⟩

end Go.Proofs.Ytljnjpjnadlmhaa
