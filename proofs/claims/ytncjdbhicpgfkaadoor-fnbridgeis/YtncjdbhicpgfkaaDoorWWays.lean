/- Walk of impl.waysOf: it tells all ways between two knots, in order. -/
import Derived.Test.YtncjdbhicpgfkaaDoorWTell2
import Derived.Test.YtncjdbhicpgfkaaDoorPartWLeaf
namespace Go.Proofs.YtncjdbhicpgfkaaDoor
open Go.RowKit Go.Shelf
set_option linter.unusedVariables false
attribute [local go_sem] Oper.semAt_some

/-- what waysOf has kept -/
structure Kept (wr : World) (Bn : Nat) (K : Int) (v : Value) (a b : Int) : Prop where
  n : wr.heap[Bn]? = some (Obj.cells #[.int .i64 K, v] 25 (0, 0))
  a : wr.heap[Bn + 1]? = some (Obj.cells #[.int .i64 a] 3 (0, 0))
  b : wr.heap[Bn + 2]? = some (Obj.cells #[.int .i64 b] 3 (0, 0))
theorem Kept.kp {wr wr' : World} {Bn : Nat} {K : Int} {v : Value} {a b : Int} (h : Kept wr Bn K v a b) (hk : KpT wr wr') : Kept wr' Bn K v a b :=
  ⟨(hk.same _ _ _ _ h.n (by decide) (by decide)).trans h.n, (hk.same _ _ _ _ h.a (by decide) (by decide)).trans h.a, (hk.same _ _ _ _ h.b (by decide) (by decide)).trans h.b⟩
theorem Kept.below {wr wr' : World} {Bn : Nat} {K : Int} {v : Value} {a b : Int} (h : Kept wr Bn K v a b) (hk : Below wr.heap.size wr wr') : Kept wr' Bn K v a b := h.kp (KpT.below hk)
theorem box_cell {wr : World} {B : Nat} {t : TypeId} {fr : Nat × Nat} {v0 : Value} (h : wr.heap[B]? = some (Obj.cells #[v0] t fr)) : wr.cell? ⟨B, 0, none⟩ = some v0 := by simp [World.cell?, h]
theorem net_cells {wr : World} {B : Nat} {t : TypeId} {fr : Nat × Nat} {v0 v1 : Value} (h : wr.heap[B]? = some (Obj.cells #[v0, v1] t fr)) : wr.cell? ⟨B, 0, none⟩ = some v0 ∧ wr.cell? ⟨B, 1, none⟩ = some v1 := by constructor <;> simp [World.cell?, h]

/-- what has come in the end -/
def AllTold (J Jx : List (List Nat) → World → Prop) (all : List (List Nat)) (e : Ending) (W' : World) : Prop := (∃ v, e = .returned v) ∧ ((∃ xs, xs = all ∧ J xs W') ∨ (∃ pre, pre <+: all ∧ Jx pre W'))
set_option maxRecDepth 100000 in
set_option maxHeartbeats 1000000 in
theorem ways1_no (l n Bn : Nat) (J Jx : List (List Nat) → World → Prop) (hJ : ∀ pre W W', J pre W → Below W.heap.size W W' → J pre W')
    (K : Int) (ao : Option Addr) (cap : Nat) (ts : List (Int × Int)) (a b : Int) (W : World) (hn : ts.length ≤ 1099511627776) (ht : TiesIn W W.heap.size ao ts) (hk : Kept W Bn K (.slice ao ts.length cap) a b) (h0 : J [] W) (hno : (okB K ts && knotB a K && knotB b K) = false) :
    CallsIn Fence.wide n Tryd.prog 101 #[.func (.yield l) #[] #[], .pointer (some ⟨Bn, 0, none⟩), .pointer (some ⟨Bn + 1, 0, none⟩), .pointer (some ⟨Bn + 2, 0, none⟩)] W (AllTold J Jx []) := by
  obtain ⟨n0, n1⟩ := net_cells hk.n
  have HP := hideP (fun w h => pairsOf_any K ao cap ts w hn h)
  have HT := hideP ht
  have HJ := hideP hJ
  have HK := hideP hk
  have HJ0 := hideP h0
  clear ht hJ hk h0
  refine callsIn_of_wp Tryd.func101 rfl trivial ?_ rfl
  simp only [Tryd.ntmps101, List.size_toArray, List.length_cons, List.length_nil, Nat.reduceAdd, Nat.reduceSub, Array.replicate_succ, Array.replicate_zero, List.push_toArray, List.append_toArray, List.nil_append, List.cons_append]
  gi_wp2_with fail
  refine ⟨trivial, fun h => (by cases h), (callsIn_wide.2 (HP.out _ HT.out)).mono ?_⟩
  rintro e W1 ⟨rfl, hb1⟩
  have J1 := hideP (HJ.out _ _ _ HJ0.out hb1)
  have K1 := hideP (HK.out.below hb1)
  clear hb1 HJ0 HK HP HT n0 n1
  obtain ⟨n0, n1⟩ := net_cells K1.out.n
  have ca := box_cell K1.out.a
  have cb := box_cell K1.out.b
  have HA := hideP (fun v w h => hasKnot_is v K (.slice ao ts.length cap) a w h)
  have HB := hideP (fun v w h => hasKnot_is v K (.slice ao ts.length cap) b w h)
  generalize (setN K ts : Int) = S
  cases ho : okB K ts
  · clear hno ho
    gi_wp2_with fail
    repeat (refine ⟨trivial, ?_⟩; gi_wp2_with fail)
    refine bodyPost_ret (results_none rfl _ _ _) rfl ⟨⟨_, rfl⟩, Or.inl ⟨[], rfl, J1.out⟩⟩
  · rw [ho] at hno
    cases hA : knotB a K
    · have HV := hideP hA
      clear hno ho hA
      gi_wp2_with fail
      refine ⟨trivial, fun h => (by cases h), (callsIn_wide.2 (HA.out false _ HV.out)).mono ?_⟩
      rintro e W2 ⟨rfl, hb2⟩
      have J2 := hideP (HJ.out _ _ _ J1.out hb2)
      clear hb2 J1 K1 n0 n1 ca cb HA HB
      gi_wp2_with fail
      repeat (refine ⟨trivial, ?_⟩; gi_wp2_with fail)
      refine bodyPost_ret (results_none rfl _ _ _) rfl ⟨⟨_, rfl⟩, Or.inl ⟨[], rfl, J2.out⟩⟩
    · rw [hA] at hno
      have HV := hideP hA
      have hno' : knotB b K = false := by simpa using hno
      have HV2 := hideP hno'
      clear hno ho hA hno'
      gi_wp2_with fail
      refine ⟨trivial, fun h => (by cases h), (callsIn_wide.2 (HA.out true _ HV.out)).mono ?_⟩
      rintro e W2 ⟨rfl, hb2⟩
      have J2 := hideP (HJ.out _ _ _ J1.out hb2)
      have K2 := hideP (K1.out.below hb2)
      clear hb2 J1 K1 n0 n1 ca cb HA
      obtain ⟨n0, n1⟩ := net_cells K2.out.n
      have ca := box_cell K2.out.a
      have cb := box_cell K2.out.b
      gi_wp2_with fail
      refine ⟨trivial, fun h => (by cases h), (callsIn_wide.2 (HB.out false _ HV2.out)).mono ?_⟩
      rintro e W3 ⟨rfl, hb3⟩
      have J3 := hideP (HJ.out _ _ _ J2.out hb3)
      clear hb3 J2 K2 n0 n1 ca cb HB
      gi_wp2_with fail
      refine bodyPost_ret (results_none rfl _ _ _) rfl ⟨⟨_, rfl⟩, Or.inl ⟨[], rfl, J3.out⟩⟩

/-- what has come when ways are told, with the answer as a letter -/
def ToldB (J Jx : List (List Nat) → World → Prop) (pre all : List (List Nat)) (W W' : World) (v : Bool) : Prop :=
  (v = true ∧ J (pre ++ all) W' ∧ KpT W W') ∨ (v = false ∧ ∃ q, q <+: all ∧ Jx (pre ++ q) W')
theorem Told.told {J Jx : List (List Nat) → World → Prop} {pre all : List (List Nat)} {W W' : World} {e : Ending} (h : Told J Jx pre all W e W') : ∃ v : Bool, e = .returned (.bool v) ∧ ToldB J Jx pre all W W' v := by
  rcases h with ⟨h1, h2⟩ | ⟨h1, h2⟩
  · exact ⟨true, h1, Or.inl ⟨rfl, h2⟩⟩
  · exact ⟨false, h1, Or.inr ⟨rfl, h2⟩⟩
theorem allTo_pre {E : Nat → Nat → Bool} {a b : Nat} : ∀ {k : Nat} (j : Nat), allTo E a b k <+: allTo E a b (k + j) := by
  intro k j
  induction j with
  | zero => exact List.prefix_refl _
  | succ j ih =>
    show _ <+: allTo E a b (k + j + 1)
    rw [allTo_succ]
    exact ih.trans (List.prefix_append _ _)
theorem allTo_le {E : Nat → Nat → Bool} {a b k j : Nat} (h : k ≤ j) : allTo E a b k <+: allTo E a b j := by
  obtain ⟨i, rfl⟩ : ∃ i, j = k + i := ⟨j - k, by omega⟩
  exact allTo_pre i
set_option maxRecDepth 100000 in
set_option maxHeartbeats 1000000 in
theorem ways1_yes (l n Bn : Nat) (J Jx : List (List Nat) → World → Prop) (hJ : ∀ pre W W', J pre W → Below W.heap.size W W' → J pre W') 
    (Kn : Nat) (ao : Option Addr) (cap : Nat) (ts : List (Int × Int)) (a b : Nat) (hY : Yields l (allTo (tieNB ts) a b Kn).length J Jx) (W : World) (hn : ts.length ≤ 1099511627776) (ht : TiesIn W W.heap.size ao ts) (hk : Kept W Bn (Kn : Int) (.slice ao ts.length cap) (a : Int) (b : Int)) (h0 : J [] W) (hok : okB (Kn : Int) ts = true) (ha : knotB (a : Int) (Kn : Int) = true) (hb : knotB (b : Int) (Kn : Int) = true) :
    CallsIn Fence.wide n Tryd.prog 101 #[.func (.yield l) #[] #[], .pointer (some ⟨Bn, 0, none⟩), .pointer (some ⟨Bn + 1, 0, none⟩), .pointer (some ⟨Bn + 2, 0, none⟩)] W (AllTold J Jx (allTo (tieNB ts) a b Kn)) := by
  have hK8 : Kn ≤ 8 := by have := (okB_iff.1 hok).2.1; omega
  obtain ⟨n0, n1⟩ := net_cells hk.n
  have HP : Hid (∀ w, TiesIn w w.heap.size ao ts → Calls Tryd.prog 55 #[.agg #[.int .i64 (Kn : Int), .slice ao ts.length cap]] w fun e w' => e = .returned (.tuple #[.int .u64 ((setN (Kn : Int) ts : Nat) : Int), .bool true]) ∧ Below w.heap.size w w') := fun w h => by
    have := pairsOf_any (Kn : Int) ao cap ts w hn h
    rw [hok] at this; exact this
  have HTELL : Hid (∀ (s m : Nat) (w : World), s < Kn → J (allTo (tieNB ts) a b s) w → CallsIn Fence.wide m Tryd.prog 102 #[pathV (cI [a]), .int .u64 ((setN (Kn : Int) ts : Nat) : Int), .int .i64 (b : Int), .int .i64 ((s : Int) + 1), .func (.yield l) #[] #[]] w (Told J Jx (allTo (tieNB ts) a b s) (onW (tieNB ts) b (s + 1) s [a]) w)) := fun s m w hs hj => by
    have := tell_in l _ J Jx hJ hY (tieNB ts) (setN (Kn : Int) ts) b (s + 1) (setN_lt _ _) (fun x k => by rw [has_set _ _ _ _ hok, hasB_ok hok]; rfl) (by omega) s m [a] (allTo (tieNB ts) a b s) w (by simp; omega) (by simp) hj (by
      have h1 := (allTo_le (E := tieNB ts) (a := a) (b := b) (k := s + 1) (j := Kn) (by omega)).length_le
      rw [allTo_succ] at h1
      simpa using h1)
    exact this
  have HW : Hid (∀ (w : World), Calls Tryd.prog 77 #[.agg #[.int .i64 0, .int .i64 0, .int .i64 0, .int .i64 0, .int .i64 0, .int .i64 0, .int .i64 0, .int .i64 0, .int .i64 0], .int .i64 (a : Int)] w fun x w' => x = .returned (pathV (cI [a])) ∧ Below w.heap.size w w') := fun w => with_path [] (a : Int) w (by simp)
  have HPV : Hid (pathV (cI [a]) = .agg #[.int .i64 (a : Int), .int .i64 0, .int .i64 0, .int .i64 0, .int .i64 0, .int .i64 0, .int .i64 0, .int .i64 0, .int .i64 1]) := rfl
  rw [HPV.out] at HTELL HW
  have HA := hideP (fun w => hasKnot_is true (Kn : Int) (.slice ao ts.length cap) (a : Int) w ha)
  have HB := hideP (fun w => hasKnot_is true (Kn : Int) (.slice ao ts.length cap) (b : Int) w hb)
  have HT := hideP ht
  have HJ := hideP hJ
  have HK := hideP hk
  have HJ0 := hideP h0
  generalize ((setN (Kn : Int) ts : Nat) : Int) = S at *
  clear ht hJ hk h0 hY hok ha hb
  refine callsIn_of_wp Tryd.func101 rfl trivial ?_ rfl
  simp only [Tryd.ntmps101, List.size_toArray, List.length_cons, List.length_nil, Nat.reduceAdd, Nat.reduceSub, Array.replicate_succ, Array.replicate_zero, List.push_toArray, List.append_toArray, List.nil_append, List.cons_append]
  gi_wp2_with fail
  refine ⟨trivial, fun h => (by cases h), (callsIn_wide.2 (HP.out _ HT.out)).mono ?_⟩
  rintro e W1 ⟨rfl, hb1⟩
  have J1 := hideP (HJ.out _ _ _ HJ0.out hb1)
  have K1 := hideP (HK.out.below hb1)
  clear hb1 HJ0 HK HP HT n0 n1
  obtain ⟨n0, n1⟩ := net_cells K1.out.n
  have ca := box_cell K1.out.a
  have cb := box_cell K1.out.b
  gi_wp2_with fail
  refine ⟨trivial, fun h => (by cases h), (callsIn_wide.2 (HA.out _)).mono ?_⟩
  rintro e W2 ⟨rfl, hb2⟩
  have J2 := hideP (HJ.out _ _ _ J1.out hb2)
  have K2 := hideP (K1.out.below hb2)
  clear hb2 J1 K1 n0 n1 ca cb HA
  obtain ⟨n0, n1⟩ := net_cells K2.out.n
  have ca := box_cell K2.out.a
  have cb := box_cell K2.out.b
  gi_wp2_with fail
  refine ⟨trivial, fun h => (by cases h), (callsIn_wide.2 (HB.out _)).mono ?_⟩
  rintro e W3 ⟨rfl, hb3⟩
  have J3 := hideP (HJ.out _ _ _ J2.out hb3)
  have K3 := hideP (K2.out.below hb3)
  clear hb3 J2 K2 n0 n1 ca cb HB
  gi_wp2
  gi_loopw [7] (fun i wr => ∃ s : Nat, s ≤ Kn ∧ i = .int .i64 ((s : Int) + 1) ∧ J (allTo (tieNB ts) a b s) wr ∧ Kept wr Bn (Kn : Int) (.slice ao ts.length cap) (a : Int) (b : Int))
    (fun i _ => 9 - (intOf i).toNat)
  case atStart => exact ⟨0, by omega, rfl, J3.out, K3.out⟩
  case round =>
    clear J3 K3
    obtain ⟨s, hs, rfl, hJr, hKr⟩ := hrel
    have HJr := hideP hJr
    have HKr := hideP hKr
    obtain ⟨n0, n1⟩ := net_cells hKr.n
    have ca := box_cell hKr.a
    have cb := box_cell hKr.b
    clear hJr hKr
    by_cases hlt : s < Kn
    · have hlt' : (s : Int) + 1 ≤ (Kn : Int) := by omega
      have hmix : Tryd.prog.follows .mixedOrders = true := by kernel_rfl
      have HBB : Hid (Bn + 2 < wr.heap.size) := (Array.getElem?_eq_some_iff.1 HKr.out.b).1
      have HT2 : Hid (∀ w, J (allTo (tieNB ts) a b s) w → CallsIn Fence.wide (n - 1) Tryd.prog 102 #[.agg #[.int .i64 (a : Int), .int .i64 0, .int .i64 0, .int .i64 0, .int .i64 0, .int .i64 0, .int .i64 0, .int .i64 0, .int .i64 1], .int .u64 S, .int .i64 (b : Int), .int .i64 ((s : Int) + 1), .func (.yield l) #[] #[]] w fun e w' => ∃ v : Bool, e = .returned (.bool v) ∧ ToldB J Jx (allTo (tieNB ts) a b s) (onW (tieNB ts) b (s + 1) s [a]) w w' v) := fun w hj =>
        (HTELL.out s (n - 1) w hlt hj).mono fun e w' h => h.told
      clear HTELL
      gi_wp2_with fail
      gi_region_with_o (first | (refine ⟨trivial, fun h => (by cases h), ?_⟩; gi_at_call 77; refine (callsIn_wide.2 (HW.out _)).mono ?_; rintro e wq ⟨rfl, hbq⟩; have JQ := hideP (HJ.out _ _ _ HJr.out ((Below.refl _ _).drew.trans hbq)); have KQ := hideP (HKr.out.below ((Below.refl _ _).drew.trans hbq)); have cbq := box_cell KQ.out.b; clear hbq) | (refine ⟨trivial, fun h => (by cases h), ?_⟩; gi_at_call 102; refine (HT2.out _ JQ.out).mono ?_; rintro e wz ⟨v, rfl, hv⟩))
      all_goals
        rcases hv with ⟨rfl, hJz, hkz⟩ | ⟨rfl, q, hq, hx⟩
        · have JZ : Hid (J (allTo (tieNB ts) a b (s + 1)) wz) := by rw [allTo_succ]; exact hJz
          have KZ := hideP (KQ.out.kp hkz)
          clear hJz hkz KQ JQ HKr HJr HT2 cbq ca cb n0 n1
          gi_wp2
          exact ⟨⟨s + 1, by omega, by go_num, JZ.out, KZ.out⟩, by simp [intOf]; omega⟩
        · have QZ : Hid (∃ pre, pre <+: allTo (tieNB ts) a b Kn ∧ Jx pre wz) := by
            refine ⟨_, ?_, hx⟩
            refine List.IsPrefix.trans ?_ (allTo_le (k := s + 1) (j := Kn) (by omega))
            rw [allTo_succ]
            exact (List.prefix_append_right_inj _).2 hq
          clear hq hx KQ JQ HKr HJr HT2 cbq ca cb n0 n1
          gi_wp2
          refine bodyPost_ret (results_none rfl _ _ _) rfl ⟨⟨_, rfl⟩, Or.inr QZ.out⟩
    · obtain rfl : s = Kn := by omega
      gi_wp2
      refine bodyPost_end (results_none rfl _ _ _) rfl ⟨⟨_, rfl⟩, Or.inl ⟨_, rfl, HJr.out⟩⟩

/-- what waysOf hands back tells all ways between two knots -/
theorem ways_stops (n Bn : Nat) (K : Int) (ao : Option Addr) (cap : Nat) (ts : List (Int × Int)) (a b : Int) (w : World) (hn : ts.length ≤ 1099511627776) (ht : TiesIn w w.heap.size ao ts) (hk : Kept w Bn K (.slice ao ts.length cap) a b) :
    SeqStopsK Fence.wide n Tryd.prog 101 #[.pointer (some ⟨Bn, 0, none⟩), .pointer (some ⟨Bn + 1, 0, none⟩), .pointer (some ⟨Bn + 2, 0, none⟩)] (fun x : List Nat => #[pathV (cI (clip x))]) KpT (fun ys => ys = waysB K ts a b) (fun pre => pre <+: waysB K ts a b) (waysB K ts a b).length w := by
  intro l J Jx W hW hJ _ hY h0
  have hJ' : ∀ pre W W', J pre W → Below W.heap.size W W' → J pre W' := fun pre W W' h hb => hJ pre W W' none h (grown_none hb) (fun r e => by cases e)
  have hY' : Yields l (waysB K ts a b).length J Jx := fun m pre x W1 hj hl => YieldAt.anyDepth rfl m (hY pre x W1 hj hl)
  have ht' : TiesIn W W.heap.size ao ts := (ht.below hW (Nat.le_refl _)).wide hW.size
  have hk' := hk.below hW
  cases hc : (okB K ts && knotB a K && knotB b K)
  · rw [waysB_no hc]
    exact ways1_no l n Bn J Jx hJ' K ao cap ts a b W hn ht' hk' h0 hc
  · have hc' := hc
    simp only [Bool.and_eq_true] at hc'
    obtain ⟨⟨h1, h2⟩, h3⟩ := hc'
    have hK := (okB_iff.1 h1)
    have ha : 0 ≤ a ∧ a < K := by simpa [knotB] using h2
    have hb : 0 ≤ b ∧ b < K := by simpa [knotB] using h3
    obtain ⟨Kn, rfl⟩ : ∃ n : Nat, K = (n : Int) := ⟨K.toNat, by omega⟩
    obtain ⟨x, rfl⟩ : ∃ n : Nat, a = (n : Int) := ⟨a.toNat, by omega⟩
    obtain ⟨y, rfl⟩ : ∃ n : Nat, b = (n : Int) := ⟨b.toNat, by omega⟩
    have e := waysB_yes hc
    simp only [Int.toNat_natCast] at e
    rw [e] at hY' ⊢
    exact ways1_yes l n Bn J Jx hJ' Kn ao cap ts x y hY' W hn ht' hk' h0 h1 h2 h3
set_option maxRecDepth 100000 in
set_option maxHeartbeats 400000 in
theorem waysOf_in (n : Nat) (K : Int) (u : Value) (a b : Int) (w : World) :
    Calls Tryd.prog 80 #[.agg #[.int .i64 K, u], .int .i64 a, .int .i64 b] w fun e w' => e = .returned (.func (.func 101) #[] #[.pointer (some ⟨w.heap.size, 0, none⟩), .pointer (some ⟨w.heap.size + 1, 0, none⟩), .pointer (some ⟨w.heap.size + 2, 0, none⟩)]) ∧ Kept w' w.heap.size K u a b ∧ Below w.heap.size w w' := by
  go_enter Tryd.func80, Tryd.ntmps80
  go_wp2
  go_ret
  refine ⟨rfl, ⟨?_, ?_, ?_⟩, (((Below.refl _ w).alloc (Nat.le_refl _) _).alloc (by simp) _).alloc (by simp; omega) _⟩
  · exact (Below.heap_alloc _ _ _ (by simp; omega)).trans ((Below.heap_alloc _ _ _ (by simp)).trans (World.alloc_heap_new w _))
  · refine (Below.heap_alloc _ _ _ (by simp)).trans ?_
    have := World.alloc_heap_new (w.alloc (.cells #[.int .i64 K, u] 25)) (.cells #[.int .i64 a] 3)
    rwa [World.size_alloc] at this
  · have := World.alloc_heap_new ((w.alloc (.cells #[.int .i64 K, u] 25)).alloc (.cells #[.int .i64 a] 3)) (.cells #[.int .i64 b] 3)
    rwa [World.size_alloc, World.size_alloc] at this

end Go.Proofs.YtncjdbhicpgfkaaDoor
