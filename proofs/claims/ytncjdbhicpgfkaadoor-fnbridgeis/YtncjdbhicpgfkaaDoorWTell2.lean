/- Walk of impl.path.tell: the rest. -/
import Derived.Test.YtncjdbhicpgfkaaDoorWTell
namespace Go.Proofs.YtncjdbhicpgfkaaDoor
open Go.RowKit Go.Shelf
set_option linter.unusedVariables false
attribute [local go_sem] Oper.semAt_some

set_option maxRecDepth 100000 in
set_option maxHeartbeats 400000 in
theorem tell_more (l : Nat) (J Jx : List (List Nat) → World → Prop) (hJ : ∀ pre W W', J pre W → Below W.heap.size W W' → J pre W')
    (S b s n : Nat) (hs : s ≤ 8) (p : List Nat) (pre : List (List Nat)) (W : World) (hp : p.length < s) (h0 : 0 < p.length) (hj : J pre W) (hb : lastN p = b) :
      CallsIn Fence.wide n Tryd.prog 102 #[pathV (cI p), .int .u64 (S : Int), .int .i64 (b : Int), .int .i64 (s : Int), .func (.yield l) #[] #[]] W (Told J Jx pre [] W) := by
      have HEND := hideP (fun w => end_path9 (cI p) (b : Int) w (by rw [cI_len]; exact h0) (by rw [cI_len]; omega) (by rw [cI_last h0, hb]))
      have HJ := hideP hJ
      have HJ0 := hideP hj
      have hlen : (cI p).length = p.length := cI_len p
      unfold pathV
      clear hJ hj
      generalize xi (cI p) 0 = x0 at *
      generalize xi (cI p) 1 = x1 at *
      generalize xi (cI p) 2 = x2 at *
      generalize xi (cI p) 3 = x3 at *
      generalize xi (cI p) 4 = x4 at *
      generalize xi (cI p) 5 = x5 at *
      generalize xi (cI p) 6 = x6 at *
      generalize xi (cI p) 7 = x7 at *
      rw [hlen] at HEND ⊢
      obtain ⟨m, hm⟩ : ∃ m, m = p.length := ⟨_, rfl⟩
      rw [← hm] at HEND hp ⊢
      have hp' : (m : Int) < (s : Int) := by omega
      clear hm hlen hb h0
      refine callsIn_of_wp Tryd.func102 rfl trivial ?_ rfl
      simp only [Tryd.ntmps102, List.size_toArray, List.length_cons, List.length_nil, Nat.reduceAdd, Nat.reduceSub, Array.replicate_succ, Array.replicate_zero, List.push_toArray, List.append_toArray, List.nil_append, List.cons_append]
      gi_wp2_with fail
      refine ⟨trivial, fun h => (by cases h), (callsIn_wide.2 (HEND.out _)).mono ?_⟩
      rintro e W1 ⟨rfl, hb1⟩
      have hz1 : W.heap.size < W1.heap.size := by have := hb1.size; simp at this; omega
      have f0 : ∀ j, j < 9 → W1.cell? ⟨W.heap.size, j, none⟩ = (#[Value.int .i64 x0, .int .i64 x1, .int .i64 x2, .int .i64 x3, .int .i64 x4, .int .i64 x5, .int .i64 x6, .int .i64 x7, .int .i64 (m : Int)] : Array Value)[j]? := fun j hj => (hb1.cell (p := ⟨W.heap.size, j, none⟩) (by simp)).trans (World.cell?_alloc_at _ _ _ _ rfl)
      have c0 := f0 0 (by omega)
      have c1 := f0 1 (by omega)
      have c2 := f0 2 (by omega)
      have c3 := f0 3 (by omega)
      have c4 := f0 4 (by omega)
      have c5 := f0 5 (by omega)
      have c6 := f0 6 (by omega)
      have c7 := f0 7 (by omega)
      have c8 := f0 8 (by omega)
      simp at c0 c1 c2 c3 c4 c5 c6 c7 c8
      have B1 : Hid (Below W.heap.size W W1) := (below_one _ _).trans (hb1.mono (by simp))
      clear f0 HEND hb1
      gi_wp2_with fail
      refine ⟨fun _ h => (by cases h), ?_⟩
      gi_wp2
      go_ret
      exact Or.inl ⟨rfl, by rw [List.append_nil]; exact HJ.out _ _ _ HJ0.out B1.out, KpT.below B1.out⟩
theorem onTo_pre {E : Nat → Nat → Bool} {b s f : Nat} {p : List Nat} : ∀ {k : Nat} (j : Nat), onTo E b s f p k <+: onTo E b s f p (k + j) := by
  intro k j
  induction j with
  | zero => exact List.prefix_refl _
  | succ j ih =>
    show _ <+: onTo E b s f p (k + j + 1)
    rw [onTo_succ]
    exact ih.trans (List.prefix_append _ _)
theorem onTo_le {E : Nat → Nat → Bool} {b s f : Nat} {p : List Nat} {k j : Nat} (h : k ≤ j) : onTo E b s f p k <+: onTo E b s f p j := by
  obtain ⟨i, rfl⟩ : ∃ i, j = k + i := ⟨j - k, by omega⟩
  exact onTo_pre i
theorem path_cells {wr : World} {B : Nat} {t : TypeId} {fr : Nat × Nat} {v0 v1 v2 v3 v4 v5 v6 v7 v8 : Value} (h : wr.heap[B]? = some (Obj.cells #[v0, v1, v2, v3, v4, v5, v6, v7, v8] t fr)) :
    wr.cell? ⟨B, 0, none⟩ = some v0 ∧ wr.cell? ⟨B, 1, none⟩ = some v1 ∧ wr.cell? ⟨B, 2, none⟩ = some v2 ∧ wr.cell? ⟨B, 3, none⟩ = some v3 ∧ wr.cell? ⟨B, 4, none⟩ = some v4 ∧ wr.cell? ⟨B, 5, none⟩ = some v5 ∧ wr.cell? ⟨B, 6, none⟩ = some v6 ∧ wr.cell? ⟨B, 7, none⟩ = some v7 ∧ wr.cell? ⟨B, 8, none⟩ = some v8 := by
  refine ⟨?_, ?_, ?_, ?_, ?_, ?_, ?_, ?_, ?_⟩ <;> simp [World.cell?, h]
set_option maxRecDepth 100000 in
set_option maxHeartbeats 1000000 in
theorem tell_go (l N : Nat) (J Jx : List (List Nat) → World → Prop) (hJ : ∀ pre W W', J pre W → Below W.heap.size W W' → J pre W')
    (E : Nat → Nat → Bool) (S b s : Nat) (hS : S < 2 ^ 64) (hE : ∀ x k : Nat, decide (S &&& pbit (x : Int) (k : Int) ≠ 0) = E x k) (hs : s ≤ 8) (f : Nat)
    (ih : ∀ (n : Nat) (p : List Nat) (pre : List (List Nat)) (W : World), p.length + f = s → 0 < p.length → J pre W → pre.length + (onW E b s f p).length ≤ N →
      CallsIn Fence.wide n Tryd.prog 102 #[pathV (cI p), .int .u64 (S : Int), .int .i64 (b : Int), .int .i64 (s : Int), .func (.yield l) #[] #[]] W (Told J Jx pre (onW E b s f p) W))
    (n : Nat) (p : List Nat) (pre : List (List Nat)) (W : World) (hp : p.length + (f + 1) = s) (h0 : 0 < p.length) (hj : J pre W) (hN : pre.length + (onTo E b s f p 8).length ≤ N) (hb : lastN p ≠ b) :
      CallsIn Fence.wide n Tryd.prog 102 #[pathV (cI p), .int .u64 (S : Int), .int .i64 (b : Int), .int .i64 (s : Int), .func (.yield l) #[] #[]] W (Told J Jx pre (onTo E b s f p 8) W) := by
      have HEND := hideP (fun w => end_path9 (cI p) (lastN p : Int) w (by rw [cI_len]; exact h0) (by rw [cI_len]; omega) (cI_last h0))
      have HCAN : Hid (∀ (v : Bool) (k : Nat) (w : World), (E (lastN p) k && !decide (k ∈ p)) = v → Calls Tryd.prog 78 #[pathV (cI p), .int .u64 (S : Int), .int .i64 (k : Int)] w fun x w' => x = .returned (.bool v) ∧ Below w.heap.size w w') := fun v k w hv => by
        refine canGo_is v (cI p) S (k : Int) w (by rw [cI_len]; exact h0) (by rw [cI_len]; omega) hS ?_
        unfold canB
        rw [cI_last h0, hE, cI_in]; exact hv
      have HTELL : Hid (∀ (k : Nat) (w : World), k ≤ 7 → J (pre ++ onTo E b s f p k) w → (E (lastN p) k && !decide (k ∈ p)) = true → CallsIn Fence.wide (n - 1) Tryd.prog 102 #[pathV (cI (p ++ [k])), .int .u64 (S : Int), .int .i64 (b : Int), .int .i64 (s : Int), .func (.yield l) #[] #[]] w (Told J Jx (pre ++ onTo E b s f p k) (onK E b s f p k) w)) := fun k w hk hj' hc => by
        rw [onK_yes hc]
        refine ih (n - 1) (p ++ [k]) _ w (by simp; omega) (by simp) hj' ?_
        have h1 := (onTo_le (E := E) (b := b) (s := s) (f := f) (p := p) (k := k + 1) (j := 8) (by omega)).length_le
        rw [onTo_succ, onK_yes hc] at h1
        simp at h1 ⊢
        omega
      have HW : Hid (∀ (k : Nat) (w : World), Calls Tryd.prog 77 #[pathV (cI p), .int .i64 (k : Int)] w fun x w' => x = .returned (pathV (cI (p ++ [k]))) ∧ Below w.heap.size w w') := fun k w => by
        rw [cI_snoc]; exact with_path (cI p) (k : Int) w (by rw [cI_len]; omega)
      have HJ := hideP hJ
      have HJ0 := hideP hj
      have hne : ((lastN p : Int) == (b : Int)) = false := by simp; omega
      obtain ⟨z, hz⟩ : ∃ z, z = lastN p := ⟨_, rfl⟩
      have HZ := hideP hz
      rw [← hz] at HEND HCAN HTELL hne
      obtain ⟨m, hm⟩ : ∃ m, m = p.length := ⟨_, rfl⟩
      have hlen : (cI p).length = m := by rw [cI_len, hm]
      have hms : m < s := by omega
      have hmne : ((m : Int) == (s : Int)) = false := by simp; omega
      unfold pathV at HCAN HW HTELL ⊢
      generalize xi (cI p) 0 = x0 at *
      generalize xi (cI p) 1 = x1 at *
      generalize xi (cI p) 2 = x2 at *
      generalize xi (cI p) 3 = x3 at *
      generalize xi (cI p) 4 = x4 at *
      generalize xi (cI p) 5 = x5 at *
      generalize xi (cI p) 6 = x6 at *
      generalize xi (cI p) 7 = x7 at *
      rw [hlen] at HEND HCAN HW ⊢
      clear hJ hj hN hE ih hb hz hm hlen h0 hp
      refine callsIn_of_wp Tryd.func102 rfl trivial ?_ rfl
      simp only [Tryd.ntmps102, List.size_toArray, List.length_cons, List.length_nil, Nat.reduceAdd, Nat.reduceSub, Array.replicate_succ, Array.replicate_zero, List.push_toArray, List.append_toArray, List.nil_append, List.cons_append]
      gi_wp2_with fail
      refine ⟨trivial, fun h => (by cases h), (callsIn_wide.2 (HEND.out _)).mono ?_⟩
      rintro e W1 ⟨rfl, hb1⟩
      have HBX : Hid (W1.heap[W.heap.size]? = some (Obj.cells #[Value.int .i64 x0, .int .i64 x1, .int .i64 x2, .int .i64 x3, .int .i64 x4, .int .i64 x5, .int .i64 x6, .int .i64 x7, .int .i64 (m : Int)] 73 (0, 0))) := (hb1.block _ (by simp)).trans (World.alloc_heap_new W _)
      have B1 : Hid (Below W.heap.size W W1) := (below_one _ _).trans (hb1.mono (by simp))
      have J1 := hideP (HJ.out _ _ _ HJ0.out B1.out)
      have K1 := hideP (KpT.below B1.out)
      obtain ⟨c0, c1, c2, c3, c4, c5, c6, c7, c8⟩ := path_cells HBX.out
      clear hb1 HEND HJ0 B1
      gi_wp2
      gi_loopw [29] (fun i wr => ∃ k : Nat, k ≤ 8 ∧ i = .int .i64 k ∧ J (pre ++ onTo E b s f p k) wr ∧ wr.heap[W.heap.size]? = some (Obj.cells #[Value.int .i64 x0, .int .i64 x1, .int .i64 x2, .int .i64 x3, .int .i64 x4, .int .i64 x5, .int .i64 x6, .int .i64 x7, .int .i64 (m : Int)] 73 (0, 0)) ∧ KpT W wr)
        (fun i _ => 8 - (intOf i).toNat)
      case atStart => exact ⟨0, by omega, rfl, by rw [onTo_zero, List.append_nil]; exact J1.out, HBX.out, K1.out⟩
      case round =>
        clear J1 K1 c0 c1 c2 c3 c4 c5 c6 c7 c8 HBX
        obtain ⟨k, hk, rfl, hJr, hbx, hKr⟩ := hrel
        obtain ⟨c0, c1, c2, c3, c4, c5, c6, c7, c8⟩ := path_cells hbx
        have HJr := hideP hJr
        have HBX := hideP hbx
        have HKr := hideP hKr
        clear hJr hbx hKr
        by_cases hlt : k < 8
        · have hk8 : (k : Int) < 8 := by omega
          cases hc : (E z k && !decide (k ∈ p))
          · have HO : Hid (onTo E b s f p (k + 1) = onTo E b s f p k) := by rw [onTo_succ, onK_no (by rw [← HZ.out]; exact hc), List.append_nil]; rfl
            have HC := hideP hc
            clear hc
            gi_wp2_with fail
            refine ⟨trivial, fun h => (by cases h), (callsIn_wide.2 (HCAN.out false k _ HC.out)).mono ?_⟩
            rintro e w1 ⟨rfl, hb1⟩
            have J1 := hideP (HJ.out _ _ _ HJr.out hb1)
            have X1 := hideP ((hb1.block _ (Array.getElem?_eq_some_iff.1 HBX.out).1).trans HBX.out)
            have K1 := hideP (HKr.out.trans (KpT.below hb1))
            clear hb1 HJr HBX HKr c0 c1 c2 c3 c4 c5 c6 c7 c8
            gi_wp2_with fail
            repeat (refine ⟨trivial, ?_⟩; gi_wp2_with fail)
            exact ⟨⟨k + 1, by omega, by go_num, by rw [HO.out]; exact J1.out, X1.out, K1.out⟩, by simp [intOf]; omega⟩
          · have HO : Hid (onTo E b s f p (k + 1) = onTo E b s f p k ++ onK E b s f p k) := onTo_succ E b s f p k
            have HC := hideP hc
            clear hc
            have hk7 : k ≤ 7 := by omega
            gi_wp2_with fail
            refine ⟨trivial, fun h => (by cases h), (callsIn_wide.2 (HCAN.out true k _ HC.out)).mono ?_⟩
            rintro e w1 ⟨rfl, hb1⟩
            have J1 := hideP (HJ.out _ _ _ HJr.out hb1)
            have X1 := hideP ((hb1.block _ (Array.getElem?_eq_some_iff.1 HBX.out).1).trans HBX.out)
            have K1 := hideP (HKr.out.trans (KpT.below hb1))
            clear hb1 HJr HBX HKr c0 c1 c2 c3 c4 c5 c6 c7 c8
            obtain ⟨c0, c1, c2, c3, c4, c5, c6, c7, c8⟩ := path_cells X1.out
            gi_wp2_with fail
            refine ⟨trivial, fun h => (by cases h), (callsIn_wide.2 (HW.out k _)).mono ?_⟩
            rintro e w2 ⟨rfl, hb2⟩
            have J2 := hideP (HJ.out _ _ _ J1.out hb2)
            have X2 := hideP ((hb2.block _ (Array.getElem?_eq_some_iff.1 X1.out).1).trans X1.out)
            have K2 := hideP (K1.out.trans (KpT.below hb2))
            clear hb2 J1 X1 K1 c0 c1 c2 c3 c4 c5 c6 c7 c8
            have T3 := hideP (HTELL.out k w2 hk7 J2.out HC.out)
            clear HTELL
            generalize xi (cI (p ++ [k])) 0 = y0 at *
            generalize xi (cI (p ++ [k])) 1 = y1 at *
            generalize xi (cI (p ++ [k])) 2 = y2 at *
            generalize xi (cI (p ++ [k])) 3 = y3 at *
            generalize xi (cI (p ++ [k])) 4 = y4 at *
            generalize xi (cI (p ++ [k])) 5 = y5 at *
            generalize xi (cI (p ++ [k])) 6 = y6 at *
            generalize xi (cI (p ++ [k])) 7 = y7 at *
            generalize ((cI (p ++ [k])).length : Int) = y8 at *
            gi_wp2_with fail
            refine ⟨trivial, fun h => (by cases h), T3.out.mono ?_⟩
            rintro e w3 (⟨rfl, hJ3, hk3⟩ | ⟨rfl, q, hq, hx3⟩)
            · have J3 : Hid (J (pre ++ onTo E b s f p (k + 1)) w3) := by rw [HO.out, ← List.append_assoc]; exact hJ3
              have X3 : Hid (w3.heap[W.heap.size]? = some (Obj.cells #[Value.int .i64 x0, .int .i64 x1, .int .i64 x2, .int .i64 x3, .int .i64 x4, .int .i64 x5, .int .i64 x6, .int .i64 x7, .int .i64 (m : Int)] 73 (0, 0))) := (hk3.same _ _ _ _ X2.out (by decide) (by decide)).trans X2.out
              have K3 := hideP (K2.out.trans hk3)
              clear hJ3 hk3 T3 J2 X2 K2
              gi_wp2
              exact ⟨⟨k + 1, by omega, by go_num, J3.out, X3.out, K3.out⟩, by simp [intOf]; omega⟩
            · have Q3 : Hid (∃ q, q <+: onTo E b s f p 8 ∧ Jx (pre ++ q) w3) := by
                refine ⟨onTo E b s f p k ++ q, ?_, by rw [← List.append_assoc]; exact hx3⟩
                refine List.IsPrefix.trans ?_ (onTo_le (k := k + 1) (j := 8) (by omega))
                rw [HO.out]
                exact (List.prefix_append_right_inj _).2 hq
              clear hq hx3 T3 J2 X2 K2
              gi_wp2
              go_ret
              exact Or.inr ⟨rfl, Q3.out⟩
        · obtain rfl : k = 8 := by omega
          gi_wp2
          go_ret
          exact Or.inl ⟨rfl, HJr.out, HKr.out⟩

theorem tell_in (l N : Nat) (J Jx : List (List Nat) → World → Prop) (hJ : ∀ pre W W', J pre W → Below W.heap.size W W' → J pre W') (hY : Yields l N J Jx)
    (E : Nat → Nat → Bool) (S b s : Nat) (hS : S < 2 ^ 64) (hE : ∀ x k : Nat, decide (S &&& pbit (x : Int) (k : Int) ≠ 0) = E x k) (hs : s ≤ 8) :
    ∀ (f n : Nat) (p : List Nat) (pre : List (List Nat)) (W : World), p.length + f = s → 0 < p.length → J pre W → pre.length + (onW E b s f p).length ≤ N →
      CallsIn Fence.wide n Tryd.prog 102 #[pathV (cI p), .int .u64 (S : Int), .int .i64 (b : Int), .int .i64 (s : Int), .func (.yield l) #[] #[]] W (Told J Jx pre (onW E b s f p) W) := by
  intro f
  induction f with
  | zero =>
    intro n p pre W hp h0 hj hN
    by_cases hb : lastN p = b
    · have hon : onW E b s 0 p = [p] := by rw [onW_end hb, if_pos (by omega)]
      rw [hon] at hN ⊢
      exact tell_end l N J Jx hJ hY S b s n hs p pre W (by omega) h0 hj (by simpa using hN) hb
    · rw [onW_stop hb]
      exact tell_stop l J Jx hJ S b s n hs p pre W (by omega) h0 hj hb
  | succ f ih =>
    intro n p pre W hp h0 hj hN
    by_cases hb : lastN p = b
    · rw [onW_end hb, if_neg (by omega)]
      exact tell_more l J Jx hJ S b s n hs p pre W (by omega) h0 hj hb
    · rw [onW_go hb] at hN ⊢
      exact tell_go l N J Jx hJ E S b s hS hE hs f ih n p pre W hp h0 hj hN hb

end Go.Proofs.YtncjdbhicpgfkaaDoor
