/- Texts put together: WBridge, WBridgeI. -/
import Derived.Test.YtmkbeiiifikbgaaDoorWMoves
import Derived.Test.YtmkbeiiifikbgaaDoorPartWRange
import Derived.RangeFuncLeaves
import Derived.Shelf.Abstract
import Derived.Shelf.RegionOpen
import Derived.Test.YtmkbeiiifikbgaaDoorPartWReach2
/- Walk of impl.bridgesOf: it is all bridges of a net. -/
namespace Go.Proofs.YtmkbeiiifikbgaaDoor
open Go.RowKit Go.Shelf
set_option linter.unusedVariables false
attribute [local go_sem] Oper.semAt_some

theorem Dm.put {W : World} {A s : Nat} {d : Dv} {v : Value} (h : Dm W A s d v) {l : Nat} {o : Obj} (o' : Obj) (hl : W.heap[l]? = some o) (ho : o.isCells = false) : Dm (W.putObj l o') A s d v := by
  have oth : ∀ k cs t fr, W.heap[k]? = some (Obj.cells cs t fr) → (W.putObj l o').heap[k]? = W.heap[k]? := fun k cs t fr hk => World.putObj_heap_other (fun e => by subst e; rw [hl] at hk; cases hk; cases ho)
  obtain ⟨cs, t, fr, hA⟩ := h.cells
  refine ⟨h.I.same (oth _ _ _ _ hA) (by simp), h.own.1, ?_⟩
  rcases h.own.2 with q | ⟨g, cap, cur, q1, q2, q3, q4⟩
  · exact Or.inl q
  · exact Or.inr ⟨g, cap, cur, q1, q2, (oth _ _ _ _ q3).trans q3, q4⟩
theorem cells_put {W : World} {k : Nat} {cs : Array Value} {t : TypeId} {fr : Nat × Nat} (hk : W.heap[k]? = some (Obj.cells cs t fr)) {l : Nat} {o : Obj} (o' : Obj) (hl : W.heap[l]? = some o) (ho : o.isCells = false) : (W.putObj l o').heap[k]? = some (Obj.cells cs t fr) :=
  (World.putObj_heap_other (fun e => by subst e; rw [hl] at hk; cases hk; cases ho)).trans hk
theorem Ds.put {E : Nat → Nat → Prop} {W : World} {A Bd s : Nat} {d : Dv} {v : Value} (h : Ds E W A Bd s d v) {l : Nat} {o : Obj} (o' : Obj) (hl : W.heap[l]? = some o) (ho : o.isCells = false) : Ds E (W.putObj l o') A Bd s d v :=
  ⟨h.D.put o' hl ho, cells_put h.b o' hl ho, (h.D.put o' hl ho).cells, h.I, h.X⟩
theorem Yd.puts {E : Nat → Nat → Prop} {J : Dv → World → Prop} {A Bd s B : Nat} (hJ : ∀ d, Puts B (J d)) (m : Mw) : Puts B (Yd E J A Bd s m) := fun W l o o' hB hl ho ⟨h1, h2, h3, v, h4⟩ => ⟨h1, h2, hJ _ W l o o' hB hl ho h3, v, h4.put o' hl ho⟩
theorem Yd'.puts {E : Nat → Nat → Prop} {J : Dv → World → Prop} {A Bd s B : Nat} (hJ : ∀ d, Puts B (J d)) (m : Mw) : Puts B (Yd' E J A Bd s m) := fun W l o o' hB hl ho ⟨h3, v, h4⟩ => ⟨hJ _ W l o o' hB hl ho h3, v, h4.put o' hl ho⟩
theorem MvDone.puts {E : Nat → Nat → Prop} {J : Dv → World → Prop} {A Bd s B : Nat} (hJ : ∀ d, Puts B (J d)) : Puts B (MvDone E J A Bd s) := fun W l o o' hB hl ho ⟨d, v, h1, h2, h3⟩ => ⟨d, v, h1.put o' hl ho, hJ _ W l o o' hB hl ho h2, h3⟩
/-- memory that lies as it lay, but one block of cells of its own and what is new -/
theorem Ds.other {E : Nat → Nat → Prop} {W W' : World} {A Bd s : Nat} {d : Dv} {v : Value} (h : Ds E W A Bd s d v) {B : Nat} {cs : Array Value} {t : TypeId} {fr : Nat × Nat} (hB : W.heap[B]? = some (Obj.cells cs t fr)) (ht : t ≠ 185) (hA : B ≠ A) (hd : B ≠ Bd) (hz : W.heap.size ≤ W'.heap.size) (hs : ∀ k, k < W.heap.size → k ≠ B → W'.heap[k]? = W.heap[k]?) : Ds E W' A Bd s d v := by
  have hD : Dm W' A s d v := by
    refine ⟨h.D.I.same (hs _ h.D.lt (fun e => hA e.symm)) hz, h.D.own.1, ?_⟩
    rcases h.D.own.2 with q | ⟨g, cap, cur, q1, q2, q3, q4⟩
    · exact Or.inl q
    · exact Or.inr ⟨g, cap, cur, q1, q2, (hs _ (Array.getElem?_eq_some_iff.1 q3).1 (fun e => by subst e; rw [hB] at q3; cases q3; exact ht rfl)).trans q3, q4⟩
  exact ⟨hD, (hs _ (Array.getElem?_eq_some_iff.1 h.b).1 (fun e => hd e.symm)).trans h.b, hD.cells, h.I, h.X⟩

theorem BitsOf.is {m : Nat} {us : List (Int × Int)} (h : BitsOf m us) : m = maskN us us.length := by
  apply Nat.eq_of_testBit_eq
  intro j
  rw [Bool.eq_iff_iff, h j, mask_bitsOf us j]
/-- what bridgesOf has put together -/
def Jb (w : World) (Bb : Nat) (d : Dv) (W : World) : Prop := ∃ mB : Nat, mB < 2 ^ 64 ∧ BrBits mB d.br ∧ W.heap[Bb]? = some (Obj.cells #[.int .u64 (mB : Int)] 69 (0, 0)) ∧ Below w.heap.size w W
theorem Jb.kd {w W W' : World} {Bb A : Nat} {d : Dv} (hA : w.heap.size ≤ A) (hne : Bb ≠ A) (h : Jb w Bb d W) (hk : Kd A W W') : Jb w Bb d W' := by
  obtain ⟨mB, h1, h2, h3, h4⟩ := h
  exact ⟨mB, h1, h2, hk.at h3 hne (by decide), h4.trans (hk.bel.mono hA)⟩
theorem Tr.br {E : Nat → Nat → Prop} {d d' : Dv} (t : Tr E d none d') : d'.br = d.br := by
  cases t <;> rfl
theorem Jb.tr {E : Nat → Nat → Prop} {w W : World} {Bb : Nat} {d d' : Dv} (t : Tr E d none d') (h : Jb w Bb d W) : Jb w Bb d' W := by
  obtain ⟨mB, h1, h2, h3, h4⟩ := h
  exact ⟨mB, h1, by rw [t.br]; exact h2, h3, h4⟩
theorem Jb.puts {w : World} {Bb B : Nat} (hB : w.heap.size ≤ B) (d : Dv) : Puts B (Jb w Bb d) := fun W l o o' hl0 hl ho ⟨mB, h1, h2, h3, h4⟩ =>
  ⟨mB, h1, h2, cells_put h3 o' hl ho, h4.trans ((Below.refl _ W).grown (grownBy_putObj' W l o') (by have := (Array.getElem?_eq_some_iff.1 hl).1; have := h4.size; omega) (fun k e => by cases e; omega))⟩

theorem leave_bits {mB : Nat} {d : Dv} {i : Nat} (hb : BrBits mB d.br) (hf : d.fr (i + 1) < 8) (hk : d.kn (i + 1) < 8) (hne : d.fr (i + 1) ≠ d.kn (i + 1)) : BrBits (if d.le (i + 1) = d.tu (d.kn (i + 1)) then mB ||| pbit (d.fr (i + 1) : Int) (d.kn (i + 1) : Int) else mB) (d.leave i).br := by
  by_cases h : d.le (i + 1) = d.tu (d.kn (i + 1))
  · rw [if_pos h]
    refine (hb.with hf hk hne).same (fun x y => ?_)
    exact ⟨fun q => q.elim Or.inl (fun q => Or.inr ⟨h, q⟩), fun q => q.elim Or.inl (fun q => Or.inr q.2)⟩
  · rw [if_neg h]
    refine hb.same (fun x y => ?_)
    exact ⟨Or.inl, fun q => q.elim id (fun q => absurd q.1 h)⟩
theorem wpIn_once {F : Fence} {n : Nat} {P : Program} {c : Code} {Q' : Exit → Act → World → Prop} {K : Act → World → Prop} {a : Act} {w : World} {aa : Act} {wz : World} (h : c.wpIn F n P (Exit.then (fun a' w' => a' = aa ∧ w' = wz) Q') a w) (hk : K aa wz) : c.wpIn F n P (Exit.then K Q') a w :=
  wpIn_mono h (fun e a' w' h => by
    cases e with
    | normal => obtain ⟨rfl, rfl⟩ := h; exact hk
    | _ => exact h)
theorem Yd'.drew {E : Nat → Nat → Prop} {w : World} {Bb A Bd s : Nat} {m : Mw} {W : World} (h : Yd' E (Jb w Bb) A Bd s m W) : Yd' E (Jb w Bb) A Bd s m W.drew := by
  obtain ⟨⟨mB, h1, h2, h3, h4⟩, v, h5⟩ := h
  exact ⟨⟨mB, h1, h2, h3, h4.drew⟩, v, h5.D.drew, h5.b, h5.c, h5.I, h5.X⟩
theorem keeps_drew {W W' : World} (h : KeepsOthers W W') : KeepsOthers W W'.drew := ⟨h.size, h.same⟩
/-- what a move that is told means for the bridges -/
theorem Tr.told {E : Nat → Nat → Prop} (G : Gr E) {d d' : Dv} {x : Mv} (t : Tr E d (some x) d') (h : Inv E d) : x.t < 8 ∧ (x.u = false → d'.br = d.br) ∧ (x.u = true → ∀ mB, BrBits mB d.br → BrBits (if x.l = d'.tu x.t then mB ||| pbit (x.f : Int) (x.t : Int) else mB) d'.br) := by
  cases t with
  | down hi hn hx he hf ht => exact ⟨hx, fun _ => rfl, fun e => by cases e⟩
  | back hi hn hx he hf h0 ht => exact ⟨hx, fun _ => rfl, fun e => by cases e⟩
  | @up i hi hn =>
    have c := h.chain i (by omega)
    have p := h.knk i (by omega)
    have q := h.knk (i + 1) (by omega)
    have hne : d.fr (i + 1) ≠ d.kn (i + 1) := fun e => G.irr (d.kn i) (by have := c.2.1; rw [← e, c.1] at this; exact this)
    exact ⟨q.1, fun e => (by cases e), fun _ mB hb => leave_bits hb (by rw [c.1]; exact p.1) q.1 hne⟩
set_option maxHeartbeats 400000 in
theorem moves_any (A : Nat) (w : World) :
    Calls Tryd.prog 92 #[.pointer (some ⟨A, 0, none⟩)] w fun e w' => e = .returned (.func (.func 126) #[] #[.pointer (some ⟨w.heap.size, 0, none⟩)]) ∧ w' = w.alloc (Obj.cells #[.pointer (some ⟨A, 0, none⟩)] 164) := by
  go_enter Tryd.func92, Tryd.ntmps92
  go_wp2
  go_ret
  exact ⟨rfl, rfl⟩

set_option maxRecDepth 100000 in
set_option maxHeartbeats 4000000 in
theorem bridgesOf_any (K : Int) (ts : List (Int × Int)) (w : World) (hok : okB K ts = true) :
    Calls Tryd.prog 49 #[.int .u64 ((setN K ts : Nat) : Int)] w fun e w' => e = .returned (.int .u64 ((setN K (brTs K ts) : Nat) : Int)) ∧ Below w.heap.size w w' := by
  have HG := hideP (EE.gr (okB_iff.1 hok))
  have HE : Hid (∀ x y : Nat, decide (setN K ts &&& pbit (x : Int) (y : Int) ≠ 0) = true ↔ EE ts x y) := fun x y => by rw [has_set K ts _ _ hok, hasB_ok hok]; rfl
  have HS := hideP (setN_lt K ts)
  have HA : Hid (∀ (d : Dv) (mB : Nat), BrBits mB d.br → Inv (EE ts) d → d.m = 0 → (∀ x, x < 8 → 0 < d.tu x) → mB = setN K (brTs K ts)) := fun d mB hB hI hm hall => by
    rw [setN_yes (brTs_ok hok)]
    exact (br_bits hok hB (hI.answer (EE.gr (okB_iff.1 hok)) hm hall)).is
  obtain ⟨s, hs⟩ : ∃ s, s = setN K ts := ⟨_, rfl⟩
  obtain ⟨m', hm'⟩ : ∃ m', m' = setN K (brTs K ts) := ⟨_, rfl⟩
  rw [← hs] at HE HS ⊢
  rw [← hm'] at HA ⊢
  clear hs hm' hok
  refine (callsIn_wide (n := 5)).1 ?_
  refine callsIn_of_wp_marks Tryd.func49 rfl trivial ?_ rfl
  simp only [Tryd.ntmps49, List.size_toArray, List.length_cons, List.length_nil, Nat.reduceAdd, Nat.reduceSub, Array.replicate_succ, Array.replicate_zero, List.push_toArray, List.append_toArray, List.nil_append, List.cons_append]
  gi_wp2_with fail
  refine ⟨trivial, (callsIn_wide.2 (moves_any (w.heap.size + 1) _)).mono ?_⟩
  rintro e w1 ⟨rfl, hw1⟩
  obtain ⟨A, hA⟩ : ∃ A, A = w.heap.size + 1 := ⟨_, rfl⟩
  have hsz0 : ((w.alloc (Obj.cells #[.int .u64 0] 69)).alloc (Obj.cells #[.int .u64 (s : Int), .slice none 0 0, .int .i64 0, .int .i64 0, .int .i64 0, .int .i64 0, .int .i64 0, .int .i64 0, .int .i64 0, .int .i64 0, .int .i64 0] 125)).heap.size = w.heap.size + 2 := by simp
  rw [hsz0]
  have S0 : Hid ((Ds (EE ts) w1 (w.heap.size + 1) (w.heap.size + 2) s noDv (.slice none 0 0)) ∧ Jb w w.heap.size noDv w1) := by
    have hdv := World.alloc_heap_new (w.alloc (Obj.cells #[.int .u64 0] 69)) (Obj.cells #[.int .u64 (s : Int), .slice none 0 0, .int .i64 0, .int .i64 0, .int .i64 0, .int .i64 0, .int .i64 0, .int .i64 0, .int .i64 0, .int .i64 0, .int .i64 0] 125)
    rw [World.size_alloc] at hdv
    have hbb := (Below.heap_alloc (w.alloc (Obj.cells #[.int .u64 0] 69)) (Obj.cells #[.int .u64 (s : Int), .slice none 0 0, .int .i64 0, .int .i64 0, .int .i64 0, .int .i64 0, .int .i64 0, .int .i64 0, .int .i64 0, .int .i64 0, .int .i64 0] 125) w.heap.size (by simp)).trans (World.alloc_heap_new w (Obj.cells #[.int .u64 0] 69))
    have hbl : Below w.heap.size w ((w.alloc (Obj.cells #[.int .u64 0] 69)).alloc (Obj.cells #[.int .u64 (s : Int), .slice none 0 0, .int .i64 0, .int .i64 0, .int .i64 0, .int .i64 0, .int .i64 0, .int .i64 0, .int .i64 0, .int .i64 0, .int .i64 0] 125)) := ((Below.refl _ w).alloc (Nat.le_refl _) _).alloc (by simp) _
    obtain ⟨w0, hw0⟩ : ∃ w0, w0 = ((w.alloc (Obj.cells #[.int .u64 0] 69)).alloc (Obj.cells #[.int .u64 (s : Int), .slice none 0 0, .int .i64 0, .int .i64 0, .int .i64 0, .int .i64 0, .int .i64 0, .int .i64 0, .int .i64 0, .int .i64 0, .int .i64 0] 125)) := ⟨_, rfl⟩
    rw [← hw0] at hdv hbb hbl hsz0 hw1
    have hd1 : w1.heap[w.heap.size + 1]? = some (Obj.cells #[.int .u64 (s : Int), .slice none 0 0, .int .i64 0, .int .i64 0, .int .i64 0, .int .i64 0, .int .i64 0, .int .i64 0, .int .i64 0, .int .i64 0, .int .i64 0] 125 (0, 0)) := by rw [hw1]; exact (Below.heap_alloc _ _ _ (by omega)).trans hdv
    have hb1 : w1.heap[w.heap.size]? = some (Obj.cells #[.int .u64 0] 69 (0, 0)) := by rw [hw1]; exact (Below.heap_alloc _ _ _ (by omega)).trans hbb
    have hx1 : w1.heap[w.heap.size + 2]? = some (Obj.cells #[.pointer (some ⟨w.heap.size + 1, 0, none⟩)] 164 (0, 0)) := by
      rw [hw1]; have := World.alloc_heap_new w0 (Obj.cells #[.pointer (some ⟨w.heap.size + 1, 0, none⟩)] 164); rwa [hsz0] at this
    have hDm : Dm w1 (w.heap.size + 1) s noDv (.slice none 0 0) := by
      refine ⟨⟨fun j hj => ?_, fun j => ?_, (Array.getElem?_eq_some_iff.1 hd1).1⟩, World.ownsRow_nil _ _ _ _⟩
      · simp only [World.cell?, hd1]
        have : j = 0 ∨ j = 1 ∨ j = 2 ∨ j = 3 ∨ j = 4 ∨ j = 5 ∨ j = 6 ∨ j = 7 ∨ j = 8 ∨ j = 9 ∨ j = 10 := by omega
        rcases this with rfl | rfl | rfl | rfl | rfl | rfl | rfl | rfl | rfl | rfl | rfl <;> rfl
      · simp [World.frozen?, hd1]
    exact ⟨⟨hDm, hx1, hDm.cells, inv_begin _ (fun _ => rfl) _ _ _ _ _, Aux.begin _ (fun _ => rfl) _ _ _ _ _⟩, 0, by omega, BrBits.none, hb1, by rw [hw1]; exact hbl.trans ((below_one _ _).mono (by omega))⟩
  have hz1 : w1.heap.size = w.heap.size + 3 := by rw [hw1, World.size_alloc, hsz0]
  clear hw1 hsz0 hA A
  gi_wp2_with fail
  refine wpIn_rangeAx (α := Mw) rfl (by omega) (gf := 126) (lb := #[.pointer (some ⟨w.heap.size + 2, 0, none⟩)]) rfl trivial (enters_of Tryd.func126 (by kernel_rfl) rfl) (encs := encM) (fun _ => rfl)
    (fun W => Ds (EE ts) W (w.heap.size + 1) (w.heap.size + 2) s noDv (.slice none 0 0) ∧ Jb w w.heap.size noDv W) (MvDone (EE ts) (Jb w w.heap.size) (w.heap.size + 1) (w.heap.size + 2) s)
    (Yd (EE ts) (Jb w w.heap.size) (w.heap.size + 1) (w.heap.size + 2) s) (Yd' (EE ts) (Jb w w.heap.size) (w.heap.size + 1) (w.heap.size + 2) s)
    (fun o o' => ?z0) (fun m => Yd.puts (Jb.puts (by omega)) m) (fun m => Yd'.puts (Jb.puts (by omega)) m) (MvDone.puts (Jb.puts (by omega)))
    (fun l BK hBK hY W h0 hb => ?seq)
    (fun m a' W => ∃ Bx t0 t2 t6 t7 t8 t9, w.heap.size + 3 ≤ Bx ∧ W.heap[Bx]? = some (Obj.cells #[.int .i64 (m.x.f : Int), .int .i64 (m.x.t : Int), .bool m.x.u, .int .i64 (m.x.l : Int)] 130 (0, 0)) ∧ a' = { tmps := #[t0, undef, t2, .pointer (some ⟨w.heap.size, 0, none⟩), .pointer (some ⟨w.heap.size + 1, 0, none⟩), .pointer (some ⟨Bx, 0, none⟩), t6, t7, t8, t9, undef, undef, undef, undef, undef, undef, undef, undef, undef, undef, undef, undef, undef, undef, undef, undef, undef, undef, undef], defers := [] })
    (fun m a' W l o o' hl0 hl ho ⟨Bx, t0, t2, t6, t7, t8, t9, h1, h2, h3⟩ => ⟨Bx, t0, t2, t6, t7, t8, t9, h1, cells_put h2 o' hl ho, h3⟩) ?assign ?body ?done
  case z0 =>
    have hb : Below w1.heap.size w1 ((w1.alloc o).alloc o') := ((Below.refl _ w1).alloc (Nat.le_refl _) _).alloc (by simp) _
    have hk : Kd (w.heap.size + 1) w1 ((w1.alloc o).alloc o') := Kd.low hb (by omega)
    exact ⟨S0.out.1.next (by omega) (S0.out.1.D.below hb) hk S0.out.1.I S0.out.1.X, S0.out.2.kd (by omega) (by omega) hk⟩
  case seq =>
    exact moves_in _ l (w.heap.size + 1) (w.heap.size + 2) s (EE ts) HG.out HS.out HE.out (by omega) (Jb w w.heap.size) (fun d W W' h hk => h.kd (by omega) (by omega) hk) (fun d d' W _ t h => h.tr t) BK hBK hY W noDv _ h0.1 h0.2 hb rfl
  case assign =>
    intro l m W K' hYd hK
    have HK := hideP hK
    have HYd := hideP hYd
    clear hK hYd
    unfold encM mvV
    gi_wp2
    have hb : Below W.heap.size W (W.alloc (Obj.cells #[.int .i64 (m.x.f : Int), .int .i64 (m.x.t : Int), .bool m.x.u, .int .i64 (m.x.l : Int)] 130)) := below_one _ _
    obtain ⟨h1, h2, h3, v, h4⟩ := HYd.out
    have hk := Kd.low hb h4.D.lt
    have hbz : w.heap.size + 2 < W.heap.size := (Array.getElem?_eq_some_iff.1 h4.b).1
    refine HK.out _ _ ((KeepsOthers.alloc _ _).from _) ⟨h1, h2, h3.kd (by omega) (by omega) hk, v, h4.next (by omega) (h4.D.below hb) hk h4.I h4.X⟩ ⟨W.heap.size, _, _, _, _, _, _, by omega, World.alloc_heap_new W _, rfl⟩
  case body =>
    rintro l m a' W hl ⟨h1, h2, ⟨mB, hmB, hbits, hbox, hbel⟩, v, h4⟩ ⟨Bx, t0, t2, t6, t7, t8, t9, hBx, bX, rfl⟩
    obtain ⟨u1, u2, u3⟩ := h1.told HG.out h2
    obtain ⟨x0, x1, x2, x3, _⟩ := four_cells bX
    have ct := h4.D.ct u1
    have cb := box_cell1 hbox
    have fb : W.frozen? ⟨w.heap.size, 0, none⟩ = false := by simp [World.frozen?, hbox]
    have HS4 := hideP h4
    have ht8 : (m.x.t : Int) < 8 := by omega
    have ht0 : (0 : Int) ≤ (m.x.t : Int) := by omega
    -- no bridge more
    have NO : Hid (BrBits mB m.d'.br → Yd' (EE ts) (Jb w w.heap.size) (w.heap.size + 1) (w.heap.size + 2) s m W) := fun hb => ⟨⟨mB, hmB, hb, hbox, hbel⟩, v, h4⟩
    have YES : Hid (∀ mB' : Nat, mB' < 2 ^ 64 → BrBits mB' m.d'.br → Yd' (EE ts) (Jb w w.heap.size) (w.heap.size + 1) (w.heap.size + 2) s m (W.setCell ⟨w.heap.size, 0, none⟩ (.int .u64 (mB' : Int)))) := fun mB' hlt hb => by
      refine ⟨⟨mB', hlt, hb, ?_, hbel.setCell (p := ⟨w.heap.size, 0, none⟩) (Nat.le_refl _) _⟩, v, h4.other hbox (by decide) (by omega) (by omega) (by simp) (fun k hk hne => Below.heap_setCell _ _ _ _ (by exact hne))⟩
      obtain ⟨hlz, he⟩ := Array.getElem?_eq_some_iff.1 hbox
      simp [World.setCell, Array.getElem_modify, hlz, he]
    have HB1 := hideP u2
    have HB2 := hideP u3
    have HBB := hideP hbits
    clear u2 u3 hbits h4 h1 h2 HE HS HA S0 HG
    have hmix : Tryd.prog.follows .mixedOrders = true := by kernel_rfl
    cases hu : m.x.u with
    | false =>
      rw [hu] at x2
      have F := hideP (NO.out (by rw [HB1.out hu]; exact HBB.out))
      clear NO YES HB1 HB2 HBB
      gi_wp2
      apply wpIn_once
      case h =>
        gi_region_o
        all_goals exact ⟨rfl, rfl⟩
      gi_wp2
      exact ⟨(keeps_drew (KeepsOthers.refl _)).from _, F.out.drew⟩
    | true =>
      rw [hu] at x2
      have HB3 := hideP (HB2.out hu mB HBB.out)
      clear HB1 HB2 HBB
      have HW : Hid (∀ w', Calls Tryd.prog 91 #[.int .u64 (mB : Int), .int .i64 (m.x.f : Int), .int .i64 (m.x.t : Int)] w' fun e w2 => e = .returned (.int .u64 ((mB ||| pbit (m.x.f : Int) (m.x.t : Int) : Nat) : Int)) ∧ w2 = w') := fun w' => with_any mB (m.x.f : Int) (m.x.t : Int) w' hmB
      obtain ⟨b, hb⟩ : ∃ b, ((m.x.l : Int) == (m.d'.tu m.x.t : Int)) = b := ⟨_, rfl⟩
      have HBE := hideP hb
      gi_wp2
      apply wpIn_once
      case h =>
        gi_region_o
        all_goals exact ⟨rfl, rfl⟩
      clear hb
      cases b with
      | true =>
        have hlt : m.x.l = m.d'.tu m.x.t := by have := eq_of_beq HBE.out; omega
        rw [if_pos hlt] at HB3
        have F := hideP (YES.out _ (or_lt _ _ hmB (pbit_lt _ _)) HB3.out)
        clear NO YES HB3 hlt HBE
        gi_wp2_with fail
        refine ⟨trivial, (CallsIn.inRound l (callsIn_wide.2 (HW.out _))).mono ?_⟩
        rintro e w2 ⟨rfl, rfl⟩
        gi_wp2
        exact ⟨(keeps_drew (KeepsOthers.setCell _ _ _)).from _, F.out.drew⟩
      | false =>
        have hlt : m.x.l ≠ m.d'.tu m.x.t := fun e => by have := HBE.out; rw [e] at this; simp at this
        rw [if_neg hlt] at HB3
        have F := hideP (NO.out HB3.out)
        clear NO YES HB3 HBE hlt HW
        gi_wp2
        exact ⟨(keeps_drew (KeepsOthers.refl _)).from _, F.out.drew⟩
  case done =>
    rintro D W hD ⟨d, v, hS, ⟨mB, hmB, hbits, hbox, hbel⟩, hm, hall⟩ hK
    have HF : Hid (mB = m') := HA.out d mB hbits hS.I hm hall
    have cb := box_cell1 hbox
    have HB := hideP hbel
    clear hS hbits hall HA hbel
    gi_wp2
    refine ⟨by simp, .inl ⟨_, _, rfl, run_takeDeferred hK, ?_⟩⟩
    refine ⟨.int .u64 (mB : Int), by simp [results, Tryd.f49, go_sem], by rw [HF.out], HB.out.trans (belowK_b (w := w) (Nat.le_refl _) W D _ _ (by omega) hK rfl rfl)⟩

end Go.Proofs.YtmkbeiiifikbgaaDoor

/- Walks of impl.BridgeList, impl.BridgeIs. -/
namespace Go.Proofs.YtmkbeiiifikbgaaDoor
open Go.RowKit
set_option linter.unusedVariables false

/-- the net that is gone down through: this one, or, if it is not ok, one without ties -/
def okK (K : Int) (ts : List (Int × Int)) : Int := if okB K ts = true then K else 8
def okTs (K : Int) (ts : List (Int × Int)) : List (Int × Int) := if okB K ts = true then ts else []
theorem okK_no {K : Int} {ts : List (Int × Int)} (h : okB K ts = false) : okK K ts = 8 := if_neg (by simp [h])
theorem okTs_no {K : Int} {ts : List (Int × Int)} (h : okB K ts = false) : okTs K ts = [] := if_neg (by simp [h])
theorem okK_yes {K : Int} {ts : List (Int × Int)} (h : okB K ts = true) : okK K ts = K := if_pos h
theorem okTs_yes {K : Int} {ts : List (Int × Int)} (h : okB K ts = true) : okTs K ts = ts := if_pos h
theorem okTs_ok (K : Int) (ts : List (Int × Int)) : okB (okK K ts) (okTs K ts) = true := by
  cases h : okB K ts
  · rw [okK_no h, okTs_no h]; decide
  · rw [okK_yes h, okTs_yes h]; exact h
theorem okTs_set (K : Int) (ts : List (Int × Int)) : setN (okK K ts) (okTs K ts) = setN K ts := by
  cases h : okB K ts
  · rw [setN_no h, okK_no h, okTs_no h]; decide
  · rw [okK_yes h, okTs_yes h]
theorem okTs_br (K : Int) (ts : List (Int × Int)) : brTs (okK K ts) (okTs K ts) = brTs K ts := by
  cases h : okB K ts
  · rw [show brTs K ts = [] by simp [brTs, h], okK_no h, okTs_no h]; decide
  · rw [okK_yes h, okTs_yes h]
theorem bridgesOf_all (K : Int) (ts : List (Int × Int)) (w : World) :
    Calls Tryd.prog 49 #[.int .u64 ((setN K ts : Nat) : Int)] w fun e w' => e = .returned (.int .u64 ((setN (okK K ts) (brTs K ts) : Nat) : Int)) ∧ Below w.heap.size w w' := by
  have := bridgesOf_any (okK K ts) (okTs K ts) w (okTs_ok K ts)
  rw [okTs_set, okTs_br] at this
  exact this
theorem brTs_okK (K : Int) (ts : List (Int × Int)) : okB (okK K ts) (brTs K ts) = true := by
  rw [← okTs_br]; exact brTs_ok (okTs_ok K ts)
theorem br_has (K : Int) (ts : List (Int × Int)) (a b : Int) : decide (setN (okK K ts) (brTs K ts) &&& pbit a b ≠ 0) = bridgeB K ts a b := by
  rw [has_set _ _ _ _ (brTs_okK K ts)]
  cases h : okB K ts
  · rw [show brTs K ts = [] by simp [brTs, h], show bridgeB K ts a b = false by simp [bridgeB, hasB_no h]]
    rw [okK_no h, hasB_ok (by decide)]; rfl
  · rw [okK_yes h]; exact brTs_has h a b


set_option maxHeartbeats 800000 in
theorem implBridge_any (K : Int) (ao : Option Addr) (cap : Nat) (ts : List (Int × Int)) (a b : Int) (w : World) (hn : ts.length ≤ 1099511627776) (ht : TiesIn w w.heap.size ao ts) :
    Calls Tryd.prog 22 #[.agg #[.int .i64 K, .slice ao ts.length cap], .int .i64 a, .int .i64 b] w fun e w' => e = .returned (.bool (bridgeB K ts a b)) ∧ Below w.heap.size w w' := by
  have X0 := fun (t : TypeId) => Bx.start w K (.slice ao ts.length cap) t
  have HX0 := hideP X0
  have HT := hideP ht
  have HV := hideP (br_has K ts a b)
  have HL := hideP (setN_lt (okK K ts) (brTs K ts))
  obtain ⟨r, hr⟩ : ∃ r, r = bridgeB K ts a b := ⟨_, rfl⟩
  rw [← hr] at HV ⊢
  clear X0 ht hr
  go_enter Tryd.func22, Tryd.ntmps22
  go_wp2_with fail
  refine (pairsOf_any K ao cap ts _ hn ((HT.out.below (HX0.out _).B (Nat.le_refl _)).wide (Nat.le_of_lt (HX0.out _).lt))).mono ?_
  rintro e w2 ⟨rfl, hb1⟩
  have X2 := hideP ((HX0.out _).next hb1)
  clear hb1
  go_wp2_with fail
  refine (bridgesOf_all K ts _).mono ?_
  rintro e w3 ⟨rfl, hb3⟩
  have X3 := hideP (X2.out.next hb3)
  obtain ⟨mm, hmm⟩ : ∃ m, m = setN (okK K ts) (brTs K ts) := ⟨_, rfl⟩
  rw [← hmm] at HV HL ⊢
  clear hb3 hmm
  go_wp2_with fail
  refine (has_v r mm a b _ HL.out HV.out).mono ?_
  rintro e w4 ⟨rfl, rfl⟩
  go_wp2
  go_ret
  exact ⟨rfl, X3.out.B⟩

end Go.Proofs.YtmkbeiiifikbgaaDoor
