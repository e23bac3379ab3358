/- Walk of impl.dive.look. -/
import Derived.Test.YtapnbnapfapneaaWDive2
import Derived.Test.YtapnbnapfapneaaWQuiet
namespace Go.Proofs.Ytapnbnapfapneaa
open Go.RowKit
set_option linter.unusedVariables false

theorem own_kept {w w' : World} {base : Nat} {e : TypeId} {size : Nat} {v : Value} {n : Nat} {xs : List Value} (h : w.ownsRow base e size v n xs) (hb : ∀ g, g < w.heap.size → w'.heap[g]? = w.heap[g]?) : w'.ownsRow base e size v n xs := by
  refine ⟨h.1, ?_⟩
  rcases h.2 with h1 | ⟨g, cap, cur, h1, h2, h3, h4⟩
  · exact Or.inl h1
  · exact Or.inr ⟨g, cap, cur, h1, h2, (hb g (Array.getElem?_eq_some_iff.1 h3).1).trans h3, h4⟩
theorem Dm.below {w w' : World} {A s : Nat} {d : Dv} {v : Value} (h : Dm w A s d v) (hb : Below w.heap.size w w') : Dm w' A s d v :=
  ⟨h.I.below hb h.lt, own_kept h.own (fun g hgl => hb.block g hgl)⟩
/-- what is told, as a value -/
def mvO : Option Mv → Value
  | none => mvV 0 0 false 0
  | some x => mvV x.f x.t x.u x.l
/-- one step of going down, by a call -/
def Looked (E : Nat → Nat → Prop) (A s : Nat) (d : Dv) (w : World) (e : Ending) (w' : World) : Prop :=
  ∃ o d' v', e = .returned (.tuple #[mvO o, .bool o.isSome]) ∧ Tr E d o d' ∧ Dm w' A s d' v' ∧ Kd A w w'

set_option maxHeartbeats 1600000 in
theorem look_left (E : Nat → Nat → Prop) (A s : Nat) (d : Dv) (v : Value) (w : World) (hD : Dm w A s d v) (hX : Aux d) (i : Nat) (hi : d.m = i + 1) (hn : d.nx i = 8) :
    Calls Try.prog 33 #[.pointer (some ⟨A, 0, none⟩)] w (Looked E A s d w) := by
  have hm8 : d.m ≤ 8 := by have := hX.mcn; have := hX.sum; omega
  obtain ⟨g, cap, rfl, _, _⟩ := hD.own.form (by omega)
  rw [hi] at hD
  have him : i < d.m := by omega
  have hA := hD.lt
  have LV : Hid (∀ w0, Dm w0 A s d (.slice (some ⟨g, 0, none⟩) (i + 1) cap) → Calls Try.prog 37 #[.pointer (some ⟨A, 0, none⟩)] w0 fun e w' => ∃ o d' v', e = .returned (.tuple #[mvO o, .bool o.isSome]) ∧ Tr E d o d' ∧ Dm w' A s d' v' ∧ Kd A w0 w') := fun w0 h0 => by
    by_cases e0 : i = 0
    · subst e0
      exact (leave_root A s d g cap w0 h0 hi).mono fun e w' ⟨h1, h2, h3⟩ => ⟨none, _, _, h1, Tr.out hi hn, h2, h3⟩
    · obtain ⟨j, rfl⟩ : ∃ j, i = j + 1 := ⟨i - 1, by omega⟩
      exact (leave_more A s d g cap j w0 h0 hi (by omega)).mono fun e w' ⟨h1, h2, h3⟩ => ⟨some ⟨d.fr (j + 1), d.kn (j + 1), true, d.le (j + 1)⟩, _, _, h1, Tr.up hi hn, h2, h3⟩
  clear hX
  go_enter Try.func33, Try.ntmps33
  go_wp2_with fail
  obtain ⟨w0, hw0⟩ : ∃ w0, w0 = w.alloc (Obj.cells #[.int .i64 0, .int .i64 0, .bool false, .int .i64 0] 63) := ⟨_, rfl⟩
  have hD0 : Dm w0 A s d (.slice (some ⟨g, 0, none⟩) (i + 1) cap) := by rw [hw0]; exact hD.alloc _
  have B0 : Hid (Kd A w w0) := by rw [hw0]; exact (Kd.refl _ _).alloc hA _
  have R0 : Hid (w0.heap[w.heap.size]? = some (Obj.cells #[.int .i64 0, .int .i64 0, .bool false, .int .i64 0] 63 (0, 0))) := by rw [hw0]; exact World.alloc_heap_new w _
  rw [← hw0]
  obtain ⟨R, hR⟩ : ∃ R, R = w.heap.size := ⟨_, rfl⟩
  rw [← hR] at R0 hA ⊢
  have hRw : w.heap.size ≤ R := by omega
  clear hw0 hD hR
  obtain ⟨k0, k1, k2, k3, kf, hg, hgz⟩ := hD0.st hi him
  rw [hn] at k2
  have k2' : w0.cell? ⟨g, i * 4 + 2, none⟩ = some (.int .i64 8) := k2
  have HD := hideP hD0
  clear hD0 k2
  refine (top_any A s d g cap i _ HD.out hi (by omega)).mono ?_
  rintro e w1 ⟨rfl, rfl⟩
  go_wp2_with fail
  refine (LV.out _ HD.out.drew).mono ?_
  rintro e w2 ⟨o, d', v', rfl, ht, h2, b2⟩
  have R2 : Hid (w2.heap[R]? = some (Obj.cells #[.int .i64 0, .int .i64 0, .bool false, .int .i64 0] 63 (0, 0))) := b2.at (k := R) R0.out (by omega) (by decide)
  have B2 : Hid (Kd A w w2) := (B0.out.drew).trans b2
  have D2 := hideP h2
  have HT := hideP ht
  obtain ⟨u0, u1, u2, u3, uf⟩ := four_cells R2.out
  clear LV h2 b2 HD R0 B0 k0 k1 k3 kf k2' ht
  obtain ⟨f, t, u, l, hmv⟩ : ∃ f t u l, mvO o = mvV f t u l := by
    cases o with
    | none => exact ⟨_, _, _, _, rfl⟩
    | some x => exact ⟨_, _, _, _, rfl⟩
  have HMV := hideP hmv
  rw [hmv]
  clear hmv
  unfold mvV
  go_wp2
  have DG := hideP (D2.out.four R2.out hA (.int .i64 (f : Int)) (.int .i64 (t : Int)) (.bool u) (.int .i64 (l : Int)))
  have KG := hideP (B2.out.four hRw hA (.int .i64 (f : Int)) (.int .i64 (t : Int)) (.bool u) (.int .i64 (l : Int)))
  obtain ⟨q0, q1, q2, q3, _⟩ := four_cells (four_at R2.out (.int .i64 (f : Int)) (.int .i64 (t : Int)) (.bool u) (.int .i64 (l : Int)))
  change bodyPost _ _ _ _ _ (Four w2 R (.int .i64 (f : Int)) (.int .i64 (t : Int)) (.bool u) (.int .i64 (l : Int)))
  obtain ⟨w4, hw4⟩ : ∃ w4, w4 = Four w2 R (.int .i64 (f : Int)) (.int .i64 (t : Int)) (.bool u) (.int .i64 (l : Int)) := ⟨_, rfl⟩
  rw [← hw4] at DG KG q0 q1 q2 q3 ⊢
  refine bodyPost_ret (v := .tuple #[mvV f t u l, .bool o.isSome]) (by simp [results, Try.results33, go_sem, q0, q1, q2, q3, mvV]) rfl ⟨o, d', v', by rw [HMV.out], HT.out, DG.out, KG.out⟩

theorem has_v (v : Bool) (p : Nat) (a b : Int) (w : World) (hp : p < 2 ^ 64) (h : decide (p &&& pbit a b ≠ 0) = v) :
    Calls Try.prog 15 #[.int .u64 (p : Int), .int .i64 a, .int .i64 b] w fun e w' => e = .returned (.bool v) ∧ w' = w := by
  rw [← h]; exact has_any p a b w hp
/-- what stands where one looks on: the world with the next one to look at -/
structure Lk (w W : World) (A s R g cap i x : Nat) (d : Dv) : Prop where
  D : Dm W A s (d.skip i x) (.slice (some ⟨g, 0, none⟩) (i + 1) cap)
  K : Kd A w W
  R : W.heap[R]? = some (Obj.cells #[.int .i64 0, .int .i64 0, .bool false, .int .i64 0] 63 (0, 0))
theorem Lk.below {w W W' : World} {A s R g cap i x : Nat} {d : Dv} (h : Lk w W A s R g cap i x d) (hb : Below W.heap.size W W') : Lk w W' A s R g cap i x d :=
  ⟨h.D.below hb, h.K.trans (Kd.low hb h.D.lt), (hb.block _ (Array.getElem?_eq_some_iff.1 h.R).1).trans h.R⟩

set_option maxHeartbeats 3200000 in
theorem look_on (E : Nat → Nat → Prop) (A s : Nat) (d : Dv) (v : Value) (w : World) (hD : Dm w A s d v) (hs : s < 2 ^ 64) (hI : Inv E d) (hX : Aux d) (i : Nat) (hi : d.m = i + 1) (x : Nat) (hn : d.nx i = x) (hx : x < 8) (b1 b2 b3 : Bool) (hb1 : decide (s &&& pbit (d.kn i : Int) (x : Int) ≠ 0) = b1) (hb2 : ((x : Int) == (d.fr i : Int)) = b2) (hb3 : decide ((d.tu (d.kn i) : Int) < (d.tu x : Int)) = b3)
    (hno : b1 = false ∨ b2 = true ∨ b3 = true → ∃ d', Tr E d none d' ∧ ∀ W v, Dm W A s (d.skip i x) v → Dm W A s d' v)
    (hdn : b1 = true → b2 = false → d.tu x = 0 → Tr E d (some ⟨d.kn i, x, false, 0⟩) ((d.skip i x).push x (d.kn i)))
    (hbk : b1 = true → b2 = false → b3 = false → 0 < d.tu x → Tr E d (some ⟨d.kn i, x, false, 0⟩) (d.look i x)) :
    Calls Try.prog 33 #[.pointer (some ⟨A, 0, none⟩)] w (Looked E A s d w) := by
  have hm8 : d.m ≤ 8 := by have := hX.mcn; have := hX.sum; omega
  obtain ⟨g, cap, rfl, _, _⟩ := hD.own.form (by omega)
  rw [hi] at hD
  have him : i < d.m := by omega
  have hA := hD.lt
  have hk8 := (hI.knk i him).1
  have HB1 := hideP hb1
  have HB2 := hideP hb2
  have HB3 := hideP hb3
  have hc8 : d.cn ≤ 8 := by have := hX.sum; omega
  have HNO := hideP hno
  have HDN := hideP hdn
  have HBK := hideP hbk
  clear hX hI hno hdn hbk hb1 hb2 hb3
  go_enter Try.func33, Try.ntmps33
  go_wp2_with fail
  obtain ⟨w0, hw0⟩ : ∃ w0, w0 = w.alloc (Obj.cells #[.int .i64 0, .int .i64 0, .bool false, .int .i64 0] 63) := ⟨_, rfl⟩
  have hD0 : Dm w0 A s d (.slice (some ⟨g, 0, none⟩) (i + 1) cap) := by rw [hw0]; exact hD.alloc _
  have B0 : Hid (Kd A w w0) := by rw [hw0]; exact (Kd.refl _ _).alloc hA _
  have R0 : Hid (w0.heap[w.heap.size]? = some (Obj.cells #[.int .i64 0, .int .i64 0, .bool false, .int .i64 0] 63 (0, 0))) := by rw [hw0]; exact World.alloc_heap_new w _
  rw [← hw0]
  obtain ⟨R, hR⟩ : ∃ R, R = w.heap.size := ⟨_, rfl⟩
  rw [← hR] at R0 hA ⊢
  have hRw : w.heap.size ≤ R := by omega
  clear hw0 hD hR
  obtain ⟨k0, k1, k2, k3, kf, hg, hgz⟩ := hD0.st hi him
  rw [hn] at k2
  have k2' : w0.cell? ⟨g, i * 4 + 2, none⟩ = some (.int .i64 (x : Int)) := k2
  have L1 : Hid (Lk w (w0.setCell ⟨g, i * 4 + 2, none⟩ (.int .i64 ((x : Int) + 1))) A s R g cap i x d) := by
    have h1 := hD0.next hi hg (x + 1)
    have e : ((x + 1 : Nat) : Int) = (x : Int) + 1 := by omega
    rw [e] at h1
    obtain ⟨_, cs, fr, hb⟩ := own_step (hi ▸ hD0.own)
    exact ⟨⟨h1.I, h1.own⟩, B0.out.setG hD0 hi _ _, (Below.heap_setCell _ _ _ _ (by show R ≠ g; intro e; subst e; rw [R0.out] at hb; cases hb)).trans R0.out⟩
  have HD := hideP hD0
  have hne8 : ((x : Int) == 8) = false := by simp; omega
  have hx9 : (x : Int) < 8 := by omega
  have hk9 : (d.kn i : Int) < 8 := by omega
  clear hD0 k2
  refine (top_any A s d g cap i _ HD.out hi (by omega)).mono ?_
  rintro e w1 ⟨rfl, rfl⟩
  go_wp2
  obtain ⟨w2, hw2⟩ : ∃ w2, w2 = w0.setCell ⟨g, i * 4 + 2, none⟩ (.int .i64 ((x : Int) + 1)) := ⟨_, rfl⟩
  rw [← hw2] at L1 ⊢
  clear hw2 k0 k1 k3 kf k2' HD hne8 R0 B0
  obtain ⟨k0, k1, _, k3, kf, _, hgz2⟩ := L1.out.D.st hi him
  have k0' : w2.cell? ⟨g, i * 4, none⟩ = some (.int .i64 (d.kn i : Int)) := k0
  have k1' : w2.cell? ⟨g, i * 4 + 1, none⟩ = some (.int .i64 (d.fr i : Int)) := k1
  have c0 := L1.out.D.c0
  have ct : w2.cell? ⟨A, 2 + x, none⟩ = some (.int .i64 (d.tu x : Int)) := L1.out.D.ct hx
  have ck : w2.cell? ⟨A, 2 + d.kn i, none⟩ = some (.int .i64 (d.tu (d.kn i) : Int)) := L1.out.D.ct hk8
  clear k0 k1 k3
  have hne9 : Nonempty (Cls (Below w2.heap.size w2)) := ⟨⟨w2, Below.refl _ _⟩⟩
  have p0 : ∀ u : Cls (Below w2.heap.size w2), u.w.cell? ⟨g, i * 4, none⟩ = some (.int .i64 (d.kn i : Int)) := fun u => (u.ok.cell (p := ⟨g, i * 4, none⟩) hgz2).trans k0'
  have p1 : ∀ u : Cls (Below w2.heap.size w2), u.w.cell? ⟨g, i * 4 + 1, none⟩ = some (.int .i64 (d.fr i : Int)) := fun u => (u.ok.cell (p := ⟨g, i * 4 + 1, none⟩) hgz2).trans k1'
  have p2 : ∀ u : Cls (Below w2.heap.size w2), u.w.cell? ⟨A, 0, none⟩ = some (.int .u64 (s : Int)) := fun u => (u.ok.cell (p := ⟨A, 0, none⟩) L1.out.D.lt).trans c0
  have p3 : ∀ u : Cls (Below w2.heap.size w2), u.w.cell? ⟨A, 2 + x, none⟩ = some (.int .i64 (d.tu x : Int)) := fun u => (u.ok.cell (p := ⟨A, 2 + x, none⟩) L1.out.D.lt).trans ct
  have p4 : ∀ u : Cls (Below w2.heap.size w2), u.w.cell? ⟨A, 2 + d.kn i, none⟩ = some (.int .i64 (d.tu (d.kn i) : Int)) := fun u => (u.ok.cell (p := ⟨A, 2 + d.kn i, none⟩) L1.out.D.lt).trans ck
  have CH : Hid (∀ u : Cls (Below w2.heap.size w2), Calls Try.prog 15 #[.int .u64 (s : Int), .int .i64 (d.kn i : Int), .int .i64 (x : Int)] u.w fun e w'' => e = .returned (.bool b1) ∧ ∃ u2 : Cls (Below w2.heap.size w2), w'' = u2.w) := fun u =>
    Calls.cls (D := Below w2.heap.size w2) ((has_v b1 s (d.kn i : Int) (x : Int) u.w hs HB1.out).mono fun e w3 ⟨he, hb3⟩ => ⟨he, hb3 ▸ u.ok⟩)
  have e2 := HB2.out
  have e3 := HB3.out
  refine wp_region_cls (Below w2.heap.size w2) (by kernel_rfl) (by kernel_rfl) (Below.refl _ _).drew.drew ?_
  cases b1 with
  | false =>
    repeat (go_big_quiet_step (first | (go_at_call 15; refine CH.out _)))
    refine wpQuiet_nil ?_
    intro wz hw'
    have hz : Below w2.heap.size w2 wz := by obtain ⟨u, e⟩ := hw'; rw [e]; exact u.ok
    clear hw' p0 p1 p2 p3 p4 CH hne9 e2 e3 ck
    have LZ := hideP (L1.out.below hz)
    clear hz L1 k0' k1' ct kf c0
    obtain ⟨u0, u1, u2, u3, uf⟩ := four_cells LZ.out.R
    obtain ⟨d', hT, hM⟩ := HNO.out (by simp)
    have HT := hideP hT
    have HM := hideP hM
    clear hT hM HNO HDN HBK
    go_wp2
    have DG := hideP ((HM.out _ _ LZ.out.D).four LZ.out.R hA (.int .i64 0) (.int .i64 0) (.bool false) (.int .i64 0))
    have KG := hideP (LZ.out.K.four hRw hA (.int .i64 0) (.int .i64 0) (.bool false) (.int .i64 0))
    obtain ⟨q0, q1, q2, q3, _⟩ := four_cells (four_at LZ.out.R (.int .i64 0) (.int .i64 0) (.bool false) (.int .i64 0))
    refine bodyPost_ret (v := .tuple #[mvV 0 0 false 0, .bool false]) (by unfold Four at q0 q1 q2 q3; simp [results, Try.results33, go_sem, q0, q1, q2, q3, mvV]) rfl ⟨none, d', .slice (some ⟨g, 0, none⟩) (i + 1) cap, rfl, HT.out, ?_, ?_⟩
    · repeat (first | exact DG.out | apply Dm.drew)
    · repeat (first | exact KG.out | apply Kd.drew)
  | true =>
    cases b2 with
    | true =>
      have hxf : (d.fr i : Int) = (x : Int) := by have := eq_of_beq e2; omega
      rw [hxf] at p1
      clear e2 e3
      have e2 : Hid True := trivial
      have e3 := e2
      repeat (go_big_quiet_step (first | (go_at_call 15; refine CH.out _)))
      refine wpQuiet_nil ?_
      intro wz hw'
      have hz : Below w2.heap.size w2 wz := by obtain ⟨u, e⟩ := hw'; rw [e]; exact u.ok
      clear hw' p0 p1 p2 p3 p4 CH hne9 e2 e3 ck
      have LZ := hideP (L1.out.below hz)
      clear hz L1 k0' k1' ct kf c0
      obtain ⟨u0, u1, u2, u3, uf⟩ := four_cells LZ.out.R
      obtain ⟨d', hT, hM⟩ := HNO.out (by simp)
      have HT := hideP hT
      have HM := hideP hM
      clear hT hM HNO HDN HBK
      go_wp2
      have DG := hideP ((HM.out _ _ LZ.out.D).four LZ.out.R hA (.int .i64 0) (.int .i64 0) (.bool false) (.int .i64 0))
      have KG := hideP (LZ.out.K.four hRw hA (.int .i64 0) (.int .i64 0) (.bool false) (.int .i64 0))
      obtain ⟨q0, q1, q2, q3, _⟩ := four_cells (four_at LZ.out.R (.int .i64 0) (.int .i64 0) (.bool false) (.int .i64 0))
      refine bodyPost_ret (v := .tuple #[mvV 0 0 false 0, .bool false]) (by unfold Four at q0 q1 q2 q3; simp [results, Try.results33, go_sem, q0, q1, q2, q3, mvV]) rfl ⟨none, d', .slice (some ⟨g, 0, none⟩) (i + 1) cap, rfl, HT.out, ?_, ?_⟩
      · repeat (first | exact DG.out | apply Dm.drew)
      · repeat (first | exact KG.out | apply Kd.drew)
    | false =>
      cases b3 with
      | true =>
        have e4 : (d.tu (d.kn i) : Int) < (d.tu x : Int) := of_decide_eq_true e3
        have e5 : d.tu (d.kn i) < d.tu x := by omega
        repeat (go_big_quiet_step (first | (go_at_call 15; refine CH.out _)))
        refine wpQuiet_nil ?_
        intro wz hw'
        have hz : Below w2.heap.size w2 wz := by obtain ⟨u, e⟩ := hw'; rw [e]; exact u.ok
        clear hw' e4 e5 p0 p1 p2 p3 p4 CH hne9 e2 e3 ck
        have LZ := hideP (L1.out.below hz)
        clear hz L1 k0' k1' ct kf c0
        obtain ⟨u0, u1, u2, u3, uf⟩ := four_cells LZ.out.R
        obtain ⟨d', hT, hM⟩ := HNO.out (by simp)
        have HT := hideP hT
        have HM := hideP hM
        clear hT hM HNO HDN HBK
        go_wp2
        have DG := hideP ((HM.out _ _ LZ.out.D).four LZ.out.R hA (.int .i64 0) (.int .i64 0) (.bool false) (.int .i64 0))
        have KG := hideP (LZ.out.K.four hRw hA (.int .i64 0) (.int .i64 0) (.bool false) (.int .i64 0))
        obtain ⟨q0, q1, q2, q3, _⟩ := four_cells (four_at LZ.out.R (.int .i64 0) (.int .i64 0) (.bool false) (.int .i64 0))
        refine bodyPost_ret (v := .tuple #[mvV 0 0 false 0, .bool false]) (by unfold Four at q0 q1 q2 q3; simp [results, Try.results33, go_sem, q0, q1, q2, q3, mvV]) rfl ⟨none, d', .slice (some ⟨g, 0, none⟩) (i + 1) cap, rfl, HT.out, ?_, ?_⟩
        · repeat (first | exact DG.out | apply Dm.drew)
        · repeat (first | exact KG.out | apply Kd.drew)
      | false =>
        have e4 : ¬ (d.tu (d.kn i) : Int) < (d.tu x : Int) := of_decide_eq_false e3
        have e5 : ¬ d.tu (d.kn i) < d.tu x := by omega
        repeat (go_big_quiet_step (first | (go_at_call 15; refine CH.out _)))
        refine wpQuiet_nil ?_
        intro wz hw'
        have hz : Below w2.heap.size w2 wz := by obtain ⟨u, e⟩ := hw'; rw [e]; exact u.ok
        clear hw' p0 p1 p2 p3 p4 CH hne9 e2 e3 e4 e5 ck
        have LZ := hideP (L1.out.below hz)
        have kz3 : wz.cell? ⟨g, i * 4 + 3, none⟩ = some (.int .i64 (d.le i : Int)) := (LZ.out.D.st hi him).2.2.2.1
        have kz0 : wz.cell? ⟨g, i * 4, none⟩ = some (.int .i64 (d.kn i : Int)) := (LZ.out.D.st hi him).1
        have kzt : wz.cell? ⟨A, 2 + x, none⟩ = some (.int .i64 (d.tu x : Int)) := LZ.out.D.ct hx
        have kzf := fun j => (hz.frozen (p := ⟨g, j, none⟩) hgz2).trans (kf j)
        have hgzz : g < wz.heap.size := Nat.lt_of_lt_of_le hgz2 hz.size
        clear hz L1 k0' k1' ct kf c0 HNO
        have hAz := LZ.out.D.lt
        have hM0 : ∃ M, M = wz.heap.size := ⟨_, rfl⟩
        obtain ⟨wm, hwm⟩ : ∃ wm, wm = wz.alloc (Obj.cells #[.int .i64 (d.kn i : Int), .int .i64 (x : Int), .bool false, .int .i64 0] 63) := ⟨_, rfl⟩
        have LM : Hid (Lk w wm A s R g cap i x d) := by rw [hwm]; exact LZ.out.below (below_one _ _)
        have MM : Hid (wm.heap[wz.heap.size]? = some (Obj.cells #[.int .i64 (d.kn i : Int), .int .i64 (x : Int), .bool false, .int .i64 0] 63 (0, 0))) := by rw [hwm]; exact World.alloc_heap_new wz _
        have hMA : A < wz.heap.size := hAz
        have HRM : Hid (R < wz.heap.size) := (Array.getElem?_eq_some_iff.1 LZ.out.R).1
        by_cases htz : d.tu x = 0
        · have HTD := hideP (HDN.out rfl rfl htz)
          have HEN : Hid (∀ w3, Dm w3 A s (d.skip i x) (.slice (some ⟨g, 0, none⟩) (i + 1) cap) → Calls Try.prog 32 #[.pointer (some ⟨A, 0, none⟩), .int .i64 (x : Int), .int .i64 (d.kn i : Int)] w3 fun e w' => e = .returned (.tuple #[]) ∧ ∃ v', Dm w' A s ((d.skip i x).push x (d.kn i)) v' ∧ Kd A w3 w') := fun w3 h => enter_any A s (d.skip i x) _ x (d.kn i) w3 h hx hk8 hm8 hc8
          rw [htz] at kzt
          have kzt' : wz.cell? ⟨A, 2 + x, none⟩ = some (.int .i64 0) := kzt
          clear kzt htz HDN HBK
          go_wp2_with fail
          rw [← hwm]
          refine (HEN.out _ LM.out.D).mono ?_
          rintro e w5 ⟨rfl, v5, h5, b5⟩
          have D5 := hideP h5
          have K5 := hideP (LM.out.K.trans b5)
          have R5 := hideP (b5.at LM.out.R (by omega) (by decide))
          have M5 := hideP (b5.at MM.out (by omega) (by decide))
          obtain ⟨u0, u1, u2, u3, uf⟩ := four_cells R5.out
          obtain ⟨m0, m1, m2, m3, _⟩ := four_cells M5.out
          clear h5 b5 hwm LM MM HEN LZ kz3 kz0 kzt' kzf
          go_wp2
          have DG := hideP (D5.out.four R5.out hA (.int .i64 (d.kn i : Int)) (.int .i64 (x : Int)) (.bool false) (.int .i64 0))
          have KG := hideP (K5.out.four hRw hA (.int .i64 (d.kn i : Int)) (.int .i64 (x : Int)) (.bool false) (.int .i64 0))
          obtain ⟨q0, q1, q2, q3, _⟩ := four_cells (four_at R5.out (.int .i64 (d.kn i : Int)) (.int .i64 (x : Int)) (.bool false) (.int .i64 0))
          refine bodyPost_ret (v := .tuple #[mvV (d.kn i) x false 0, .bool true]) (by unfold Four at q0 q1 q2 q3; simp [results, Try.results33, go_sem, q0, q1, q2, q3, mvV]) rfl ⟨some ⟨d.kn i, x, false, 0⟩, _, v5, rfl, HTD.out, ?_, ?_⟩
          · repeat (first | exact DG.out | apply Dm.drew)
          · repeat (first | exact KG.out | apply Kd.drew)
        · have hne0 : ((d.tu x : Int) == 0) = false := by simp; omega
          have HTD := hideP (HBK.out rfl rfl rfl (by omega))
          have hgM : g ≠ wz.heap.size := by omega
          have D5 : Hid (Dm (wm.setCell ⟨g, i * 4 + 3, none⟩ (.int .i64 ((min (d.le i) (d.tu x) : Nat) : Int))) A s (d.look i x) (.slice (some ⟨g, 0, none⟩) (i + 1) cap)) := by
            have h1 := LM.out.D.least (i := i) hi hg (min (d.le i) (d.tu x))
            exact ⟨h1.I, h1.own⟩
          have K5 : Hid (Kd A w (wm.setCell ⟨g, i * 4 + 3, none⟩ (.int .i64 ((min (d.le i) (d.tu x) : Nat) : Int)))) := LM.out.K.setG LM.out.D hi _ _
          have HGR : Hid (R ≠ g) := by
            obtain ⟨_, cs, fr, hb⟩ := own_step (hi ▸ LM.out.D.own)
            show R ≠ g
            intro e; subst e; rw [LM.out.R] at hb; cases hb
          have R5 : Hid ((wm.setCell ⟨g, i * 4 + 3, none⟩ (.int .i64 ((min (d.le i) (d.tu x) : Nat) : Int))).heap[R]? = some (Obj.cells #[.int .i64 0, .int .i64 0, .bool false, .int .i64 0] 63 (0, 0))) := (Below.heap_setCell _ _ _ _ (by exact HGR.out)).trans LM.out.R
          have M5 : Hid ((wm.setCell ⟨g, i * 4 + 3, none⟩ (.int .i64 ((min (d.le i) (d.tu x) : Nat) : Int))).heap[wz.heap.size]? = some (Obj.cells #[.int .i64 (d.kn i : Int), .int .i64 (x : Int), .bool false, .int .i64 0] 63 (0, 0))) := (Below.heap_setCell _ _ _ _ (by exact fun e => hgM e.symm)).trans MM.out
          have km3 : wm.cell? ⟨g, i * 4 + 3, none⟩ = some (.int .i64 (d.le i : Int)) := (LM.out.D.st hi him).2.2.2.1
          have kmt : wm.cell? ⟨A, 2 + x, none⟩ = some (.int .i64 (d.tu x : Int)) := LM.out.D.ct hx
          have kmf : ∀ j, wm.frozen? ⟨g, j, none⟩ = false := (LM.out.D.st hi him).2.2.2.2.1
          clear HDN HBK
          by_cases hmn : d.tu x < d.le i
          · have em : min (d.le i) (d.tu x) = d.tu x := by omega
            rw [em] at D5 K5 R5 M5
            clear em
            obtain ⟨u0, u1, u2, u3, uf⟩ := four_cells R5.out
            obtain ⟨m0, m1, m2, m3, _⟩ := four_cells M5.out
            go_wp2
            rw [← hwm]
            clear hwm kz3 kz0 kzt kzf LZ LM MM
            go_region
            go_wp2
            all_goals first | (exfalso; omega) | skip
            all_goals
              have DG := hideP (D5.out.four R5.out hA (.int .i64 (d.kn i : Int)) (.int .i64 (x : Int)) (.bool false) (.int .i64 0))
              have KG := hideP (K5.out.four hRw hA (.int .i64 (d.kn i : Int)) (.int .i64 (x : Int)) (.bool false) (.int .i64 0))
              obtain ⟨q0, q1, q2, q3, _⟩ := four_cells (four_at R5.out (.int .i64 (d.kn i : Int)) (.int .i64 (x : Int)) (.bool false) (.int .i64 0))
              refine bodyPost_ret (v := .tuple #[mvV (d.kn i) x false 0, .bool true]) (by unfold Four at q0 q1 q2 q3; simp [results, Try.results33, go_sem, q0, q1, q2, q3, mvV]) rfl ⟨some ⟨d.kn i, x, false, 0⟩, d.look i x, .slice (some ⟨g, 0, none⟩) (i + 1) cap, rfl, HTD.out, ?_, ?_⟩
              · repeat (first | exact DG.out | apply Dm.drew)
              · repeat (first | exact KG.out | apply Kd.drew)
          · have em : min (d.le i) (d.tu x) = d.le i := by omega
            rw [em] at D5 K5 R5 M5
            clear em
            obtain ⟨u0, u1, u2, u3, uf⟩ := four_cells R5.out
            obtain ⟨m0, m1, m2, m3, _⟩ := four_cells M5.out
            go_wp2
            rw [← hwm]
            clear hwm kz3 kz0 kzt kzf LZ LM MM
            go_region
            go_wp2
            all_goals first | (exfalso; omega) | skip
            all_goals
              have DG := hideP (D5.out.four R5.out hA (.int .i64 (d.kn i : Int)) (.int .i64 (x : Int)) (.bool false) (.int .i64 0))
              have KG := hideP (K5.out.four hRw hA (.int .i64 (d.kn i : Int)) (.int .i64 (x : Int)) (.bool false) (.int .i64 0))
              obtain ⟨q0, q1, q2, q3, _⟩ := four_cells (four_at R5.out (.int .i64 (d.kn i : Int)) (.int .i64 (x : Int)) (.bool false) (.int .i64 0))
              refine bodyPost_ret (v := .tuple #[mvV (d.kn i) x false 0, .bool true]) (by unfold Four at q0 q1 q2 q3; simp [results, Try.results33, go_sem, q0, q1, q2, q3, mvV]) rfl ⟨some ⟨d.kn i, x, false, 0⟩, d.look i x, .slice (some ⟨g, 0, none⟩) (i + 1) cap, rfl, HTD.out, ?_, ?_⟩
              · repeat (first | exact DG.out | apply Dm.drew)
              · repeat (first | exact KG.out | apply Kd.drew)

theorem look_any (E : Nat → Nat → Prop) (A s : Nat) (d : Dv) (v : Value) (w : World) (hD : Dm w A s d v) (hs : s < 2 ^ 64) (hE : ∀ x y : Nat, decide (s &&& pbit (x : Int) (y : Int) ≠ 0) = true ↔ E x y) (hI : Inv E d) (hX : Aux d) (hm : 0 < d.m) :
    Calls Try.prog 33 #[.pointer (some ⟨A, 0, none⟩)] w (Looked E A s d w) := by
  obtain ⟨i, hi⟩ : ∃ i, d.m = i + 1 := ⟨d.m - 1, by omega⟩
  obtain ⟨q1, q2, q3, q4, q5, q6⟩ := hI.knk i (by omega)
  by_cases hn : d.nx i = 8
  · exact look_left E A s d v w hD hX i hi hn
  · have hx : d.nx i < 8 := by omega
    have same : ∀ W v, d.tu (d.kn i) < d.tu (d.nx i) → Dm W A s (d.skip i (d.nx i)) v → Dm W A s (d.look i (d.nx i)) v := fun W v ht h => by
      refine ⟨h.I, ?_⟩
      have e : slist (d.look i (d.nx i)) (d.look i (d.nx i)).m = slist (d.skip i (d.nx i)) (d.skip i (d.nx i)).m := by
        unfold slist
        show (List.range (d.m * 4)).map _ = (List.range (d.m * 4)).map _
        apply List.map_congr_left
        intro j hj
        have e2 : upd d.le i (min (d.le i) (d.tu (d.nx i))) (j / 4) = d.le (j / 4) := by
          by_cases e : j / 4 = i
          · rw [e, upd_at]; omega
          · rw [upd_no _ _ e]
        unfold scell
        show Value.int .i64 (((if j % 4 = 0 then d.kn (j / 4) else if j % 4 = 1 then d.fr (j / 4) else if j % 4 = 2 then upd d.nx i (d.nx i + 1) (j / 4) else upd d.le i (min (d.le i) (d.tu (d.nx i))) (j / 4) : Nat)) : Int) = _
        rw [e2]; rfl
      rw [e]; exact h.own
    refine look_on E A s d v w hD hs hI hX i hi (d.nx i) rfl hx _ _ _ rfl rfl rfl ?_ ?_ ?_
    · intro h
      by_cases hEx : E (d.kn i) (d.nx i)
      · by_cases hf : d.nx i = d.fr i
        · exact ⟨_, Tr.skip hi rfl hx (Or.inr hf), fun _ _ h => h⟩
        · have ht : d.tu (d.kn i) < d.tu (d.nx i) := by
            rcases h with h | h | h
            · rw [(hE _ _).2 hEx] at h; cases h
            · have := eq_of_beq h; omega
            · have := of_decide_eq_true h; omega
          exact ⟨_, Tr.later hi rfl hx hEx hf ht, fun W v => same W v ht⟩
      · exact ⟨_, Tr.skip hi rfl hx (Or.inl hEx), fun _ _ h => h⟩
    · intro h1 h2 ht
      exact Tr.down hi rfl hx ((hE _ _).1 h1) (fun e => by rw [← e] at h2; simp at h2) ht
    · intro h1 h2 h3 h0
      have := of_decide_eq_false h3
      exact Tr.back hi rfl hx ((hE _ _).1 h1) (fun e => by rw [← e] at h2; simp at h2) h0 (by omega)

end Go.Proofs.Ytapnbnapfapneaa
