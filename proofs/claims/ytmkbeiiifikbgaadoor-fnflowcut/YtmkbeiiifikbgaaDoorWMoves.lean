/- Walk of impl.dive.moves: it tells all moves of a dive. -/
import Derived.Test.YtmkbeiiifikbgaaDoorPartWRange
import Derived.Sort.LoopGhostIn
import Derived.RangeFuncBound
namespace Go.Proofs.YtmkbeiiifikbgaaDoor
open Go.RowKit
set_option linter.unusedVariables false
attribute [local go_sem] Oper.semAt_some

/-- a dive under way, and the box that moves has kept it in -/
structure Ds (E : Nat → Nat → Prop) (W : World) (A Bd s : Nat) (d : Dv) (v : Value) : Prop where
  D : Dm W A s d v
  b : W.heap[Bd]? = some (Obj.cells #[.pointer (some ⟨A, 0, none⟩)] 164 (0, 0))
  c : ∃ cs t fr, W.heap[A]? = some (Obj.cells cs t fr)
  I : Inv E d
  X : Aux d
theorem own_cells {W : World} {A n : Nat} {f : Nat → Value} (h : OwnI W A (n + 1) f) : ∃ cs t fr, W.heap[A]? = some (Obj.cells cs t fr) := by
  have h0 := h.1 0 (by omega)
  unfold World.cell? at h0
  cases hb : W.heap[A]? with
  | none => simp [hb] at h0
  | some o => cases o <;> simp_all
theorem Dm.cells {W : World} {A s : Nat} {d : Dv} {v : Value} (h : Dm W A s d v) : ∃ cs t fr, W.heap[A]? = some (Obj.cells cs t fr) := own_cells h.I
theorem Ds.next {E : Nat → Nat → Prop} {W W' : World} {A Bd s : Nat} {d d' : Dv} {v v' : Value} (h : Ds E W A Bd s d v) (hne : Bd ≠ A) (hD : Dm W' A s d' v') (hk : Kd A W W') (hI : Inv E d') (hX : Aux d') : Ds E W' A Bd s d' v' :=
  ⟨hD, hk.at h.b hne (by decide), hD.cells, hI, hX⟩
theorem Kd.keeps {A : Nat} {W W' : World} (h : Kd A W W') (hA : ∃ cs t fr, W.heap[A]? = some (Obj.cells cs t fr)) : KeepsOthers W W' := ⟨h.bel.size, fun k o hk ho => h.other hA hk ho⟩
/-- a move that is told: the dive ahead of it, and behind it -/
structure Mw where
  d : Dv
  x : Mv
  d' : Dv
def encM (m : Mw) : Array Value := #[mvV m.x.f m.x.t m.x.u m.x.l]
def Yd (E : Nat → Nat → Prop) (J : Dv → World → Prop) (A Bd s : Nat) (m : Mw) (W : World) : Prop := Tr E m.d (some m.x) m.d' ∧ Inv E m.d ∧ J m.d W ∧ ∃ v, Ds E W A Bd s m.d' v
def Yd' (E : Nat → Nat → Prop) (J : Dv → World → Prop) (A Bd s : Nat) (m : Mw) (W : World) : Prop := J m.d' W ∧ ∃ v, Ds E W A Bd s m.d' v
/-- between two moves -/
def Mt (E : Nat → Nat → Prop) (J : Dv → World → Prop) (BK : World → Prop) (A Bd s k g : Nat) (W : World) : Prop := ∃ d v, mu d ≤ g ∧ Ds E W A Bd s d v ∧ J d W ∧ BK W ∧ ∀ x, x < k → 0 < d.tu x
/-- all moves are told -/
def MvDone (E : Nat → Nat → Prop) (J : Dv → World → Prop) (A Bd s : Nat) (W : World) : Prop := ∃ d v, Ds E W A Bd s d v ∧ J d W ∧ d.m = 0 ∧ ∀ x, x < 8 → 0 < d.tu x
def MvEnd (E : Nat → Nat → Prop) (J : Dv → World → Prop) (BK : World → Prop) (A Bd s : Nat) (e : Ending) (W : World) : Prop := (∃ v, e = .returned v) ∧ MvDone E J A Bd s W ∧ BK W
/-- between two knots -/
def Mk0 (E : Nat → Nat → Prop) (J : Dv → World → Prop) (BK : World → Prop) (A Bd s k : Nat) (W : World) : Prop := ∃ d v, Ds E W A Bd s d v ∧ J d W ∧ BK W ∧ d.m = 0 ∧ ∀ x, x < k → 0 < d.tu x
theorem sm_le (nx : Nat → Nat) : ∀ m, sm nx m ≤ 9 * m := by
  intro m
  induction m with
  | zero => exact Nat.le_refl _
  | succ m ih => simp only [sm]; omega
theorem mu_le {d : Dv} (h : Aux d) : mu d ≤ 1000 := by
  have h1 := sm_le d.nx d.m
  have h2 := unm_le (vis d.tu) 8
  have h3 := h.mcn
  have h4 := h.sum
  unfold mu; omega
def noDv : Dv := ⟨0, fun _ => 0, fun _ => 0, fun _ => 0, fun _ => 0, fun _ => 0, 0, fun _ _ => False, fun _ => 0⟩

theorem box_cell1 {wr : World} {B : Nat} {t : TypeId} {fr : Nat × Nat} {v0 : Value} (h : wr.heap[B]? = some (Obj.cells #[v0] t fr)) : wr.cell? ⟨B, 0, none⟩ = some v0 := by simp [World.cell?, h]
theorem mu_pos {d : Dv} (h : Aux d) (hm : 0 < d.m) (hn : d.nx (d.m - 1) ≤ 8) : 0 < mu d := by
  obtain ⟨i, hi⟩ : ∃ i, d.m = i + 1 := ⟨d.m - 1, by omega⟩
  rw [hi] at hn
  unfold mu
  rw [hi]
  show 0 < 10 * unm (vis d.tu) 8 + (sm d.nx i + (9 - d.nx i))
  simp at hn
  omega
theorem Mt.below {E : Nat → Nat → Prop} {J : Dv → World → Prop} {BK : World → Prop} {A Bd s k g : Nat} {W W' : World} (h : Mt E J BK A Bd s k g W) (hne : Bd ≠ A) (hJk : ∀ d W W', J d W → Kd A W W' → J d W') (hBK : ∀ W W', BK W → KeepsOthers W W' → BK W') (hb : Below W.heap.size W W') : Mt E J BK A Bd s k g W' := by
  obtain ⟨d, v, h1, h2, h3, h4, h5⟩ := h
  have hk := Kd.low hb h2.D.lt
  exact ⟨d, v, h1, h2.next hne (h2.D.below hb) hk h2.I h2.X, hJk _ _ _ h3 hk, hBK _ _ h4 (hk.keeps h2.c), h5⟩

set_option maxRecDepth 100000 in
set_option maxHeartbeats 9000000 in
theorem moves_in (n l A Bd s : Nat) (E : Nat → Nat → Prop) (G : Gr E) (hs : s < 2 ^ 64) (hE : ∀ x y : Nat, decide (s &&& pbit (x : Int) (y : Int) ≠ 0) = true ↔ E x y) (hne : Bd ≠ A) (J : Dv → World → Prop) (hJk : ∀ d W W', J d W → Kd A W W' → J d W') (hJt : ∀ d d' W, Inv E d → Tr E d none d' → J d W → J d' W)
    (BK : World → Prop) (hBK : ∀ W W', BK W → KeepsOthers W W' → BK W') (hY : ∀ (m : Mw) (W : World), Yd E J A Bd s m W → BK W → YieldAt Fence.wide (n - 1) Tryd.prog l (encM m) W (fun e W' => e = .returned (.bool true) ∧ Yd' E J A Bd s m W' ∧ BK W'))
    (W : World) (d0 : Dv) (v0 : Value) (h0 : Ds E W A Bd s d0 v0) (hj : J d0 W) (hb : BK W) (hm0 : d0.m = 0) :
    CallsIn Fence.wide n Tryd.prog 126 #[.func (.yield l) #[] #[], .pointer (some ⟨Bd, 0, none⟩)] W (MvEnd E J BK A Bd s) := by
  have HJK := hideP hJk
  have HJT := hideP hJt
  have HBK := hideP hBK
  have HY := hideP hY
  have HG := hideP G
  have HE := hideP hE
  have S0 : Hid (Mk0 E J BK A Bd s 0 W) := ⟨d0, v0, h0, hj, hb, hm0, fun x hx => by omega⟩
  clear hJk hJt hBK hY G hE h0 hj hb hm0
  refine callsIn_of_wp Tryd.func126 rfl trivial ?_ rfl
  simp only [Tryd.ntmps126, List.size_toArray, List.length_cons, List.length_nil, Nat.reduceAdd, Nat.reduceSub, Array.replicate_succ, Array.replicate_zero, List.push_toArray, List.append_toArray, List.nil_append, List.cons_append]
  gi_wp2
  gi_loopw [6] (fun i wr => ∃ k : Nat, k ≤ 8 ∧ i = .int .i64 k ∧ Mk0 E J BK A Bd s k wr)
    (fun i _ => 8 - (intOf i).toNat)
  case atStart => exact ⟨0, Nat.zero_le _, rfl, S0.out⟩
  case round =>
    clear S0
    obtain ⟨k, hk, rfl, d, v, hS, hj, hbk, hm, hall⟩ := hrel
    by_cases hlt : k < 8
    · have hk8 : (k : Int) < 8 := by omega
      have hk0 : (0 : Int) ≤ (k : Int) := by omega
      have ct := hS.D.ct hlt
      have cb := box_cell1 hS.b
      have HST := hideP hS
      have HALL := hideP hall
      have HJ := hideP hj
      have HB := hideP hbk
      have hAz := hS.D.lt
      have hc8 : d.cn ≤ 8 := by have := hS.X.sum; omega
      clear hS hall hj hbk
      by_cases htz : d.tu k = 0
      · rw [htz] at ct
        have ct' : wr.cell? ⟨A, 2 + k, none⟩ = some (.int .i64 0) := ct
        clear ct
        gi_wp2_with fail
        refine ⟨trivial, fun h => (by cases h), (callsIn_wide.2 (enter_any A s d v k k _ HST.out.D hlt hlt (by omega) hc8)).mono ?_⟩
        rintro e w1 ⟨rfl, v1, M1, b1⟩
        have D1 : Hid (Mt E J BK A Bd s (k + 1) 1000 w1) := by
          have tr : Tr E d none (d.push k k) := Tr.root hm hlt htz
          refine ⟨d.push k k, v1, mu_le (tr.aux HST.out.X), HST.out.next hne M1 b1 (tr.inv HG.out HST.out.I) (tr.aux HST.out.X), HJT.out _ _ _ HST.out.I tr (HJK.out _ _ _ HJ.out b1), HBK.out _ _ HB.out (b1.keeps HST.out.c), fun x hx => ?_⟩
          show 0 < upd d.tu k (d.cn + 1) x
          by_cases e : x = k
          · subst e; rw [upd_at]; omega
          · rw [upd_no _ _ e]; exact HALL.out x (by omega)
        clear M1 b1 HST HALL hc8 htz hm HJ HB ct' cb
        gi_wp2
        gi_loopg [] 1000 (fun gk wr => Mt E J BK A Bd s (k + 1) gk wr)
        case atStart => exact D1.out
        case round =>
          clear D1
          obtain ⟨d, v, hmu, hS, hj, hbk, hall⟩ := hrel
          have hlen := hS.X.mcn
          have hsum := hS.X.sum
          have cb := box_cell1 hS.b
          have c1 := hS.D.c1
          have hown := hS.D.own
          by_cases hm0 : d.m = 0
          · have F : Hid (Mk0 E J BK A Bd s (k + 1) wr) := ⟨d, v, hS, hj, hbk, hm0, hall⟩
            rw [hm0] at hown
            obtain ⟨so, cap, rfl⟩ := own_slice hown
            clear hS hall hown hsum hlen hmu hm0 hj hbk
            gi_wp2
            refine ⟨?_, by simp [intOf]; omega⟩
            repeat apply Exists.intro
            refine ⟨?_, rfl⟩
            exact ⟨k + 1, by omega, by go_num, F.out⟩
          · have hmp : 0 < d.m := by omega
            obtain ⟨g, cap, rfl, _, _⟩ := hown.form hmp
            have hmi : (0 : Int) < (d.m : Int) := by omega
            have LK := hideP (look_any E A s d _ wr hS.D hs HE.out hS.I hS.X hmp)
            have F : Hid (∀ o d' v' w2, Tr E d o d' → Dm w2 A s d' v' → Kd A wr w2 → (o = none → Mt E J BK A Bd s (k + 1) (gk - 1) w2) ∧ (∀ x, o = some x → (∀ w3, Below w2.heap.size w2 w3 → Yd E J A Bd s ⟨d, x, d'⟩ w3 ∧ BK w3) ∧ ∀ w3, Yd' E J A Bd s ⟨d, x, d'⟩ w3 → BK w3 → Mt E J BK A Bd s (k + 1) (gk - 1) w3)) := fun o d' v' w2 ht hD2 hk2 => by
              have hl := ht.less hmp
              have hI' := ht.inv HG.out hS.I
              have hX' := ht.aux hS.X
              have hS2 := hS.next hne hD2 hk2 hI' hX'
              have ht2 : ∀ x, x < k + 1 → 0 < d'.tu x := fun x hx => by rw [ht.tu (hall x hx)]; exact hall x hx
              have hb2 := HBK.out _ _ hbk (hk2.keeps hS.c)
              refine ⟨fun e => ?_, fun x e => ⟨fun w3 h3 => ?_, fun w3 h3 h4 => ?_⟩⟩
              · subst e; exact ⟨d', v', by omega, hS2, HJT.out _ _ _ hS.I ht (HJK.out _ _ _ hj hk2), hb2, ht2⟩
              · subst e
                have hk3 := Kd.low h3 hD2.lt
                exact ⟨⟨ht, hS.I, HJK.out _ _ _ hj (hk2.trans hk3), v', hS2.next hne (hD2.below h3) hk3 hI' hX'⟩, HBK.out _ _ hb2 (hk3.keeps hS2.c)⟩
              · obtain ⟨j3, v3, s3⟩ := h3
                exact ⟨d', v3, by show mu d' ≤ gk - 1; omega, s3, j3, h4, ht2⟩
            have hgk : 0 < gk := by have := mu_pos hS.X hmp (hS.I.knk _ (by omega)).2.2.2.1; omega
            clear hS hall hown hj hbk
            gi_wp2_with fail
            refine ⟨trivial, fun h => (by cases h), (callsIn_wide.2 LK.out).mono ?_⟩
            rintro e w2 ⟨o, d', v', rfl, ht, hD2, hk2⟩
            obtain ⟨F1, F2⟩ := F.out o d' v' w2 ht hD2 hk2
            clear F LK c1 cb ht hD2 hk2
            cases o with
            | none =>
              have FF := hideP (F1 rfl)
              clear F1 F2
              simp only [mvO, mvV, Option.isSome]
              gi_wp2
              refine ⟨fun f h => (by cases h), ?_⟩
              gi_wp2
              go_roundg (gk - 1)
              case measure => omega
              case rel => exact FF.out.below hne HJK.out HBK.out (below_one _ _)
            | some x =>
              obtain ⟨F3, F4⟩ := F2 x rfl
              have FF := hideP F4
              obtain ⟨Y3, B3⟩ := F3 _ (below_one w2 (Obj.cells #[.int .i64 (x.f : Int), .int .i64 (x.t : Int), .bool x.u, .int .i64 (x.l : Int)] 130))
              obtain ⟨fn, tmps, assign, body, hy, hR⟩ := HY.out ⟨d, x, d'⟩ _ Y3 B3
              clear F1 F2 F3 F4 Y3 B3
              simp only [mvO, mvV, Option.isSome]
              unfold encM mvV at hy
              gi_wp2
              refine ⟨fun h => (by cases h), hR.mono ?_⟩
              clear hR hy
              rintro e W3 ⟨rfl, h3, h4⟩
              have FG := hideP (FF.out W3 h3 h4)
              clear FF h3 h4
              gi_wp2
              go_roundg (gk - 1)
              case measure => omega
              case rel => exact FG.out
      · have hne0 : ((d.tu k : Int) == 0) = false := by simp; omega
        have D1 : Hid (Mt E J BK A Bd s (k + 1) 1000 wr) := by
          refine ⟨d, v, mu_le HST.out.X, HST.out, HJ.out, HB.out, fun x hx => ?_⟩
          by_cases e : x = k
          · subst e; omega
          · exact HALL.out x (by omega)
        clear HST HALL hc8 htz hm HJ HB
        gi_wp2
        gi_loopg [] 1000 (fun gk wr => Mt E J BK A Bd s (k + 1) gk wr)
        case atStart => exact D1.out
        case round =>
          clear D1
          obtain ⟨d, v, hmu, hS, hj, hbk, hall⟩ := hrel
          have hlen := hS.X.mcn
          have hsum := hS.X.sum
          have cb := box_cell1 hS.b
          have c1 := hS.D.c1
          have hown := hS.D.own
          by_cases hm0 : d.m = 0
          · have F : Hid (Mk0 E J BK A Bd s (k + 1) wr) := ⟨d, v, hS, hj, hbk, hm0, hall⟩
            rw [hm0] at hown
            obtain ⟨so, cap, rfl⟩ := own_slice hown
            clear hS hall hown hsum hlen hmu hm0 hj hbk
            gi_wp2
            refine ⟨?_, by simp [intOf]; omega⟩
            repeat apply Exists.intro
            refine ⟨?_, rfl⟩
            exact ⟨k + 1, by omega, by go_num, F.out⟩
          · have hmp : 0 < d.m := by omega
            obtain ⟨g, cap, rfl, _, _⟩ := hown.form hmp
            have hmi : (0 : Int) < (d.m : Int) := by omega
            have LK := hideP (look_any E A s d _ wr hS.D hs HE.out hS.I hS.X hmp)
            have F : Hid (∀ o d' v' w2, Tr E d o d' → Dm w2 A s d' v' → Kd A wr w2 → (o = none → Mt E J BK A Bd s (k + 1) (gk - 1) w2) ∧ (∀ x, o = some x → (∀ w3, Below w2.heap.size w2 w3 → Yd E J A Bd s ⟨d, x, d'⟩ w3 ∧ BK w3) ∧ ∀ w3, Yd' E J A Bd s ⟨d, x, d'⟩ w3 → BK w3 → Mt E J BK A Bd s (k + 1) (gk - 1) w3)) := fun o d' v' w2 ht hD2 hk2 => by
              have hl := ht.less hmp
              have hI' := ht.inv HG.out hS.I
              have hX' := ht.aux hS.X
              have hS2 := hS.next hne hD2 hk2 hI' hX'
              have ht2 : ∀ x, x < k + 1 → 0 < d'.tu x := fun x hx => by rw [ht.tu (hall x hx)]; exact hall x hx
              have hb2 := HBK.out _ _ hbk (hk2.keeps hS.c)
              refine ⟨fun e => ?_, fun x e => ⟨fun w3 h3 => ?_, fun w3 h3 h4 => ?_⟩⟩
              · subst e; exact ⟨d', v', by omega, hS2, HJT.out _ _ _ hS.I ht (HJK.out _ _ _ hj hk2), hb2, ht2⟩
              · subst e
                have hk3 := Kd.low h3 hD2.lt
                exact ⟨⟨ht, hS.I, HJK.out _ _ _ hj (hk2.trans hk3), v', hS2.next hne (hD2.below h3) hk3 hI' hX'⟩, HBK.out _ _ hb2 (hk3.keeps hS2.c)⟩
              · obtain ⟨j3, v3, s3⟩ := h3
                exact ⟨d', v3, by show mu d' ≤ gk - 1; omega, s3, j3, h4, ht2⟩
            have hgk : 0 < gk := by have := mu_pos hS.X hmp (hS.I.knk _ (by omega)).2.2.2.1; omega
            clear hS hall hown hj hbk
            gi_wp2_with fail
            refine ⟨trivial, fun h => (by cases h), (callsIn_wide.2 LK.out).mono ?_⟩
            rintro e w2 ⟨o, d', v', rfl, ht, hD2, hk2⟩
            obtain ⟨F1, F2⟩ := F.out o d' v' w2 ht hD2 hk2
            clear F LK c1 cb ht hD2 hk2
            cases o with
            | none =>
              have FF := hideP (F1 rfl)
              clear F1 F2
              simp only [mvO, mvV, Option.isSome]
              gi_wp2
              refine ⟨fun f h => (by cases h), ?_⟩
              gi_wp2
              go_roundg (gk - 1)
              case measure => omega
              case rel => exact FF.out.below hne HJK.out HBK.out (below_one _ _)
            | some x =>
              obtain ⟨F3, F4⟩ := F2 x rfl
              have FF := hideP F4
              obtain ⟨Y3, B3⟩ := F3 _ (below_one w2 (Obj.cells #[.int .i64 (x.f : Int), .int .i64 (x.t : Int), .bool x.u, .int .i64 (x.l : Int)] 130))
              obtain ⟨fn, tmps, assign, body, hy, hR⟩ := HY.out ⟨d, x, d'⟩ _ Y3 B3
              clear F1 F2 F3 F4 Y3 B3
              simp only [mvO, mvV, Option.isSome]
              unfold encM mvV at hy
              gi_wp2
              refine ⟨fun h => (by cases h), hR.mono ?_⟩
              clear hR hy
              rintro e W3 ⟨rfl, h3, h4⟩
              have FG := hideP (FF.out W3 h3 h4)
              clear FF h3 h4
              gi_wp2
              go_roundg (gk - 1)
              case measure => omega
              case rel => exact FG.out
    · obtain rfl : k = 8 := by omega
      have HF : Hid (MvDone E J A Bd s wr) := ⟨d, v, hS, hj, hm, hall⟩
      have HB := hideP hbk
      clear hS hall hlt hj hbk
      gi_wp2
      refine bodyPost_end (results_none rfl _ _ _) rfl ⟨⟨_, rfl⟩, HF.out, HB.out⟩

end Go.Proofs.YtmkbeiiifikbgaaDoor
