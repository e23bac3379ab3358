/- Texts put together: WApart, WApartS. -/
import Derived.Test.YtmkbeiiifikbgaaDoorPartWOne
import Derived.Test.YtmkbeiiifikbgaaDoorPartWBridge
import Derived.Test.YtmkbeiiifikbgaaDoorPartWBridgeS
import Derived.Test.YtmkbeiiifikbgaaDoorWReach3
import Derived.Deep.RegionLaw
/- Walk of impl.BridgeApart. -/
namespace Go.Proofs.YtmkbeiiifikbgaaDoor
open Go.RowKit
set_option linter.unusedVariables false

/-- the box of a net that came in, and the cell of the tie that goes out -/
structure BoxT (w w1 : World) (K : Int) (v : Value) : Prop where
  c0 : w1.cell? ⟨w.heap.size, 0, none⟩ = some (.int .i64 K)
  c1 : w1.cell? ⟨w.heap.size, 1, none⟩ = some v
  r0 : w1.cell? ⟨w.heap.size + 1, 0, none⟩ = some (.int .i64 0)
  r1 : w1.cell? ⟨w.heap.size + 1, 1, none⟩ = some (.int .i64 0)
  f0 : w1.frozen? ⟨w.heap.size + 1, 0, none⟩ = false
  f1 : w1.frozen? ⟨w.heap.size + 1, 1, none⟩ = false
  hz : w.heap.size + 1 < w1.heap.size
  bel : Below w.heap.size w w1
theorem BoxT.start {w w1 : World} {K : Int} {v : Value} {t t' : TypeId} (hb : Below ((w.alloc (.cells #[.int .i64 K, v] t)).alloc (.cells #[.int .i64 0, .int .i64 0] t')).heap.size ((w.alloc (.cells #[.int .i64 K, v] t)).alloc (.cells #[.int .i64 0, .int .i64 0] t')) w1) : BoxT w w1 K v := by
  have hb' : Below (w.heap.size + 1 + 1) ((w.alloc (.cells #[.int .i64 K, v] t)).alloc (.cells #[.int .i64 0, .int .i64 0] t')) w1 := by simpa using hb
  obtain ⟨c0, c1⟩ := box_cells hb'
  obtain ⟨r0, r1, f0, f1⟩ := res_cells hb'
  exact ⟨c0, c1, r0, r1, f0, f1, by have := hb'.size; simp at this; omega, (below_two _ _ _).trans (hb'.mono (by omega))⟩
theorem BoxT.next {w w1 w2 : World} {K : Int} {v : Value} (h : BoxT w w1 K v) (hb : Below w1.heap.size w1 w2) : BoxT w w2 K v := by
  have z := h.hz
  exact ⟨(hb.cell (p := ⟨w.heap.size, 0, none⟩) (by simp; omega)).trans h.c0, (hb.cell (p := ⟨w.heap.size, 1, none⟩) (by simp; omega)).trans h.c1,
    (hb.cell (p := ⟨w.heap.size + 1, 0, none⟩) z).trans h.r0, (hb.cell (p := ⟨w.heap.size + 1, 1, none⟩) z).trans h.r1,
    (hb.frozen (p := ⟨w.heap.size + 1, 0, none⟩) z).trans h.f0, (hb.frozen (p := ⟨w.heap.size + 1, 1, none⟩) z).trans h.f1,
    Nat.lt_of_lt_of_le z hb.size, h.bel.trans (hb.mono h.bel.size)⟩
/-- what is told of two knots -/
def apV (K : Int) (ts : List (Int × Int)) (a b : Int) : Value := .tuple #[.agg #[.int .i64 ((apT K ts a b).getD (0, 0)).1, .int .i64 ((apT K ts a b).getD (0, 0)).2], .bool (apT K ts a b).isSome]
theorem apV_none {K : Int} {ts : List (Int × Int)} {a b : Int} (h : apT K ts a b = none) : apV K ts a b = .tuple #[.agg #[.int .i64 0, .int .i64 0], .bool false] := by simp [apV, h]
theorem apV_some {K : Int} {ts : List (Int × Int)} {a b p q : Int} (h : apT K ts a b = some (p, q)) : apV K ts a b = .tuple #[.agg #[.int .i64 p, .int .i64 q], .bool true] := by simp [apV, h]

set_option maxHeartbeats 1600000 in
theorem implApart_any (K : Int) (ao : Option Addr) (cap : Nat) (ts : List (Int × Int)) (a b : Int) (w : World) (hn : ts.length ≤ 1099511627776) (ht : TiesIn w w.heap.size ao ts) (hT : Tab w) :
    Calls Tryd.prog 20 #[.agg #[.int .i64 K, .slice ao ts.length cap], .int .i64 a, .int .i64 b] w fun e w' => e = .returned (apV K ts a b) ∧ Below w.heap.size w w' := by
  have HNO : Hid (apGo K ts a b = false → apV K ts a b = .tuple #[.agg #[.int .i64 0, .int .i64 0], .bool false]) := fun h => apV_none (apT_no h)
  have ht1 := fun o p => (ht.below (below_two w o p) (Nat.le_refl _)).wide (C := w.heap.size + 1 + 1) (by omega)
  have HTab := hideP hT
  go_enter Tryd.func20, Tryd.ntmps20
  go_wp2_with fail
  refine (pairsOf_any K ao cap ts _ hn (by simpa using ht1 _ _)).mono ?_
  rintro e w1 ⟨rfl, hb⟩
  have B1 := hideP (BoxT.start hb)
  clear hb ht ht1 hT
  cases hok : okB K ts
  · have HV := hideP (HNO.out (by simp [apGo, hok]))
    obtain ⟨c0, c1, r0, r1, f0, f1, hz, hbb⟩ := B1.out
    clear hok HNO B1
    go_wp2
    refine bodyPost_ret (v := .tuple #[.agg #[.int .i64 0, .int .i64 0], .bool false]) ?_ rfl ⟨by rw [HV.out], ?_⟩
    · simp [results, Tryd.results20, go_sem, r0, r1]
    · exact (hbb.setCell (by simp) _).setCell (by simp) _
  have HOK := hideP hok
  have c0 := B1.out.c0
  have c1 := B1.out.c1
  cases hka : knotB a K
  · have HV := hideP (HNO.out (by simp [apGo, hok, hka]))
    have HK := hideP hka
    clear hok hka
    go_wp2_with fail
    refine (hasKnot_v false K _ a _ HK.out).mono ?_
    rintro e w2 ⟨rfl, hb2⟩
    have B2 := hideP (B1.out.next hb2)
    clear hb2 B1 c0 c1
    obtain ⟨c0, c1, r0, r1, f0, f1, hz, hbb⟩ := B2.out
    clear HNO B2
    go_wp2
    refine bodyPost_ret (v := .tuple #[.agg #[.int .i64 0, .int .i64 0], .bool false]) ?_ rfl ⟨by rw [HV.out], ?_⟩
    · simp [results, Tryd.results20, go_sem, r0, r1]
    · exact (hbb.setCell (by simp) _).setCell (by simp) _
  have HKA := hideP hka
  go_wp2_with fail
  refine (hasKnot_v true K _ a _ HKA.out).mono ?_
  rintro e w2 ⟨rfl, hb2⟩
  have B2 := hideP (B1.out.next hb2)
  clear hb2 B1 c0 c1
  have c0 := B2.out.c0
  have c1 := B2.out.c1
  cases hkb : knotB b K
  · have HV := hideP (HNO.out (by simp [apGo, hok, hka, hkb]))
    have HK := hideP hkb
    clear hok hka hkb
    go_wp2_with fail
    refine (hasKnot_v false K _ b _ HK.out).mono ?_
    rintro e w3 ⟨rfl, hb3⟩
    have B3 := hideP (B2.out.next hb3)
    clear hb3 B2 c0 c1
    obtain ⟨c0, c1, r0, r1, f0, f1, hz, hbb⟩ := B3.out
    clear HNO B3
    go_wp2
    refine bodyPost_ret (v := .tuple #[.agg #[.int .i64 0, .int .i64 0], .bool false]) ?_ rfl ⟨by rw [HV.out], ?_⟩
    · simp [results, Tryd.results20, go_sem, r0, r1]
    · exact (hbb.setCell (by simp) _).setCell (by simp) _
  have HKB := hideP hkb
  go_wp2_with fail
  refine (hasKnot_v true K _ b _ HKB.out).mono ?_
  rintro e w3 ⟨rfl, hb3⟩
  have B3 := hideP (B2.out.next hb3)
  have T3 := hideP (HTab.out.below B3.out.bel HTab.out.2)
  clear hb3 B2 c0 c1 HTab
  have hk8 := (okB_iff.1 hok).2.1
  have ha' : 0 ≤ a ∧ a < K := by simp only [knotB, Bool.and_eq_true, decide_eq_true_eq] at hka; exact hka
  have hb' : 0 ≤ b ∧ b < K := by simp only [knotB, Bool.and_eq_true, decide_eq_true_eq] at hkb; exact hkb
  obtain ⟨x, hx⟩ : ∃ n : Nat, a = (n : Int) := ⟨a.toNat, by omega⟩
  obtain ⟨y, hy⟩ : ∃ n : Nat, b = (n : Int) := ⟨b.toNat, by omega⟩
  subst hx; subst hy
  have hx8 : x < 8 := by omega
  have hy8 : y < 8 := by omega
  have OP := hideP (fun w (hT : Tab w) => onePart_any K ts x y w hT hok hx8 hy8)
  cases hr : reachB ts x y
  · have HV := hideP (HNO.out (by simp [apGo, hok, hka, hkb, hr]))
    rw [hr] at OP
    clear hok hka hkb hr
    go_wp2_with fail
    refine (OP.out _ T3.out).mono ?_
    rintro e w4 ⟨rfl, hb4⟩
    have B4 := hideP (B3.out.next hb4)
    clear hb4 B3
    obtain ⟨c0, c1, r0, r1, f0, f1, hz, hbb⟩ := B4.out
    clear HNO B4
    go_wp2
    refine bodyPost_ret (v := .tuple #[.agg #[.int .i64 0, .int .i64 0], .bool false]) ?_ rfl ⟨by rw [HV.out], ?_⟩
    · simp [results, Tryd.results20, go_sem, r0, r1]
    · exact (hbb.setCell (by simp) _).setCell (by simp) _
  have HGO : Hid (apGo K ts (x : Int) (y : Int) = true) := by show apGo K ts (x : Int) (y : Int) = true; simp [apGo, hok, hka, hkb, hr]
  rw [hr] at OP
  have HU := hideP (brTs_ok hok)
  have BR := hideP (fun w => bridgesOf_any K ts w hok)
  have HHAS : Hid (∀ k, k < (brTs K ts).length → hasB K ts (tA (brTs K ts) k) (tB (brTs K ts) k) = true) := fun k hk => by
    obtain ⟨p, q, _, _, et, _, hh⟩ := tie_form hok ((mem_brTs hok _).1 (mem_at hk)).1
    simp only [Prod.mk.injEq] at et
    rw [et.1, et.2]; exact hh
  have hbl := brTs_len K ts
  obtain ⟨bs, hbs⟩ : ∃ bs, bs = brTs K ts := ⟨_, rfl⟩
  have HBS := hideP hbs
  rw [← hbs] at HU HHAS hbl BR
  clear hok hka hkb hr hbs HNO ha' hb'
  go_wp2_with fail
  refine (OP.out _ T3.out).mono ?_
  rintro e w4 ⟨rfl, hb4⟩
  have B4 := hideP (B3.out.next hb4)
  have T4 := hideP (T3.out.below hb4 T3.out.2)
  clear hb4 B3 T3 OP
  go_wp2_with fail
  refine (BR.out _).mono ?_
  rintro e w5 ⟨rfl, hb5⟩
  have B5 := hideP (B4.out.next hb5)
  have T5 := hideP (T4.out.below hb5 T4.out.2)
  clear hb5 B4 T4 BR
  go_wp2_with fail
  refine (ties_two' K bs (setN K bs) _ T5.out hk8 (okB_iff.1 HU.out).2.2 (ok_short (okB_iff.1 HU.out)) (set_bits HU.out) (setN_lt K bs)).mono ?_
  rintro e w6 ⟨aoL, capL, rfl, ho, hb6⟩
  have B6 := hideP (B5.out.next hb6)
  have T6 := hideP (T5.out.below hb6 T5.out.2)
  have L6 := hideP (ho.ties (Nat.le_refl _))
  clear hb6 B5 T5 ho
  go_wp2
  go_loopw [43] (fun i wr => ∃ k : Nat, k ≤ bs.length ∧ i = .int .i64 k ∧ (∀ j, j < k → apB K ts (x : Int) (y : Int) (tA bs j, tB bs j) = false) ∧ Below w6.heap.size w6 wr)
    (fun i _ => bs.length - (intOf i).toNat)
  case atStart => exact ⟨0, Nat.zero_le _, rfl, fun j hj => by omega, Below.refl _ _⟩
  case round =>
    obtain ⟨k, hk, rfl, hpre, hnx⟩ := hrel
    have HPRE := hideP hpre
    have HNX := hideP hnx
    have B7 := hideP (B6.out.next hnx)
    have T7 := hideP (T6.out.below hnx T6.out.2)
    have L7 := hideP ((L6.out.below hnx (Nat.le_refl _)).wide hnx.size)
    clear hpre hnx
    by_cases hlt : k < bs.length
    · obtain ⟨gg, off, rfl, hgw, e0, e1⟩ := L7.out k hlt
      have hh := HHAS.out k hlt
      have hk0 : (0 : Int) ≤ (k : Int) := by omega
      have hk1 : (k : Int) < (bs.length : Int) := by omega
      obtain ⟨a0, ha0⟩ : ∃ x, x = tA bs k := ⟨_, rfl⟩
      obtain ⟨b0, hb0⟩ : ∃ x, x = tB bs k := ⟨_, rfl⟩
      have HAB : Hid (tA bs k = a0 ∧ tB bs k = b0) := ⟨ha0.symm, hb0.symm⟩
      rw [← ha0] at e0
      rw [← hb0] at e1
      rw [← ha0, ← hb0] at hh
      have HSC := hideP (set_cut hh)
      have HCO := hideP (cutOut (show cutB K ts a0 b0 = true from hh)).ok
      have HSL := hideP (setN_lt K ts)
      have bt := below_one wr (.cells #[.int .i64 a0, .int .i64 b0] 35)
      have B7a := hideP (B7.out.next bt)
      have T7a := hideP (T7.out.below bt T7.out.2)
      have HNXa := hideP (HNX.out.trans (bt.mono HNX.out.size))
      obtain ⟨r, hr⟩ : ∃ r, r = reachB (cutTs K ts a0 b0) x y := ⟨_, rfl⟩
      have HAP : Hid (apB K ts (x : Int) (y : Int) (tA bs k, tB bs k) = !r) := by
        show apB K ts (x : Int) (y : Int) (tA bs k, tB bs k) = !r
        rw [hr, ← ha0, ← hb0]; simp [apB]
      obtain ⟨sX, hsX⟩ : ∃ s, s = setN K ts := ⟨_, rfl⟩
      rw [← hsX] at HSC HSL ⊢
      have OPX := hideP (fun w (hT : Tab w) => onePart_any K (cutTs K ts a0 b0) x y w hT HCO.out hx8 hy8)
      rw [← HSC.out, ← hr] at OPX
      clear hh ha0 hb0 bt hsX hr HSC
      go_wp2_with fail
      refine (without_any sX a0 b0 _ HSL.out).mono ?_
      rintro e w8 ⟨rfl, rfl⟩
      go_wp2_with fail
      refine (OPX.out _ T7a.out).mono ?_
      rintro e w9 ⟨rfl, hb9⟩
      have t0 : w9.cell? ⟨wr.heap.size, 0, none⟩ = some (.int .i64 a0) := (hb9.cell (p := ⟨wr.heap.size, 0, none⟩) (by simp)).trans (by simp)
      have t1 : w9.cell? ⟨wr.heap.size, 1, none⟩ = some (.int .i64 b0) := (hb9.cell (p := ⟨wr.heap.size, 1, none⟩) (by simp)).trans (by simp)
      have B9 := hideP (B7a.out.next hb9)
      have HNX9 := hideP (HNXa.out.trans (hb9.mono HNXa.out.size))
      clear hb9 OPX T7a B7a HNXa
      cases r
      · have HRES : Hid (apV K ts (x : Int) (y : Int) = .tuple #[.agg #[.int .i64 a0, .int .i64 b0], .bool true]) := by
          refine apV_some (apT_at HGO.out (k := k) (by rw [← HBS.out]; exact hlt) (fun j hj => by rw [← HBS.out]; exact HPRE.out j hj) (by rw [← HBS.out]; simpa using HAP.out) |>.trans ?_)
          rw [← HBS.out, HAB.out.1, HAB.out.2]
        obtain ⟨c0, c1, r0, r1, f0, f1, hz, hbb⟩ := B9.out
        clear HAP HPRE B9 B7
        go_wp2
        refine bodyPost_ret (v := .tuple #[.agg #[.int .i64 a0, .int .i64 b0], .bool true]) ?_ rfl ⟨by rw [HRES.out], ?_⟩
        · simp [results, Tryd.results20, go_sem, r0, r1]
        · exact (hbb.setCell (by simp) _).setCell (by simp) _
      · have HN : Hid (∀ j, j < k + 1 → apB K ts (x : Int) (y : Int) (tA bs j, tB bs j) = false) := fun j hj => by
          by_cases e : j = k
          · subst e; simpa using HAP.out
          · exact HPRE.out j (by omega)
        clear HAP HPRE t0 t1
        go_wp2
        go_roundw
        case rel => exact ⟨k + 1, by omega, by go_num, HN.out, HNX9.out⟩
        case measure => simp [intOf]; omega
    · obtain rfl : k = bs.length := by omega
      have HV : Hid (apV K ts (x : Int) (y : Int) = .tuple #[.agg #[.int .i64 0, .int .i64 0], .bool false]) := apV_none (apT_end (fun j hj => by rw [← HBS.out] at hj ⊢; exact HPRE.out j hj))
      obtain ⟨c0, c1, r0, r1, f0, f1, hz, hbb⟩ := B7.out
      clear HPRE B7
      go_wp2
      refine bodyPost_ret (v := .tuple #[.agg #[.int .i64 0, .int .i64 0], .bool false]) ?_ rfl ⟨by rw [HV.out], ?_⟩
      · simp [results, Tryd.results20, go_sem, r0, r1]
      · exact (hbb.setCell (by simp) _).setCell (by simp) _

end Go.Proofs.YtmkbeiiifikbgaaDoor

/- Walk of spec.BridgeApart. -/
namespace Go.Proofs.YtmkbeiiifikbgaaDoor
open Go.RowKit
set_option linter.unusedVariables false

theorem wp_weak3 {P : Program} {c : Code} {Q' : Exit → Act → World → Prop} {K : Act → World → Prop} {a : Act} {w : World} {aa : Nat → Option Addr → Nat → Act} (J : Nat → Option Addr → Nat → World → Prop) (h : c.wp P (Exit.then (fun a' w' => ∃ s o n, a' = aa s o n ∧ J s o n w') Q') a w) (hk : ∀ s o n w', J s o n w' → K (aa s o n) w') : c.wp P (Exit.then K Q') a w :=
  Code.wp_mono (fun e a' w' h => by
    cases e with
    | normal => obtain ⟨s, o, n, rfl, hj⟩ := h; exact hk s o n _ hj
    | _ => exact h) h
/-- a net that was laid in a variable since w -/
structure Laid (w W : World) (K : Int) (us : List (Int × Int)) (X : Nat) (ao : Option Addr) (cap : Nat) : Prop where
  c0 : W.cell? ⟨X, 0, none⟩ = some (.int .i64 K)
  c1 : W.cell? ⟨X, 1, none⟩ = some (.slice ao us.length cap)
  lt : X < W.heap.size
  ties : TiesIn W W.heap.size ao us
  bel : Below w.heap.size w W
theorem Laid.after {w w6 : World} {K : Int} {us : List (Int × Int)} {ao : Option Addr} {cap lo : Nat} (t : TypeId) (ho : OwnN w6 lo w6.heap.size ao us.length (tcell us)) (hb : Below w.heap.size w w6) : Laid w (w6.alloc (.cells #[.int .i64 K, .slice ao us.length cap] t)) K us w6.heap.size ao cap := by
  have bs := below_one w6 (.cells #[.int .i64 K, .slice ao us.length cap] t)
  exact ⟨by simp, by simp, by simp, ((ho.ties (Nat.le_refl _)).below bs (Nat.le_refl _)).wide bs.size, hb.trans (bs.mono hb.size)⟩
theorem Laid.ahead {w w6 : World} {K : Int} {us : List (Int × Int)} {ao : Option Addr} {cap lo : Nat} (ho : OwnN w6 lo w6.heap.size ao us.length (tcell us)) (hlo : w.heap.size + 1 ≤ lo) (hb : Below w.heap.size w w6)
    (z0 : w6.cell? ⟨w.heap.size, 0, none⟩ = some (.int .i64 0)) (z1 : w6.cell? ⟨w.heap.size, 1, none⟩ = some (.slice none 0 0)) (zl : w.heap.size < w6.heap.size) :
    Laid w ((w6.setCell ⟨w.heap.size, 0, none⟩ (.int .i64 K)).setCell ⟨w.heap.size, 1, none⟩ (.slice ao us.length cap)) K us w.heap.size ao cap := by
  have htr : Turned w.heap.size (w.heap.size + 1) w6 ((w6.setCell ⟨w.heap.size, 0, none⟩ (.int .i64 K)).setCell ⟨w.heap.size, 1, none⟩ (.slice ao us.length cap)) :=
    ⟨rfl, rfl, rfl, by simp [World.setCell], fun k _ h => (Below.heap_setCell _ _ _ _ (by show k ≠ w.heap.size; omega)).trans (Below.heap_setCell _ _ _ _ (by show k ≠ w.heap.size; omega))⟩
  refine ⟨(World.cell?_setCell_other _ _ _ _ (by simp)).trans (World.cell?_setCell_same _ _ _ z0), World.cell?_setCell_same _ _ _ ((World.cell?_setCell_other _ _ _ _ (by simp)).trans z1), Nat.lt_of_lt_of_le zl htr.size, (ho.aside htr (Or.inr hlo)).ties htr.size, (hb.setCell (p := ⟨w.heap.size, 0, none⟩) (Nat.le_refl _) _).setCell (p := ⟨w.heap.size, 1, none⟩) (Nat.le_refl _) _⟩

set_option maxHeartbeats 3200000 in
theorem specApart_any (K : Int) (ao : Option Addr) (cap : Nat) (ts : List (Int × Int)) (a b : Int) (w : World) (hn : ts.length ≤ 1099511627776) (ht : TiesIn w w.heap.size ao ts) :
    Calls Tryd.prog 19 #[.agg #[.int .i64 K, .slice ao ts.length cap], .int .i64 a, .int .i64 b] w fun e w' => e = .returned (apV K ts a b) ∧ Below w.heap.size w w' := by
  have HNO : Hid (apGo K ts a b = false → apV K ts a b = .tuple #[.agg #[.int .i64 0, .int .i64 0], .bool false]) := fun h => apV_none (apT_no h)
  have HT := hideP ht
  have T0 := hideP (fun o p => (ht.below (below_two w o p) (Nat.le_refl _)).wide (C := ((w.alloc o).alloc p).heap.size) (by simp; omega))
  have ST := hideP (fun (t t' : TypeId) => BoxT.start (w := w) (K := K) (v := .slice ao ts.length cap) (t := t) (t' := t') (Below.refl _ _))
  clear ht
  cases hka : (okB K ts && knotB a K)
  · have HV := hideP (HNO.out (by unfold apGo; rw [hka]; rfl))
    have HK := hideP hka
    clear hka
    go_enter Tryd.func19, Tryd.ntmps19
    go_wp2_with fail
    refine (l1Knot_v false K ao cap ts a _ hn (T0.out _ _) HK.out).mono ?_
    rintro e w2 ⟨rfl, hb2⟩
    have B2 := hideP ((ST.out _ _).next hb2)
    clear hb2
    obtain ⟨c0, c1, r0, r1, f0, f1, hz, hbb⟩ := B2.out
    clear HNO B2
    go_wp2
    refine bodyPost_ret (v := .tuple #[.agg #[.int .i64 0, .int .i64 0], .bool false]) ?_ rfl ⟨by rw [HV.out], ?_⟩
    · simp [results, Tryd.results19, go_sem, r0, r1]
    · exact (hbb.setCell (by simp) _).setCell (by simp) _
  cases hkb : (okB K ts && knotB b K)
  · have HV := hideP (HNO.out (by unfold apGo; rw [Bool.and_eq_true] at hka; rw [hka.1, Bool.true_and] at hkb; simp [hka.1, hka.2, hkb]))
    have HK := hideP hka
    have HK2 := hideP hkb
    clear hka hkb
    go_enter Tryd.func19, Tryd.ntmps19
    go_wp2_with fail
    refine (l1Knot_v true K ao cap ts a _ hn (T0.out _ _) HK.out).mono ?_
    rintro e w2 ⟨rfl, hb2⟩
    have B2 := hideP ((ST.out _ _).next hb2)
    have U2 := hideP (((T0.out _ _).below hb2 (Nat.le_refl _)).wide hb2.size)
    clear hb2
    have c0 := B2.out.c0
    have c1 := B2.out.c1
    go_wp2_with fail
    refine (l1Knot_v false K ao cap ts b _ hn U2.out HK2.out).mono ?_
    rintro e w3 ⟨rfl, hb3⟩
    have B3 := hideP (B2.out.next hb3)
    clear hb3 c0 c1 B2
    obtain ⟨c0, c1, r0, r1, f0, f1, hz, hbb⟩ := B3.out
    clear HNO B3
    go_wp2
    refine bodyPost_ret (v := .tuple #[.agg #[.int .i64 0, .int .i64 0], .bool false]) ?_ rfl ⟨by rw [HV.out], ?_⟩
    · simp [results, Tryd.results19, go_sem, r0, r1]
    · exact (hbb.setCell (by simp) _).setCell (by simp) _
  have HK := hideP hka
  have HK2 := hideP hkb
  rw [Bool.and_eq_true] at hka hkb
  have hok := hka.1
  have ha' : 0 ≤ a ∧ a < K := by have := hka.2; simp only [knotB, Bool.and_eq_true, decide_eq_true_eq] at this; exact this
  have hb' : 0 ≤ b ∧ b < K := by have := hkb.2; simp only [knotB, Bool.and_eq_true, decide_eq_true_eq] at this; exact this
  obtain ⟨Kn, hKn⟩ : ∃ n : Nat, K = (n : Int) := ⟨K.toNat, by omega⟩
  obtain ⟨x, hx⟩ : ∃ n : Nat, a = (n : Int) := ⟨a.toNat, by omega⟩
  obtain ⟨y, hy⟩ : ∃ n : Nat, b = (n : Int) := ⟨b.toNat, by omega⟩
  subst hKn; subst hx; subst hy
  have hxK : x < Kn := by omega
  have hyK : y < Kn := by omega
  have hyK' : (y : Int) < (Kn : Int) := by omega
  have hy0 : (0 : Int) ≤ (y : Int) := by omega
  have HOK := hideP hok
  have HGO : Hid (apGo (Kn : Int) ts (x : Int) (y : Int) = reachB ts x y) := by show apGo (Kn : Int) ts (x : Int) (y : Int) = reachB ts x y; simp [apGo, hok, hka.2, hkb.2]
  clear hka hkb hok ha' hb'
  go_enter Tryd.func19, Tryd.ntmps19
  go_wp2_with fail
  refine (l1Knot_v true (Kn : Int) ao cap ts (x : Int) _ hn (T0.out _ _) HK.out).mono ?_
  rintro e w2 ⟨rfl, hb2⟩
  have B2 := hideP ((ST.out _ _).next hb2)
  have U2 := hideP (((T0.out _ _).below hb2 (Nat.le_refl _)).wide hb2.size)
  clear hb2 T0 ST
  have c0 := B2.out.c0
  have c1 := B2.out.c1
  go_wp2_with fail
  refine (l1Knot_v true (Kn : Int) ao cap ts (y : Int) _ hn U2.out HK2.out).mono ?_
  rintro e w3 ⟨rfl, hb3⟩
  have B3 := hideP (B2.out.next hb3)
  have U3 := hideP ((U2.out.below hb3 (Nat.le_refl _)).wide hb3.size)
  clear hb3 c0 c1 B2 U2
  have c0 := B3.out.c0
  have c1 := B3.out.c1
  go_wp2_with fail
  refine (specReach_ok Kn ao cap ts x _ hn U3.out HOK.out hxK).mono ?_
  rintro e w4 ⟨g4, cap4, rfl, hO4, hb4⟩
  have d4 : w4.cell? ⟨g4, y, none⟩ = some (.bool (reachB ts x y)) := hO4.1 y hyK
  have B4 := hideP (B3.out.next hb4)
  have U4 := hideP ((U3.out.below hb4 (Nat.le_refl _)).wide hb4.size)
  clear hb4 hO4 c0 c1 B3 U3
  cases hr : reachB ts x y
  · have HV := hideP (HNO.out (HGO.out.trans hr))
    rw [hr] at d4
    clear hr
    obtain ⟨c0, c1, r0, r1, f0, f1, hz, hbb⟩ := B4.out
    clear HNO B4
    go_wp2
    refine bodyPost_ret (v := .tuple #[.agg #[.int .i64 0, .int .i64 0], .bool false]) ?_ rfl ⟨by rw [HV.out], ?_⟩
    · simp [results, Tryd.results19, go_sem, r0, r1]
    · exact (hbb.setCell (by simp) _).setCell (by simp) _
  rw [hr] at d4
  have HGT : Hid (apGo (Kn : Int) ts (x : Int) (y : Int) = true) := HGO.out.trans hr
  have HHAS : Hid (∀ k, k < (brTs (Kn : Int) ts).length → hasB (Kn : Int) ts (tA (brTs (Kn : Int) ts) k) (tB (brTs (Kn : Int) ts) k) = true) := fun k hk => by
    obtain ⟨p, q, _, _, et, _, hh⟩ := tie_form HOK.out ((mem_brTs HOK.out _).1 (mem_at hk)).1
    simp only [Prod.mk.injEq] at et
    rw [et.1, et.2]; exact hh
  have hbl := brTs_len (Kn : Int) ts
  obtain ⟨bs, hbs⟩ : ∃ bs, bs = brTs (Kn : Int) ts := ⟨_, rfl⟩
  have HBS := hideP hbs
  rw [← hbs] at HHAS hbl
  clear hr hbs HNO HGO
  have c0 := B4.out.c0
  have c1 := B4.out.c1
  go_wp2_with fail
  refine (specBridges_any (Kn : Int) ao cap ts _ hn U4.out).mono ?_
  rw [← HBS.out]
  rintro e w5 ⟨aoL, capL, rfl, ho5, hb5⟩
  have B5 := hideP (B4.out.next hb5)
  have U5 := hideP ((U4.out.below hb5 (Nat.le_refl _)).wide hb5.size)
  have L5 := hideP (ho5.ties (Nat.le_refl _))
  clear hb5 ho5 c0 c1 d4 B4 U4
  go_wp2
  go_loopw [9] (fun i wr => ∃ k : Nat, k ≤ bs.length ∧ i = .int .i64 k ∧ (∀ j, j < k → apB (Kn : Int) ts (x : Int) (y : Int) (tA bs j, tB bs j) = false) ∧ Below w5.heap.size w5 wr)
    (fun i _ => bs.length - (intOf i).toNat)
  case atStart => exact ⟨0, Nat.zero_le _, rfl, fun j hj => by omega, Below.refl _ _⟩
  case round =>
    obtain ⟨k, hk, rfl, hpre, hnx⟩ := hrel
    have HPRE := hideP hpre
    have HNX := hideP hnx
    have B7 := hideP (B5.out.next hnx)
    have U7 := hideP ((U5.out.below hnx (Nat.le_refl _)).wide hnx.size)
    have L7 := hideP ((L5.out.below hnx (Nat.le_refl _)).wide hnx.size)
    clear hpre hnx
    by_cases hlt : k < bs.length
    · obtain ⟨gg, off, rfl, hgw, e0, e1⟩ := L7.out k hlt
      have hh := HHAS.out k hlt
      have hk0 : (0 : Int) ≤ (k : Int) := by omega
      have hk1 : (k : Int) < (bs.length : Int) := by omega
      obtain ⟨a0, ha0⟩ : ∃ x, x = tA bs k := ⟨_, rfl⟩
      obtain ⟨b0, hb0⟩ : ∃ x, x = tB bs k := ⟨_, rfl⟩
      have HAB : Hid (tA bs k = a0 ∧ tB bs k = b0) := ⟨ha0.symm, hb0.symm⟩
      rw [← ha0] at e0
      rw [← hb0] at e1
      rw [← ha0, ← hb0] at hh
      have hcut : cutB (Kn : Int) ts a0 b0 = true := hh
      have HCUT : Hid (cutB (Kn : Int) ts a0 b0 = true ∧ cutK (Kn : Int) ts a0 b0 = (Kn : Int)) := ⟨hcut, cutK_yes hcut⟩
      have HCO := hideP (cutOut hcut).ok
      have hcl := cutTs_len (Kn : Int) ts a0 b0
      obtain ⟨r, hr⟩ : ∃ r, r = reachB (cutTs (Kn : Int) ts a0 b0) x y := ⟨_, rfl⟩
      have HAP : Hid (apB (Kn : Int) ts (x : Int) (y : Int) (tA bs k, tB bs k) = !r) := by
        show apB (Kn : Int) ts (x : Int) (y : Int) (tA bs k, tB bs k) = !r
        rw [hr, ← ha0, ← hb0]; simp [apB]
      obtain ⟨vs, hvs⟩ : ∃ vs, vs = cutTs (Kn : Int) ts a0 b0 := ⟨_, rfl⟩
      have HVS := hideP hvs
      rw [← hvs] at HCO hcl hr
      have HR := hideP hr
      have hvn : vs.length ≤ 1099511627776 := by omega
      have c0 := B7.out.c0
      have c1 := B7.out.c1
      have hbz := B7.out.hz
      have hbz' : w.heap.size < wr.heap.size := by omega
      have bz := below_one wr (.cells #[.int .i64 0, .slice none 0 0] 25)
      have hzz : wr.heap.size < (wr.alloc (.cells #[.int .i64 0, .slice none 0 0] 25)).heap.size := by simp
      have hz0 : (wr.alloc (.cells #[.int .i64 0, .slice none 0 0] 25)).cell? ⟨wr.heap.size, 0, none⟩ = some (.int .i64 0) := by simp
      have hz1 : (wr.alloc (.cells #[.int .i64 0, .slice none 0 0] 25)).cell? ⟨wr.heap.size, 1, none⟩ = some (.slice none 0 0) := by simp
      have hzf : ∀ j, (wr.alloc (.cells #[.int .i64 0, .slice none 0 0] 25)).frozen? ⟨wr.heap.size, j, none⟩ = false := fun j => by simp
      have UD : Hid (TiesIn wr.drew wr.drew.heap.size ao ts) := U7.out
      have UE : Hid (TiesIn (wr.alloc (.cells #[.int .i64 0, .slice none 0 0] 25)).drew (wr.alloc (.cells #[.int .i64 0, .slice none 0 0] 25)).drew.heap.size ao ts) := (U7.out.below bz (Nat.le_refl _)).wide bz.size
      clear hh ha0 hb0 hvs hcut hr
      go_wp2
      apply wp_weak3 (J := fun s o n W => Laid wr W (Kn : Int) vs s o n)
      case h =>
        go_region_law (first | (go_simp; go_at_call 54; refine (specCut_all (Kn : Int) ao cap ts a0 b0 _ hn UD.out).mono ?_; rw [HCUT.out.1, HCUT.out.2, ← HVS.out]; rintro e w8 ⟨aoX, capX, rfl, ho8, hb8⟩; have O8 := hideP (show OwnN w8 wr.heap.size w8.heap.size aoX vs.length (tcell vs) from ho8); have HB8 := hideP (show Below wr.heap.size wr w8 from (Below.refl _ _).drew.trans hb8); clear hb8) | (go_simp; go_at_call 54; refine (specCut_all (Kn : Int) ao cap ts a0 b0 _ hn UE.out).mono ?_; rw [HCUT.out.1, HCUT.out.2, ← HVS.out]; rintro e w8 ⟨aoX, capX, rfl, ho8, hb8⟩; have O8 := hideP (show OwnN w8 (wr.heap.size + 1) w8.heap.size aoX vs.length (tcell vs) from (by simpa using ho8)); have HB8 := hideP (show Below wr.heap.size wr w8 from bz.drew.trans (hb8.mono bz.size)); have z0 : w8.cell? ⟨wr.heap.size, 0, none⟩ = some (.int .i64 0) := (hb8.cell (p := ⟨wr.heap.size, 0, none⟩) hzz).trans hz0; have z1 : w8.cell? ⟨wr.heap.size, 1, none⟩ = some (.slice none 0 0) := (hb8.cell (p := ⟨wr.heap.size, 1, none⟩) hzz).trans hz1; have zf : ∀ j, w8.frozen? ⟨wr.heap.size, j, none⟩ = false := fun j => (hb8.frozen (p := ⟨wr.heap.size, j, none⟩) hzz).trans (hzf j); have zl : wr.heap.size < w8.heap.size := Nat.lt_of_lt_of_le hzz hb8.size; clear hb8))
        all_goals
          first
          | (have JJ := Laid.after (K := (Kn : Int)) (cap := capX) 25 O8.out HB8.out
             generalize w8.heap.size = SB at JJ ⊢
             exact ⟨SB, aoX, capX, rfl, JJ⟩)
          | (have JJ := Laid.ahead (K := (Kn : Int)) (cap := capX) O8.out (Nat.le_refl _) HB8.out z0 z1 zl
             generalize wr.heap.size = SB at JJ ⊢
             exact ⟨SB, aoX, capX, rfl, JJ⟩)
      intro SB aoX capX W J
      have j0 := J.c0
      have j1 := J.c1
      have B8 := hideP (B7.out.next J.bel)
      have TX := hideP J.ties
      have HNX8 := hideP (HNX.out.trans (J.bel.mono HNX.out.size))
      have LB := hideP J.bel
      clear J c0 c1 bz hzz hz0 hz1 hzf UD UE
      go_wp2_with fail
      refine (specReach_ok Kn aoX capX vs x _ hvn TX.out HCO.out hxK).mono ?_
      rintro e w9 ⟨g9, cap9, rfl, hO9, hb9⟩
      have d9 : w9.cell? ⟨g9, y, none⟩ = some (.bool (reachB vs x y)) := hO9.1 y hyK
      rw [← HR.out] at d9
      have f0' : w9.cell? ⟨gg, off + k * 2, none⟩ = some (.int .i64 a0) := (hb9.cell (p := ⟨gg, off + k * 2, none⟩) (Nat.lt_of_lt_of_le hgw LB.out.size)).trans ((LB.out.cell (p := ⟨gg, off + k * 2, none⟩) hgw).trans e0)
      have f1' : w9.cell? ⟨gg, off + k * 2 + 1, none⟩ = some (.int .i64 b0) := (hb9.cell (p := ⟨gg, off + k * 2 + 1, none⟩) (Nat.lt_of_lt_of_le hgw LB.out.size)).trans ((LB.out.cell (p := ⟨gg, off + k * 2 + 1, none⟩) hgw).trans e1)
      have B9 := hideP (B8.out.next hb9)
      have HNX9 := hideP (HNX8.out.trans (hb9.mono HNX8.out.size))
      clear hb9 hO9 j0 j1 e0 e1 B8 B7 TX
      cases r
      · have HRES : Hid (apV (Kn : Int) ts (x : Int) (y : Int) = .tuple #[.agg #[.int .i64 a0, .int .i64 b0], .bool true]) := by
          refine apV_some (apT_at HGT.out (k := k) (by rw [← HBS.out]; exact hlt) (fun j hj => by rw [← HBS.out]; exact HPRE.out j hj) (by rw [← HBS.out]; simpa using HAP.out) |>.trans ?_)
          rw [← HBS.out, HAB.out.1, HAB.out.2]
        obtain ⟨c0, c1, r0, r1, f0, f1, hz, hbb⟩ := B9.out
        clear HAP HPRE B9
        go_wp2
        refine bodyPost_ret (v := .tuple #[.agg #[.int .i64 a0, .int .i64 b0], .bool true]) ?_ rfl ⟨by rw [HRES.out], ?_⟩
        · simp [results, Tryd.results19, go_sem, r0, r1]
        · exact (hbb.setCell (by simp) _).setCell (by simp) _
      · have HN : Hid (∀ j, j < k + 1 → apB (Kn : Int) ts (x : Int) (y : Int) (tA bs j, tB bs j) = false) := fun j hj => by
          by_cases e : j = k
          · subst e; simpa using HAP.out
          · exact HPRE.out j (by omega)
        clear HAP HPRE f0' f1'
        go_wp2
        go_roundw
        case rel => exact ⟨k + 1, by omega, by go_num, HN.out, HNX9.out⟩
        case measure => simp [intOf]; omega
    · obtain rfl : k = bs.length := by omega
      have HV : Hid (apV (Kn : Int) ts (x : Int) (y : Int) = .tuple #[.agg #[.int .i64 0, .int .i64 0], .bool false]) := apV_none (apT_end (fun j hj => by rw [← HBS.out] at hj ⊢; exact HPRE.out j hj))
      obtain ⟨c0, c1, r0, r1, f0, f1, hz, hbb⟩ := B7.out
      clear HPRE B7
      go_wp2
      refine bodyPost_ret (v := .tuple #[.agg #[.int .i64 0, .int .i64 0], .bool false]) ?_ rfl ⟨by rw [HV.out], ?_⟩
      · simp [results, Tryd.results19, go_sem, r0, r1]
      · exact (hbb.setCell (by simp) _).setCell (by simp) _

end Go.Proofs.YtmkbeiiifikbgaaDoor
