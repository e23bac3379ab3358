/- Texts put together: WSideOk, WSideOk2. -/
import Derived.Test.YtiaeffpjcinilaaDoorPartWInts
import Derived.Test.YtiaeffpjcinilaaDoorPartWForest
import Derived.Test.YtiaeffpjcinilaaDoorPartWTree
import Derived.Test.YtiaeffpjcinilaaDoorPartWRows
import Derived.Deep.RegionHeld3
import Derived.Test.YtiaeffpjcinilaaDoorPartWSpecOk
import Derived.Test.YtiaeffpjcinilaaDoorPartWReach2
/- Walks of impl.SideOk and what it calls. -/
namespace Go.Proofs.YtiaeffpjcinilaaDoor
open Go.RowKit
set_option linter.unusedVariables false

def noSide (x : Int) : Bool := x != 0 && x != 1
def in01 (xs : List Int) : Bool := xs.all (fun x => !noSide x)
/-- a tie between two of one side -/
def sameB (xs : List Int) (t : Int × Int) : Bool := xi xs t.1.toNat == xi xs t.2.toNat
/-- the first such tie -/
def oddT (ts : List (Int × Int)) (xs : List Int) : Option (Int × Int) := ts.find? (sameB xs)
def sideB (K : Int) (ts : List (Int × Int)) (xs : List Int) : Bool := okB K ts && decide ((xs.length : Int) = K) && in01 xs && !(oddT ts xs).isSome
def odV (o : Option (Int × Int)) : Value := .tuple #[.agg #[.int .i64 (o.getD (0, 0)).1, .int .i64 (o.getD (0, 0)).2], .bool o.isSome]
theorem odd_at {ts : List (Int × Int)} {xs : List Int} {k : Nat} (hk : k < ts.length) (hp : ∀ j, j < k → sameB xs (tA ts j, tB ts j) = false) (hy : sameB xs (tA ts k, tB ts k) = true) : oddT ts xs = some (tA ts k, tB ts k) := by
  unfold oddT
  rw [List.find?_eq_some_iff_getElem]
  refine ⟨hy, k, hk, by rw [tA_get _ _ hk, tB_get _ _ hk], fun j hj => ?_⟩
  have := hp j hj
  rw [tA_get _ _ (by omega), tB_get _ _ (by omega)] at this
  simp only [this, Bool.not_false]
theorem odd_end {ts : List (Int × Int)} {xs : List Int} (hp : ∀ j, j < ts.length → sameB xs (tA ts j, tB ts j) = false) : oddT ts xs = none := by
  unfold oddT
  rw [List.find?_eq_none]
  intro t ht
  obtain ⟨j, hj, e⟩ := List.mem_iff_getElem.1 ht
  have := hp j hj
  rw [tA_get _ _ hj, tB_get _ _ hj] at this
  rw [← e, this]; simp
theorem isNoSide_any (x : Int) (w : World) :
    Calls Tryd.prog 53 #[.int .i64 x] w fun e w' => e = .returned (.bool (noSide x)) ∧ w' = w := by
  have HN : Hid (noSide x = (x != 0 && x != 1)) := hideP rfl
  obtain ⟨r, hr⟩ : ∃ r, r = noSide x := ⟨_, rfl⟩
  rw [← hr] at HN ⊢
  clear hr
  by_cases h0 : x = 0
  · subst h0
    go_enter Tryd.func53, Tryd.ntmps53
    go_wp2
    go_ret
    exact ⟨by rw [HN.out]; rfl, rfl⟩
  · have h0' : (x != 0) = true := by simpa using h0
    by_cases h1 : x = 1
    · subst h1
      go_enter Tryd.func53, Tryd.ntmps53
      go_wp2
      go_ret
      exact ⟨by rw [HN.out]; rfl, rfl⟩
    · have h1' : (x != 1) = true := by simpa using h1
      go_enter Tryd.func53, Tryd.ntmps53
      go_wp2
      go_ret
      exact ⟨by rw [HN.out, h0', h1']; rfl, rfl⟩
theorem in01_no {xs : List Int} {k : Nat} (hk : k < xs.length) (h : noSide (xi xs k) = true) : in01 xs = false := by
  unfold in01
  rw [List.all_eq_false]
  refine ⟨xs[k], List.getElem_mem hk, ?_⟩
  have : xi xs k = xs[k] := by simp [xi, hk]
  rw [← this, h]; simp
theorem in01_yes {xs : List Int} (h : ∀ j, j < xs.length → noSide (xi xs j) = false) : in01 xs = true := by
  unfold in01
  rw [List.all_eq_true]
  intro x hx
  obtain ⟨j, hj, e⟩ := List.mem_iff_getElem.1 hx
  have := h j hj
  have e2 : xi xs j = xs[j] := by simp [xi, hj]
  rw [e2, e] at this; rw [this]; rfl
theorem isNoSide_is (v : Bool) (x : Int) (w : World) (h : noSide x = v) :
    Calls Tryd.prog 53 #[.int .i64 x] w fun e w' => e = .returned (.bool v) ∧ w' = w := by
  rw [← h]; exact isNoSide_any x w
set_option maxHeartbeats 400000 in
theorem indexNo_any (ao : Option Addr) (cap : Nat) (xs : List Int) (w : World) (hn : xs.length ≤ 1099511627776) (hx : IntsIn w w.heap.size ao xs) :
    Calls Tryd.prog 82 #[.slice ao xs.length cap, .func (.func 53) #[] #[]] w fun e w' => ∃ r : Int, e = .returned (.int .i64 r) ∧ decide (0 ≤ r) = !in01 xs ∧ Below w.heap.size w w' := by
  obtain ⟨n, hnn⟩ : ∃ n, n = xs.length := ⟨_, rfl⟩
  have HN : Hid (n = xs.length) := hnn
  rw [← hnn] at hn ⊢
  clear hnn
  go_enter Tryd.func82, Tryd.ntmps82
  go_wp2
  go_loopw [8] (fun i wr => ∃ j : Nat, j ≤ n ∧ i = .int .i64 j ∧ (∀ q, q < j → noSide (xi xs q) = false) ∧ Below w.heap.size w wr)
    (fun i _ => n - (intOf i).toNat)
  case atStart => exact ⟨0, Nat.zero_le _, rfl, fun q hq => by omega, Below.refl _ _⟩
  case round =>
    obtain ⟨j, hj, rfl, hpre, hbel⟩ := hrel
    have HP := hideP hpre
    have HB := hideP hbel
    clear hpre hbel
    by_cases hlt : j < n
    · have hjl : j < xs.length := by rw [← HN.out]; exact hlt
      obtain ⟨b, off, rfl, hbw, c0⟩ := hx j hjl
      have c0' : wr.cell? ⟨b, off + j, none⟩ = some (.int .i64 (xi xs j)) := (HB.out.cell (p := ⟨b, off + j, none⟩) hbw).trans c0
      obtain ⟨x, hxx⟩ : ∃ x, x = xi xs j := ⟨_, rfl⟩
      rw [← hxx] at c0'
      have HX : Hid (x = xi xs j) := hxx
      have hj0 : (0 : Int) ≤ (j : Int) := by omega
      have hj1 : (j : Int) < (n : Int) := by omega
      clear c0 hxx hx
      cases hv : noSide x with
      | true =>
        have HV := hideP hv
        clear hv
        go_wp2_with fail
        refine (isNoSide_is true x _ HV.out).mono ?_
        rintro e w2 ⟨rfl, rfl⟩
        have HR : Hid (decide (0 ≤ (j : Int)) = !in01 xs) := hideP (by rw [in01_no hjl (by rw [← HX.out]; exact HV.out), decide_eq_true hj0]; rfl)
        go_wp2
        go_ret
        exact ⟨_, rfl, HR.out, HB.out⟩
      | false =>
        have HV := hideP hv
        clear hv
        go_wp2_with fail
        refine (isNoSide_is false x _ HV.out).mono ?_
        rintro e w2 ⟨rfl, rfl⟩
        have HQ : Hid (∀ q, q < j + 1 → noSide (xi xs q) = false) := hideP (fun q hq => by
          rcases Nat.lt_or_ge q j with h | h
          · exact HP.out q h
          · obtain rfl : q = j := by omega
            rw [← HX.out]; exact HV.out)
        go_wp2
        go_roundw
        case rel => exact ⟨j + 1, by omega, by go_num, HQ.out, HB.out⟩
        case measure => simp [intOf]; omega
    · obtain rfl : j = n := by omega
      have HR : Hid (decide (0 ≤ (-1 : Int)) = !in01 xs) := hideP (by rw [in01_yes (fun q hq => HP.out q (by rw [HN.out]; exact hq))]; rfl)
      go_wp2
      go_ret
      exact ⟨_, rfl, HR.out, HB.out⟩
theorem noSides_any (ao : Option Addr) (cap : Nat) (xs : List Int) (w : World) (hn : xs.length ≤ 1099511627776) (hx : IntsIn w w.heap.size ao xs) :
    Calls Tryd.prog 52 #[.slice ao xs.length cap, .func (.func 53) #[] #[]] w fun e w' => e = .returned (.bool (!in01 xs)) ∧ Below w.heap.size w w' := by
  have IF := hideP (indexNo_any ao cap xs w hn hx)
  obtain ⟨b, hb⟩ : ∃ b, b = !in01 xs := ⟨_, rfl⟩
  rw [← hb] at IF ⊢
  clear hx hb hn
  obtain ⟨n, hnn⟩ : ∃ n, n = xs.length := ⟨_, rfl⟩
  rw [← hnn] at IF ⊢
  clear hnn
  go_enter Tryd.func52, Tryd.ntmps52
  go_wp2_with fail
  refine IF.out.mono ?_
  rintro e w2 ⟨r, rfl, hr, hb2⟩
  have HR := hideP hr
  have HB := hideP hb2
  clear hr hb2
  cases b with
  | true =>
    have h0 : 0 ≤ r := of_decide_eq_true HR.out
    go_wp2
    go_ret
    exact ⟨rfl, HB.out⟩
  | false =>
    have h0 : ¬ 0 ≤ r := of_decide_eq_false HR.out
    have h0' : decide (0 ≤ r) = false := HR.out
    go_wp2
    go_ret
    exact ⟨rfl, HB.out⟩
set_option maxHeartbeats 1600000 in
theorem tieWithin_any (K : Int) (ts : List (Int × Int)) (bo : Option Addr) (cap : Nat) (xs : List Int) (w : World) (hT : Tab w) (hok : okB K ts = true) (hx : IntsIn w w.heap.size bo xs) (hK : K ≤ (xs.length : Int)) (hn : xs.length ≤ 1099511627776) :
    Calls Tryd.prog 48 #[.int .u64 ((setN K ts : Nat) : Int), .slice bo xs.length cap] w fun e w' => e = .returned (odV (oddT ts xs)) ∧ Below w.heap.size w w' := by
  have HOK := hideP hok
  have HT1 := hideP (fun o => hT.below (below_one w o) hT.2)
  have HX := hideP hx
  clear hT hok hx
  obtain ⟨n, hnn⟩ : ∃ n, n = xs.length := ⟨_, rfl⟩
  have HN : Hid (n = xs.length) := hnn
  rw [← hnn] at hn hK ⊢
  clear hnn
  go_enter Tryd.func48, Tryd.ntmps48
  go_wp2_with fail
  refine (ties_two' K ts (setN K ts) _ (HT1.out _) (okB_iff.1 HOK.out).2.1 (okB_iff.1 HOK.out).2.2 (ok_short (okB_iff.1 HOK.out)) (set_bits HOK.out) (setN_lt K ts)).mono ?_
  rintro e w1 ⟨ao, cap1, rfl, ho, hb1⟩
  have hz1 := hb1.size
  simp only [World.size_alloc] at hz1
  have hbw : Below w.heap.size w w1 := (below_one w _).trans (hb1.mono (by simp))
  have R0 : Hid (∀ W, Below w1.heap.size w1 W → W.cell? ⟨w.heap.size, 0, none⟩ = some (.int .i64 0) ∧ W.cell? ⟨w.heap.size, 1, none⟩ = some (.int .i64 0) ∧ W.frozen? ⟨w.heap.size, 0, none⟩ = false ∧ W.frozen? ⟨w.heap.size, 1, none⟩ = false ∧ Below w.heap.size w W) := hideP (fun W hb => by
    have hb2 := hb1.trans (hb.mono hb1.size)
    exact ⟨(hb2.cell (p := ⟨w.heap.size, 0, none⟩) (by simp)).trans (by simp), (hb2.cell (p := ⟨w.heap.size, 1, none⟩) (by simp)).trans (by simp), (hb2.frozen (p := ⟨w.heap.size, 0, none⟩) (by simp)).trans (by simp), (hb2.frozen (p := ⟨w.heap.size, 1, none⟩) (by simp)).trans (by simp), hbw.trans (hb.mono hbw.size)⟩)
  have HO := hideP (ho.ties (Nat.le_refl _))
  have HX1 := hideP (HX.out.below hbw (Nat.le_refl _))
  have hwl : w.heap.size ≤ w1.heap.size := by omega
  have hlen : ts.length ≤ 64 := ok_short (okB_iff.1 HOK.out)
  clear ho hb1 hz1 hbw
  go_wp2
  go_loopw [11] (fun iv wr => ∃ k : Nat, k ≤ ts.length ∧ iv = .int .i64 (k : Int) ∧ (∀ j, j < k → sameB xs (tA ts j, tB ts j) = false) ∧ Below w1.heap.size w1 wr)
    (fun iv _ => ts.length - (intOf iv).toNat)
  case atStart => exact ⟨0, Nat.zero_le _, rfl, fun j hj => by omega, Below.refl _ _⟩
  case round =>
    obtain ⟨k, hk, rfl, hpre, hbel⟩ := hrel
    have HP := hideP hpre
    have HB := hideP hbel
    clear hpre hbel
    by_cases hlt : k < ts.length
    · obtain ⟨g, off, rfl, hgw, c0, c1⟩ := (HO.out.below HB.out (Nat.le_refl _)) k hlt
      obtain ⟨q1, q2, q3⟩ := (ok_parts HOK.out).2.2.1 ts[k] (List.getElem_mem hlt)
      rw [← tA_get ts k hlt] at q1 q2
      rw [← tB_get ts k hlt] at q2 q3
      obtain ⟨x, hx⟩ : ∃ x : Nat, tA ts k = (x : Int) := ⟨(tA ts k).toNat, by omega⟩
      obtain ⟨y, hy⟩ : ∃ y : Nat, tB ts k = (y : Int) := ⟨(tB ts k).toNat, by omega⟩
      have HSB : Hid (sameB xs (tA ts k, tB ts k) = (xi xs x == xi xs y)) := hideP (by rw [hx, hy]; rfl)
      have HXY : Hid (tA ts k = (x : Int) ∧ tB ts k = (y : Int)) := hideP ⟨hx, hy⟩
      rw [hx] at c0 q1 q2
      rw [hy] at c1 q2 q3
      have hxn : x < xs.length := by rw [← HN.out]; omega
      have hyn : y < xs.length := by rw [← HN.out]; omega
      obtain ⟨b, o2, rfl, hbz, e0⟩ := HX1.out x hxn
      obtain ⟨b', o2', hbe, _, e1⟩ := HX1.out y hyn
      cases hbe
      have hx0 : (0 : Int) ≤ (x : Int) := by omega
      have hxl : (x : Int) < (n : Int) := by omega
      have hy0 : (0 : Int) ≤ (y : Int) := by omega
      have hyl : (y : Int) < (n : Int) := by omega
      have hk0 : (0 : Int) ≤ (k : Int) := by omega
      have hk1 : (k : Int) < (ts.length : Int) := by omega
      obtain ⟨vx, hvx⟩ : ∃ v, v = xi xs x := ⟨_, rfl⟩
      obtain ⟨vy, hvy⟩ : ∃ v, v = xi xs y := ⟨_, rfl⟩
      rw [← hvx] at e0
      rw [← hvy] at e1
      rw [← hvx, ← hvy] at HSB
      have hgr : g < wr.heap.size := Nat.lt_of_lt_of_le hgw HB.out.size
      have hbr : b < wr.heap.size := by have := HB.out.size; omega
      have e0' := (HB.out.cell (p := ⟨b, o2 + x, none⟩) (by show b < _; omega)).trans e0
      have e1' := (HB.out.cell (p := ⟨b, o2 + y, none⟩) (by show b < _; omega)).trans e1
      have bt := below_one wr (.cells #[.int .i64 (x : Int), .int .i64 (y : Int)] 39)
      have t0 : (wr.alloc (.cells #[.int .i64 (x : Int), .int .i64 (y : Int)] 39)).cell? ⟨wr.heap.size, 0, none⟩ = some (.int .i64 (x : Int)) := by simp
      have t1 : (wr.alloc (.cells #[.int .i64 (x : Int), .int .i64 (y : Int)] 39)).cell? ⟨wr.heap.size, 1, none⟩ = some (.int .i64 (y : Int)) := by simp
      have f0 := (bt.cell (p := ⟨b, o2 + x, none⟩) hbr).trans e0'
      have f1 := (bt.cell (p := ⟨b, o2 + y, none⟩) hbr).trans e1'
      have HBT := hideP (HB.out.trans (bt.mono HB.out.size))
      clear q1 q2 q3 hx hy hvx hvy e0 e1 bt e0' e1'
      go_wp2
      obtain ⟨W, hW⟩ : ∃ W, W = wr.alloc (.cells #[.int .i64 (x : Int), .int .i64 (y : Int)] 39) := ⟨_, rfl⟩
      obtain ⟨Z, hZ⟩ : ∃ Z, Z = wr.heap.size := ⟨_, rfl⟩
      rw [← hW] at t0 t1 f0 f1 HBT ⊢
      rw [← hZ] at t0 t1 ⊢
      clear hW hZ
      go_region_held3 (fun w' => w'.cell? ⟨Z, 0, none⟩ = some (.int .i64 (x : Int)) ∧ w'.cell? ⟨Z, 1, none⟩ = some (.int .i64 (y : Int)) ∧ w'.cell? ⟨b, o2 + x, none⟩ = some (.int .i64 vx) ∧ w'.cell? ⟨b, o2 + y, none⟩ = some (.int .i64 vy)) (first | exact ⟨t0, t1, f0, f1⟩) (fail)
      have HBD := hideP HBT.out.drew
      have s0 : W.cell? ⟨Z, 0, none⟩ = some (.int .i64 (x : Int)) := t0
      have s1 : W.cell? ⟨Z, 1, none⟩ = some (.int .i64 (y : Int)) := t1
      by_cases he : vx = vy
      · have he' : (vx == vy) = true := by simp [he]
        obtain ⟨r0, r1, g0, g1, _⟩ := R0.out _ HBT.out
        have hbw := (R0.out _ HBD.out).2.2.2.2
        have HRES : Hid (odV (oddT ts xs) = .tuple #[.agg #[.int .i64 (x : Int), .int .i64 (y : Int)], .bool true]) := hideP (by rw [odd_at hlt HP.out (by rw [HSB.out]; exact he'), HXY.out.1, HXY.out.2]; rfl)
        clear HSB HP
        go_wp2
        refine bodyPost_ret (v := .tuple #[.agg #[.int .i64 (x : Int), .int .i64 (y : Int)], .bool true]) ?_ rfl ⟨by rw [HRES.out], ?_⟩
        · simp [results, Tryd.results48, go_sem, r0, r1]
        · exact (hbw.setCell (by simp) _).setCell (by simp) _
      · have he' : (vx == vy) = false := by simp [he]
        have HQ : Hid (∀ j, j < k + 1 → sameB xs (tA ts j, tB ts j) = false) := hideP (fun j hj => by
          rcases Nat.lt_or_ge j k with h | h
          · exact HP.out j h
          · obtain rfl : j = k := by omega
            rw [HSB.out]; exact he')
        clear HSB HP
        go_wp2
        go_roundw
        case rel => exact ⟨k + 1, by omega, by go_num, HQ.out, HBD.out⟩
        case measure => simp [intOf]; omega
    · obtain rfl : k = ts.length := by omega
      have HRES : Hid (odV (oddT ts xs) = .tuple #[.agg #[.int .i64 0, .int .i64 0], .bool false]) := hideP (by rw [odd_end HP.out]; rfl)
      obtain ⟨r0, r1, g0, g1, hbw⟩ := R0.out _ HB.out
      clear HP
      go_wp2
      refine bodyPost_ret (v := .tuple #[.agg #[.int .i64 0, .int .i64 0], .bool false]) ?_ rfl ⟨by rw [HRES.out], ?_⟩
      · simp [results, Tryd.results48, go_sem, r0, r1]
      · exact (hbw.setCell (by simp) _).setCell (by simp) _

end Go.Proofs.YtiaeffpjcinilaaDoor

/- Walks of impl.SideOk and spec.SideOk. -/
namespace Go.Proofs.YtiaeffpjcinilaaDoor
open Go.RowKit
set_option linter.unusedVariables false

theorem noSides_is (v : Bool) (ao : Option Addr) (n cap : Nat) (xs : List Int) (w : World) (hl : xs.length = n) (hn : n ≤ 1099511627776) (hx : IntsIn w w.heap.size ao xs) (h : in01 xs = v) :
    Calls Tryd.prog 52 #[.slice ao n cap, .func (.func 53) #[] #[]] w fun e w' => e = .returned (.bool (!v)) ∧ Below w.heap.size w w' := by
  rw [← h]; subst hl; exact noSides_any ao cap xs w hn hx
theorem tieWithin_is (o : Option (Int × Int)) (K : Int) (ts : List (Int × Int)) (bo : Option Addr) (n cap : Nat) (xs : List Int) (w : World) (hl : xs.length = n) (hT : Tab w) (hok : okB K ts = true) (hx : IntsIn w w.heap.size bo xs) (hK : K ≤ (n : Int)) (hn : n ≤ 1099511627776) (h : oddT ts xs = o) :
    Calls Tryd.prog 48 #[.int .u64 ((setN K ts : Nat) : Int), .slice bo n cap] w fun e w' => e = .returned (odV o) ∧ Below w.heap.size w w' := by
  rw [← h]; subst hl; exact tieWithin_any K ts bo cap xs w hT hok hx hK hn
set_option maxHeartbeats 800000 in
theorem implSideOk_any (K : Int) (ao bo : Option Addr) (cap cap2 : Nat) (ts : List (Int × Int)) (xs : List Int) (w : World) (hn : ts.length ≤ 1099511627776) (ht : TiesIn w w.heap.size ao ts) (hxn : xs.length ≤ 1099511627776) (hx : IntsIn w w.heap.size bo xs) (hT : Tab w) :
    Calls Tryd.prog 19 #[.agg #[.int .i64 K, .slice ao ts.length cap], .slice bo xs.length cap2] w fun e w' => e = .returned (.bool (sideB K ts xs)) ∧ Below w.heap.size w w' := by
  have X0 := fun (t : TypeId) => Bx.start w K (.slice ao ts.length cap) t
  have HX0 := hideP X0
  have HTI := hideP ht
  have HXI := hideP hx
  have HTab := hideP hT
  obtain ⟨r, hr⟩ : ∃ r, r = sideB K ts xs := ⟨_, rfl⟩
  have HR := hideP hr
  rw [← hr]
  obtain ⟨n, hnn⟩ : ∃ n, xs.length = n := ⟨_, rfl⟩
  have HN := hideP hnn
  rw [hnn] at hxn ⊢
  clear X0 ht hx hT hr hnn
  go_enter Tryd.func19, Tryd.ntmps19
  go_wp2_with fail
  refine (pairsOf_any K ao cap ts _ hn ((HTI.out.below (HX0.out _).B (Nat.le_refl _)).wide (Nat.le_of_lt (HX0.out _).lt))).mono ?_
  rintro e w1 ⟨rfl, hb1⟩
  have X1 := hideP ((HX0.out _).next hb1)
  clear hb1 HX0
  have c0 := X1.out.c0
  cases hok : okB K ts with
  | false =>
    have HF : Hid (r = false) := hideP (by rw [HR.out]; unfold sideB; rw [hok]; rfl)
    have HB := hideP X1.out.B
    clear hok X1
    go_wp2
    go_ret
    exact ⟨by rw [HF.out]; rfl, HB.out⟩
  | true =>
    have HOK := hideP hok
    by_cases hK : (n : Int) = K
    · have hKb : ((n : Int) != K) = false := by simp [hK]
      have XI1 := hideP ((HXI.out.below X1.out.B (Nat.le_refl _)).wide X1.out.B.size)
      have T1 := hideP (HTab.out.below X1.out.B HTab.out.2)
      cases h01 : in01 xs with
      | false =>
        have HF : Hid (r = false) := hideP (by rw [HR.out]; unfold sideB; rw [h01]; simp)
        have H01 := hideP h01
        clear hok h01 HR
        go_wp2_with fail
        refine (noSides_is false bo n cap2 xs _ HN.out hxn XI1.out H01.out).mono ?_
        rintro e w2 ⟨rfl, hb2⟩
        have HB := hideP (X1.out.B.trans (hb2.mono X1.out.B.size))
        clear hb2
        go_wp2
        go_ret
        exact ⟨by rw [HF.out]; rfl, HB.out⟩
      | true =>
        have H01 := hideP h01
        have hKn : K ≤ (n : Int) := by omega
        obtain ⟨o, ho⟩ : ∃ o, oddT ts xs = o := ⟨_, rfl⟩
        have HO := hideP ho
        have HRR : Hid (r = !o.isSome) := hideP (by rw [HR.out]; unfold sideB; rw [hok, h01, ho, HN.out, decide_eq_true hK]; simp)
        clear hok h01 ho HR
        go_wp2_with fail
        refine (noSides_is true bo n cap2 xs _ HN.out hxn XI1.out H01.out).mono ?_
        rintro e w2 ⟨rfl, hb2⟩
        have HB2 := hideP (X1.out.B.trans (hb2.mono X1.out.B.size))
        have XI2 := hideP ((XI1.out.below hb2 (Nat.le_refl _)).wide hb2.size)
        have T2 := hideP (T1.out.below hb2 T1.out.2)
        clear hb2
        go_wp2_with fail
        refine (tieWithin_is o K ts bo n cap2 xs _ HN.out T2.out HOK.out XI2.out hKn hxn HO.out).mono ?_
        unfold odV
        rintro e w3 ⟨rfl, hb3⟩
        have bo3 := below_one w3 (.cells #[.int .i64 (o.getD (0, 0)).1, .int .i64 (o.getD (0, 0)).2] 39)
        have HB3 := hideP ((HB2.out.trans (hb3.mono HB2.out.size)).trans (bo3.mono (HB2.out.trans (hb3.mono HB2.out.size)).size))
        obtain ⟨b, hb⟩ : ∃ b, b = o.isSome := ⟨_, rfl⟩
        rw [← hb] at HRR ⊢
        clear hb3 bo3 hb
        go_wp2
        go_ret
        exact ⟨by rw [HRR.out]; rfl, HB3.out⟩
    · have HF : Hid (r = false) := hideP (by rw [HR.out]; unfold sideB; rw [HN.out, decide_eq_false hK]; simp)
      have hKb : ((n : Int) != K) = true := by simp [hK]
      have HB := hideP X1.out.B
      clear hok X1
      go_wp2
      go_ret
      exact ⟨by rw [HF.out]; rfl, HB.out⟩
theorem sideIn_is (v : Bool) (x : Int) (w : World) (h : noSide x = v) (hi : inB x 0 1 = !noSide x) :
    Calls Tryd.prog 57 #[.int .i64 x, .int .i64 0, .int .i64 1] w fun e w' => e = .returned (.bool (!v)) ∧ w' = w := by
  rw [← h, ← hi]; exact in_any x 0 1 w
theorem inB_side (x : Int) : inB x 0 1 = !noSide x := by
  unfold inB noSide
  by_cases h0 : x = 0
  · subst h0; rfl
  · by_cases h1 : x = 1
    · subst h1; rfl
    · have e : (decide (0 ≤ x) && decide (x ≤ 1)) = false := by
        rw [← Bool.not_eq_true, Bool.and_eq_true, decide_eq_true_eq, decide_eq_true_eq]; omega
      rw [e]; simp [h0, h1]
set_option maxHeartbeats 1600000 in
theorem specSideOk_any (K : Int) (ao bo : Option Addr) (cap cap2 : Nat) (ts : List (Int × Int)) (xs : List Int) (w : World) (hn : ts.length ≤ 1099511627776) (ht : TiesIn w w.heap.size ao ts) (hxn : xs.length ≤ 1099511627776) (hx : IntsIn w w.heap.size bo xs) :
    Calls Tryd.prog 27 #[.agg #[.int .i64 K, .slice ao ts.length cap], .slice bo xs.length cap2] w fun e w' => e = .returned (.bool (sideB K ts xs)) ∧ Below w.heap.size w w' := by
  have X0 := fun (t : TypeId) => Bx.start w K (.slice ao ts.length cap) t
  have HX0 := hideP X0
  have HTI := hideP ht
  have HXI := hideP hx
  obtain ⟨r, hr⟩ : ∃ r, r = sideB K ts xs := ⟨_, rfl⟩
  have HR := hideP hr
  rw [← hr]
  obtain ⟨n, hnn⟩ : ∃ n, xs.length = n := ⟨_, rfl⟩
  have HN := hideP hnn
  rw [hnn] at hxn ⊢
  clear X0 ht hx hr hnn
  obtain ⟨q, hq⟩ : ∃ q, okB K ts = q := ⟨_, rfl⟩
  have HQ := hideP hq
  clear hq
  go_enter Tryd.func27, Tryd.ntmps27
  go_wp2_with fail
  refine (specOk_is q K ao cap ts _ hn ((HTI.out.below (HX0.out _).B (Nat.le_refl _)).wide (Nat.le_of_lt (HX0.out _).lt)) HQ.out).mono ?_
  rintro e w1 ⟨rfl, hb1⟩
  have X1 := hideP ((HX0.out _).next hb1)
  clear hb1 HX0
  have c0 := X1.out.c0
  cases q with
  | false =>
    have HF : Hid (r = false) := hideP (by rw [HR.out]; unfold sideB; rw [HQ.out]; rfl)
    have HB := hideP X1.out.B
    clear X1
    go_wp2
    go_ret
    exact ⟨by rw [HF.out]; rfl, HB.out⟩
  | true =>
    by_cases hK : (n : Int) = K
    · have hKb : ((n : Int) != K) = false := by simp [hK]
      have hlen : ts.length ≤ 64 := ok_short (okB_iff.1 HQ.out)
      have HKK := hideP hK
      clear hK
      go_wp2
      clear hKb
      go_loopw [5] (fun iv wr => ∃ k : Nat, k ≤ n ∧ iv = .int .i64 (k : Int) ∧ (∀ j, j < k → noSide (xi xs j) = false) ∧ Bx w wr K (.slice ao ts.length cap))
        (fun iv _ => n - (intOf iv).toNat)
      case atStart => exact ⟨0, Nat.zero_le _, rfl, fun j hj => by omega, X1.out⟩
      case round =>
        clear X1 c0
        obtain ⟨k, hk, rfl, hpre, hX⟩ := hrel
        have HP := hideP hpre
        have HX := hideP hX
        clear hpre hX
        by_cases hlt : k < n
        · have hjl : k < xs.length := by rw [HN.out]; exact hlt
          obtain ⟨b, off, rfl, hbw, e0⟩ := HXI.out k hjl
          have e0' : wr.cell? ⟨b, off + k, none⟩ = some (.int .i64 (xi xs k)) := (HX.out.B.cell (p := ⟨b, off + k, none⟩) hbw).trans e0
          obtain ⟨x, hxx⟩ : ∃ x, x = xi xs k := ⟨_, rfl⟩
          rw [← hxx] at e0'
          have HXX : Hid (x = xi xs k) := hxx
          have hk0 : (0 : Int) ≤ (k : Int) := by omega
          have hk1 : (k : Int) < (n : Int) := by omega
          clear e0 hxx
          cases hv : noSide x with
          | true =>
            have HV := hideP hv
            have HF : Hid (r = false) := hideP (by rw [HR.out]; unfold sideB; rw [in01_no hjl (by rw [← HXX.out]; exact hv)]; simp)
            have HB := hideP HX.out.B
            clear hv HP
            go_wp2_with fail
            refine (sideIn_is true x _ HV.out (inB_side x)).mono ?_
            rintro e w2 ⟨rfl, rfl⟩
            go_wp2
            go_ret
            exact ⟨by rw [HF.out]; rfl, HB.out⟩
          | false =>
            have HV := hideP hv
            have HQ2 : Hid (∀ q, q < k + 1 → noSide (xi xs q) = false) := hideP (fun q hq => by
              rcases Nat.lt_or_ge q k with h | h
              · exact HP.out q h
              · obtain rfl : q = k := by omega
                rw [← HXX.out]; exact HV.out)
            clear hv HP
            go_wp2_with fail
            refine (sideIn_is false x _ HV.out (inB_side x)).mono ?_
            rintro e w2 ⟨rfl, rfl⟩
            go_wp2
            go_roundw
            case rel => exact ⟨k + 1, by omega, by go_num, HQ2.out, HX.out⟩
            case measure => simp [intOf]; omega
        · obtain rfl : k = n := by omega
          have H01 : Hid (in01 xs = true) := hideP (in01_yes (fun j hj => HP.out j (by rw [← HN.out]; exact hj)))
          clear HP
          go_wp2
          go_loopw [6] (fun iv wr2 => ∃ j : Nat, j ≤ ts.length ∧ iv = .int .i64 (j : Int) ∧ (∀ q, q < j → sameB xs (tA ts q, tB ts q) = false) ∧ Bx w wr2 K (.slice ao ts.length cap))
            (fun iv _ => ts.length - (intOf iv).toNat)
          case atStart => exact ⟨0, Nat.zero_le _, rfl, fun j hj => by omega, HX.out⟩
          case round =>
            clear HX
            obtain ⟨j, hj, rfl, hpre, hX⟩ := hrel
            have HP := hideP hpre
            have HX := hideP hX
            clear hpre hX
            have c0 := HX.out.c0
            have c1 := HX.out.c1
            by_cases hlt : j < ts.length
            · obtain ⟨g, off, rfl, hgw, d0, d1⟩ := (HTI.out.below HX.out.B (Nat.le_refl _)) j hlt
              obtain ⟨q1, q2, q3⟩ := (ok_parts HQ.out).2.2.1 ts[j] (List.getElem_mem hlt)
              rw [← tA_get ts j hlt] at q1 q2
              rw [← tB_get ts j hlt] at q2 q3
              obtain ⟨x, hx⟩ : ∃ x : Nat, tA ts j = (x : Int) := ⟨(tA ts j).toNat, by omega⟩
              obtain ⟨y, hy⟩ : ∃ y : Nat, tB ts j = (y : Int) := ⟨(tB ts j).toNat, by omega⟩
              have HSB : Hid (sameB xs (tA ts j, tB ts j) = (xi xs x == xi xs y)) := hideP (by rw [hx, hy]; rfl)
              rw [hx] at d0 q1 q2
              rw [hy] at d1 q2 q3
              have hxn' : x < xs.length := by rw [HN.out]; have := HKK.out; omega
              have hyn : y < xs.length := by rw [HN.out]; have := HKK.out; omega
              obtain ⟨b, o2, rfl, hbz, e0⟩ := HXI.out x hxn'
              obtain ⟨b', o2', hbe, _, e1⟩ := HXI.out y hyn
              cases hbe
              have hKK := HKK.out
              have hx0 : (0 : Int) ≤ (x : Int) := by omega
              have hxl : (x : Int) < (k : Int) := by omega
              have hy0 : (0 : Int) ≤ (y : Int) := by omega
              have hyl : (y : Int) < (k : Int) := by omega
              have hk0 : (0 : Int) ≤ (j : Int) := by omega
              have hk1 : (j : Int) < (ts.length : Int) := by omega
              obtain ⟨vx, hvx⟩ : ∃ v, v = xi xs x := ⟨_, rfl⟩
              obtain ⟨vy, hvy⟩ : ∃ v, v = xi xs y := ⟨_, rfl⟩
              rw [← hvx] at e0
              rw [← hvy] at e1
              rw [← hvx, ← hvy] at HSB
              have f0 := (HX.out.B.cell (p := ⟨b, o2 + x, none⟩) hbz).trans e0
              have f1 := (HX.out.B.cell (p := ⟨b, o2 + y, none⟩) hbz).trans e1
              have XD := hideP (HX.out.next (Below.refl _ _).drew)
              clear q1 q2 q3 hx hy hvx hvy e0 e1 hKK
              go_wp2
              go_region_held3 (fun w' => w'.cell? ⟨w.heap.size, 0, none⟩ = some (.int .i64 K) ∧ w'.cell? ⟨w.heap.size, 1, none⟩ = some (.slice (some ⟨g, off, none⟩) ts.length cap) ∧ w'.cell? ⟨g, off + j * 2, none⟩ = some (.int .i64 (x : Int)) ∧ w'.cell? ⟨g, off + j * 2 + 1, none⟩ = some (.int .i64 (y : Int)) ∧ w'.cell? ⟨b, o2 + x, none⟩ = some (.int .i64 vx) ∧ w'.cell? ⟨b, o2 + y, none⟩ = some (.int .i64 vy)) (first | exact ⟨c0, c1, d0, d1, f0, f1⟩) (fail)
              by_cases he : vx = vy
              · have he' : (vx == vy) = true := by simp [he]
                have HF : Hid (r = false) := hideP (by
                  have ho : oddT ts xs = some (tA ts j, tB ts j) := odd_at hlt HP.out (by rw [HSB.out]; exact he')
                  rw [HR.out]; unfold sideB; rw [ho]; simp)
                clear HSB HP
                go_wp2
                go_ret
                exact ⟨by rw [HF.out]; rfl, XD.out.B⟩
              · have he' : (vx == vy) = false := by simp [he]
                have HQ3 : Hid (∀ q, q < j + 1 → sameB xs (tA ts q, tB ts q) = false) := hideP (fun q hq => by
                  rcases Nat.lt_or_ge q j with h | h
                  · exact HP.out q h
                  · obtain rfl : q = j := by omega
                    rw [HSB.out]; exact he')
                clear HSB HP
                go_wp2
                go_roundw
                case rel => exact ⟨j + 1, by omega, by go_num, HQ3.out, XD.out⟩
                case measure => simp [intOf]; omega
            · obtain rfl : j = ts.length := by omega
              have HF : Hid (r = true) := hideP (by
                have ho : oddT ts xs = none := odd_end HP.out
                rw [HR.out]; unfold sideB; rw [ho, HQ.out, H01.out, HN.out, decide_eq_true HKK.out]; rfl)
              have HB := hideP HX.out.B
              clear HP
              go_wp2
              go_ret
              exact ⟨by rw [HF.out]; rfl, HB.out⟩
    · have HF : Hid (r = false) := hideP (by rw [HR.out]; unfold sideB; rw [HN.out, decide_eq_false hK]; simp)
      have hKb : ((n : Int) != K) = true := by simp [hK]
      have HB := hideP X1.out.B
      clear X1
      go_wp2
      go_ret
      exact ⟨by rw [HF.out]; rfl, HB.out⟩

end Go.Proofs.YtiaeffpjcinilaaDoor
