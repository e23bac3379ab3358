/- Walks of impl.dive's methods: top, leave. -/
import Derived.Test.YtadcfinjmialnaaDoorWDive
import Derived.Deep.RegionWith
namespace Go.Proofs.YtadcfinjmialnaaDoor
open Go.RowKit
set_option linter.unusedVariables false

/-- a region of which all ways end alike: what follows is asked once -/
theorem wp_once {P : Program} {c : Code} {Q' : Exit → Act → World → Prop} {K : Act → World → Prop} {a : Act} {w : World} {aa : Act} {wz : World} (h : c.wp P (Exit.then (fun a' w' => a' = aa ∧ w' = wz) Q') a w) (hk : K aa wz) : c.wp P (Exit.then K Q') a w :=
  Code.wp_mono (fun e a' w' h => by
    cases e with
    | normal => obtain ⟨rfl, rfl⟩ := h; exact hk
    | _ => exact h) h
set_option maxHeartbeats 400000 in
theorem top_any (A s mB : Nat) (d : Dv) (g cap i : Nat) (w : World) (hD : Dm w A s mB d (.slice (some ⟨g, 0, none⟩) (i + 1) cap)) (hm : d.m = i + 1) (hi : i ≤ 8) :
    Calls Tryd.prog 76 #[.pointer (some ⟨A, 0, none⟩)] w fun e w' => e = .returned (.pointer (some ⟨g, i * 4, none⟩)) ∧ w' = w.drew := by
  have c1 := hD.c1
  clear hD hm
  go_enter Tryd.func76, Tryd.ntmps76
  go_wp2
  go_region
  go_wp2
  go_ret
  exact ⟨rfl, rfl⟩

theorem scell0 (d : Dv) (q : Nat) : scell d (q * 4) = .int .i64 (d.kn q : Int) := by
  unfold scell; rw [if_pos (by omega), show q * 4 / 4 = q by omega]
theorem scell1 (d : Dv) (q : Nat) : scell d (q * 4 + 1) = .int .i64 (d.fr q : Int) := by
  unfold scell; rw [if_neg (by omega), if_pos (by omega), show (q * 4 + 1) / 4 = q by omega]
theorem scell2 (d : Dv) (q : Nat) : scell d (q * 4 + 2) = .int .i64 (d.nx q : Int) := by
  unfold scell; rw [if_neg (by omega), if_neg (by omega), if_pos (by omega), show (q * 4 + 2) / 4 = q by omega]
theorem scell3 (d : Dv) (q : Nat) : scell d (q * 4 + 3) = .int .i64 (d.le q : Int) := by
  unfold scell; rw [if_neg (by omega), if_neg (by omega), if_neg (by omega), show (q * 4 + 3) / 4 = q by omega]
theorem Dm.st {wr : World} {A s mB : Nat} {d : Dv} {g n cap : Nat} (h : Dm wr A s mB d (.slice (some ⟨g, 0, none⟩) n cap)) (hn : d.m = n) {q : Nat} (hq : q < d.m) :
    wr.cell? ⟨g, q * 4, none⟩ = some (.int .i64 (d.kn q : Int)) ∧ wr.cell? ⟨g, q * 4 + 1, none⟩ = some (.int .i64 (d.fr q : Int)) ∧ wr.cell? ⟨g, q * 4 + 2, none⟩ = some (.int .i64 (d.nx q : Int)) ∧ wr.cell? ⟨g, q * 4 + 3, none⟩ = some (.int .i64 (d.le q : Int)) ∧ (∀ j, wr.frozen? ⟨g, j, none⟩ = false) ∧ A + 1 ≤ g ∧ g < wr.heap.size := by
  subst hn
  have ho := h.own
  obtain ⟨g', cap', e, h1, h2⟩ := ho.form (by omega)
  simp only [Value.slice.injEq, Option.some.injEq, Addr.mk.injEq, and_true, true_and] at e
  obtain ⟨rfl, rfl⟩ := e
  refine ⟨?_, ?_, ?_, ?_, fun j => ho.frozenAt j, h1, h2⟩
  · rw [ho.cellAt _ (by omega), slist_get _ _ _ (by omega), scell0]
  · rw [ho.cellAt _ (by omega), slist_get _ _ _ (by omega), scell1]
  · rw [ho.cellAt _ (by omega), slist_get _ _ _ (by omega), scell2]
  · rw [ho.cellAt _ (by omega), slist_get _ _ _ (by omega), scell3]
theorem own_shrink {w : World} {base : Nat} {e : TypeId} {size g n cap : Nat} {xs ys : List Value} (h : w.ownsRow base e size (.slice (some ⟨g, 0, none⟩) (n + 1) cap) (n + 1) xs) (hy : xs.take (n * size) = ys) : w.ownsRow base e size (.slice (some ⟨g, 0, none⟩) n cap) n ys := by
  rcases h.2 with ⟨h', _⟩ | ⟨g', cap', cur, h', hb, hg, hnc, hcm, hcs, htake⟩
  · simp at h'
  · simp only [Value.slice.injEq, Option.some.injEq, Addr.mk.injEq, and_true, true_and] at h'
    obtain ⟨rfl, rfl⟩ := h'
    have hl := h.1
    have hmul : (n + 1) * size = n * size + size := by rw [Nat.add_mul]; omega
    refine ⟨by rw [← hy, List.length_take, hl, hmul]; omega, .inr ⟨g, cap, cur, rfl, hb, hg, by omega, hcm, hcs, ?_⟩⟩
    rw [← hy, ← htake, List.take_take, hmul]
    congr 1; omega
theorem slist_take (d : Dv) (n : Nat) : (slist d (n + 1)).take (n * 4) = slist d n := by
  apply List.ext_getElem?
  intro j
  rw [List.getElem?_take]
  by_cases hj : j < n * 4
  · rw [if_pos hj, slist_get _ _ _ (by omega), slist_get _ _ _ hj]
  · rw [if_neg hj, slist_none _ _ _ hj]
/-- the stack without its last -/
theorem Dm.pop {wr : World} {A s mB : Nat} {d : Dv} {g n cap : Nat} (h : Dm wr A s mB d (.slice (some ⟨g, 0, none⟩) (n + 1) cap)) (hm : d.m = n + 1) :
    Dm (wr.setCell ⟨A, 1, none⟩ (.slice (some ⟨g, 0, none⟩) n cap)) A s mB { d with m := n } (.slice (some ⟨g, 0, none⟩) n cap) := by
  have ho := h.own
  rw [hm] at ho
  exact h.set (by omega) _ (dcells (by omega) (by simp) (fun k hk => by rw [if_neg (by omega)]) (by simp) (by simp)) (own_shrink ho (slist_take d n))
theorem Dm.bits {wr : World} {A s mB : Nat} {d : Dv} {v : Value} (h : Dm wr A s mB d v) (mB' : Nat) : Dm (wr.setCell ⟨A, 11, none⟩ (.int .u64 (mB' : Int))) A s mB' d v :=
  h.set (by omega) _ (dcells (by omega) (by simp) (fun k hk => by rw [if_neg (by omega)]) (by simp) (by simp)) h.own
/-- one number of the stack's last is turned -/
theorem Dm.stored {wr : World} {A s mB : Nat} {d d' : Dv} {g n cap : Nat} (h : Dm wr A s mB d (.slice (some ⟨g, 0, none⟩) n cap)) (hn : d.m = n) (hn' : d'.m = n) (ht : d'.tu = d.tu) (hc : d'.cn = d.cn) {j : Nat} {x : Nat} (hg : A + 1 ≤ g) (hx : ∀ i, i < n * 4 → (if j = i then Value.int .i64 (x : Int) else scell d i) = scell d' i) :
    Dm (wr.setCell ⟨g, j, none⟩ (.int .i64 (x : Int))) A s mB d' (.slice (some ⟨g, 0, none⟩) n cap) := by
  have ho := h.own
  rw [hn] at ho
  obtain ⟨o1, g1⟩ := ho.stored j (.int .i64 (x : Int))
  refine ⟨by rw [ht, hc]; exact h.I.other (by show g ≠ A; omega) _, ?_⟩
  rw [hn']
  have e : (slist d n).set j (.int .i64 (x : Int)) = slist d' n := by
    apply List.ext_getElem?
    intro i
    rw [List.getElem?_set, slist_length]
    by_cases hi : i < n * 4
    · rw [slist_get _ _ _ hi, slist_get _ _ _ hi, ← hx i hi]
      by_cases e : j = i
      · rw [if_pos e, if_pos e, if_pos (by omega)]
      · rw [if_neg e, if_neg e]
    · rw [slist_none _ _ _ hi, slist_none _ _ _ hi]
      by_cases e : j = i
      · rw [if_pos e, if_neg (by omega)]
      · rw [if_neg e]
  rw [← e]; exact o1
theorem Dm.least {wr : World} {A s mB : Nat} {d : Dv} {g i cap : Nat} (h : Dm wr A s mB d (.slice (some ⟨g, 0, none⟩) (i + 1) cap)) (hm : d.m = i + 1) (hg : A + 1 ≤ g) (x : Nat) :
    Dm (wr.setCell ⟨g, i * 4 + 3, none⟩ (.int .i64 (x : Int))) A s mB { d with le := upd d.le i x } (.slice (some ⟨g, 0, none⟩) (i + 1) cap) := by
  refine h.stored (d' := { d with le := upd d.le i x }) hm hm rfl rfl hg (fun j hj => ?_)
  by_cases e : i * 4 + 3 = j
  · subst e; rw [if_pos rfl, scell3]; show _ = Value.int .i64 ((upd d.le i x i : Nat) : Int); rw [upd_at]
  · rw [if_neg e]
    unfold scell
    by_cases e3 : j % 4 = 3
    · have hne : j / 4 ≠ i := by omega
      show _ = Value.int .i64 ((((if j % 4 = 0 then d.kn (j / 4) else if j % 4 = 1 then d.fr (j / 4) else if j % 4 = 2 then d.nx (j / 4) else upd d.le i x (j / 4)) : Nat)) : Int)
      rw [upd_no _ _ hne]
    · have : j % 4 = 0 ∨ j % 4 = 1 ∨ j % 4 = 2 := by omega
      rcases this with q | q | q <;> simp [q]
theorem Dm.next {wr : World} {A s mB : Nat} {d : Dv} {g i cap : Nat} (h : Dm wr A s mB d (.slice (some ⟨g, 0, none⟩) (i + 1) cap)) (hm : d.m = i + 1) (hg : A + 1 ≤ g) (x : Nat) :
    Dm (wr.setCell ⟨g, i * 4 + 2, none⟩ (.int .i64 (x : Int))) A s mB { d with nx := upd d.nx i x } (.slice (some ⟨g, 0, none⟩) (i + 1) cap) := by
  refine h.stored (d' := { d with nx := upd d.nx i x }) hm hm rfl rfl hg (fun j hj => ?_)
  by_cases e : i * 4 + 2 = j
  · subst e; rw [if_pos rfl, scell2]; show _ = Value.int .i64 ((upd d.nx i x i : Nat) : Int); rw [upd_at]
  · rw [if_neg e]
    unfold scell
    by_cases e3 : j % 4 = 2
    · have hne : j / 4 ≠ i := by omega
      show _ = Value.int .i64 ((((if j % 4 = 0 then d.kn (j / 4) else if j % 4 = 1 then d.fr (j / 4) else if j % 4 = 2 then upd d.nx i x (j / 4) else d.le (j / 4)) : Nat)) : Int)
      rw [upd_no _ _ hne]
    · have : j % 4 = 0 ∨ j % 4 = 1 ∨ j % 4 = 3 := by omega
      rcases this with q | q | q <;> simp [q]

theorem Dm.alloc {wr : World} {A s mB : Nat} {d : Dv} {v : Value} (h : Dm wr A s mB d v) (o : Obj) : Dm (wr.alloc o) A s mB d v :=
  ⟨h.I.same (Below.heap_alloc _ _ _ h.lt) (by simp), h.own.alloc o⟩
set_option maxHeartbeats 400000 in
theorem leave_root (A s mB : Nat) (d : Dv) (g cap : Nat) (w : World) (hD : Dm w A s mB d (.slice (some ⟨g, 0, none⟩) 1 cap)) (hm : d.m = 1) :
    Calls Tryd.prog 77 #[.pointer (some ⟨A, 0, none⟩)] w fun e w' => e = .returned (.tuple #[]) ∧ Dm w' A s mB { d with m := 0 } (.slice (some ⟨g, 0, none⟩) 0 cap) ∧ Below A w w' := by
  obtain ⟨k0, k1, k2, k3, kf, hg, hgz⟩ := hD.st hm (q := 0) (by omega)
  have HD := hideP hD
  have hA := hD.lt
  clear hD
  go_enter Tryd.func77, Tryd.ntmps77
  go_wp2_with fail
  refine (top_any A s mB d g cap 0 _ HD.out hm (by omega)).mono ?_
  rintro e w1 ⟨rfl, rfl⟩
  have c1 := HD.out.c1
  have fz := HD.out.I.2.1
  go_wp2
  obtain ⟨ww, hww⟩ : ∃ ww, ww = w.alloc (.cells #[.int .i64 (d.kn 0 : Int), .int .i64 (d.fr 0 : Int), .int .i64 (d.nx 0 : Int), .int .i64 (d.le 0 : Int)] 101) := ⟨_, rfl⟩
  have DW : Hid (Dm ww A s mB d (.slice (some ⟨g, 0, none⟩) 1 cap)) := by rw [hww]; exact HD.out.alloc _
  have BW : Hid (Below A w ww) := by rw [hww]; exact (Below.refl _ _).alloc (Nat.le_of_lt hA) _
  rw [← hww]
  clear hww c1 fz HD k0 k1 k2 k3 kf
  have c1 := DW.out.c1
  have fz := DW.out.I.2.1
  have hA := DW.out.lt
  have D2 := hideP (DW.out.pop (n := 0) hm)
  go_region
  go_wp2
  refine bodyPost_ret (v := .tuple #[]) (results_none rfl _ _ _) rfl ⟨rfl, D2.out.drew.drew, (BW.out.setCell (p := ⟨A, 1, none⟩) (Nat.le_refl _) _).drew.drew⟩

set_option maxHeartbeats 800000 in
theorem leave_more (A s mB : Nat) (d : Dv) (g cap i : Nat) (w : World) (hD : Dm w A s mB d (.slice (some ⟨g, 0, none⟩) (i + 2) cap)) (hm : d.m = i + 2) (hi : i ≤ 7) (hmB : mB < 2 ^ 64) (hk : d.kn (i + 1) < 8) :
    Calls Tryd.prog 77 #[.pointer (some ⟨A, 0, none⟩)] w fun e w' => e = .returned (.tuple #[]) ∧ (∃ mB', (mB' = if d.le (i + 1) = d.tu (d.kn (i + 1)) then mB ||| pbit (d.fr (i + 1) : Int) (d.kn (i + 1) : Int) else mB) ∧ Dm w' A s mB' (d.leave i) (.slice (some ⟨g, 0, none⟩) (i + 1) cap)) ∧ Below A w w' := by
  obtain ⟨k0, k1, k2, k3, kf, hg, hgz⟩ := hD.st hm (q := i + 1) (by omega)
  have HD := hideP hD
  have hA := hD.lt
  have HE : Hid (d.leave i = { d with m := i + 1, le := upd d.le i (min (d.le i) (d.le (i + 1))), br := (d.leave i).br }) := rfl
  have hcap : i + 2 ≤ cap := by
    have ho := hD.own
    rw [hm] at ho
    rcases ho.2 with ⟨h', _⟩ | ⟨g', cap', cur, h', _, _, hnc, _⟩
    · simp at h'
    · simp only [Value.slice.injEq, true_and] at h'; obtain ⟨_, rfl⟩ := h'; exact hnc
  clear hD
  obtain ⟨dl, hdl⟩ : ∃ x, x = d.leave i := ⟨_, rfl⟩
  rw [← hdl] at HE ⊢
  obtain ⟨kk, hkk⟩ : ∃ x, x = d.kn (i + 1) := ⟨_, rfl⟩
  obtain ⟨ff, hff⟩ : ∃ x, x = d.fr (i + 1) := ⟨_, rfl⟩
  obtain ⟨ll, hll⟩ : ∃ x, x = d.le (i + 1) := ⟨_, rfl⟩
  obtain ⟨nn, hnn⟩ : ∃ x, x = d.nx (i + 1) := ⟨_, rfl⟩
  obtain ⟨tt, htt⟩ : ∃ x, x = d.tu kk := ⟨_, rfl⟩
  rw [← hkk] at k0 hk ⊢
  rw [← hff] at k1 ⊢
  rw [← hll] at k3 HE ⊢
  rw [← hnn] at k2
  rw [← htt]
  have HTT := hideP htt
  clear hkk hff hll hnn hdl htt
  go_enter Tryd.func77, Tryd.ntmps77
  go_wp2_with fail
  refine (top_any A s mB d g cap (i + 1) _ HD.out hm (by omega)).mono ?_
  rintro e w1 ⟨rfl, rfl⟩
  go_wp2
  obtain ⟨ww, hww⟩ : ∃ ww, ww = w.alloc (.cells #[.int .i64 (kk : Int), .int .i64 (ff : Int), .int .i64 (nn : Int), .int .i64 (ll : Int)] 101) := ⟨_, rfl⟩
  have DW : Hid (Dm ww A s mB d (.slice (some ⟨g, 0, none⟩) (i + 2) cap)) := by rw [hww]; exact HD.out.alloc _
  have BW : Hid (Below A w ww) := by rw [hww]; exact (Below.refl _ _).alloc (Nat.le_of_lt hA) _
  have l0 : ww.cell? ⟨w.heap.size, 0, none⟩ = some (.int .i64 (kk : Int)) := by rw [hww]; simp
  have l1 : ww.cell? ⟨w.heap.size, 1, none⟩ = some (.int .i64 (ff : Int)) := by rw [hww]; simp
  have l3 : ww.cell? ⟨w.heap.size, 3, none⟩ = some (.int .i64 (ll : Int)) := by rw [hww]; simp
  rw [← hww]
  obtain ⟨L, hL⟩ : ∃ L, L = w.heap.size := ⟨_, rfl⟩
  rw [← hL] at l0 l1 l3 hA hgz ⊢
  clear hww HD k0 k1 k2 k3 kf hL
  have c1 := DW.out.c1
  have fz := DW.out.I.2.1
  have D2 := hideP (DW.out.pop (n := i + 1) hm)
  have hcap' : (i : Int) + 1 ≤ (cap : Int) := by omega
  have hne : ((i : Int) + 1 == 0) = false := by simp; omega
  go_region
  go_wp2
  obtain ⟨w2, hw2⟩ : ∃ w2, w2 = ww.setCell ⟨A, 1, none⟩ (.slice (some ⟨g, 0, none⟩) (i + 1) cap) := ⟨_, rfl⟩
  have r0 : w2.cell? ⟨L, 0, none⟩ = some (.int .i64 (kk : Int)) := by rw [hw2, World.cell?_setCell_other _ _ _ _ (by intro e; simp at e)]; exact l0
  have r1 : w2.cell? ⟨L, 1, none⟩ = some (.int .i64 (ff : Int)) := by rw [hw2, World.cell?_setCell_other _ _ _ _ (by intro e; simp at e)]; exact l1
  have r3 : w2.cell? ⟨L, 3, none⟩ = some (.int .i64 (ll : Int)) := by rw [hw2, World.cell?_setCell_other _ _ _ _ (by intro e; simp at e)]; exact l3
  have B2 : Hid (Below A w w2) := by rw [hw2]; exact BW.out.setCell (p := ⟨A, 1, none⟩) (Nat.le_refl _) _
  rw [← hw2] at D2 ⊢
  clear hw2 c1 fz l0 l1 l3 DW BW hne
  have ct : w2.cell? ⟨A, 2 + kk, none⟩ = some (.int .i64 (tt : Int)) := by rw [HTT.out]; exact D2.out.ct hk
  have cb := D2.out.cb
  have fz := D2.out.I.2.1
  by_cases hlt : ll = tt
  · subst hlt
    have HP := hideP (D2.out.bits (mB ||| pbit (ff : Int) (kk : Int)))
    have HBP : Hid (Below A w (w2.setCell ⟨A, 11, none⟩ (.int .u64 ((mB ||| pbit (ff : Int) (kk : Int) : Nat) : Int)))) := B2.out.setCell (p := ⟨A, 11, none⟩) (Nat.le_refl _) _
    go_region
    go_wp2
    apply wp_once
    case h =>
      go_region_with (go_at_call 57; refine (with_any mB (ff : Int) (kk : Int) _ hmB).mono ?_; rintro e wq ⟨rfl, rfl⟩)
      all_goals exact ⟨rfl, rfl⟩
    obtain ⟨mX, hmX⟩ : ∃ m, m = mB ||| pbit (ff : Int) (kk : Int) := ⟨_, rfl⟩
    have HL : Hid (mX = mB ||| pbit (ff : Int) (kk : Int)) := hmX
    rw [← hmX] at HP HBP
    obtain ⟨w3, hw3⟩ : ∃ w3, w3 = w2.setCell ⟨A, 11, none⟩ (.int .u64 (mX : Int)) := ⟨_, rfl⟩
    have r3' : w3.cell? ⟨L, 3, none⟩ = some (.int .i64 (ll : Int)) := by rw [hw3, World.cell?_setCell_other _ _ _ _ (by intro e; simp at e)]; exact r3
    rw [← hw3] at HP HBP
    rw [← hmX, ← hw3]
    obtain ⟨_, _, _, s3, sf, _, _⟩ := HP.out.st (n := i + 1) rfl (q := i) (Nat.lt_succ_self i)
    have s3' : w3.cell? ⟨g, i * 4 + 3, none⟩ = some (.int .i64 (d.le i : Int)) := s3
    clear s3 hw3 hmX r0 r1 r3 cb ct fz D2 B2
    have HMIN : Hid ((if ll < d.le i then (ll : Int) else (d.le i : Int)) = ((min (d.le i) ll : Nat) : Int)) := by show (if ll < d.le i then (ll : Int) else (d.le i : Int)) = _; split <;> omega
    have DF : Hid (Dm (w3.setCell ⟨g, i * 4 + 3, none⟩ (.int .i64 ((min (d.le i) ll : Nat) : Int))) A s mX dl (.slice (some ⟨g, 0, none⟩) (i + 1) cap)) := by
      have h1 := HP.out.least (i := i) rfl hg (min (d.le i) ll)
      rw [HE.out]; exact ⟨h1.I, h1.own⟩
    have BF : Hid (Below A w (w3.setCell ⟨g, i * 4 + 3, none⟩ (.int .i64 ((min (d.le i) ll : Nat) : Int)))) := HBP.out.setCell (p := ⟨g, i * 4 + 3, none⟩) (by show A ≤ g; omega) _
    go_wp2
    go_region_law (go_simp; go_at_call 76; refine (top_any A s mX _ g cap i _ (by repeat (first | exact HP.out | apply Dm.drew)) rfl (by omega)).mono ?_; rintro e wq ⟨rfl, rfl⟩)
    all_goals
      rw [HMIN.out]
      refine bodyPost_end (v := .tuple #[]) (results_none rfl _ _ _) rfl ⟨rfl, ⟨mX, HL.out.trans (if_pos rfl).symm, ?_⟩, ?_⟩
      · repeat (first | exact DF.out | apply Dm.drew)
      · repeat (first | exact BF.out | apply Below.drew)
  · have hne : ((ll : Int) == (tt : Int)) = false := by simp; omega
    have HL : Hid (mB = if ll = tt then mB ||| pbit (ff : Int) (kk : Int) else mB) := (if_neg hlt).symm
    obtain ⟨_, _, _, s3, sf, _, _⟩ := D2.out.st (n := i + 1) rfl (q := i) (Nat.lt_succ_self i)
    have s3' : w2.cell? ⟨g, i * 4 + 3, none⟩ = some (.int .i64 (d.le i : Int)) := s3
    clear s3
    go_region
    go_wp2
    clear hne ct cb hlt
    have HMIN : Hid ((if ll < d.le i then (ll : Int) else (d.le i : Int)) = ((min (d.le i) ll : Nat) : Int)) := by show (if ll < d.le i then (ll : Int) else (d.le i : Int)) = _; split <;> omega
    have DF : Hid (Dm (w2.setCell ⟨g, i * 4 + 3, none⟩ (.int .i64 ((min (d.le i) ll : Nat) : Int))) A s mB dl (.slice (some ⟨g, 0, none⟩) (i + 1) cap)) := by
      have h1 := D2.out.least (i := i) rfl hg (min (d.le i) ll)
      rw [HE.out]; exact ⟨h1.I, h1.own⟩
    have BF : Hid (Below A w (w2.setCell ⟨g, i * 4 + 3, none⟩ (.int .i64 ((min (d.le i) ll : Nat) : Int)))) := B2.out.setCell (p := ⟨g, i * 4 + 3, none⟩) (by show A ≤ g; omega) _
    go_region_law (go_simp; go_at_call 76; refine (top_any A s mB _ g cap i _ (by repeat (first | exact D2.out | apply Dm.drew)) rfl (by omega)).mono ?_; rintro e wq ⟨rfl, rfl⟩)
    all_goals
      rw [HMIN.out]
      refine bodyPost_end (v := .tuple #[]) (results_none rfl _ _ _) rfl ⟨rfl, ⟨mB, HL.out, ?_⟩, ?_⟩
      · repeat (first | exact DF.out | apply Dm.drew)
      · repeat (first | exact BF.out | apply Below.drew)

end Go.Proofs.YtadcfinjmialnaaDoor
