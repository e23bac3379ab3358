/- Texts put together: WHang, WParents, WClimb, WIndex, WUpDown. -/
import Derived.Test.YtiaeffpjcinilaaDoorPartMathX
import Derived.Test.YtiaeffpjcinilaaDoorPartWForest
import Derived.Test.YtiaeffpjcinilaaDoorPartWWayOk2
import Derived.Test.YtiaeffpjcinilaaDoorPartWTell
import Derived.Deep.RegionHeld3
import Derived.Test.YtiaeffpjcinilaaDoorPartWInts
/- Walk of impl.parents.hang: of each knot below the one above is told. -/
namespace Go.Proofs.YtiaeffpjcinilaaDoor
open Go.RowKit
set_option linter.unusedVariables false

def updN (f : Nat → Nat) (i v : Nat) : Nat → Nat := fun j => if j = i then v else f j
theorem updN_at (f : Nat → Nat) (i v : Nat) : updN f i v i = v := by simp [updN]
theorem updN_no (f : Nat → Nat) {i j : Nat} (v : Nat) (h : j ≠ i) : updN f i v j = f j := by simp [updN, h]
theorem turned_on {lo hi : Nat} {a b c : World} (h : Turned lo hi a b) (k : Turned lo hi b c) : Turned lo hi a c :=
  ⟨k.os.trans h.os, k.tape.trans h.tape, k.output.trans h.output, Nat.le_trans h.size k.size, fun i hi ho => (k.block i (Nat.lt_of_lt_of_le hi h.size) ho).trans (h.block i hi ho)⟩
theorem turned_at (A : Nat) (W : World) (j : Nat) (u : Value) : Turned A (A + 1) W (W.setCell ⟨A, j, none⟩ u) :=
  ⟨rfl, rfl, rfl, by simp, fun k hk ho => Below.heap_setCell _ _ _ _ (by show k ≠ A; omega)⟩
/-- the knots above in memory, while one hangs what is below k -/
def Hp (us : List (Int × Int)) (A : Nat) (f : Nat → Nat) (k : Nat) (w : World) (j : Nat) (wr : World) : Prop := ∃ f', OwnI wr A 8 (pcellN f') ∧ Turned A (A + 1) w wr ∧ (∀ v, f' v = f v ∨ f' v = parN 8 us v) ∧ Hung 8 us 8 f' k j
theorem has_hv (v : Bool) (p : Nat) (a b : Int) (w : World) (hp : p < 2 ^ 64) (h : decide (p &&& pbit a b ≠ 0) = v) :
    Calls Tryd.prog 65 #[.int .u64 (p : Int), .int .i64 a, .int .i64 b] w fun e w' => e = .returned (.bool v) ∧ w' = w := by
  rw [← h]; exact has_any p a b w hp
set_option maxHeartbeats 1600000 in
theorem hang_any (us : List (Int × Int)) (t : Trn 8 us 8) (s A : Nat) (hs : s < 2 ^ 64) (hE : ∀ x y : Nat, decide (s &&& pbit (x : Int) (y : Int) ≠ 0) = tieNB us x y) :
    ∀ (n k : Nat) (f : Nat → Nat) (w : World), k < 8 → 8 ≤ depN 8 us k + n → OwnI w A 8 (pcellN f) → (∀ v, f v = v ∨ f v = parN 8 us v) → f k = parN 8 us k →
      Calls Tryd.prog 83 #[.pointer (some ⟨A, 0, none⟩), .int .u64 (s : Int), .int .i64 (k : Int)] w fun e w' => e = .returned (.tuple #[]) ∧ Hp us A f k w 8 w' := by
  intro n
  induction n with
  | zero => intro k f w hk hd; have := dep_lt t hk; omega
  | succ n ih =>
    intro k f w hk hd hF hid hfk
    have HIH := hideP ih
    have HT := hideP t
    have HE := hideP hE
    have HID := hideP hid
    have HFK := hideP hfk
    have S0 : Hid (Hp us A f k w 0 w) := ⟨f, hF, Turned.refl _ _ _, fun v => Or.inl rfl, fun c hc => by omega⟩
    clear ih t hE hid hfk hF
    go_enter Tryd.func83, Tryd.ntmps83
    go_wp2
    go_loopw [7] (fun i wr => ∃ j : Nat, j ≤ 8 ∧ i = .int .i64 j ∧ Hp us A f k w j wr)
      (fun i _ => 8 - (intOf i).toNat)
    case atStart => exact ⟨0, Nat.zero_le _, rfl, S0.out⟩
    case round =>
      clear S0
      obtain ⟨j, hj, rfl, f', hF, ht, hor, hH⟩ := hrel
      by_cases hlt : j < 8
      · have hj8 : (j : Int) < 8 := by omega
        have hj0 : (0 : Int) ≤ (j : Int) := by omega
        have hk9 : (k : Int) < 8 := by omega
        have hk0 : (0 : Int) ≤ (k : Int) := by omega
        have hfk : f' k = parN 8 us k := by
          rcases hor k with e | e
          · rw [e]; exact HFK.out
          · exact e
        have ck : wr.cell? ⟨A, k, none⟩ = some (.int .i64 ((parN 8 us k : Nat) : Int)) := by
          rw [hF.1 k hk]; unfold pcellN; rw [hfk]
        have cj := hF.1 j hlt
        have fz := hF.2.1
        have SKIP : Hid (¬ Kid 8 us 8 k j → Hp us A f k w (j + 1) wr) := fun hn => ⟨f', hF, ht, hor, hH.step (fun h => absurd h hn)⟩
        have GO : Hid (Kid 8 us 8 k j → ∀ w2, Hp us A (updN f' j k) j (wr.setCell ⟨A, j, none⟩ (.int .i64 (k : Int))) 8 w2 → Hp us A f k w (j + 1) w2) := fun hkid w2 h2 => by
          obtain ⟨g, g1, g2, g3, g4⟩ := h2
          have hpj : updN f' j k j = parN 8 us j := by rw [updN_at]; exact hkid.2.2.symm
          have hg : ∀ v, g v = f' v ∨ g v = parN 8 us v := fun v => by
            rcases g3 v with e | e
            · by_cases ev : v = j
              · subst ev; right; rw [e]; exact hpj
              · left; rw [e, updN_no _ _ ev]
            · exact Or.inr e
          have hgj : g j = parN 8 us j := by
            rcases g3 j with e | e
            · rw [e]; exact hpj
            · exact e
          refine ⟨g, g1, turned_on ht (turned_on (turned_at A wr j (.int .i64 (k : Int))) g2), fun v => ?_, (hH.keep hg).step (fun _ => ⟨hgj, fun v hv hm hne => g4.all HT.out hv hm hne⟩)⟩
          rcases hg v with e | e
          · rcases hor v with q | q
            · exact Or.inl (e.trans q)
            · exact Or.inr (e.trans q)
          · exact Or.inr e
        have PRE : Hid (Kid 8 us 8 k j → Calls Tryd.prog 83 #[.pointer (some ⟨A, 0, none⟩), .int .u64 (s : Int), .int .i64 (j : Int)] (wr.setCell ⟨A, j, none⟩ (.int .i64 (k : Int))) fun e w' => e = .returned (.tuple #[]) ∧ Hp us A (updN f' j k) j (wr.setCell ⟨A, j, none⟩ (.int .i64 (k : Int))) 8 w') := fun hkid => by
          have hd' : depN 8 us j = depN 8 us k + 1 := by
            have := (HT.out.up hkid.1 hkid.2.1).2.2.2.1
            rw [hkid.2.2] at this; exact this
          refine HIH.out j (updN f' j k) _ hlt (by omega) ?_ (fun v => ?_) (by rw [updN_at]; exact hkid.2.2.symm)
          · refine (hF.set hlt (.int .i64 (k : Int))).congr (fun q hq => ?_)
            by_cases e : q = j
            · subst e; rw [if_pos rfl]; unfold pcellN; rw [updN_at]
            · rw [if_neg e]; unfold pcellN; rw [updN_no _ _ e]
          · by_cases ev : v = j
            · subst ev; right; rw [updN_at]; exact hkid.2.2.symm
            · rw [updN_no _ _ ev]
              rcases hor v with q | q
              · rcases HID.out v with r | r
                · exact Or.inl (q.trans r)
                · exact Or.inr (q.trans r)
              · exact Or.inr q
        have HK := hideP (HT.out.kid (c := j) hk)
        clear hF ht hor hH hfk
        cases hb : tieNB us k j with
        | false =>
          have HV : Hid (decide (s &&& pbit (k : Int) (j : Int) ≠ 0) = false) := by rw [HE.out, hb]; exact hideP rfl
          have F := hideP (SKIP.out (fun h => by have := HK.out.2 h; rw [hb] at this; cases this.1))
          clear SKIP GO PRE HK hb
          go_wp2_with fail
          refine (has_hv false s (k : Int) (j : Int) _ hs HV.out).mono ?_
          rintro e w1 ⟨rfl, rfl⟩
          go_wp2
          exact ⟨⟨j + 1, by omega, by go_num, F.out⟩, by simp [intOf]; omega⟩
        | true =>
          have HV : Hid (decide (s &&& pbit (k : Int) (j : Int) ≠ 0) = true) := by rw [HE.out, hb]; exact hideP rfl
          by_cases hp : j = parN 8 us k
          · have F := hideP (SKIP.out (fun h => (HK.out.2 h).2 hp))
            rw [← hp] at ck
            clear SKIP GO PRE HK hb hp
            go_wp2_with fail
            refine (has_hv true s (k : Int) (j : Int) _ hs HV.out).mono ?_
            rintro e w1 ⟨rfl, rfl⟩
            go_wp2
            exact ⟨⟨j + 1, by omega, by go_num, F.out⟩, by simp [intOf]; omega⟩
          · have hne : ((j : Int) != ((parN 8 us k : Nat) : Int)) = true := by rw [bne_iff_ne]; omega
            have hkid := HK.out.1 ⟨hb, hp⟩
            have F := hideP (GO.out hkid)
            have CL := hideP (PRE.out hkid)
            obtain ⟨pk, hpk⟩ : ∃ pk, pk = parN 8 us k := ⟨_, rfl⟩
            rw [← hpk] at ck hne
            clear SKIP GO PRE HK hb hp hkid hpk
            go_wp2_with fail
            refine (has_hv true s (k : Int) (j : Int) _ hs HV.out).mono ?_
            rintro e w1 ⟨rfl, rfl⟩
            go_wp2_with fail
            refine CL.out.mono ?_
            rintro e w2 ⟨rfl, h2⟩
            have FF := hideP (F.out w2 h2)
            clear F CL h2 ck cj fz
            go_wp2
            exact ⟨⟨j + 1, by omega, by go_num, FF.out⟩, by simp [intOf]; omega⟩
      · obtain rfl : j = 8 := by omega
        have F : Hid (Hp us A f k w 8 wr) := ⟨f', hF, ht, hor, hH⟩
        clear hF ht hor hH
        go_wp2
        exact bodyPost_end (v := .tuple #[]) (results_none rfl _ _ _) rfl ⟨rfl, F.out⟩

end Go.Proofs.YtiaeffpjcinilaaDoor

/- Walk of impl.parentsOf: of each knot of a tree the one above. -/
namespace Go.Proofs.YtiaeffpjcinilaaDoor
open Go.RowKit
set_option linter.unusedVariables false

/-- what stands while parents are told: the answer's block, the forest's, and their own -/
structure Pst (us : List (Int × Int)) (w wr : World) (A U k : Nat) : Prop where
  R : OwnI wr w.heap.size 8 zcell
  F : OwnI wr A 8 (pcellN (forest us us.length))
  B : Below w.heap.size w wr
  h : w.heap.size < A
  u : A < U
  g : ∃ g, OwnI wr U 8 (pcellN g) ∧ (∀ v, g v = v ∨ g v = parN 8 us v) ∧ ∀ v, v < 8 → topN us v < k → g v = parN 8 us v
theorem Pst.skip {us : List (Int × Int)} {w wr : World} {A U k : Nat} (h : Pst us w wr A U k) (hk : topN us k ≠ k) : Pst us w wr A U (k + 1) := by
  obtain ⟨g, g1, g2, g3⟩ := h.g
  refine ⟨h.R, h.F, h.B, h.h, h.u, g, g1, g2, fun v hv ht => g3 v hv ?_⟩
  have : topN us v ≠ k := fun e => hk (by rw [← e]; exact topN_top us v)
  omega
theorem Pst.start {us : List (Int × Int)} {w w2 : World} {A : Nat} (h : Fst w w2 A (pcellN (forest us us.length))) (hA : A < w2.heap.size) (t' : TypeId) : Pst us w (w2.alloc (.cells #[.int .i64 0, .int .i64 1, .int .i64 2, .int .i64 3, .int .i64 4, .int .i64 5, .int .i64 6, .int .i64 7] t')) A w2.heap.size 0 := by
  have h3 := h.next (below_one w2 (.cells #[.int .i64 0, .int .i64 1, .int .i64 2, .int .i64 3, .int .i64 4, .int .i64 5, .int .i64 6, .int .i64 7] t'))
  exact ⟨h3.R, h3.F, h3.B, h.h, hA, fun k => k, forest_own w2 (fun k => k) t', fun v => Or.inl rfl, fun v _ h => by omega⟩
theorem last_mem {q : List Nat} (h : 0 < q.length) : lastN q ∈ q := by
  rw [lastN_at h, List.getD_eq_getElem?_getD, List.getElem?_eq_getElem (by omega)]
  exact List.getElem_mem _
theorem Pst.hung {us : List (Int × Int)} (t : Trn 8 us 8) {w wr w' : World} {F U k : Nat} (h : Pst us w wr F U k) (hk : k < 8) {g : Nat → Nat} (hg2 : ∀ v, g v = v ∨ g v = parN 8 us v) (hg3 : ∀ v, v < 8 → topN us v < k → g v = parN 8 us v) (hp : Hp us U g k wr 8 w') : Pst us w w' F U (k + 1) := by
  obtain ⟨g', p1, p2, p3, p4⟩ := hp
  have hu := h.u
  have hh := h.h
  refine ⟨h.R.turn p2 (Or.inl (by omega)), h.F.turn p2 (Or.inl hu), h.B.trans (p2.under (by omega) h.B.size), hh, hu, g', p1, fun v => ?_, fun v hv ht => ?_⟩
  · rcases p3 v with e | e
    · rcases hg2 v with q | q
      · exact Or.inl (e.trans q)
      · exact Or.inr (e.trans q)
    · exact Or.inr e
  · by_cases e : topN us v = k
    · by_cases ev : v = k
      · subst ev
        have hr := (t.root hv e).1
        rcases p3 v with q | q
        · rcases hg2 v with r | r
          · rw [q, r, hr]
          · rw [q, r]
        · exact q
      · refine p4.all t hv ?_ ev
        have R := t.rt hv
        rw [← e, ← R.lst]; exact last_mem R.pos
    · rcases p3 v with q | q
      · rw [q]; exact hg3 v hv (by omega)
      · exact q
set_option maxHeartbeats 1600000 in
theorem parentsOf_any (K : Int) (us : List (Int × Int)) (w : World) (hT : Tab w) (hok : okB K us = true) (t : Trn 8 us 8) :
    Calls Tryd.prog 54 #[.int .u64 ((setN K us : Nat) : Int)] w fun e w' => e = .returned (forestV (parN 8 us)) ∧ Below w.heap.size w w' := by
  have HTab := hideP hT
  have HT := hideP t
  have HE : Hid (∀ x y : Nat, decide (setN K us &&& pbit (x : Int) (y : Int) ≠ 0) = tieNB us x y) := fun x y => by rw [has_set K us _ _ hok, hasB_ok hok]; rfl
  have HS := hideP (setN_lt K us)
  have HB := hideP (set_bits hok)
  obtain ⟨h0, h8, hg⟩ := okB_iff.1 hok
  have HG := hideP hg
  have HSH := hideP (ok_short (okB_iff.1 hok))
  obtain ⟨s, hs⟩ : ∃ s, s = setN K us := ⟨_, rfl⟩
  rw [← hs] at HE HS HB ⊢
  clear hT t hs hok hg
  go_enter Tryd.func54, Tryd.ntmps54
  go_wp2_with fail
  refine (forestOf_any K us s _ (HTab.out.below (below_one _ _) HTab.out.2) h8 HG.out HSH.out HB.out HS.out).mono ?_
  rintro e w1 ⟨rfl, hb1⟩
  have S1 := fun t' => hideP (Fst.laid w w1 (forest us us.length) _ t' hb1)
  have hA : w.heap.size < w1.heap.size := by have := hb1.size; simp at this; omega
  unfold forestV
  clear hb1 HTab
  go_wp2_with fail
  refine (alone_any _).mono ?_
  rintro e w2 ⟨rfl, hb2⟩
  have S2 := hideP ((S1 _).out.next hb2)
  have hU : w1.heap.size < w2.heap.size := by have := hb2.size; simp at this; omega
  have ST := fun t' => hideP (Pst.start S2.out hU t')
  unfold forestV
  clear S1 hb2 S2
  obtain ⟨A, hAe⟩ : ∃ A, A = w1.heap.size := ⟨_, rfl⟩
  obtain ⟨U, hUe⟩ : ∃ U, U = w2.heap.size := ⟨_, rfl⟩
  rw [← hAe] at ST hA hU
  rw [← hUe] at ST hU
  go_wp2
  rw [← hUe, ← hAe]
  clear hUe hAe
  go_loopw [9] (fun i wr => ∃ k : Nat, k ≤ 8 ∧ i = .int .i64 k ∧ Pst us w wr A U k)
    (fun i _ => 8 - (intOf i).toNat)
  case atStart => exact ⟨0, Nat.zero_le _, rfl, (ST _).out⟩
  case round =>
    clear ST
    obtain ⟨k, hk, rfl, hS⟩ := hrel
    by_cases hlt : k < 8
    · have hk8 : (k : Int) < 8 := by omega
      have HSP := hideP hS
      by_cases hr : topN us k = k
      · have hr' : top (forest us us.length) k = k := hr
        obtain ⟨g, g1, g2, g3⟩ := hS.g
        have hgk : g k = parN 8 us k := by
          have := (HT.out.root hlt hr).1
          rcases g2 k with e | e
          · rw [e, this]
          · exact e
        have CL := hideP (hang_any us HT.out s U HS.out HE.out 8 k g wr hlt (by omega) g1 g2 hgk)
        have NX : Hid (∀ w', Hp us U g k wr 8 w' → Pst us w w' A U (k + 1)) := fun w' h => hS.hung HT.out hlt g2 g3 h
        clear hS g1 g2 g3 hgk
        go_wp2_with fail
        refine (least_any A (forest us us.length) k _ HSP.out.F (forest_low us _) hlt).mono ?_
        rintro e w3 ⟨rfl, rfl⟩
        rw [hr']
        clear hr hr'
        go_wp2_with fail
        refine CL.out.mono ?_
        rintro e w4 ⟨rfl, h4⟩
        have F := hideP (NX.out w4 h4)
        clear h4 CL NX HSP
        go_wp2
        exact ⟨⟨k + 1, by omega, by go_num, F.out⟩, by simp [intOf]; omega⟩
      · have hne : (((top (forest us us.length) k : Nat) : Int) == (k : Int)) = false := by
          rw [beq_eq_false_iff_ne]
          have : top (forest us us.length) k ≠ k := hr
          omega
        have F := hideP (hS.skip hr)
        clear hS
        go_wp2_with fail
        refine (least_any A (forest us us.length) k _ HSP.out.F (forest_low us _) hlt).mono ?_
        rintro e w3 ⟨rfl, rfl⟩
        go_wp2
        exact ⟨⟨k + 1, by omega, by go_num, F.out⟩, by simp [intOf]; omega⟩
    · obtain rfl : k = 8 := by omega
      obtain ⟨g, g1, g2, g3⟩ := hS.g
      have HB9 := hideP hS.B
      have d0 : wr.cell? ⟨U, 0, none⟩ = some (.int .i64 ((parN 8 us 0 : Nat) : Int)) := by have := g1.1 0 (by omega); rw [this]; unfold pcellN; rw [g3 0 (by omega) (Nat.lt_of_le_of_lt (topN_le us 0) (by omega))]
      have r0 : wr.cell? ⟨w.heap.size, 0, none⟩ = some (.int .i64 0) := hS.R.1 0 (by omega)
      have g0' := hS.R.2.1 0
      have d1 : wr.cell? ⟨U, 1, none⟩ = some (.int .i64 ((parN 8 us 1 : Nat) : Int)) := by have := g1.1 1 (by omega); rw [this]; unfold pcellN; rw [g3 1 (by omega) (Nat.lt_of_le_of_lt (topN_le us 1) (by omega))]
      have r1 : wr.cell? ⟨w.heap.size, 1, none⟩ = some (.int .i64 0) := hS.R.1 1 (by omega)
      have g1' := hS.R.2.1 1
      have d2 : wr.cell? ⟨U, 2, none⟩ = some (.int .i64 ((parN 8 us 2 : Nat) : Int)) := by have := g1.1 2 (by omega); rw [this]; unfold pcellN; rw [g3 2 (by omega) (Nat.lt_of_le_of_lt (topN_le us 2) (by omega))]
      have r2 : wr.cell? ⟨w.heap.size, 2, none⟩ = some (.int .i64 0) := hS.R.1 2 (by omega)
      have g2' := hS.R.2.1 2
      have d3 : wr.cell? ⟨U, 3, none⟩ = some (.int .i64 ((parN 8 us 3 : Nat) : Int)) := by have := g1.1 3 (by omega); rw [this]; unfold pcellN; rw [g3 3 (by omega) (Nat.lt_of_le_of_lt (topN_le us 3) (by omega))]
      have r3 : wr.cell? ⟨w.heap.size, 3, none⟩ = some (.int .i64 0) := hS.R.1 3 (by omega)
      have g3' := hS.R.2.1 3
      have d4 : wr.cell? ⟨U, 4, none⟩ = some (.int .i64 ((parN 8 us 4 : Nat) : Int)) := by have := g1.1 4 (by omega); rw [this]; unfold pcellN; rw [g3 4 (by omega) (Nat.lt_of_le_of_lt (topN_le us 4) (by omega))]
      have r4 : wr.cell? ⟨w.heap.size, 4, none⟩ = some (.int .i64 0) := hS.R.1 4 (by omega)
      have g4' := hS.R.2.1 4
      have d5 : wr.cell? ⟨U, 5, none⟩ = some (.int .i64 ((parN 8 us 5 : Nat) : Int)) := by have := g1.1 5 (by omega); rw [this]; unfold pcellN; rw [g3 5 (by omega) (Nat.lt_of_le_of_lt (topN_le us 5) (by omega))]
      have r5 : wr.cell? ⟨w.heap.size, 5, none⟩ = some (.int .i64 0) := hS.R.1 5 (by omega)
      have g5' := hS.R.2.1 5
      have d6 : wr.cell? ⟨U, 6, none⟩ = some (.int .i64 ((parN 8 us 6 : Nat) : Int)) := by have := g1.1 6 (by omega); rw [this]; unfold pcellN; rw [g3 6 (by omega) (Nat.lt_of_le_of_lt (topN_le us 6) (by omega))]
      have r6 : wr.cell? ⟨w.heap.size, 6, none⟩ = some (.int .i64 0) := hS.R.1 6 (by omega)
      have g6' := hS.R.2.1 6
      have d7 : wr.cell? ⟨U, 7, none⟩ = some (.int .i64 ((parN 8 us 7 : Nat) : Int)) := by have := g1.1 7 (by omega); rw [this]; unfold pcellN; rw [g3 7 (by omega) (Nat.lt_of_le_of_lt (topN_le us 7) (by omega))]
      have r7 : wr.cell? ⟨w.heap.size, 7, none⟩ = some (.int .i64 0) := hS.R.1 7 (by omega)
      have g7' := hS.R.2.1 7
      obtain ⟨f, hf⟩ : ∃ f, f = parN 8 us := ⟨_, rfl⟩
      have HV : Hid (forestV (parN 8 us) = .agg #[.int .i64 ((f 0 : Nat) : Int), .int .i64 ((f 1 : Nat) : Int), .int .i64 ((f 2 : Nat) : Int), .int .i64 ((f 3 : Nat) : Int), .int .i64 ((f 4 : Nat) : Int), .int .i64 ((f 5 : Nat) : Int), .int .i64 ((f 6 : Nat) : Int), .int .i64 ((f 7 : Nat) : Int)]) := by rw [hf]; exact hideP rfl
      rw [← hf] at d0 d1 d2 d3 d4 d5 d6 d7
      clear hf hS g1 g2 g3 HE HS HT HG HB HSH
      go_wp2
      refine bodyPost_ret (v := .agg #[.int .i64 ((f 0 : Nat) : Int), .int .i64 ((f 1 : Nat) : Int), .int .i64 ((f 2 : Nat) : Int), .int .i64 ((f 3 : Nat) : Int), .int .i64 ((f 4 : Nat) : Int), .int .i64 ((f 5 : Nat) : Int), .int .i64 ((f 6 : Nat) : Int), .int .i64 ((f 7 : Nat) : Int)]) ?_ rfl ⟨by rw [HV.out], ?_⟩
      · simp [results, Tryd.results54, go_sem, r0, r1, r2, r3, r4, r5, r6, r7]
      · exact ((((((((HB9.out.setCell (p := ⟨w.heap.size, 0, none⟩) (Nat.le_refl _) _).setCell (p := ⟨w.heap.size, 1, none⟩) (Nat.le_refl _) _).setCell (p := ⟨w.heap.size, 2, none⟩) (Nat.le_refl _) _).setCell (p := ⟨w.heap.size, 3, none⟩) (Nat.le_refl _) _).setCell (p := ⟨w.heap.size, 4, none⟩) (Nat.le_refl _) _).setCell (p := ⟨w.heap.size, 5, none⟩) (Nat.le_refl _) _).setCell (p := ⟨w.heap.size, 6, none⟩) (Nat.le_refl _) _).setCell (p := ⟨w.heap.size, 7, none⟩) (Nat.le_refl _) _)

end Go.Proofs.YtiaeffpjcinilaaDoor

/- Walk of impl.parents.climb: the way up. -/
namespace Go.Proofs.YtiaeffpjcinilaaDoor
open Go.RowKit
set_option linter.unusedVariables false

theorem Trn.nth {K : Int} {us : List (Int × Int)} {Kn : Nat} (t : Trn K us Kn) {k : Nat} (hk : k < Kn) : ∀ i, i < (rtP K us k).length → (rtP K us k).getD i 0 < Kn ∧ rtP K us ((rtP K us k).getD i 0) = (rtP K us k).drop i := by
  intro i
  induction i with
  | zero => intro _; rw [(t.rt hk).fst]; exact ⟨hk, rfl⟩
  | succ i ih =>
    intro hi
    obtain ⟨h1, h2⟩ := ih (by omega)
    have hd : (rtP K us k).drop i = (rtP K us k).getD i 0 :: (rtP K us k).getD (i + 1) 0 :: (rtP K us k).drop (i + 2) := by
      rw [List.drop_eq_getElem_cons (by omega), List.drop_eq_getElem_cons hi]
      congr 1
      · rw [List.getD_eq_getElem?_getD, List.getElem?_eq_getElem (by omega)]; rfl
      · congr 1
        rw [List.getD_eq_getElem?_getD, List.getElem?_eq_getElem hi]; rfl
    rw [hd] at h2
    obtain ⟨q1, _, _, q4⟩ := t.step h1 h2
    refine ⟨q1, ?_⟩
    rw [q4, List.drop_eq_getElem_cons hi]
    congr 1
    rw [List.getD_eq_getElem?_getD, List.getElem?_eq_getElem hi]; rfl
theorem Trn.parAt {K : Int} {us : List (Int × Int)} {Kn : Nat} (t : Trn K us Kn) {k : Nat} (hk : k < Kn) {i : Nat} (hi : i < (rtP K us k).length) : (i + 1 < (rtP K us k).length → parN K us ((rtP K us k).getD i 0) = (rtP K us k).getD (i + 1) 0) ∧ (i + 1 = (rtP K us k).length → parN K us ((rtP K us k).getD i 0) = (rtP K us k).getD i 0) := by
  obtain ⟨h1, h2⟩ := t.nth hk i hi
  unfold parN
  rw [h2]
  constructor
  · intro h
    have e : (rtP K us k).getD (i + 1) 0 = (rtP K us k)[i + 1] := by rw [List.getD_eq_getElem?_getD, List.getElem?_eq_getElem h]; rfl
    rw [e, List.getD_eq_getElem?_getD, List.getElem?_drop, List.getElem?_eq_getElem h]; rfl
  · intro h
    rw [List.getD_eq_getElem?_getD, List.getElem?_drop, List.getElem?_eq_none (by omega)]; rfl
theorem take_last {q : List Nat} {i : Nat} (h : i < q.length) : q.take (i + 1) = q.take i ++ [q.getD i 0] := by
  rw [List.take_add_one, List.getElem?_eq_getElem h, List.getD_eq_getElem?_getD, List.getElem?_eq_getElem h]; rfl
/-- what stands while one climbs -/
structure Clm (us : List (Int × Int)) (w wr : World) (A P : Nat) (l : List Nat) : Prop where
  R : OwnI wr w.heap.size 9 (fun _ => .int .i64 0)
  U : OwnI wr A 8 (pcellN (parN 8 us))
  p : OwnI wr P 9 (pcell (cI l))
  B : Below w.heap.size w wr
  h : w.heap.size < P
  a : A < w.heap.size
def postW (Q : Exit → Act → World → Prop) (aa : Act) (J : World → Prop) : Exit → Act → World → Prop
  | .normal, a, w => a = aa ∧ J w
  | e, a, w => Q e a w
theorem wp_weak1 {P : Program} {c : Code} {Q : Exit → Act → World → Prop} {a : Act} {w : World} {aa : Act} (J : World → Prop) (h : c.wp P (postW Q aa J) a w) (hk : ∀ w', J w' → Q .normal aa w') : c.wp P Q a w :=
  Code.wp_mono (fun e a' w' h => by
    cases e with
    | normal => obtain ⟨rfl, hj⟩ := h; exact hk _ hj
    | _ => exact h) h
theorem putPath_other {w : World} {P g n : Nat} {l : List Int} {f : Nat → Value} (h : OwnI w g n f) (hne : P ≠ g) : OwnI (putPath w P l) g n f := by
  unfold putPath
  exact (((((((((h.other (by exact hne) _).other (by exact hne) _).other (by exact hne) _).other (by exact hne) _).other (by exact hne) _).other (by exact hne) _).other (by exact hne) _).other (by exact hne) _).other (by exact hne) _)
theorem Clm.stored {us : List (Int × Int)} {w wr w6 : World} {A P : Nat} {l : List Nat} {y : Nat} {l2 : List Int} (h : Clm us w wr A P l) (hb : Below wr.heap.size wr w6) (hl : l2 = cI (l ++ [y])) : Clm us w (putPath w6 P l2) A P (l ++ [y]) := by
  have hh := h.h
  have ha := h.a
  refine ⟨putPath_other (h.R.below hb h.R.2.2) (by omega), putPath_other (h.U.below hb h.U.2.2) (by omega), by rw [← hl]; exact putPath_own (h.p.below hb h.p.2.2), putPath_below (h.B.trans (hb.mono h.B.size)) (by omega), hh, ha⟩
set_option maxHeartbeats 6400000 in
theorem climb_any (us : List (Int × Int)) (t : Trn 8 us 8) (A k : Nat) (w : World) (hU : OwnI w A 8 (pcellN (parN 8 us))) (hk : k < 8) :
    Calls Tryd.prog 84 #[.pointer (some ⟨A, 0, none⟩), .int .i64 (k : Int)] w fun e w' => e = .returned (pathV (cI (rtP 8 us k))) ∧ Below w.heap.size w w' := by
  have HT := hideP t
  have HU := hideP hU
  clear t hU
  have HL8 : Hid ((rtP 8 us k).length ≤ 8) := by have := dep_lt HT.out hk; unfold depN at this; show (rtP 8 us k).length ≤ 8; omega
  have HP0 := hideP (HT.out.rt hk)
  have HPA : Hid (∀ i, i < (rtP 8 us k).length → (rtP 8 us k).getD i 0 < 8 ∧ (i + 1 < (rtP 8 us k).length → parN 8 us ((rtP 8 us k).getD i 0) = (rtP 8 us k).getD (i + 1) 0 ∧ (rtP 8 us k).getD (i + 1) 0 ≠ (rtP 8 us k).getD i 0) ∧ (i + 1 = (rtP 8 us k).length → parN 8 us ((rtP 8 us k).getD i 0) = (rtP 8 us k).getD i 0)) := fun i hi => ⟨(HT.out.nth hk i hi).1, fun h => ⟨(HT.out.parAt hk hi).1 h, fun e => HP0.out.pw.new i (i + 1) (by omega) h e.symm⟩, (HT.out.parAt hk hi).2⟩
  have H1 : Hid ([k] = (rtP 8 us k).take 1) := by
    have := take_last (q := rtP 8 us k) (i := 0) HP0.out.pos
    rw [this, HP0.out.fst]; exact hideP rfl
  have HP1 := HP0.out.pos
  obtain ⟨q, hq⟩ : ∃ q, q = rtP 8 us k := ⟨_, rfl⟩
  rw [← hq] at HL8 HPA H1 HP1 ⊢
  clear hq HP0
  go_enter Tryd.func84, Tryd.ntmps84
  go_wp2_with fail
  refine (with_path [] (k : Int) _ (by simp)).mono ?_
  rintro e w1 ⟨rfl, hb1⟩
  have hA := HU.out.2.2
  have C1 : ∀ t', Hid (Clm us w (w1.alloc (.cells #[.int .i64 (xi (cI [k]) 0), .int .i64 (xi (cI [k]) 1), .int .i64 (xi (cI [k]) 2), .int .i64 (xi (cI [k]) 3), .int .i64 (xi (cI [k]) 4), .int .i64 (xi (cI [k]) 5), .int .i64 (xi (cI [k]) 6), .int .i64 (xi (cI [k]) 7), .int .i64 ((cI [k]).length : Int)] t')) A w1.heap.size [k]) := fun t' => by
    have hz := hb1.size
    simp at hz
    have z : OwnI (w.alloc (.cells #[.int .i64 0, .int .i64 0, .int .i64 0, .int .i64 0, .int .i64 0, .int .i64 0, .int .i64 0, .int .i64 0, .int .i64 0] 77)) w.heap.size 9 (fun _ => .int .i64 0) := by
      refine ⟨fun j hj => (World.cell?_alloc_at _ _ _ _ rfl).trans ?_, fun j => World.frozen?_alloc_at _ _ _ _ rfl, by simp⟩
      have : j = 0 ∨ j = 1 ∨ j = 2 ∨ j = 3 ∨ j = 4 ∨ j = 5 ∨ j = 6 ∨ j = 7 ∨ j = 8 := by omega
      rcases this with rfl | rfl | rfl | rfl | rfl | rfl | rfl | rfl | rfl <;> rfl
    have u1 := HU.out.below (below_one w (.cells #[.int .i64 0, .int .i64 0, .int .i64 0, .int .i64 0, .int .i64 0, .int .i64 0, .int .i64 0, .int .i64 0, .int .i64 0] 77)) hA
    have o := below_one w1 (.cells #[.int .i64 (xi (cI [k]) 0), .int .i64 (xi (cI [k]) 1), .int .i64 (xi (cI [k]) 2), .int .i64 (xi (cI [k]) 3), .int .i64 (xi (cI [k]) 4), .int .i64 (xi (cI [k]) 5), .int .i64 (xi (cI [k]) 6), .int .i64 (xi (cI [k]) 7), .int .i64 ((cI [k]).length : Int)] t')
    exact ⟨(z.below hb1 (by simp)).below o (by omega), (u1.below hb1 (by simp; omega)).below o (by omega), own_path w1 (cI [k]) t', ((below_one w _).trans (hb1.mono (by simp))).trans (o.mono (by omega)), by omega, hA⟩
  have hP : w.heap.size < w1.heap.size := by have := hb1.size; simp at this; omega
  obtain ⟨P, hPe⟩ : ∃ P, P = w1.heap.size := ⟨_, rfl⟩
  rw [← hPe] at C1 hP
  unfold pathV
  clear hb1
  go_wp2
  rw [← hPe]
  clear hPe
  go_loopg [] (q.length - 1) (fun gk wr => ∃ i, i + 1 + gk = q.length ∧ Clm us w wr A P (q.take (i + 1)))
  case atStart =>
    refine ⟨0, by omega, ?_⟩
    show Clm us w _ A P (q.take 1)
    rw [← H1.out]
    exact (C1 _).out
  case round =>
    clear C1 H1
    obtain ⟨i, hi, hC⟩ := hrel
    obtain ⟨hx8, hnx, hrt⟩ := HPA.out i (by omega)
    obtain ⟨x, hx⟩ : ∃ x, x = q.getD i 0 := ⟨_, rfl⟩
    rw [← hx] at hx8 hnx hrt
    obtain ⟨l, hl⟩ : ∃ l, l = q.take (i + 1) := ⟨_, rfl⟩
    have hll : l.length = i + 1 := by rw [hl, List.length_take]; omega
    have hlast : lastI (cI l) = (x : Int) := by
      rw [cI_last (by omega), hl, take_last (by omega), lastN_snoc, hx]
    rw [← hl] at hC
    obtain ⟨y, hy⟩ : ∃ y, y = parN 8 us x := ⟨_, rfl⟩
    have hx9 : (x : Int) < 8 := by omega
    have hx0 : (0 : Int) ≤ (x : Int) := by omega
    have HELD : Hid (∀ W, Below wr.heap.size wr W → W.cell? ⟨P, 0, none⟩ = some (.int .i64 (xi (cI l) 0)) ∧ W.cell? ⟨P, 1, none⟩ = some (.int .i64 (xi (cI l) 1)) ∧ W.cell? ⟨P, 2, none⟩ = some (.int .i64 (xi (cI l) 2)) ∧ W.cell? ⟨P, 3, none⟩ = some (.int .i64 (xi (cI l) 3)) ∧ W.cell? ⟨P, 4, none⟩ = some (.int .i64 (xi (cI l) 4)) ∧ W.cell? ⟨P, 5, none⟩ = some (.int .i64 (xi (cI l) 5)) ∧ W.cell? ⟨P, 6, none⟩ = some (.int .i64 (xi (cI l) 6)) ∧ W.cell? ⟨P, 7, none⟩ = some (.int .i64 (xi (cI l) 7)) ∧ W.cell? ⟨P, 8, none⟩ = some (.int .i64 ((cI l).length : Int)) ∧ W.cell? ⟨A, x, none⟩ = some (.int .i64 (y : Int))) := fun W hb => ⟨(hb.cell (p := ⟨P, 0, none⟩) hC.p.2.2).trans (hC.p.1 0 (by omega)), (hb.cell (p := ⟨P, 1, none⟩) hC.p.2.2).trans (hC.p.1 1 (by omega)), (hb.cell (p := ⟨P, 2, none⟩) hC.p.2.2).trans (hC.p.1 2 (by omega)), (hb.cell (p := ⟨P, 3, none⟩) hC.p.2.2).trans (hC.p.1 3 (by omega)), (hb.cell (p := ⟨P, 4, none⟩) hC.p.2.2).trans (hC.p.1 4 (by omega)), (hb.cell (p := ⟨P, 5, none⟩) hC.p.2.2).trans (hC.p.1 5 (by omega)), (hb.cell (p := ⟨P, 6, none⟩) hC.p.2.2).trans (hC.p.1 6 (by omega)), (hb.cell (p := ⟨P, 7, none⟩) hC.p.2.2).trans (hC.p.1 7 (by omega)), (hb.cell (p := ⟨P, 8, none⟩) hC.p.2.2).trans (hC.p.1 8 (by omega)), (hb.cell (p := ⟨A, x, none⟩) hC.U.2.2).trans (by rw [hC.U.1 x hx8, hy]; rfl)⟩
    have D0 : Hid (Below wr.heap.size wr wr.drew) := (Below.refl _ _).drew
    have hc8 : (cI l).length ≤ 8 := by rw [cI_len, hll]; have := HL8.out; omega
    have hc0 : 0 < (cI l).length := by rw [cI_len, hll]; omega
    have ENX : Hid (∀ W, Calls Tryd.prog 86 #[.agg #[.int .i64 (xi (cI l) 0), .int .i64 (xi (cI l) 1), .int .i64 (xi (cI l) 2), .int .i64 (xi (cI l) 3), .int .i64 (xi (cI l) 4), .int .i64 (xi (cI l) 5), .int .i64 (xi (cI l) 6), .int .i64 (xi (cI l) 7), .int .i64 ((cI l).length : Int)]] W fun e w' => e = .returned (.int .i64 (x : Int)) ∧ Below W.heap.size W w') := fun W => end_path9 (cI l) (x : Int) W hc0 hc8 hlast
    have EN0 := hideP (ENX.out wr.drew)
    have HC := hideP hC
    clear hC
    by_cases hend : i + 1 = q.length
    · have hyx : y = x := by rw [hy, hrt hend]
      subst hyx
      have hlq : l = q := by rw [hl, hend, List.take_length]
      have HLQ := hideP hlq
      obtain ⟨m, hm⟩ : ∃ m, m = (cI l).length := ⟨_, rfl⟩
      clear hnx hrt hx hl hy hlast hlq hll hi hend
      go_wp2
      go_region_held3 (fun w' => w'.cell? ⟨P, 0, none⟩ = some (.int .i64 (xi (cI l) 0)) ∧ w'.cell? ⟨P, 1, none⟩ = some (.int .i64 (xi (cI l) 1)) ∧ w'.cell? ⟨P, 2, none⟩ = some (.int .i64 (xi (cI l) 2)) ∧ w'.cell? ⟨P, 3, none⟩ = some (.int .i64 (xi (cI l) 3)) ∧ w'.cell? ⟨P, 4, none⟩ = some (.int .i64 (xi (cI l) 4)) ∧ w'.cell? ⟨P, 5, none⟩ = some (.int .i64 (xi (cI l) 5)) ∧ w'.cell? ⟨P, 6, none⟩ = some (.int .i64 (xi (cI l) 6)) ∧ w'.cell? ⟨P, 7, none⟩ = some (.int .i64 (xi (cI l) 7)) ∧ w'.cell? ⟨P, 8, none⟩ = some (.int .i64 ((cI l).length : Int)) ∧ w'.cell? ⟨A, y, none⟩ = some (.int .i64 (y : Int))) (first | exact HELD.out _ b4.out | exact HELD.out _ b3.out | exact HELD.out _ D0.out) (first | (go_at_call 86; refine (ENX.out w3).mono ?_; rintro e w4 ⟨rfl, hb4⟩; have b4 : Hid (Below wr.heap.size wr w4) := hideP (b3.out.trans (hb4.mono b3.out.size)); clear hb4) | (go_at_call 86; (with_reducible refine EN0.out.mono ?_); rintro e w3 ⟨rfl, hb3⟩; have b3 : Hid (Below wr.heap.size wr w3) := hideP (D0.out.trans hb3); clear hb3))
      obtain ⟨d0, d1, d2, d3, d4, d5, d6, d7, d8, _⟩ := HELD.out _ b4.out
      have R4 := HC.out.R.below b4.out HC.out.R.2.2
      have r0 : w4.cell? ⟨w.heap.size, 0, none⟩ = some (.int .i64 0) := R4.1 0 (by omega)
      have r1 : w4.cell? ⟨w.heap.size, 1, none⟩ = some (.int .i64 0) := R4.1 1 (by omega)
      have r2 : w4.cell? ⟨w.heap.size, 2, none⟩ = some (.int .i64 0) := R4.1 2 (by omega)
      have r3 : w4.cell? ⟨w.heap.size, 3, none⟩ = some (.int .i64 0) := R4.1 3 (by omega)
      have r4 : w4.cell? ⟨w.heap.size, 4, none⟩ = some (.int .i64 0) := R4.1 4 (by omega)
      have r5 : w4.cell? ⟨w.heap.size, 5, none⟩ = some (.int .i64 0) := R4.1 5 (by omega)
      have r6 : w4.cell? ⟨w.heap.size, 6, none⟩ = some (.int .i64 0) := R4.1 6 (by omega)
      have r7 : w4.cell? ⟨w.heap.size, 7, none⟩ = some (.int .i64 0) := R4.1 7 (by omega)
      have r8 : w4.cell? ⟨w.heap.size, 8, none⟩ = some (.int .i64 0) := R4.1 8 (by omega)
      have gz := R4.2.1
      have HB9 := hideP (HC.out.B.trans (b4.out.mono HC.out.B.size))
      have HPV : Hid (pathV (cI q) = .agg #[.int .i64 (xi (cI l) 0), .int .i64 (xi (cI l) 1), .int .i64 (xi (cI l) 2), .int .i64 (xi (cI l) 3), .int .i64 (xi (cI l) 4), .int .i64 (xi (cI l) 5), .int .i64 (xi (cI l) 6), .int .i64 (xi (cI l) 7), .int .i64 ((cI l).length : Int)]) := by rw [← HLQ.out]; exact hideP rfl
      clear HELD ENX EN0 HC R4 b3 b4 HPA HL8 HU HT
      go_wp2
      refine bodyPost_ret (v := .agg #[.int .i64 (xi (cI l) 0), .int .i64 (xi (cI l) 1), .int .i64 (xi (cI l) 2), .int .i64 (xi (cI l) 3), .int .i64 (xi (cI l) 4), .int .i64 (xi (cI l) 5), .int .i64 (xi (cI l) 6), .int .i64 (xi (cI l) 7), .int .i64 ((cI l).length : Int)]) ?_ rfl ⟨by rw [HPV.out], ?_⟩
      · simp [results, Tryd.results84, go_sem, r0, r1, r2, r3, r4, r5, r6, r7, r8]
      · exact (((((((((HB9.out.setCell (p := ⟨w.heap.size, 0, none⟩) (Nat.le_refl _) _).setCell (p := ⟨w.heap.size, 1, none⟩) (Nat.le_refl _) _).setCell (p := ⟨w.heap.size, 2, none⟩) (Nat.le_refl _) _).setCell (p := ⟨w.heap.size, 3, none⟩) (Nat.le_refl _) _).setCell (p := ⟨w.heap.size, 4, none⟩) (Nat.le_refl _) _).setCell (p := ⟨w.heap.size, 5, none⟩) (Nat.le_refl _) _).setCell (p := ⟨w.heap.size, 6, none⟩) (Nat.le_refl _) _).setCell (p := ⟨w.heap.size, 7, none⟩) (Nat.le_refl _) _).setCell (p := ⟨w.heap.size, 8, none⟩) (Nat.le_refl _) _)
    · obtain ⟨hyq, hyx⟩ := hnx (by omega)
      rw [← hy] at hyq
      rw [← hyq] at hyx
      have hne : ((y : Int) != (x : Int)) = true := by rw [bne_iff_ne]; omega
      have HL2 : Hid (q.take (i + 1 + 1) = l ++ [y]) := by rw [take_last (by omega), ← hl, ← hyq]; exact hideP rfl
      have hc7 : (cI l).length < 8 := by rw [cI_len, hll]; have := HL8.out; omega
      have WTH : Hid (∀ W, Calls Tryd.prog 63 #[.agg #[.int .i64 (xi (cI l) 0), .int .i64 (xi (cI l) 1), .int .i64 (xi (cI l) 2), .int .i64 (xi (cI l) 3), .int .i64 (xi (cI l) 4), .int .i64 (xi (cI l) 5), .int .i64 (xi (cI l) 6), .int .i64 (xi (cI l) 7), .int .i64 ((cI l).length : Int)], .int .i64 (y : Int)] W fun e w' => e = .returned (.agg #[.int .i64 (xi (cI (l ++ [y])) 0), .int .i64 (xi (cI (l ++ [y])) 1), .int .i64 (xi (cI (l ++ [y])) 2), .int .i64 (xi (cI (l ++ [y])) 3), .int .i64 (xi (cI (l ++ [y])) 4), .int .i64 (xi (cI (l ++ [y])) 5), .int .i64 (xi (cI (l ++ [y])) 6), .int .i64 (xi (cI (l ++ [y])) 7), .int .i64 ((cI (l ++ [y])).length : Int)]) ∧ Below W.heap.size W w') := fun W => with_to (cI l) (cI (l ++ [y])) (y : Int) W hc7 (cI_snoc l y)
      have hgk : 0 < gk := by omega
      have HI1 : Hid (i + 1 + 1 + (gk - 1) = q.length) := by show i + 1 + 1 + (gk - 1) = q.length; omega
      obtain ⟨l2, hl2⟩ : ∃ l2, l2 = cI (l ++ [y]) := ⟨_, rfl⟩
      rw [← hl2] at WTH
      have HL3 := hideP hl2
      clear hnx hrt hx hl hy hlast hyq hll hi hend hl2 hyx
      go_wp2
      go_region_held3 (fun w' => w'.cell? ⟨P, 0, none⟩ = some (.int .i64 (xi (cI l) 0)) ∧ w'.cell? ⟨P, 1, none⟩ = some (.int .i64 (xi (cI l) 1)) ∧ w'.cell? ⟨P, 2, none⟩ = some (.int .i64 (xi (cI l) 2)) ∧ w'.cell? ⟨P, 3, none⟩ = some (.int .i64 (xi (cI l) 3)) ∧ w'.cell? ⟨P, 4, none⟩ = some (.int .i64 (xi (cI l) 4)) ∧ w'.cell? ⟨P, 5, none⟩ = some (.int .i64 (xi (cI l) 5)) ∧ w'.cell? ⟨P, 6, none⟩ = some (.int .i64 (xi (cI l) 6)) ∧ w'.cell? ⟨P, 7, none⟩ = some (.int .i64 (xi (cI l) 7)) ∧ w'.cell? ⟨P, 8, none⟩ = some (.int .i64 ((cI l).length : Int)) ∧ w'.cell? ⟨A, x, none⟩ = some (.int .i64 (y : Int))) (first | exact HELD.out _ b4.out | exact HELD.out _ b3.out | exact HELD.out _ D0.out) (first | (go_at_call 86; refine (ENX.out w3).mono ?_; rintro e w4 ⟨rfl, hb4⟩; have b4 : Hid (Below wr.heap.size wr w4) := hideP (b3.out.trans (hb4.mono b3.out.size)); clear hb4) | (go_at_call 86; (with_reducible refine EN0.out.mono ?_); rintro e w3 ⟨rfl, hb3⟩; have b3 : Hid (Below wr.heap.size wr w3) := hideP (D0.out.trans hb3); clear hb3))
      have B4d : Hid (Below wr.heap.size wr w4.drew) := b4.out.drew
      have EN4 := hideP (ENX.out w4.drew)
      clear b3 EN0 D0
      obtain ⟨e0, e1, e2, e3, e4, e5, e6, e7, e8, eu⟩ := HELD.out _ b4.out
      go_wp2
      apply wp_weak1 (J := fun W => Clm us w W A P (l ++ [y]))
      case h =>
        go_region_law (first | (go_simp; go_at_call 63; refine (WTH.out w5).mono ?_; rintro e w6 ⟨rfl, hb6⟩; have b6 : Hid (Below wr.heap.size wr w6) := hideP (b5.out.trans (hb6.mono b5.out.size)); have hf6 : ∀ j, w6.frozen? ⟨P, j, none⟩ = false := (HC.out.p.below b6.out HC.out.p.2.2).2.1; have J6 := hideP (HC.out.stored b6.out HL3.out); obtain ⟨p0, p1, p2, p3, p4, p5, p6, p7, p8, pu⟩ := HELD.out _ b6.out; clear hb6) | (go_simp; go_at_call 86; (with_reducible refine EN4.out.mono ?_); rintro e w5 ⟨rfl, hb5⟩; have b5 : Hid (Below wr.heap.size wr w5) := hideP (B4d.out.trans (hb5.mono B4d.out.size)); obtain ⟨m0, m1, m2, m3, m4, m5, m6, m7, m8, mu⟩ := HELD.out _ b5.out; clear hb5))
        all_goals exact ⟨rfl, J6.out⟩
      intro W hJ
      have F := hideP hJ
      clear hJ HELD ENX EN4 WTH HC B4d b4
      go_wp2
      go_roundg (gk - 1)
      case measure => omega
      case rel => exact ⟨i + 1, HI1.out, by rw [HL2.out]; exact F.out⟩

end Go.Proofs.YtiaeffpjcinilaaDoor

/- Walk of slices.Index over a row that has what is looked for: the first place. -/
namespace Go.Proofs.YtiaeffpjcinilaaDoor
open Go.RowKit
set_option linter.unusedVariables false

set_option maxHeartbeats 400000 in
theorem index_at (ao : Option Addr) (cap : Nat) (xs : List Int) (k : Int) (w : World) (m : Nat) (hn : xs.length ≤ 1099511627776) (hx : IntsIn w w.heap.size ao xs) (hm : m < xs.length) (hk : xi xs m = k) (hno : ∀ i, i < m → xi xs i ≠ k) :
    Calls Tryd.prog 87 #[.slice ao xs.length cap, .int .i64 k] w fun e w' => e = .returned (.int .i64 (m : Int)) ∧ Below w.heap.size w w' := by
  obtain ⟨n, hnn⟩ : ∃ n, n = xs.length := ⟨_, rfl⟩
  have HN : Hid (n = xs.length) := hnn
  have HNO := hideP hno
  have HK := hideP hk
  rw [← hnn] at hn hm ⊢
  clear hnn hno hk
  go_enter Tryd.func87, Tryd.ntmps87
  go_wp2
  go_loopw [8] (fun i wr => ∃ j : Nat, j ≤ m ∧ i = .int .i64 j ∧ Below w.heap.size w wr)
    (fun i _ => n - (intOf i).toNat)
  case atStart => exact ⟨0, Nat.zero_le _, rfl, Below.refl _ _⟩
  case round =>
    obtain ⟨j, hj, rfl, hbel⟩ := hrel
    have hlt : j < n := by omega
    have hjl : j < xs.length := by rw [← HN.out]; exact hlt
    obtain ⟨b, off, rfl, hbw, c0⟩ := hx j hjl
    have c0' : wr.cell? ⟨b, off + j, none⟩ = some (.int .i64 (xi xs j)) := (hbel.cell (p := ⟨b, off + j, none⟩) hbw).trans c0
    obtain ⟨x, hxx⟩ : ∃ x, x = xi xs j := ⟨_, rfl⟩
    rw [← hxx] at c0'
    have HX : Hid (x = xi xs j) := hxx
    clear c0 hxx hx
    by_cases he : j = m
    · subst he
      have hkx : k = x := by rw [HX.out]; exact HK.out.symm
      clear HK
      subst hkx
      go_wp2
      go_ret
      exact ⟨rfl, hbel⟩
    · have hkx : ¬ k = x := fun e => HNO.out j (by omega) (by rw [← HX.out, e])
      go_wp2
      go_roundw
      case rel => exact ⟨j + 1, by omega, by go_num, hbel⟩
      case measure => simp [intOf]; omega

end Go.Proofs.YtiaeffpjcinilaaDoor

/- Walk of impl.parents.way: up from one knot till it meets the way up from the other one, and down that. -/
namespace Go.Proofs.YtiaeffpjcinilaaDoor
open Go.RowKit
set_option linter.unusedVariables false

/-- what stands while one goes up -/
structure Upd (us : List (Int × Int)) (w wr : World) (A P O : Nat) (l r : List Nat) : Prop where
  R : OwnI wr w.heap.size 9 (fun _ => .int .i64 0)
  U : OwnI wr A 8 (pcellN (parN 8 us))
  p : OwnI wr P 9 (pcell (cI l))
  o : OwnI wr O 9 (pcell (cI r))
  B : Below w.heap.size w wr
  h : w.heap.size < P
  k : w.heap.size < O
  d : P ≠ O
  a : A < w.heap.size
theorem Upd.stored {us : List (Int × Int)} {w wr w6 : World} {A P O : Nat} {l r : List Nat} {y : Nat} {l2 : List Int} (h : Upd us w wr A P O l r) (hb : Below wr.heap.size wr w6) (hl : l2 = cI (l ++ [y])) : Upd us w (putPath w6 P l2) A P O (l ++ [y]) r := by
  have hh := h.h
  have ha := h.a
  have hd := h.d
  refine ⟨putPath_other (h.R.below hb h.R.2.2) (by omega), putPath_other (h.U.below hb h.U.2.2) (by omega), by rw [← hl]; exact putPath_own (h.p.below hb h.p.2.2), putPath_other (h.o.below hb h.o.2.2) hd, putPath_below (h.B.trans (hb.mono h.B.size)) (by omega), hh, h.k, hd, ha⟩
theorem Upd.held {us : List (Int × Int)} {w wr : World} {A P O : Nat} {l r : List Nat} (h : Upd us w wr A P O l r) (W : World) (hb : Below wr.heap.size wr W) : W.cell? ⟨P, 0, none⟩ = some (.int .i64 (xi (cI l) 0)) ∧ W.cell? ⟨P, 1, none⟩ = some (.int .i64 (xi (cI l) 1)) ∧ W.cell? ⟨P, 2, none⟩ = some (.int .i64 (xi (cI l) 2)) ∧ W.cell? ⟨P, 3, none⟩ = some (.int .i64 (xi (cI l) 3)) ∧ W.cell? ⟨P, 4, none⟩ = some (.int .i64 (xi (cI l) 4)) ∧ W.cell? ⟨P, 5, none⟩ = some (.int .i64 (xi (cI l) 5)) ∧ W.cell? ⟨P, 6, none⟩ = some (.int .i64 (xi (cI l) 6)) ∧ W.cell? ⟨P, 7, none⟩ = some (.int .i64 (xi (cI l) 7)) ∧ W.cell? ⟨P, 8, none⟩ = some (.int .i64 ((cI l).length : Int)) ∧ W.cell? ⟨O, 0, none⟩ = some (.int .i64 (xi (cI r) 0)) ∧ W.cell? ⟨O, 1, none⟩ = some (.int .i64 (xi (cI r) 1)) ∧ W.cell? ⟨O, 2, none⟩ = some (.int .i64 (xi (cI r) 2)) ∧ W.cell? ⟨O, 3, none⟩ = some (.int .i64 (xi (cI r) 3)) ∧ W.cell? ⟨O, 4, none⟩ = some (.int .i64 (xi (cI r) 4)) ∧ W.cell? ⟨O, 5, none⟩ = some (.int .i64 (xi (cI r) 5)) ∧ W.cell? ⟨O, 6, none⟩ = some (.int .i64 (xi (cI r) 6)) ∧ W.cell? ⟨O, 7, none⟩ = some (.int .i64 (xi (cI r) 7)) ∧ W.cell? ⟨O, 8, none⟩ = some (.int .i64 ((cI r).length : Int)) := ⟨(hb.cell (p := ⟨P, 0, none⟩) h.p.2.2).trans (h.p.1 0 (by omega)), (hb.cell (p := ⟨P, 1, none⟩) h.p.2.2).trans (h.p.1 1 (by omega)), (hb.cell (p := ⟨P, 2, none⟩) h.p.2.2).trans (h.p.1 2 (by omega)), (hb.cell (p := ⟨P, 3, none⟩) h.p.2.2).trans (h.p.1 3 (by omega)), (hb.cell (p := ⟨P, 4, none⟩) h.p.2.2).trans (h.p.1 4 (by omega)), (hb.cell (p := ⟨P, 5, none⟩) h.p.2.2).trans (h.p.1 5 (by omega)), (hb.cell (p := ⟨P, 6, none⟩) h.p.2.2).trans (h.p.1 6 (by omega)), (hb.cell (p := ⟨P, 7, none⟩) h.p.2.2).trans (h.p.1 7 (by omega)), (hb.cell (p := ⟨P, 8, none⟩) h.p.2.2).trans (h.p.1 8 (by omega)), (hb.cell (p := ⟨O, 0, none⟩) h.o.2.2).trans (h.o.1 0 (by omega)), (hb.cell (p := ⟨O, 1, none⟩) h.o.2.2).trans (h.o.1 1 (by omega)), (hb.cell (p := ⟨O, 2, none⟩) h.o.2.2).trans (h.o.1 2 (by omega)), (hb.cell (p := ⟨O, 3, none⟩) h.o.2.2).trans (h.o.1 3 (by omega)), (hb.cell (p := ⟨O, 4, none⟩) h.o.2.2).trans (h.o.1 4 (by omega)), (hb.cell (p := ⟨O, 5, none⟩) h.o.2.2).trans (h.o.1 5 (by omega)), (hb.cell (p := ⟨O, 6, none⟩) h.o.2.2).trans (h.o.1 6 (by omega)), (hb.cell (p := ⟨O, 7, none⟩) h.o.2.2).trans (h.o.1 7 (by omega)), (hb.cell (p := ⟨O, 8, none⟩) h.o.2.2).trans (h.o.1 8 (by omega))⟩
theorem own_ints {w : World} {O : Nat} {l : List Int} (h : OwnI w O 9 (pcell l)) (h8 : l.length ≤ 8) : IntsIn w w.heap.size (some ⟨O, 0, none⟩) l := by
  intro i hi
  refine ⟨O, 0, rfl, h.2.2, ?_⟩
  rw [Nat.zero_add, h.1 i (by omega), pcell, if_pos (by omega)]
theorem wrap_pred : ∀ j : Nat, j < 8 → IntKind.i64.wrap ((j : Int) - 1) = (j : Int) - 1 := by
  intro j hj
  have hall : ∀ t : Fin 8, IntKind.i64.wrap ((t.val : Int) - 1) = (t.val : Int) - 1 := by decide
  exact hall ⟨j, hj⟩
theorem xi_cI' (p : List Nat) (j : Nat) : xi (cI p) j = ((p.getD j 0 : Nat) : Int) := by
  unfold xi cI
  rw [List.getD_eq_getElem?_getD, List.getD_eq_getElem?_getD, List.getElem?_map]
  cases p[j]? <;> simp
set_option maxHeartbeats 12800000 in
theorem wayUp_any (us : List (Int × Int)) (t : Trn 8 us 8) (A a b : Nat) (w : World) (hU : OwnI w A 8 (pcellN (parN 8 us))) (ha : a < 8) (hb : b < 8) (hab : topN us a = topN us b) :
    Calls Tryd.prog 55 #[.pointer (some ⟨A, 0, none⟩), .int .i64 (a : Int), .int .i64 (b : Int)] w fun e w' => e = .returned (pathV (cI (findB 8 us (a : Int) (b : Int)))) ∧ Below w.heap.size w w' := by
  have HT := hideP t
  have HU := hideP hU
  clear t hU
  have HLB : Hid ((rtP 8 us b).length ≤ 8) := by have := dep_lt HT.out hb; unfold depN at this; show (rtP 8 us b).length ≤ 8; omega
  have HLA : Hid ((rtP 8 us a).length ≤ 8) := by have := dep_lt HT.out ha; unfold depN at this; show (rtP 8 us a).length ≤ 8; omega
  have HP0 := hideP (HT.out.rt ha)
  have HPB := hideP (HT.out.rt hb)
  have HCL : Hid (∀ W, OwnI W A 8 (pcellN (parN 8 us)) → Calls Tryd.prog 84 #[.pointer (some ⟨A, 0, none⟩), .int .i64 (b : Int)] W fun e w' => e = .returned (pathV (cI (rtP 8 us b))) ∧ Below W.heap.size W w') := fun W h => climb_any us HT.out A b W h hb
  have HPA : Hid (∀ i, i < (rtP 8 us a).length → (rtP 8 us a).getD i 0 < 8 ∧ (i + 1 < (rtP 8 us a).length → parN 8 us ((rtP 8 us a).getD i 0) = (rtP 8 us a).getD (i + 1) 0)) := fun i hi => ⟨(HT.out.nth ha i hi).1, fun h => (HT.out.parAt ha hi).1 h⟩
  have HMO : Hid (∀ i, i < (rtP 8 us a).length → (rtP 8 us a).getD i 0 ∉ rtP 8 us b → i + 1 < (rtP 8 us a).length) := fun i hi hn => HT.out.more ha hb hab hi hn
  have HUD : Hid (∀ i m, i < (rtP 8 us a).length → m < (rtP 8 us b).length → (rtP 8 us a).getD i 0 = (rtP 8 us b).getD m 0 → (∀ j, j < i → (rtP 8 us a).getD j 0 ∉ rtP 8 us b) → upDown (rtP 8 us a) (rtP 8 us b) i m = findB 8 us (a : Int) (b : Int) ∧ i + 1 + m ≤ 8) := fun i m hi hm he hn => HT.out.upDown ha hb hab hi hm he hn
  have HNW : Hid (∀ i j, i < j → j < (rtP 8 us b).length → (rtP 8 us b).getD i 0 ≠ (rtP 8 us b).getD j 0) := HPB.out.pw.new
  have HB8 : Hid (∀ i, i < (rtP 8 us b).length → (rtP 8 us b).getD i 0 < 8) := fun i hi => (HT.out.nth hb i hi).1
  have H1 : Hid ([a] = (rtP 8 us a).take 1) := by
    have := take_last (q := rtP 8 us a) (i := 0) HP0.out.pos
    rw [this, HP0.out.fst]; exact hideP rfl
  have HP1 := HP0.out.pos
  have HP2 := HPB.out.pos
  obtain ⟨F, hF⟩ : ∃ F, F = findB 8 us (a : Int) (b : Int) := ⟨_, rfl⟩
  rw [← hF] at HUD ⊢
  obtain ⟨q, hq⟩ : ∃ q, q = rtP 8 us a := ⟨_, rfl⟩
  rw [← hq] at HLA HPA H1 HP1 HMO HUD
  obtain ⟨r, hr⟩ : ∃ r, r = rtP 8 us b := ⟨_, rfl⟩
  rw [← hr] at HLB HMO HUD HNW HB8 HP2 HCL
  clear hF hq hr HP0 HPB
  go_enter Tryd.func55, Tryd.ntmps55
  go_wp2_with fail
  refine (with_path [] (a : Int) _ (by simp)).mono ?_
  rintro e w1 ⟨rfl, hb1⟩
  have hA := HU.out.2.2
  have hz1 : w.heap.size + 1 ≤ w1.heap.size := by have := hb1.size; simp at this; omega
  have hb1' : Below w.heap.size w w1 := (below_one w _).trans (hb1.mono (by simp))
  have z1 : OwnI w1 w.heap.size 9 (fun _ => .int .i64 0) := by
    have z : OwnI (w.alloc (.cells #[.int .i64 0, .int .i64 0, .int .i64 0, .int .i64 0, .int .i64 0, .int .i64 0, .int .i64 0, .int .i64 0, .int .i64 0] 77)) w.heap.size 9 (fun _ => .int .i64 0) := by
      refine ⟨fun j hj => (World.cell?_alloc_at _ _ _ _ rfl).trans ?_, fun j => World.frozen?_alloc_at _ _ _ _ rfl, by simp⟩
      have : j = 0 ∨ j = 1 ∨ j = 2 ∨ j = 3 ∨ j = 4 ∨ j = 5 ∨ j = 6 ∨ j = 7 ∨ j = 8 := by omega
      rcases this with rfl | rfl | rfl | rfl | rfl | rfl | rfl | rfl | rfl <;> rfl
    exact z.below hb1 (by simp)
  have Z1 := hideP z1
  have U1 := hideP (HU.out.below hb1' hA)
  clear hb1 z1
  unfold pathV
  go_wp2_with fail
  refine (HCL.out _ U1.out).mono ?_
  rintro e w2 ⟨rfl, hb2⟩
  have hz2 := hb2.size
  have C1 : ∀ t1 t2, Hid (Upd us w ((w2.alloc (.cells #[.int .i64 (xi (cI [a]) 0), .int .i64 (xi (cI [a]) 1), .int .i64 (xi (cI [a]) 2), .int .i64 (xi (cI [a]) 3), .int .i64 (xi (cI [a]) 4), .int .i64 (xi (cI [a]) 5), .int .i64 (xi (cI [a]) 6), .int .i64 (xi (cI [a]) 7), .int .i64 ((cI [a]).length : Int)] t1)).alloc (.cells #[.int .i64 (xi (cI r) 0), .int .i64 (xi (cI r) 1), .int .i64 (xi (cI r) 2), .int .i64 (xi (cI r) 3), .int .i64 (xi (cI r) 4), .int .i64 (xi (cI r) 5), .int .i64 (xi (cI r) 6), .int .i64 (xi (cI r) 7), .int .i64 ((cI r).length : Int)] t2)) A w2.heap.size (w2.heap.size + 1) [a] r) := fun t1 t2 => by
    have o1 := below_one w2 (.cells #[.int .i64 (xi (cI [a]) 0), .int .i64 (xi (cI [a]) 1), .int .i64 (xi (cI [a]) 2), .int .i64 (xi (cI [a]) 3), .int .i64 (xi (cI [a]) 4), .int .i64 (xi (cI [a]) 5), .int .i64 (xi (cI [a]) 6), .int .i64 (xi (cI [a]) 7), .int .i64 ((cI [a]).length : Int)] t1)
    have o2 := below_one (w2.alloc (.cells #[.int .i64 (xi (cI [a]) 0), .int .i64 (xi (cI [a]) 1), .int .i64 (xi (cI [a]) 2), .int .i64 (xi (cI [a]) 3), .int .i64 (xi (cI [a]) 4), .int .i64 (xi (cI [a]) 5), .int .i64 (xi (cI [a]) 6), .int .i64 (xi (cI [a]) 7), .int .i64 ((cI [a]).length : Int)] t1)) (.cells #[.int .i64 (xi (cI r) 0), .int .i64 (xi (cI r) 1), .int .i64 (xi (cI r) 2), .int .i64 (xi (cI r) 3), .int .i64 (xi (cI r) 4), .int .i64 (xi (cI r) 5), .int .i64 (xi (cI r) 6), .int .i64 (xi (cI r) 7), .int .i64 ((cI r).length : Int)] t2)
    have hs : (w2.alloc (.cells #[.int .i64 (xi (cI [a]) 0), .int .i64 (xi (cI [a]) 1), .int .i64 (xi (cI [a]) 2), .int .i64 (xi (cI [a]) 3), .int .i64 (xi (cI [a]) 4), .int .i64 (xi (cI [a]) 5), .int .i64 (xi (cI [a]) 6), .int .i64 (xi (cI [a]) 7), .int .i64 ((cI [a]).length : Int)] t1)).heap.size = w2.heap.size + 1 := by simp
    have o12 := o1.trans (o2.mono (by omega))
    refine ⟨(Z1.out.below hb2 Z1.out.2.2).below o12 (by omega), (U1.out.below hb2 U1.out.2.2).below o12 (by omega), (own_path w2 (cI [a]) t1).below o2 (by omega), ?_, (hb1'.trans (hb2.mono hb1'.size)).trans (o12.mono (by omega)), by omega, by omega, by omega, hA⟩
    have := own_path (w2.alloc (.cells #[.int .i64 (xi (cI [a]) 0), .int .i64 (xi (cI [a]) 1), .int .i64 (xi (cI [a]) 2), .int .i64 (xi (cI [a]) 3), .int .i64 (xi (cI [a]) 4), .int .i64 (xi (cI [a]) 5), .int .i64 (xi (cI [a]) 6), .int .i64 (xi (cI [a]) 7), .int .i64 ((cI [a]).length : Int)] t1)) (cI r) t2
    rwa [hs] at this
  obtain ⟨P, hPe⟩ : ∃ P, P = w2.heap.size := ⟨_, rfl⟩
  obtain ⟨O, hOe⟩ : ∃ O, O = w2.heap.size + 1 := ⟨_, rfl⟩
  rw [← hOe, ← hPe] at C1
  clear hb2 hb1' U1 Z1 hz1 hz2 HCL
  unfold pathV
  go_wp2
  rw [← hOe, ← hPe]
  clear hPe hOe
  go_loopg [] (q.length - 1) (fun gk wr => ∃ i, i + 1 + gk = q.length ∧ (∀ j, j < i → q.getD j 0 ∉ r) ∧ Upd us w wr A P O (q.take (i + 1)) r)
  case atStart =>
    refine ⟨0, by omega, fun j hj => by omega, ?_⟩
    show Upd us w _ A P O (q.take 1) r
    rw [← H1.out]
    exact (C1 _ _).out
  case round =>
    clear C1 H1
    obtain ⟨i, hi, hno, hC⟩ := hrel
    obtain ⟨hx8, hnx⟩ := HPA.out i (by omega)
    have hmo := HMO.out i (by omega)
    have hud := HUD.out i
    obtain ⟨x, hx⟩ : ∃ x, x = q.getD i 0 := ⟨_, rfl⟩
    rw [← hx] at hx8 hnx hmo hud
    obtain ⟨l, hl⟩ : ∃ l, l = q.take (i + 1) := ⟨_, rfl⟩
    have hll : l.length = i + 1 := by rw [hl, List.length_take]; omega
    have hlast : lastI (cI l) = (x : Int) := by
      rw [cI_last (by omega), hl, take_last (by omega), lastN_snoc, hx]
    rw [← hl] at hC
    have hx9 : (x : Int) < 8 := by omega
    have hx0 : (0 : Int) ≤ (x : Int) := by omega
    have HNO := hideP hno
    have HC := hideP hC
    clear hC hno
    have HELD : Hid (∀ W, Below wr.heap.size wr W → W.cell? ⟨P, 0, none⟩ = some (.int .i64 (xi (cI l) 0)) ∧ W.cell? ⟨P, 1, none⟩ = some (.int .i64 (xi (cI l) 1)) ∧ W.cell? ⟨P, 2, none⟩ = some (.int .i64 (xi (cI l) 2)) ∧ W.cell? ⟨P, 3, none⟩ = some (.int .i64 (xi (cI l) 3)) ∧ W.cell? ⟨P, 4, none⟩ = some (.int .i64 (xi (cI l) 4)) ∧ W.cell? ⟨P, 5, none⟩ = some (.int .i64 (xi (cI l) 5)) ∧ W.cell? ⟨P, 6, none⟩ = some (.int .i64 (xi (cI l) 6)) ∧ W.cell? ⟨P, 7, none⟩ = some (.int .i64 (xi (cI l) 7)) ∧ W.cell? ⟨P, 8, none⟩ = some (.int .i64 ((cI l).length : Int)) ∧ W.cell? ⟨O, 0, none⟩ = some (.int .i64 (xi (cI r) 0)) ∧ W.cell? ⟨O, 1, none⟩ = some (.int .i64 (xi (cI r) 1)) ∧ W.cell? ⟨O, 2, none⟩ = some (.int .i64 (xi (cI r) 2)) ∧ W.cell? ⟨O, 3, none⟩ = some (.int .i64 (xi (cI r) 3)) ∧ W.cell? ⟨O, 4, none⟩ = some (.int .i64 (xi (cI r) 4)) ∧ W.cell? ⟨O, 5, none⟩ = some (.int .i64 (xi (cI r) 5)) ∧ W.cell? ⟨O, 6, none⟩ = some (.int .i64 (xi (cI r) 6)) ∧ W.cell? ⟨O, 7, none⟩ = some (.int .i64 (xi (cI r) 7)) ∧ W.cell? ⟨O, 8, none⟩ = some (.int .i64 ((cI r).length : Int))) := hideP HC.out.held
    have D0 : Hid (Below wr.heap.size wr wr.drew) := (Below.refl _ _).drew
    have hc8 : (cI l).length ≤ 8 := by rw [cI_len, hll]; have := HLA.out; omega
    have hc0 : 0 < (cI l).length := by rw [cI_len, hll]; omega
    have hr8 : (cI r).length ≤ 8 := by rw [cI_len]; exact HLB.out
    have ENX : Hid (∀ W, Calls Tryd.prog 86 #[.agg #[.int .i64 (xi (cI l) 0), .int .i64 (xi (cI l) 1), .int .i64 (xi (cI l) 2), .int .i64 (xi (cI l) 3), .int .i64 (xi (cI l) 4), .int .i64 (xi (cI l) 5), .int .i64 (xi (cI l) 6), .int .i64 (xi (cI l) 7), .int .i64 ((cI l).length : Int)]] W fun e w' => e = .returned (.int .i64 (x : Int)) ∧ Below W.heap.size W w') := fun W => end_path9 (cI l) (x : Int) W hc0 hc8 hlast
    have EN0 := hideP (ENX.out wr.drew)
    have HASX : Hid (∀ W, Calls Tryd.prog 85 #[.agg #[.int .i64 (xi (cI r) 0), .int .i64 (xi (cI r) 1), .int .i64 (xi (cI r) 2), .int .i64 (xi (cI r) 3), .int .i64 (xi (cI r) 4), .int .i64 (xi (cI r) 5), .int .i64 (xi (cI r) 6), .int .i64 (xi (cI r) 7), .int .i64 ((cI r).length : Int)], .int .i64 (x : Int)] W fun e w' => e = .returned (.bool (inI (cI r) (x : Int))) ∧ Below W.heap.size W w') := fun W => has_path (cI r) (x : Int) W hr8
    by_cases hin : x ∈ r
    · have HIN : Hid (inI (cI r) (x : Int) = true) := by rw [cI_in]; exact hideP (by simpa using hin)
      rw [HIN.out] at HASX
      obtain ⟨m, hm1, hm2⟩ : ∃ m, m < r.length ∧ r.getD m 0 = x := by
        obtain ⟨m, hm, e⟩ := List.mem_iff_getElem.1 hin
        exact ⟨m, hm, by rw [List.getD_eq_getElem?_getD, List.getElem?_eq_getElem hm]; exact e⟩
      obtain ⟨hF, hF8⟩ := hud m (by omega) hm1 hm2.symm HNO.out
      have HF := hideP hF
      have HUL := hideP (upDown_len (q := q) (r := r) (i := i) (m := m) (by omega) hm1)
      have HUH : Hid (∀ j, i < j → j < i + 1 + m → (upDown q r i m).getD j 0 = r.getD (m - (j - i)) 0) := fun j h1 h2 => upDown_hi (by omega) hm1 h1 h2
      have HU0 : Hid ((upDown q r i m).take (i + 1 + 0) = l) := by
        unfold upDown
        rw [hl, List.take_append_of_le_length (by simp; omega), List.take_take]
        congr 1
        omega
      rw [hF] at HUL HUH HU0
      have HIX : Hid (∀ W, Below wr.heap.size wr W → Calls Tryd.prog 87 #[.slice (some ⟨O, 0, none⟩) (cI r).length 8, .int .i64 (x : Int)] W fun e w' => e = .returned (.int .i64 (m : Int)) ∧ Below W.heap.size W w') := fun W hb => by
        refine index_at _ _ (cI r) (x : Int) W m (by omega) (own_ints (HC.out.o.below hb HC.out.o.2.2) hr8) (by rw [cI_len]; exact hm1) ?_ (fun i hi => ?_)
        · rw [xi_cI']; rw [hm2]
        · rw [xi_cI', ← hm2]
          exact fun e => HNW.out i m hi hm1 (by omega)
      clear hnx hmo hud hx hlast hll hi hl hin hm2 HMO HUD HPA hF HNO
      have hrl : ((cI r).length : Int) ≤ 8 := by omega
      have hrl0 : (0 : Int) ≤ ((cI r).length : Int) := by omega
      go_wp2
      go_region_held3 (fun w' => w'.cell? ⟨P, 0, none⟩ = some (.int .i64 (xi (cI l) 0)) ∧ w'.cell? ⟨P, 1, none⟩ = some (.int .i64 (xi (cI l) 1)) ∧ w'.cell? ⟨P, 2, none⟩ = some (.int .i64 (xi (cI l) 2)) ∧ w'.cell? ⟨P, 3, none⟩ = some (.int .i64 (xi (cI l) 3)) ∧ w'.cell? ⟨P, 4, none⟩ = some (.int .i64 (xi (cI l) 4)) ∧ w'.cell? ⟨P, 5, none⟩ = some (.int .i64 (xi (cI l) 5)) ∧ w'.cell? ⟨P, 6, none⟩ = some (.int .i64 (xi (cI l) 6)) ∧ w'.cell? ⟨P, 7, none⟩ = some (.int .i64 (xi (cI l) 7)) ∧ w'.cell? ⟨P, 8, none⟩ = some (.int .i64 ((cI l).length : Int)) ∧ w'.cell? ⟨O, 0, none⟩ = some (.int .i64 (xi (cI r) 0)) ∧ w'.cell? ⟨O, 1, none⟩ = some (.int .i64 (xi (cI r) 1)) ∧ w'.cell? ⟨O, 2, none⟩ = some (.int .i64 (xi (cI r) 2)) ∧ w'.cell? ⟨O, 3, none⟩ = some (.int .i64 (xi (cI r) 3)) ∧ w'.cell? ⟨O, 4, none⟩ = some (.int .i64 (xi (cI r) 4)) ∧ w'.cell? ⟨O, 5, none⟩ = some (.int .i64 (xi (cI r) 5)) ∧ w'.cell? ⟨O, 6, none⟩ = some (.int .i64 (xi (cI r) 6)) ∧ w'.cell? ⟨O, 7, none⟩ = some (.int .i64 (xi (cI r) 7)) ∧ w'.cell? ⟨O, 8, none⟩ = some (.int .i64 ((cI r).length : Int))) (first | exact HELD.out _ b5.out | exact HELD.out _ b4.out | exact HELD.out _ b3.out | exact HELD.out _ D0.out) (first | (go_at_call 85; refine (HASX.out w3).mono ?_; rintro e w4 ⟨rfl, hb4⟩; have b4 : Hid (Below wr.heap.size wr w4) := hideP (b3.out.trans (hb4.mono b3.out.size)); clear hb4) | (go_at_call 86; (with_reducible refine EN0.out.mono ?_); rintro e w3 ⟨rfl, hb3⟩; have b3 : Hid (Below wr.heap.size wr w3) := hideP (D0.out.trans hb3); clear hb3))
      have B4d : Hid (Below wr.heap.size wr w4.drew) := b4.out.drew
      have EN4 := hideP (ENX.out w4.drew)
      clear b3 EN0 D0 HASX
      go_wp2
      go_region_held3 (fun w' => w'.cell? ⟨P, 0, none⟩ = some (.int .i64 (xi (cI l) 0)) ∧ w'.cell? ⟨P, 1, none⟩ = some (.int .i64 (xi (cI l) 1)) ∧ w'.cell? ⟨P, 2, none⟩ = some (.int .i64 (xi (cI l) 2)) ∧ w'.cell? ⟨P, 3, none⟩ = some (.int .i64 (xi (cI l) 3)) ∧ w'.cell? ⟨P, 4, none⟩ = some (.int .i64 (xi (cI l) 4)) ∧ w'.cell? ⟨P, 5, none⟩ = some (.int .i64 (xi (cI l) 5)) ∧ w'.cell? ⟨P, 6, none⟩ = some (.int .i64 (xi (cI l) 6)) ∧ w'.cell? ⟨P, 7, none⟩ = some (.int .i64 (xi (cI l) 7)) ∧ w'.cell? ⟨P, 8, none⟩ = some (.int .i64 ((cI l).length : Int)) ∧ w'.cell? ⟨O, 0, none⟩ = some (.int .i64 (xi (cI r) 0)) ∧ w'.cell? ⟨O, 1, none⟩ = some (.int .i64 (xi (cI r) 1)) ∧ w'.cell? ⟨O, 2, none⟩ = some (.int .i64 (xi (cI r) 2)) ∧ w'.cell? ⟨O, 3, none⟩ = some (.int .i64 (xi (cI r) 3)) ∧ w'.cell? ⟨O, 4, none⟩ = some (.int .i64 (xi (cI r) 4)) ∧ w'.cell? ⟨O, 5, none⟩ = some (.int .i64 (xi (cI r) 5)) ∧ w'.cell? ⟨O, 6, none⟩ = some (.int .i64 (xi (cI r) 6)) ∧ w'.cell? ⟨O, 7, none⟩ = some (.int .i64 (xi (cI r) 7)) ∧ w'.cell? ⟨O, 8, none⟩ = some (.int .i64 ((cI r).length : Int))) (first | exact HELD.out _ b6.out | exact HELD.out _ b5.out | exact HELD.out _ B4d.out) (first | (go_at_call 87; refine (HIX.out w5 b5.out).mono ?_; rintro e w6 ⟨rfl, hb6⟩; have b6 : Hid (Below wr.heap.size wr w6) := hideP (b5.out.trans (hb6.mono b5.out.size)); clear hb6) | (go_at_call 86; (with_reducible refine EN4.out.mono ?_); rintro e w5 ⟨rfl, hb5⟩; have b5 : Hid (Below wr.heap.size wr w5) := hideP (B4d.out.trans (hb5.mono B4d.out.size)); clear hb5))
      have C6 : Hid (Upd us w w6 A P O l r) := ⟨HC.out.R.below b6.out HC.out.R.2.2, HC.out.U.below b6.out HC.out.U.2.2, HC.out.p.below b6.out HC.out.p.2.2, HC.out.o.below b6.out HC.out.o.2.2, HC.out.B.trans (b6.out.mono HC.out.B.size), HC.out.h, HC.out.k, HC.out.d, HC.out.a⟩
      have hwm := wrap_pred m (by have := HLB.out; omega)
      clear EN4 B4d b4 b5 b6 HELD HIX HC ENX hrl hrl0 hc8 hc0 hx9 hx0 hx8
      go_wp2
      clear hwm
      go_loopw [10] (fun at1 wv => ∃ t : Nat, t ≤ m ∧ at1 = .int .i64 ((t : Int) - 1) ∧ Upd us w wv A P O (F.take (i + 1 + (m - t))) r)
        (fun at1 _ => (intOf at1 + 1).toNat)
      case atStart => exact ⟨m, Nat.le_refl _, rfl, by rw [Nat.sub_self, HU0.out]; exact C6.out⟩
      case round =>
        clear C6
        obtain ⟨t, ht, rfl, hC⟩ := hrel
        have HC := hideP hC
        clear hC
        cases t with
        | zero =>
          have hFl : F.take (i + 1 + (m - 0)) = F := by rw [Nat.sub_zero, List.take_of_length_le (by rw [HUL.out]; exact Nat.le_refl _)]
          rw [hFl] at HC
          have hz : ((0 : Nat) : Int) - 1 = -1 := rfl
          rw [hz]
          obtain ⟨d0, d1, d2, d3, d4, d5, d6, d7, d8, _⟩ := HC.out.held _ (Below.refl _ _)
          have r0 : wr.cell? ⟨w.heap.size, 0, none⟩ = some (.int .i64 0) := HC.out.R.1 0 (by omega)
          have r1 : wr.cell? ⟨w.heap.size, 1, none⟩ = some (.int .i64 0) := HC.out.R.1 1 (by omega)
          have r2 : wr.cell? ⟨w.heap.size, 2, none⟩ = some (.int .i64 0) := HC.out.R.1 2 (by omega)
          have r3 : wr.cell? ⟨w.heap.size, 3, none⟩ = some (.int .i64 0) := HC.out.R.1 3 (by omega)
          have r4 : wr.cell? ⟨w.heap.size, 4, none⟩ = some (.int .i64 0) := HC.out.R.1 4 (by omega)
          have r5 : wr.cell? ⟨w.heap.size, 5, none⟩ = some (.int .i64 0) := HC.out.R.1 5 (by omega)
          have r6 : wr.cell? ⟨w.heap.size, 6, none⟩ = some (.int .i64 0) := HC.out.R.1 6 (by omega)
          have r7 : wr.cell? ⟨w.heap.size, 7, none⟩ = some (.int .i64 0) := HC.out.R.1 7 (by omega)
          have r8 : wr.cell? ⟨w.heap.size, 8, none⟩ = some (.int .i64 0) := HC.out.R.1 8 (by omega)
          have gz := HC.out.R.2.1
          have HB9 := hideP HC.out.B
          have HPV : Hid (pathV (cI F) = .agg #[.int .i64 (xi (cI F) 0), .int .i64 (xi (cI F) 1), .int .i64 (xi (cI F) 2), .int .i64 (xi (cI F) 3), .int .i64 (xi (cI F) 4), .int .i64 (xi (cI F) 5), .int .i64 (xi (cI F) 6), .int .i64 (xi (cI F) 7), .int .i64 ((cI F).length : Int)]) := hideP rfl
          clear HC HU0 HUL HUH HF HLA HLB HU HT HNW HB8 HIN
          go_wp2
          refine bodyPost_ret (v := .agg #[.int .i64 (xi (cI F) 0), .int .i64 (xi (cI F) 1), .int .i64 (xi (cI F) 2), .int .i64 (xi (cI F) 3), .int .i64 (xi (cI F) 4), .int .i64 (xi (cI F) 5), .int .i64 (xi (cI F) 6), .int .i64 (xi (cI F) 7), .int .i64 ((cI F).length : Int)]) ?_ rfl ⟨by rw [HPV.out], ?_⟩
          · simp [results, Tryd.results55, go_sem, r0, r1, r2, r3, r4, r5, r6, r7, r8]
          · exact (((((((((HB9.out.setCell (p := ⟨w.heap.size, 0, none⟩) (Nat.le_refl _) _).setCell (p := ⟨w.heap.size, 1, none⟩) (Nat.le_refl _) _).setCell (p := ⟨w.heap.size, 2, none⟩) (Nat.le_refl _) _).setCell (p := ⟨w.heap.size, 3, none⟩) (Nat.le_refl _) _).setCell (p := ⟨w.heap.size, 4, none⟩) (Nat.le_refl _) _).setCell (p := ⟨w.heap.size, 5, none⟩) (Nat.le_refl _) _).setCell (p := ⟨w.heap.size, 6, none⟩) (Nat.le_refl _) _).setCell (p := ⟨w.heap.size, 7, none⟩) (Nat.le_refl _) _).setCell (p := ⟨w.heap.size, 8, none⟩) (Nat.le_refl _) _)
        | succ j =>
          have e1 : ((j + 1 : Nat) : Int) - 1 = (j : Int) := by omega
          rw [e1]
          have hjr : j < r.length := by omega
          have hj8' : j < 8 := by have := HLB.out; omega
          have hj8 : (j : Int) < 8 := by omega
          have hj0 : (0 : Int) ≤ (j : Int) := by omega
          obtain ⟨y, hy⟩ : ∃ y, y = r.getD j 0 := ⟨_, rfl⟩
          have hFy : F.getD (i + 1 + (m - (j + 1))) 0 = y := by
            rw [HUH.out _ (by omega) (by omega), hy]; congr 1; omega
          obtain ⟨l3, hl3⟩ : ∃ l3, l3 = F.take (i + 1 + (m - (j + 1))) := ⟨_, rfl⟩
          have HL2 : Hid (F.take (i + 1 + (m - j)) = l3 ++ [y]) := by
            rw [show i + 1 + (m - j) = i + 1 + (m - (j + 1)) + 1 by omega, take_last (by rw [HUL.out]; omega), ← hl3, hFy]; exact hideP rfl
          have hl3l : l3.length = i + 1 + (m - (j + 1)) := by rw [hl3, List.length_take, HUL.out]; omega
          rw [← hl3] at HC
          have hc7 : (cI l3).length < 8 := by rw [cI_len, hl3l]; omega
          have WTH : Hid (∀ W, Calls Tryd.prog 63 #[.agg #[.int .i64 (xi (cI l3) 0), .int .i64 (xi (cI l3) 1), .int .i64 (xi (cI l3) 2), .int .i64 (xi (cI l3) 3), .int .i64 (xi (cI l3) 4), .int .i64 (xi (cI l3) 5), .int .i64 (xi (cI l3) 6), .int .i64 (xi (cI l3) 7), .int .i64 ((cI l3).length : Int)], .int .i64 (y : Int)] W fun e w' => e = .returned (.agg #[.int .i64 (xi (cI (l3 ++ [y])) 0), .int .i64 (xi (cI (l3 ++ [y])) 1), .int .i64 (xi (cI (l3 ++ [y])) 2), .int .i64 (xi (cI (l3 ++ [y])) 3), .int .i64 (xi (cI (l3 ++ [y])) 4), .int .i64 (xi (cI (l3 ++ [y])) 5), .int .i64 (xi (cI (l3 ++ [y])) 6), .int .i64 (xi (cI (l3 ++ [y])) 7), .int .i64 ((cI (l3 ++ [y])).length : Int)]) ∧ Below W.heap.size W w') := fun W => with_to (cI l3) (cI (l3 ++ [y])) (y : Int) W hc7 (cI_snoc l3 y)
          have HELD : Hid (∀ W, Below wr.heap.size wr W → W.cell? ⟨P, 0, none⟩ = some (.int .i64 (xi (cI l3) 0)) ∧ W.cell? ⟨P, 1, none⟩ = some (.int .i64 (xi (cI l3) 1)) ∧ W.cell? ⟨P, 2, none⟩ = some (.int .i64 (xi (cI l3) 2)) ∧ W.cell? ⟨P, 3, none⟩ = some (.int .i64 (xi (cI l3) 3)) ∧ W.cell? ⟨P, 4, none⟩ = some (.int .i64 (xi (cI l3) 4)) ∧ W.cell? ⟨P, 5, none⟩ = some (.int .i64 (xi (cI l3) 5)) ∧ W.cell? ⟨P, 6, none⟩ = some (.int .i64 (xi (cI l3) 6)) ∧ W.cell? ⟨P, 7, none⟩ = some (.int .i64 (xi (cI l3) 7)) ∧ W.cell? ⟨P, 8, none⟩ = some (.int .i64 ((cI l3).length : Int)) ∧ W.cell? ⟨O, 0, none⟩ = some (.int .i64 (xi (cI r) 0)) ∧ W.cell? ⟨O, 1, none⟩ = some (.int .i64 (xi (cI r) 1)) ∧ W.cell? ⟨O, 2, none⟩ = some (.int .i64 (xi (cI r) 2)) ∧ W.cell? ⟨O, 3, none⟩ = some (.int .i64 (xi (cI r) 3)) ∧ W.cell? ⟨O, 4, none⟩ = some (.int .i64 (xi (cI r) 4)) ∧ W.cell? ⟨O, 5, none⟩ = some (.int .i64 (xi (cI r) 5)) ∧ W.cell? ⟨O, 6, none⟩ = some (.int .i64 (xi (cI r) 6)) ∧ W.cell? ⟨O, 7, none⟩ = some (.int .i64 (xi (cI r) 7)) ∧ W.cell? ⟨O, 8, none⟩ = some (.int .i64 ((cI r).length : Int))) := hideP HC.out.held
          have hox : ∀ W, Below wr.heap.size wr W → W.cell? ⟨O, j, none⟩ = some (.int .i64 (y : Int)) := fun W hb => (hb.cell (p := ⟨O, j, none⟩) HC.out.o.2.2).trans ((HC.out.o.1 j (by omega)).trans (by rw [pcell, if_pos hj8', xi_cI', hy]))
          have HOX := hideP hox
          obtain ⟨l2, hl2⟩ : ∃ l2, l2 = cI (l3 ++ [y]) := ⟨_, rfl⟩
          rw [← hl2] at WTH
          have HL3 := hideP hl2
          have D0 : Hid (Below wr.heap.size wr wr.drew) := (Below.refl _ _).drew
          have WT0 := hideP (WTH.out wr.drew)
          have hw1 := wrap_pred j hj8'
          obtain ⟨e0, e1', e2, e3, e4, e5, e6, e7, e8, _⟩ := HELD.out wr (Below.refl _ _)
          have eo := hox wr (Below.refl _ _)
          clear hl2 hl3 hFy hy hox e1 HUL HUH HU0 HF hl3l
          go_wp2
          apply wp_weak1 (J := fun W => Upd us w W A P O (l3 ++ [y]) r)
          case h =>
            go_region_law (first | (go_simp; go_at_call 63; (with_reducible refine WT0.out.mono ?_); rintro e w6 ⟨rfl, hb6⟩; have b6 : Hid (Below wr.heap.size wr w6) := hideP (D0.out.trans hb6); have hf6 : ∀ j, w6.frozen? ⟨P, j, none⟩ = false := (HC.out.p.below b6.out HC.out.p.2.2).2.1; have J6 := hideP (HC.out.stored b6.out HL3.out); obtain ⟨p0, p1, p2, p3, p4, p5, p6, p7, p8, _⟩ := HELD.out _ b6.out; have po := HOX.out _ b6.out; clear hb6))
            all_goals exact ⟨rfl, J6.out⟩
          intro W hJ
          have G := hideP hJ
          clear hJ HELD WTH WT0 HC D0 HOX e0 e1' e2 e3 e4 e5 e6 e7 e8 eo
          go_wp2
          go_roundw
          case measure => (simp [intOf] <;> omega)
          case rel => exact ⟨j, by omega, rfl, by rw [HL2.out]; exact G.out⟩
    · have HIN : Hid (inI (cI r) (x : Int) = false) := by rw [cI_in]; exact hideP (by simpa using hin)
      rw [HIN.out] at HASX
      have hi2 := hmo hin
      obtain ⟨y, hy⟩ : ∃ y, y = parN 8 us x := ⟨_, rfl⟩
      have hyq : y = q.getD (i + 1) 0 := by rw [hy]; exact hnx hi2
      have HNO2 : Hid (∀ j, j < i + 1 → q.getD j 0 ∉ r) := fun j hj => by
        by_cases h : j = i
        · subst h; rw [← hx]; exact hin
        · exact HNO.out j (by omega)
      have HL2 : Hid (q.take (i + 1 + 1) = l ++ [y]) := by rw [take_last (by omega), ← hl, ← hyq]; exact hideP rfl
      have hc7 : (cI l).length < 8 := by rw [cI_len, hll]; have := HLA.out; omega
      have WTH : Hid (∀ W, Calls Tryd.prog 63 #[.agg #[.int .i64 (xi (cI l) 0), .int .i64 (xi (cI l) 1), .int .i64 (xi (cI l) 2), .int .i64 (xi (cI l) 3), .int .i64 (xi (cI l) 4), .int .i64 (xi (cI l) 5), .int .i64 (xi (cI l) 6), .int .i64 (xi (cI l) 7), .int .i64 ((cI l).length : Int)], .int .i64 (y : Int)] W fun e w' => e = .returned (.agg #[.int .i64 (xi (cI (l ++ [y])) 0), .int .i64 (xi (cI (l ++ [y])) 1), .int .i64 (xi (cI (l ++ [y])) 2), .int .i64 (xi (cI (l ++ [y])) 3), .int .i64 (xi (cI (l ++ [y])) 4), .int .i64 (xi (cI (l ++ [y])) 5), .int .i64 (xi (cI (l ++ [y])) 6), .int .i64 (xi (cI (l ++ [y])) 7), .int .i64 ((cI (l ++ [y])).length : Int)]) ∧ Below W.heap.size W w') := fun W => with_to (cI l) (cI (l ++ [y])) (y : Int) W hc7 (cI_snoc l y)
      have HUX : Hid (∀ W, Below wr.heap.size wr W → W.cell? ⟨A, x, none⟩ = some (.int .i64 (y : Int))) := fun W hb => (hb.cell (p := ⟨A, x, none⟩) HC.out.U.2.2).trans (by rw [HC.out.U.1 x hx8, hy]; rfl)
      have hgk : 0 < gk := by omega
      have HI1 : Hid (i + 1 + 1 + (gk - 1) = q.length) := by show i + 1 + 1 + (gk - 1) = q.length; omega
      obtain ⟨l2, hl2⟩ : ∃ l2, l2 = cI (l ++ [y]) := ⟨_, rfl⟩
      rw [← hl2] at WTH
      have HL3 := hideP hl2
      clear hnx hmo hud hx hl hy hlast hyq hll hi hl2 hin HNO HMO HUD HPA hi2
      go_wp2
      go_region_held3 (fun w' => w'.cell? ⟨P, 0, none⟩ = some (.int .i64 (xi (cI l) 0)) ∧ w'.cell? ⟨P, 1, none⟩ = some (.int .i64 (xi (cI l) 1)) ∧ w'.cell? ⟨P, 2, none⟩ = some (.int .i64 (xi (cI l) 2)) ∧ w'.cell? ⟨P, 3, none⟩ = some (.int .i64 (xi (cI l) 3)) ∧ w'.cell? ⟨P, 4, none⟩ = some (.int .i64 (xi (cI l) 4)) ∧ w'.cell? ⟨P, 5, none⟩ = some (.int .i64 (xi (cI l) 5)) ∧ w'.cell? ⟨P, 6, none⟩ = some (.int .i64 (xi (cI l) 6)) ∧ w'.cell? ⟨P, 7, none⟩ = some (.int .i64 (xi (cI l) 7)) ∧ w'.cell? ⟨P, 8, none⟩ = some (.int .i64 ((cI l).length : Int)) ∧ w'.cell? ⟨O, 0, none⟩ = some (.int .i64 (xi (cI r) 0)) ∧ w'.cell? ⟨O, 1, none⟩ = some (.int .i64 (xi (cI r) 1)) ∧ w'.cell? ⟨O, 2, none⟩ = some (.int .i64 (xi (cI r) 2)) ∧ w'.cell? ⟨O, 3, none⟩ = some (.int .i64 (xi (cI r) 3)) ∧ w'.cell? ⟨O, 4, none⟩ = some (.int .i64 (xi (cI r) 4)) ∧ w'.cell? ⟨O, 5, none⟩ = some (.int .i64 (xi (cI r) 5)) ∧ w'.cell? ⟨O, 6, none⟩ = some (.int .i64 (xi (cI r) 6)) ∧ w'.cell? ⟨O, 7, none⟩ = some (.int .i64 (xi (cI r) 7)) ∧ w'.cell? ⟨O, 8, none⟩ = some (.int .i64 ((cI r).length : Int))) (first | exact HELD.out _ b4.out | exact HELD.out _ b3.out | exact HELD.out _ D0.out) (first | (go_at_call 85; refine (HASX.out w3).mono ?_; rintro e w4 ⟨rfl, hb4⟩; have b4 : Hid (Below wr.heap.size wr w4) := hideP (b3.out.trans (hb4.mono b3.out.size)); clear hb4) | (go_at_call 86; (with_reducible refine EN0.out.mono ?_); rintro e w3 ⟨rfl, hb3⟩; have b3 : Hid (Below wr.heap.size wr w3) := hideP (D0.out.trans hb3); clear hb3))
      have B4d : Hid (Below wr.heap.size wr w4.drew) := b4.out.drew
      have EN4 := hideP (ENX.out w4.drew)
      clear b3 EN0 D0 HASX
      obtain ⟨e0, e1, e2, e3, e4, e5, e6, e7, e8, _⟩ := HELD.out _ b4.out
      have eu := HUX.out _ b4.out
      go_wp2
      apply wp_weak1 (J := fun W => Upd us w W A P O (l ++ [y]) r)
      case h =>
        go_region_law (first | (go_simp; go_at_call 63; refine (WTH.out w5).mono ?_; rintro e w6 ⟨rfl, hb6⟩; have b6 : Hid (Below wr.heap.size wr w6) := hideP (b5.out.trans (hb6.mono b5.out.size)); have hf6 : ∀ j, w6.frozen? ⟨P, j, none⟩ = false := (HC.out.p.below b6.out HC.out.p.2.2).2.1; have J6 := hideP (HC.out.stored b6.out HL3.out); obtain ⟨p0, p1, p2, p3, p4, p5, p6, p7, p8, _⟩ := HELD.out _ b6.out; have pu := HUX.out _ b6.out; clear hb6) | (go_simp; go_at_call 86; (with_reducible refine EN4.out.mono ?_); rintro e w5 ⟨rfl, hb5⟩; have b5 : Hid (Below wr.heap.size wr w5) := hideP (B4d.out.trans (hb5.mono B4d.out.size)); obtain ⟨m0, m1, m2, m3, m4, m5, m6, m7, m8, _⟩ := HELD.out _ b5.out; have mu := HUX.out _ b5.out; clear hb5))
        all_goals exact ⟨rfl, J6.out⟩
      intro W hJ
      have G := hideP hJ
      clear hJ HELD ENX EN4 WTH HC B4d b4 HUX
      go_wp2
      go_roundg (gk - 1)
      case measure => omega
      case rel => exact ⟨i + 1, HI1.out, HNO2.out, by rw [HL2.out]; exact G.out⟩

end Go.Proofs.YtiaeffpjcinilaaDoor
