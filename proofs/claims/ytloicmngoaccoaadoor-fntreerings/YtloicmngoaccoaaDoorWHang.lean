/- Walk of impl.parents.hang: of each knot below the one above is told. -/
import Derived.Test.YtloicmngoaccoaaDoorMathZ
import Derived.Test.YtloicmngoaccoaaDoorPartWForest
namespace Go.Proofs.YtloicmngoaccoaaDoor
open Go.RowKit
set_option linter.unusedVariables false

def updN (f : Nat → Nat) (i v : Nat) : Nat → Nat := fun j => if j = i then v else f j
theorem updN_at (f : Nat → Nat) (i v : Nat) : updN f i v i = v := by simp [updN]
theorem updN_no (f : Nat → Nat) {i j : Nat} (v : Nat) (h : j ≠ i) : updN f i v j = f j := by simp [updN, h]
theorem turned_on {lo hi : Nat} {a b c : World} (h : Turned lo hi a b) (k : Turned lo hi b c) : Turned lo hi a c :=
  ⟨k.os.trans h.os, k.tape.trans h.tape, k.output.trans h.output, Nat.le_trans h.size k.size, fun i hi ho => (k.block i (Nat.lt_of_lt_of_le hi h.size) ho).trans (h.block i hi ho)⟩
theorem turned_at (A : Nat) (W : World) (j : Nat) (u : Value) : Turned A (A + 1) W (W.setCell ⟨A, j, none⟩ u) :=
  ⟨rfl, rfl, rfl, by simp, fun k hk ho => Below.heap_setCell _ _ _ _ (by show k ≠ A; omega)⟩
/-- the knots above in memory, while one hangs what is below k -/
def Hp (us : List (Int × Int)) (A : Nat) (f : Nat → Nat) (k : Nat) (w : World) (j : Nat) (wr : World) : Prop := ∃ f', OwnI wr A 8 (pcellN f') ∧ Turned A (A + 1) w wr ∧ (∀ v, f' v = f v ∨ f' v = parN 8 us v) ∧ Hung 8 us 8 f' k j
theorem has_hv (v : Bool) (p : Nat) (a b : Int) (w : World) (hp : p < 2 ^ 64) (h : decide (p &&& pbit a b ≠ 0) = v) :
    Calls Tryd.prog 56 #[.int .u64 (p : Int), .int .i64 a, .int .i64 b] w fun e w' => e = .returned (.bool v) ∧ w' = w := by
  rw [← h]; exact has_any p a b w hp
set_option maxHeartbeats 1600000 in
theorem hang_any (us : List (Int × Int)) (t : Trn 8 us 8) (s A : Nat) (hs : s < 2 ^ 64) (hE : ∀ x y : Nat, decide (s &&& pbit (x : Int) (y : Int) ≠ 0) = tieNB us x y) :
    ∀ (n k : Nat) (f : Nat → Nat) (w : World), k < 8 → 8 ≤ depN 8 us k + n → OwnI w A 8 (pcellN f) → (∀ v, f v = v ∨ f v = parN 8 us v) → f k = parN 8 us k →
      Calls Tryd.prog 88 #[.pointer (some ⟨A, 0, none⟩), .int .u64 (s : Int), .int .i64 (k : Int)] w fun e w' => e = .returned (.tuple #[]) ∧ Hp us A f k w 8 w' := by
  intro n
  induction n with
  | zero => intro k f w hk hd; have := dep_lt t hk; omega
  | succ n ih =>
    intro k f w hk hd hF hid hfk
    have HIH := hideP ih
    have HT := hideP t
    have HE := hideP hE
    have HID := hideP hid
    have HFK := hideP hfk
    have S0 : Hid (Hp us A f k w 0 w) := ⟨f, hF, Turned.refl _ _ _, fun v => Or.inl rfl, fun c hc => by omega⟩
    clear ih t hE hid hfk hF
    go_enter Tryd.func88, Tryd.ntmps88
    go_wp2
    go_loopw [7] (fun i wr => ∃ j : Nat, j ≤ 8 ∧ i = .int .i64 j ∧ Hp us A f k w j wr)
      (fun i _ => 8 - (intOf i).toNat)
    case atStart => exact ⟨0, Nat.zero_le _, rfl, S0.out⟩
    case round =>
      clear S0
      obtain ⟨j, hj, rfl, f', hF, ht, hor, hH⟩ := hrel
      by_cases hlt : j < 8
      · have hj8 : (j : Int) < 8 := by omega
        have hj0 : (0 : Int) ≤ (j : Int) := by omega
        have hk9 : (k : Int) < 8 := by omega
        have hk0 : (0 : Int) ≤ (k : Int) := by omega
        have hfk : f' k = parN 8 us k := by
          rcases hor k with e | e
          · rw [e]; exact HFK.out
          · exact e
        have ck : wr.cell? ⟨A, k, none⟩ = some (.int .i64 ((parN 8 us k : Nat) : Int)) := by
          rw [hF.1 k hk]; unfold pcellN; rw [hfk]
        have cj := hF.1 j hlt
        have fz := hF.2.1
        have SKIP : Hid (¬ Kid 8 us 8 k j → Hp us A f k w (j + 1) wr) := fun hn => ⟨f', hF, ht, hor, hH.step (fun h => absurd h hn)⟩
        have GO : Hid (Kid 8 us 8 k j → ∀ w2, Hp us A (updN f' j k) j (wr.setCell ⟨A, j, none⟩ (.int .i64 (k : Int))) 8 w2 → Hp us A f k w (j + 1) w2) := fun hkid w2 h2 => by
          obtain ⟨g, g1, g2, g3, g4⟩ := h2
          have hpj : updN f' j k j = parN 8 us j := by rw [updN_at]; exact hkid.2.2.symm
          have hg : ∀ v, g v = f' v ∨ g v = parN 8 us v := fun v => by
            rcases g3 v with e | e
            · by_cases ev : v = j
              · subst ev; right; rw [e]; exact hpj
              · left; rw [e, updN_no _ _ ev]
            · exact Or.inr e
          have hgj : g j = parN 8 us j := by
            rcases g3 j with e | e
            · rw [e]; exact hpj
            · exact e
          refine ⟨g, g1, turned_on ht (turned_on (turned_at A wr j (.int .i64 (k : Int))) g2), fun v => ?_, (hH.keep hg).step (fun _ => ⟨hgj, fun v hv hm hne => g4.all HT.out hv hm hne⟩)⟩
          rcases hg v with e | e
          · rcases hor v with q | q
            · exact Or.inl (e.trans q)
            · exact Or.inr (e.trans q)
          · exact Or.inr e
        have PRE : Hid (Kid 8 us 8 k j → Calls Tryd.prog 88 #[.pointer (some ⟨A, 0, none⟩), .int .u64 (s : Int), .int .i64 (j : Int)] (wr.setCell ⟨A, j, none⟩ (.int .i64 (k : Int))) fun e w' => e = .returned (.tuple #[]) ∧ Hp us A (updN f' j k) j (wr.setCell ⟨A, j, none⟩ (.int .i64 (k : Int))) 8 w') := fun hkid => by
          have hd' : depN 8 us j = depN 8 us k + 1 := by
            have := (HT.out.up hkid.1 hkid.2.1).2.2.2.1
            rw [hkid.2.2] at this; exact this
          refine HIH.out j (updN f' j k) _ hlt (by omega) ?_ (fun v => ?_) (by rw [updN_at]; exact hkid.2.2.symm)
          · refine (hF.set hlt (.int .i64 (k : Int))).congr (fun q hq => ?_)
            by_cases e : q = j
            · subst e; rw [if_pos rfl]; unfold pcellN; rw [updN_at]
            · rw [if_neg e]; unfold pcellN; rw [updN_no _ _ e]
          · by_cases ev : v = j
            · subst ev; right; rw [updN_at]; exact hkid.2.2.symm
            · rw [updN_no _ _ ev]
              rcases hor v with q | q
              · rcases HID.out v with r | r
                · exact Or.inl (q.trans r)
                · exact Or.inr (q.trans r)
              · exact Or.inr q
        have HK := hideP (HT.out.kid (c := j) hk)
        clear hF ht hor hH hfk
        cases hb : tieNB us k j with
        | false =>
          have HV : Hid (decide (s &&& pbit (k : Int) (j : Int) ≠ 0) = false) := by rw [HE.out, hb]; exact hideP rfl
          have F := hideP (SKIP.out (fun h => by have := HK.out.2 h; rw [hb] at this; cases this.1))
          clear SKIP GO PRE HK hb
          go_wp2_with fail
          refine (has_hv false s (k : Int) (j : Int) _ hs HV.out).mono ?_
          rintro e w1 ⟨rfl, rfl⟩
          go_wp2
          exact ⟨⟨j + 1, by omega, by go_num, F.out⟩, by simp [intOf]; omega⟩
        | true =>
          have HV : Hid (decide (s &&& pbit (k : Int) (j : Int) ≠ 0) = true) := by rw [HE.out, hb]; exact hideP rfl
          by_cases hp : j = parN 8 us k
          · have F := hideP (SKIP.out (fun h => (HK.out.2 h).2 hp))
            rw [← hp] at ck
            clear SKIP GO PRE HK hb hp
            go_wp2_with fail
            refine (has_hv true s (k : Int) (j : Int) _ hs HV.out).mono ?_
            rintro e w1 ⟨rfl, rfl⟩
            go_wp2
            exact ⟨⟨j + 1, by omega, by go_num, F.out⟩, by simp [intOf]; omega⟩
          · have hne : ((j : Int) != ((parN 8 us k : Nat) : Int)) = true := by rw [bne_iff_ne]; omega
            have hkid := HK.out.1 ⟨hb, hp⟩
            have F := hideP (GO.out hkid)
            have CL := hideP (PRE.out hkid)
            obtain ⟨pk, hpk⟩ : ∃ pk, pk = parN 8 us k := ⟨_, rfl⟩
            rw [← hpk] at ck hne
            clear SKIP GO PRE HK hb hp hkid hpk
            go_wp2_with fail
            refine (has_hv true s (k : Int) (j : Int) _ hs HV.out).mono ?_
            rintro e w1 ⟨rfl, rfl⟩
            go_wp2_with fail
            refine CL.out.mono ?_
            rintro e w2 ⟨rfl, h2⟩
            have FF := hideP (F.out w2 h2)
            clear F CL h2 ck cj fz
            go_wp2
            exact ⟨⟨j + 1, by omega, by go_num, FF.out⟩, by simp [intOf]; omega⟩
      · obtain rfl : j = 8 := by omega
        have F : Hid (Hp us A f k w 8 wr) := ⟨f', hF, ht, hor, hH⟩
        clear hF ht hor hH
        go_wp2
        exact bodyPost_end (v := .tuple #[]) (results_none rfl _ _ _) rfl ⟨rfl, F.out⟩

end Go.Proofs.YtloicmngoaccoaaDoor
