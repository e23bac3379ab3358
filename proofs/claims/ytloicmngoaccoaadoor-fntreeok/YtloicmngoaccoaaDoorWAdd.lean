/- Walk of impl.NetAdd. -/
import Derived.Test.YtloicmngoaccoaaDoorWTies
import Derived.Test.YtloicmngoaccoaaDoorWBase
namespace Go.Proofs.YtloicmngoaccoaaDoor
open Go.RowKit
set_option linter.unusedVariables false

set_option maxHeartbeats 800000 in
theorem netAdd_no (K : Int) (ao : Option Addr) (cap : Nat) (ts : List (Int × Int)) (a b : Int) (w : World) (hn : ts.length ≤ 1099511627776) (ht : TiesIn w w.heap.size ao ts) (hadd : addB K ts a b = false) :
    Calls Tryd.prog 23 #[.agg #[.int .i64 K, .slice ao ts.length cap], .int .i64 a, .int .i64 b] w fun e w' => e = .returned (.tuple #[.agg #[.int .i64 0, .slice none 0 0], .bool false]) ∧ Below w.heap.size w w' := by
  have hall := addB_no hadd
  clear hadd
  have ht1 := fun o p => (ht.below (below_two w o p) (Nat.le_refl _)).wide (C := w.heap.size + 1 + 1) (by omega)
  go_enter Tryd.func23, Tryd.ntmps23
  go_wp2_with fail
  refine (pairsOf_any K ao cap ts _ hn (by simpa using ht1 _ _)).mono ?_
  rintro e w1 ⟨rfl, hb⟩
  have B1 : Boxes w w1 K (.slice ao ts.length cap) := Boxes.start hb
  clear hb ht ht1
  rcases hall with hok | ⟨hok, hrest⟩
  · rw [hok]
    obtain ⟨c0, c1, r0, r1, f0, f1, hz, hbb⟩ := B1
    go_wp2
    refine bodyPost_ret (v := .tuple #[.agg #[.int .i64 0, .slice none 0 0], .bool false]) ?_ rfl ⟨rfl, ?_⟩
    · simp [results, Tryd.results23, go_sem, r0, r1]
    · exact (hbb.setCell (by simp) _).setCell (by simp) _
  · rw [hok]
    rcases hrest with ha | ⟨ha0, ha1, hrest⟩
    · clear hok
      have B1' := B1
      obtain ⟨c0, c1, r0, r1, f0, f1, hz, hbb⟩ := B1'
      have hk := knot_no ha
      clear ha
      go_wp2_with fail
      refine (hasKnot_b false K _ a _ hk).mono ?_
      rintro e w2 ⟨rfl, hb2⟩
      clear c0 c1 r0 r1 f0 f1 hz hbb
      obtain ⟨c0, c1, r0, r1, f0, f1, hz, hbb⟩ := (B1.next hb2)
      clear hb2 B1
      go_wp2
      refine bodyPost_ret (v := .tuple #[.agg #[.int .i64 0, .slice none 0 0], .bool false]) ?_ rfl ⟨rfl, ?_⟩
      · simp [results, Tryd.results23, go_sem, r0, r1]
      · exact (hbb.setCell (by simp) _).setCell (by simp) _
    · have hk := knot_yes ha0 ha1
      have B1' := B1
      obtain ⟨c0, c1, r0, r1, f0, f1, hz, hbb⟩ := B1'
      clear ha0 ha1
      go_wp2_with fail
      refine (hasKnot_b true K _ a _ hk).mono ?_
      rintro e w2 ⟨rfl, hb2⟩
      clear c0 c1 r0 r1 f0 f1 hz hbb
      have B2 := B1.next hb2
      have B2' := B2
      obtain ⟨c0, c1, r0, r1, f0, f1, hz, hbb⟩ := B2'
      clear hb2 B1 hk
      rcases hrest with hbk | ⟨hb0, hb1, hrest⟩
      · clear hok
        have hk2 := knot_no hbk
        clear hbk
        go_wp2_with fail
        refine (hasKnot_b false K _ b _ hk2).mono ?_
        rintro e w3 ⟨rfl, hb3⟩
        clear c0 c1 r0 r1 f0 f1 hz hbb
        obtain ⟨c0, c1, r0, r1, f0, f1, hz, hbb⟩ := (B2.next hb3)
        clear hb3 B2
        go_wp2
        refine bodyPost_ret (v := .tuple #[.agg #[.int .i64 0, .slice none 0 0], .bool false]) ?_ rfl ⟨rfl, ?_⟩
        · simp [results, Tryd.results23, go_sem, r0, r1]
        · exact (hbb.setCell (by simp) _).setCell (by simp) _
      · have hk2 := knot_yes hb0 hb1
        clear hb0 hb1
        go_wp2_with fail
        refine (hasKnot_b true K _ b _ hk2).mono ?_
        rintro e w3 ⟨rfl, hb3⟩
        clear c0 c1 r0 r1 f0 f1 hz hbb
        obtain ⟨c0, c1, r0, r1, f0, f1, hz, hbb⟩ := (B2.next hb3)
        clear hb3 B2 hk2
        rcases hrest with hab | ⟨hab, hhas⟩
        · have heq : (a == b) = true := by simp [hab]
          clear hok hab
          go_wp2
          refine bodyPost_ret (v := .tuple #[.agg #[.int .i64 0, .slice none 0 0], .bool false]) ?_ rfl ⟨rfl, ?_⟩
          · simp [results, Tryd.results23, go_sem, r0, r1]
          · exact (hbb.setCell (by simp) _).setCell (by simp) _
        · have heq : (a == b) = false := by simp [hab]
          have HOK : Hid (okB K ts = true) := hok
          have HH : Hid (hasB K ts a b = true) := hhas
          clear hok hhas hab
          go_wp2_with fail
          refine (has_is true K ts a b _ HOK.out HH.out).mono ?_
          rintro e w4 ⟨rfl, rfl⟩
          go_wp2
          refine bodyPost_ret (v := .tuple #[.agg #[.int .i64 0, .slice none 0 0], .bool false]) ?_ rfl ⟨rfl, ?_⟩
          · simp [results, Tryd.results23, go_sem, r0, r1]
          · exact (hbb.setCell (by simp) _).setCell (by simp) _
theorem ties_two (K : Int) (ts : List (Int × Int)) (m : Nat) (w : World) (hT : Tab w) (hK : K ≤ 8) (hg : GoodTo K ts ts.length) (hn : ts.length ≤ 64) (hb : BitsFrom m ts 0) (hm : m < 2 ^ 64) :
    Calls Tryd.prog 58 #[.int .u64 (m : Int)] w fun e w' => ∃ ao cap, e = .returned (.slice ao ts.length cap) ∧ w'.ownsRow w.heap.size 35 2 (.slice ao ts.length cap) ts.length (clist ts ts.length) ∧ Below w.heap.size w w' := by
  refine (ties_any K ts m w hT hK hg hn hb hm).mono ?_
  rintro e w' ⟨v, rfl, ho, hb⟩
  obtain ⟨ao, cap, rfl⟩ := own_slice ho
  exact ⟨ao, cap, rfl, ho, hb⟩
theorem bitsFrom_of {m : Nat} {ts : List (Int × Int)} (h : BitsOf m ts) : BitsFrom m ts 0 := by
  intro j
  rw [h j, ← mem_get]
  exact ⟨fun ⟨i, h1, h2⟩ => ⟨i, Nat.zero_le _, h1, h2⟩, fun ⟨i, _, h1, h2⟩ => ⟨i, h1, h2⟩⟩
set_option maxHeartbeats 800000 in
theorem netAdd_yes (K : Int) (ao : Option Addr) (cap : Nat) (ts : List (Int × Int)) (a b : Int) (w : World) (hn : ts.length ≤ 1099511627776) (ht : TiesIn w w.heap.size ao ts) (hT : Tab w) (hadd : addB K ts a b = true) :
    Calls Tryd.prog 23 #[.agg #[.int .i64 K, .slice ao ts.length cap], .int .i64 a, .int .i64 b] w fun e w' => ∃ ao' cap', e = .returned (.tuple #[.agg #[.int .i64 K, .slice ao' (ins (tieOf a b) ts).length cap'], .bool true]) ∧
      w'.ownsRow w.heap.size 35 2 (.slice ao' (ins (tieOf a b) ts).length cap') (ins (tieOf a b) ts).length (clist (ins (tieOf a b) ts) (ins (tieOf a b) ts).length) ∧ Below w.heap.size w w' := by
  obtain ⟨hsrt, hK8, hbits⟩ := add_good hadd
  obtain ⟨hok, a0, a1, b0, b1, hab, hno⟩ := addB_yes hadd
  have hlen := ok_short (okB_iff.1 hok)
  have HG : Hid (GoodTo K (ins (tieOf a b) ts) (ins (tieOf a b) ts).length) := hsrt.good hK8
  have HL : Hid ((ins (tieOf a b) ts).length ≤ 64) := ok_short ⟨by omega, hK8, HG.out⟩
  have HB : Hid (BitsFrom (setN K ts ||| pbit a b) (ins (tieOf a b) ts) 0) := bitsFrom_of hbits
  have HM : Hid (setN K ts ||| pbit a b < 2 ^ 64) := or_lt _ _ (setN_lt K ts) (pbit_lt a b)
  have HOK : Hid (okB K ts = true) := hok
  have HNO : Hid (hasB K ts a b = false) := hno
  have hka := knot_yes a0 a1
  have hkb := knot_yes b0 b1
  have heq : (a == b) = false := by simp [hab]
  clear hadd hsrt hbits hok hno a0 a1 b0 b1 hab hlen
  generalize ins (tieOf a b) ts = us at *
  generalize hsp : setN K ts ||| pbit a b = sp at *
  have HSP : Hid (setN K ts ||| pbit a b = sp) := hsp
  clear hsp
  have ht1 := fun o p => (ht.below (below_two w o p) (Nat.le_refl _)).wide (C := w.heap.size + 1 + 1) (by omega)
  go_enter Tryd.func23, Tryd.ntmps23
  go_wp2_with fail
  refine (pairsOf_any K ao cap ts _ hn (by simpa using ht1 _ _)).mono ?_
  rintro e w1 ⟨rfl, hb⟩
  rw [HOK.out]
  have B1 : Boxes w w1 K (.slice ao ts.length cap) := Boxes.start hb
  have B1' := B1
  obtain ⟨c0, c1, r0, r1, f0, f1, hz, hbb⟩ := B1'
  clear hb ht ht1
  go_wp2_with fail
  refine (hasKnot_b true K _ a _ hka).mono ?_
  rintro e w2 ⟨rfl, hb2⟩
  clear c0 c1 r0 r1 f0 f1 hz hbb
  have B2 := B1.next hb2
  have B2' := B2
  obtain ⟨c0, c1, r0, r1, f0, f1, hz, hbb⟩ := B2'
  clear hb2 B1 hka
  go_wp2_with fail
  refine (hasKnot_b true K _ b _ hkb).mono ?_
  rintro e w3 ⟨rfl, hb3⟩
  clear c0 c1 r0 r1 f0 f1 hz hbb
  have B3 := B2.next hb3
  clear hb3 B2 hkb
  go_wp2_with fail
  refine (has_is false K ts a b _ HOK.out HNO.out).mono ?_
  rintro e w4 ⟨rfl, rfl⟩
  have B3d : Boxes w w4.drew K (.slice ao ts.length cap) := B3.next (Below.refl _ _).drew
  have hT4 : Tab w4.drew := hT.below B3d.bel hT.2
  have c0 := B3d.c0
  have HB3 := hideP B3
  clear B3 hT
  go_wp2
  go_region_held3 (fun w' => w'.cell? ⟨w.heap.size, 0, none⟩ = some (.int .i64 K)) (first | exact c0 | exact c05 | (go_keep; done)) (first | (go_at_call 65; refine (with_any (setN K ts) a b _ (setN_lt K ts)).mono ?_; rw [HSP.out]; rintro e w' ⟨rfl, rfl⟩) | (go_at_call 58; refine (ties_two K us sp _ hT4 hK8 HG.out HL.out HB.out HM.out).mono ?_; rintro e w5 ⟨ao', cap', rfl, ho5, hb5⟩; obtain ⟨c05, c15, r05, r15, f05, f15, hz5, hbb5⟩ := B3d.next hb5))
  have hz6 : w.heap.size + 1 < w4.heap.size := HB3.out.hz
  have ho6 : Hid (((w5.setCell ⟨w.heap.size + 1, 0, none⟩ (.int .i64 K)).setCell ⟨w.heap.size + 1, 1, none⟩ (.slice ao' us.length cap')).ownsRow w.heap.size 35 2 (.slice ao' us.length cap') us.length (clist us us.length)) :=
    own_base (ownsRow_setCell_below (ownsRow_setCell_below ho5 (a := ⟨w.heap.size + 1, 0, none⟩) hz6 _) (a := ⟨w.heap.size + 1, 1, none⟩) hz6 _) (by show w.heap.size ≤ w4.heap.size; omega)
  clear ho5 HB3 B3d
  go_wp2
  refine bodyPost_ret (v := .tuple #[.agg #[.int .i64 K, .slice ao' us.length cap'], .bool true]) ?_ rfl ⟨ao', cap', rfl, ?_, ?_⟩
  · simp [results, Tryd.results23, go_sem, r05, r15]
  · exact ho6.out
  · exact (hbb5.setCell (by simp) _).setCell (by simp) _

end Go.Proofs.YtloicmngoaccoaaDoor
