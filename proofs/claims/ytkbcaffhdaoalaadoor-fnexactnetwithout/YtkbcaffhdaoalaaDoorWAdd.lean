/- Walks of impl.NetAdd, impl.NetCut, impl.NetWithout. -/
import Derived.Test.YtkbcaffhdaoalaaDoorWTies
import Derived.Laws.BitsAllLaws
namespace Go.Proofs.YtkbcaffhdaoalaaDoor
open Go.RowKit
set_option linter.unusedVariables false

def addB (K : Int) (ts : List (Int × Int)) (a b : Int) : Bool := okB K ts && knotB a K && knotB b K && decide (a ≠ b) && !(hasB K ts a b)
theorem addB_yes {K : Int} {ts : List (Int × Int)} {a b : Int} (h : addB K ts a b = true) : okB K ts = true ∧ 0 ≤ a ∧ a < K ∧ 0 ≤ b ∧ b < K ∧ a ≠ b ∧ hasB K ts a b = false := by
  simp only [addB, knotB, Bool.and_eq_true, decide_eq_true_eq, Bool.not_eq_true'] at h
  obtain ⟨⟨⟨⟨h1, h2, h3⟩, h4, h5⟩, h6⟩, h7⟩ := h
  exact ⟨h1, h2, h3, h4, h5, h6, h7⟩
theorem addB_no {K : Int} {ts : List (Int × Int)} {a b : Int} (h : addB K ts a b = false) :
    okB K ts = false ∨ (okB K ts = true ∧ ((a < 0 ∨ K ≤ a) ∨ (0 ≤ a ∧ a < K ∧ ((b < 0 ∨ K ≤ b) ∨ (0 ≤ b ∧ b < K ∧ (a = b ∨ (a ≠ b ∧ hasB K ts a b = true))))))) := by
  cases hok : okB K ts
  · exact Or.inl rfl
  · refine Or.inr ⟨rfl, ?_⟩
    by_cases h1 : 0 ≤ a ∧ a < K
    · refine Or.inr ⟨h1.1, h1.2, ?_⟩
      by_cases h2 : 0 ≤ b ∧ b < K
      · refine Or.inr ⟨h2.1, h2.2, ?_⟩
        by_cases h3 : a = b
        · exact Or.inl h3
        · refine Or.inr ⟨h3, ?_⟩
          simp only [addB, hok, knotB, h1, h2] at h
          simp at h
          exact h h3
      · exact Or.inl (by omega)
    · exact Or.inl (by omega)

set_option maxHeartbeats 400000 in
theorem with_any (p : Nat) (a b : Int) (w : World) (hp : p < 2 ^ 64) :
    Calls Tryd.prog 40 #[.int .u64 (p : Int), .int .i64 a, .int .i64 b] w fun e w' => e = .returned (.int .u64 ((p ||| pbit a b : Nat) : Int)) ∧ w' = w := by
  have hor := or_nat p (pbit a b) hp (pbit_lt a b)
  clear hp
  go_enter Tryd.func40, Tryd.ntmps40
  go_wp2_with fail
  refine (pairBit_any a b _).mono ?_
  rintro e w' ⟨rfl, rfl⟩
  go_wp2
  go_ret
  exact ⟨rfl, rfl⟩

theorem has_is (v : Bool) (K : Int) (ts : List (Int × Int)) (a b : Int) (w : World) (hok : okB K ts = true) (h : hasB K ts a b = v) :
    Calls Tryd.prog 39 #[.int .u64 ((setN K ts : Nat) : Int), .int .i64 a, .int .i64 b] w fun e w' => e = .returned (.bool v) ∧ w' = w := by
  rw [← h, ← has_set K ts a b hok]; exact has_any (setN K ts) a b w (setN_lt K ts)

theorem hideP {p : Prop} (h : p) : Hid p := h
/-- the net's own cells behind the calls that only make memory -/
theorem box_cells {w w1 : World} {K : Int} {v : Value} {o : Obj} {t : TypeId} (hb : Below (w.heap.size + 1 + 1) ((w.alloc (.cells #[.int .i64 K, v] t)).alloc o) w1) :
    w1.cell? ⟨w.heap.size, 0, none⟩ = some (.int .i64 K) ∧ w1.cell? ⟨w.heap.size, 1, none⟩ = some v := by
  constructor
  · rw [hb.cell (p := ⟨w.heap.size, 0, none⟩) (by simp; omega), World.cell?_alloc_past _ _ _ (by simp)]; simp
  · rw [hb.cell (p := ⟨w.heap.size, 1, none⟩) (by simp; omega), World.cell?_alloc_past _ _ _ (by simp)]; simp
theorem res_cells {w w1 : World} {u v : Value} {o : Obj} {t : TypeId} (hb : Below (w.heap.size + 1 + 1) ((w.alloc o).alloc (.cells #[u, v] t)) w1) :
    w1.cell? ⟨w.heap.size + 1, 0, none⟩ = some u ∧ w1.cell? ⟨w.heap.size + 1, 1, none⟩ = some v ∧ w1.frozen? ⟨w.heap.size + 1, 0, none⟩ = false ∧ w1.frozen? ⟨w.heap.size + 1, 1, none⟩ = false := by
  have c := fun i => World.cell?_alloc_at (w := w.alloc o) #[u, v] t (w.heap.size + 1) i (by simp)
  have f := fun i => World.frozen?_alloc_at (w := w.alloc o) #[u, v] t (w.heap.size + 1) i (by simp)
  refine ⟨?_, ?_, ?_, ?_⟩
  · rw [hb.cell (p := ⟨w.heap.size + 1, 0, none⟩) (by simp), c]; rfl
  · rw [hb.cell (p := ⟨w.heap.size + 1, 1, none⟩) (by simp), c]; rfl
  · rw [hb.frozen (p := ⟨w.heap.size + 1, 0, none⟩) (by simp), f]
  · rw [hb.frozen (p := ⟨w.heap.size + 1, 1, none⟩) (by simp), f]

theorem hasKnot_b (r : Bool) (K : Int) (v : Value) (k : Int) (w : World) (h : knotB k K = r) :
    Calls Tryd.prog 38 #[.agg #[.int .i64 K, v], .int .i64 k] w fun e w' => e = .returned (.bool r) ∧ Below w.heap.size w w' := by
  rw [← h]
  refine (hasKnot_any K v k w).mono ?_
  rintro e w' ⟨rfl, rfl⟩
  exact ⟨rfl, below_one _ _⟩
theorem knot_yes {k K : Int} (h0 : 0 ≤ k) (h1 : k < K) : knotB k K = true := by simp [knotB, h0, h1]
theorem knot_no {k K : Int} (h : k < 0 ∨ K ≤ k) : knotB k K = false := by simp [knotB]; omega

/-- the box of a net that came in, and the cell of the net that goes out, behind calls that only make memory -/
structure Boxes (w w1 : World) (K : Int) (v : Value) : Prop where
  c0 : w1.cell? ⟨w.heap.size, 0, none⟩ = some (.int .i64 K)
  c1 : w1.cell? ⟨w.heap.size, 1, none⟩ = some v
  r0 : w1.cell? ⟨w.heap.size + 1, 0, none⟩ = some (.int .i64 0)
  r1 : w1.cell? ⟨w.heap.size + 1, 1, none⟩ = some (.slice none 0 0)
  f0 : w1.frozen? ⟨w.heap.size + 1, 0, none⟩ = false
  f1 : w1.frozen? ⟨w.heap.size + 1, 1, none⟩ = false
  hz : w.heap.size + 1 < w1.heap.size
  bel : Below w.heap.size w w1
theorem Boxes.start {w w1 : World} {K : Int} {v : Value} {t t' : TypeId} (hb : Below ((w.alloc (.cells #[.int .i64 K, v] t)).alloc (.cells #[.int .i64 0, .slice none 0 0] t')).heap.size ((w.alloc (.cells #[.int .i64 K, v] t)).alloc (.cells #[.int .i64 0, .slice none 0 0] t')) w1) : Boxes w w1 K v := by
  have hb' : Below (w.heap.size + 1 + 1) ((w.alloc (.cells #[.int .i64 K, v] t)).alloc (.cells #[.int .i64 0, .slice none 0 0] t')) w1 := by simpa using hb
  obtain ⟨c0, c1⟩ := box_cells hb'
  obtain ⟨r0, r1, f0, f1⟩ := res_cells hb'
  exact ⟨c0, c1, r0, r1, f0, f1, by have := hb'.size; simp at this; omega, (below_two _ _ _).trans (hb'.mono (by omega))⟩
theorem Boxes.next {w w1 w2 : World} {K : Int} {v : Value} (h : Boxes w w1 K v) (hb : Below w1.heap.size w1 w2) : Boxes w w2 K v := by
  have z := h.hz
  exact ⟨(hb.cell (p := ⟨w.heap.size, 0, none⟩) (by simp; omega)).trans h.c0, (hb.cell (p := ⟨w.heap.size, 1, none⟩) (by simp; omega)).trans h.c1,
    (hb.cell (p := ⟨w.heap.size + 1, 0, none⟩) z).trans h.r0, (hb.cell (p := ⟨w.heap.size + 1, 1, none⟩) z).trans h.r1,
    (hb.frozen (p := ⟨w.heap.size + 1, 0, none⟩) z).trans h.f0, (hb.frozen (p := ⟨w.heap.size + 1, 1, none⟩) z).trans h.f1,
    Nat.lt_of_lt_of_le z hb.size, h.bel.trans (hb.mono h.bel.size)⟩

set_option maxHeartbeats 800000 in
theorem netAdd_no (K : Int) (ao : Option Addr) (cap : Nat) (ts : List (Int × Int)) (a b : Int) (w : World) (hn : ts.length ≤ 1099511627776) (ht : TiesIn w w.heap.size ao ts) (hadd : addB K ts a b = false) :
    Calls Tryd.prog 13 #[.agg #[.int .i64 K, .slice ao ts.length cap], .int .i64 a, .int .i64 b] w fun e w' => e = .returned (.tuple #[.agg #[.int .i64 0, .slice none 0 0], .bool false]) ∧ Below w.heap.size w w' := by
  have hall := addB_no hadd
  clear hadd
  have ht1 := fun o p => (ht.below (below_two w o p) (Nat.le_refl _)).wide (C := w.heap.size + 1 + 1) (by omega)
  go_enter Tryd.func13, Tryd.ntmps13
  go_wp2_with fail
  refine (pairsOf_any K ao cap ts _ hn (by simpa using ht1 _ _)).mono ?_
  rintro e w1 ⟨rfl, hb⟩
  have B1 : Boxes w w1 K (.slice ao ts.length cap) := Boxes.start hb
  clear hb ht ht1
  rcases hall with hok | ⟨hok, hrest⟩
  · rw [hok]
    obtain ⟨c0, c1, r0, r1, f0, f1, hz, hbb⟩ := B1
    go_wp2
    refine bodyPost_ret (v := .tuple #[.agg #[.int .i64 0, .slice none 0 0], .bool false]) ?_ rfl ⟨rfl, ?_⟩
    · simp [results, Tryd.results13, go_sem, r0, r1]
    · exact (hbb.setCell (by simp) _).setCell (by simp) _
  · rw [hok]
    rcases hrest with ha | ⟨ha0, ha1, hrest⟩
    · clear hok
      have B1' := B1
      obtain ⟨c0, c1, r0, r1, f0, f1, hz, hbb⟩ := B1'
      have hk := knot_no ha
      clear ha
      go_wp2_with fail
      refine (hasKnot_b false K _ a _ hk).mono ?_
      rintro e w2 ⟨rfl, hb2⟩
      clear c0 c1 r0 r1 f0 f1 hz hbb
      obtain ⟨c0, c1, r0, r1, f0, f1, hz, hbb⟩ := (B1.next hb2)
      clear hb2 B1
      go_wp2
      refine bodyPost_ret (v := .tuple #[.agg #[.int .i64 0, .slice none 0 0], .bool false]) ?_ rfl ⟨rfl, ?_⟩
      · simp [results, Tryd.results13, go_sem, r0, r1]
      · exact (hbb.setCell (by simp) _).setCell (by simp) _
    · have hk := knot_yes ha0 ha1
      have B1' := B1
      obtain ⟨c0, c1, r0, r1, f0, f1, hz, hbb⟩ := B1'
      clear ha0 ha1
      go_wp2_with fail
      refine (hasKnot_b true K _ a _ hk).mono ?_
      rintro e w2 ⟨rfl, hb2⟩
      clear c0 c1 r0 r1 f0 f1 hz hbb
      have B2 := B1.next hb2
      have B2' := B2
      obtain ⟨c0, c1, r0, r1, f0, f1, hz, hbb⟩ := B2'
      clear hb2 B1 hk
      rcases hrest with hbk | ⟨hb0, hb1, hrest⟩
      · clear hok
        have hk2 := knot_no hbk
        clear hbk
        go_wp2_with fail
        refine (hasKnot_b false K _ b _ hk2).mono ?_
        rintro e w3 ⟨rfl, hb3⟩
        clear c0 c1 r0 r1 f0 f1 hz hbb
        obtain ⟨c0, c1, r0, r1, f0, f1, hz, hbb⟩ := (B2.next hb3)
        clear hb3 B2
        go_wp2
        refine bodyPost_ret (v := .tuple #[.agg #[.int .i64 0, .slice none 0 0], .bool false]) ?_ rfl ⟨rfl, ?_⟩
        · simp [results, Tryd.results13, go_sem, r0, r1]
        · exact (hbb.setCell (by simp) _).setCell (by simp) _
      · have hk2 := knot_yes hb0 hb1
        clear hb0 hb1
        go_wp2_with fail
        refine (hasKnot_b true K _ b _ hk2).mono ?_
        rintro e w3 ⟨rfl, hb3⟩
        clear c0 c1 r0 r1 f0 f1 hz hbb
        obtain ⟨c0, c1, r0, r1, f0, f1, hz, hbb⟩ := (B2.next hb3)
        clear hb3 B2 hk2
        rcases hrest with hab | ⟨hab, hhas⟩
        · have heq : (a == b) = true := by simp [hab]
          clear hok hab
          go_wp2
          refine bodyPost_ret (v := .tuple #[.agg #[.int .i64 0, .slice none 0 0], .bool false]) ?_ rfl ⟨rfl, ?_⟩
          · simp [results, Tryd.results13, go_sem, r0, r1]
          · exact (hbb.setCell (by simp) _).setCell (by simp) _
        · have heq : (a == b) = false := by simp [hab]
          have HOK : Hid (okB K ts = true) := hok
          have HH : Hid (hasB K ts a b = true) := hhas
          clear hok hhas hab
          go_wp2_with fail
          refine (has_is true K ts a b _ HOK.out HH.out).mono ?_
          rintro e w4 ⟨rfl, rfl⟩
          go_wp2
          refine bodyPost_ret (v := .tuple #[.agg #[.int .i64 0, .slice none 0 0], .bool false]) ?_ rfl ⟨rfl, ?_⟩
          · simp [results, Tryd.results13, go_sem, r0, r1]
          · exact (hbb.setCell (by simp) _).setCell (by simp) _

theorem own_base {w : World} {base base' : Nat} {e : TypeId} {size : Nat} {v : Value} {n : Nat} {xs : List Value} (h : w.ownsRow base e size v n xs) (hb : base' ≤ base) : w.ownsRow base' e size v n xs := by
  refine ⟨h.1, ?_⟩
  rcases h.2 with h1 | ⟨g, cap, cur, h1, h2, h3⟩
  · exact Or.inl h1
  · exact Or.inr ⟨g, cap, cur, h1, Nat.le_trans hb h2, h3⟩
theorem own_slice {w : World} {base : Nat} {e : TypeId} {size : Nat} {v : Value} {n : Nat} {xs : List Value} (h : w.ownsRow base e size v n xs) : ∃ ao cap, v = .slice ao n cap := by
  rcases h.2 with ⟨rfl, rfl⟩ | ⟨g, cap, cur, rfl, _⟩
  · exact ⟨none, 0, rfl⟩
  · exact ⟨_, cap, rfl⟩
theorem ties_two (K : Int) (ts : List (Int × Int)) (m : Nat) (w : World) (hT : Tab w) (hK : K ≤ 8) (hg : GoodTo K ts ts.length) (hn : ts.length ≤ 64) (hb : BitsFrom m ts 0) (hm : m < 2 ^ 64) :
    Calls Tryd.prog 41 #[.int .u64 (m : Int)] w fun e w' => ∃ ao cap, e = .returned (.slice ao ts.length cap) ∧ w'.ownsRow w.heap.size 32 2 (.slice ao ts.length cap) ts.length (clist ts ts.length) ∧ Below w.heap.size w w' := by
  refine (ties_any K ts m w hT hK hg hn hb hm).mono ?_
  rintro e w' ⟨v, rfl, ho, hb⟩
  obtain ⟨ao, cap, rfl⟩ := own_slice ho
  exact ⟨ao, cap, rfl, ho, hb⟩
theorem bitsFrom_of {m : Nat} {ts : List (Int × Int)} (h : BitsOf m ts) : BitsFrom m ts 0 := by
  intro j
  rw [h j, ← mem_get]
  exact ⟨fun ⟨i, h1, h2⟩ => ⟨i, Nat.zero_le _, h1, h2⟩, fun ⟨i, _, h1, h2⟩ => ⟨i, h1, h2⟩⟩
theorem ok_parts {K : Int} {ts : List (Int × Int)} (h : okB K ts = true) : 0 ≤ K ∧ K ≤ 8 ∧ Srt K ts := ok_srt.1 (okB_iff.1 h)
/-- the tie of two knots, as the net has it -/
def tieOf (a b : Int) : Int × Int := (min a b, max a b)
theorem add_good {K : Int} {ts : List (Int × Int)} {a b : Int} (h : addB K ts a b = true) : Srt K (ins (tieOf a b) ts) ∧ K ≤ 8 ∧ BitsOf (setN K ts ||| pbit a b) (ins (tieOf a b) ts) := by
  obtain ⟨hok, a0, a1, b0, b1, hab, hno⟩ := addB_yes h
  obtain ⟨k0, k8, hs⟩ := ok_parts hok
  have ht : TieOk K (tieOf a b).1 (tieOf a b).2 := by unfold tieOf TieOk; dsimp only; omega
  rw [hasB_ok hok] at hno
  have hn : tieOf a b ∉ ts := fun hm => by
    have := tied_mem.2 hm
    rw [hno] at this; simp at this
  refine ⟨srt_ins k8 ht hs hn, k8, ?_⟩
  rw [setN_yes hok, pbit_yes (by omega) (by omega) (by omega)]
  exact bits_ins (mask_bitsOf ts) (tieOf a b)
theorem or_lt (p q : Nat) (hp : p < 2 ^ 64) (hq : q < 2 ^ 64) : p ||| q < 2 ^ 64 := Nat.or_lt_two_pow hp hq

set_option maxHeartbeats 800000 in
theorem netAdd_yes (K : Int) (ao : Option Addr) (cap : Nat) (ts : List (Int × Int)) (a b : Int) (w : World) (hn : ts.length ≤ 1099511627776) (ht : TiesIn w w.heap.size ao ts) (hT : Tab w) (hadd : addB K ts a b = true) :
    Calls Tryd.prog 13 #[.agg #[.int .i64 K, .slice ao ts.length cap], .int .i64 a, .int .i64 b] w fun e w' => ∃ ao' cap', e = .returned (.tuple #[.agg #[.int .i64 K, .slice ao' (ins (tieOf a b) ts).length cap'], .bool true]) ∧
      w'.ownsRow w.heap.size 32 2 (.slice ao' (ins (tieOf a b) ts).length cap') (ins (tieOf a b) ts).length (clist (ins (tieOf a b) ts) (ins (tieOf a b) ts).length) ∧ Below w.heap.size w w' := by
  obtain ⟨hsrt, hK8, hbits⟩ := add_good hadd
  obtain ⟨hok, a0, a1, b0, b1, hab, hno⟩ := addB_yes hadd
  have hlen := ok_short (okB_iff.1 hok)
  have HG : Hid (GoodTo K (ins (tieOf a b) ts) (ins (tieOf a b) ts).length) := hsrt.good hK8
  have HL : Hid ((ins (tieOf a b) ts).length ≤ 64) := ok_short ⟨by omega, hK8, HG.out⟩
  have HB : Hid (BitsFrom (setN K ts ||| pbit a b) (ins (tieOf a b) ts) 0) := bitsFrom_of hbits
  have HM : Hid (setN K ts ||| pbit a b < 2 ^ 64) := or_lt _ _ (setN_lt K ts) (pbit_lt a b)
  have HOK : Hid (okB K ts = true) := hok
  have HNO : Hid (hasB K ts a b = false) := hno
  have hka := knot_yes a0 a1
  have hkb := knot_yes b0 b1
  have heq : (a == b) = false := by simp [hab]
  clear hadd hsrt hbits hok hno a0 a1 b0 b1 hab hlen
  generalize ins (tieOf a b) ts = us at *
  generalize hsp : setN K ts ||| pbit a b = sp at *
  have HSP : Hid (setN K ts ||| pbit a b = sp) := hsp
  clear hsp
  have ht1 := fun o p => (ht.below (below_two w o p) (Nat.le_refl _)).wide (C := w.heap.size + 1 + 1) (by omega)
  go_enter Tryd.func13, Tryd.ntmps13
  go_wp2_with fail
  refine (pairsOf_any K ao cap ts _ hn (by simpa using ht1 _ _)).mono ?_
  rintro e w1 ⟨rfl, hb⟩
  rw [HOK.out]
  have B1 : Boxes w w1 K (.slice ao ts.length cap) := Boxes.start hb
  have B1' := B1
  obtain ⟨c0, c1, r0, r1, f0, f1, hz, hbb⟩ := B1'
  clear hb ht ht1
  go_wp2_with fail
  refine (hasKnot_b true K _ a _ hka).mono ?_
  rintro e w2 ⟨rfl, hb2⟩
  clear c0 c1 r0 r1 f0 f1 hz hbb
  have B2 := B1.next hb2
  have B2' := B2
  obtain ⟨c0, c1, r0, r1, f0, f1, hz, hbb⟩ := B2'
  clear hb2 B1 hka
  go_wp2_with fail
  refine (hasKnot_b true K _ b _ hkb).mono ?_
  rintro e w3 ⟨rfl, hb3⟩
  clear c0 c1 r0 r1 f0 f1 hz hbb
  have B3 := B2.next hb3
  clear hb3 B2 hkb
  go_wp2_with fail
  refine (has_is false K ts a b _ HOK.out HNO.out).mono ?_
  rintro e w4 ⟨rfl, rfl⟩
  have B3d : Boxes w w4.drew K (.slice ao ts.length cap) := B3.next (Below.refl _ _).drew
  have hT4 : Tab w4.drew := hT.below B3d.bel hT.2
  have c0 := B3d.c0
  have HB3 := hideP B3
  clear B3 hT
  go_wp2
  go_region_held3 (fun w' => w'.cell? ⟨w.heap.size, 0, none⟩ = some (.int .i64 K)) (first | exact c0 | exact c05 | (go_keep; done)) (first | (go_at_call 40; refine (with_any (setN K ts) a b _ (setN_lt K ts)).mono ?_; rw [HSP.out]; rintro e w' ⟨rfl, rfl⟩) | (go_at_call 41; refine (ties_two K us sp _ hT4 hK8 HG.out HL.out HB.out HM.out).mono ?_; rintro e w5 ⟨ao', cap', rfl, ho5, hb5⟩; obtain ⟨c05, c15, r05, r15, f05, f15, hz5, hbb5⟩ := B3d.next hb5))
  have hz6 : w.heap.size + 1 < w4.heap.size := HB3.out.hz
  have ho6 : Hid (((w5.setCell ⟨w.heap.size + 1, 0, none⟩ (.int .i64 K)).setCell ⟨w.heap.size + 1, 1, none⟩ (.slice ao' us.length cap')).ownsRow w.heap.size 32 2 (.slice ao' us.length cap') us.length (clist us us.length)) :=
    own_base (ownsRow_setCell_below (ownsRow_setCell_below ho5 (a := ⟨w.heap.size + 1, 0, none⟩) hz6 _) (a := ⟨w.heap.size + 1, 1, none⟩) hz6 _) (by show w.heap.size ≤ w4.heap.size; omega)
  clear ho5 HB3 B3d
  go_wp2
  refine bodyPost_ret (v := .tuple #[.agg #[.int .i64 K, .slice ao' us.length cap'], .bool true]) ?_ rfl ⟨ao', cap', rfl, ?_, ?_⟩
  · simp [results, Tryd.results13, go_sem, r05, r15]
  · exact ho6.out
  · exact (hbb5.setCell (by simp) _).setCell (by simp) _

end Go.Proofs.YtkbcaffhdaoalaaDoor
