/- Texts put together: WReach, WQuiet. -/
import Derived.Test.YtljnjpjnadlmhaaPartWRows
import Derived.Test.YtljnjpjnadlmhaaPartWSpecOk
import Derived.Deep.LoopGhost
import Derived.BigRegion
import Derived.Test.YtljnjpjnadlmhaaPartWLeaf
/- Walk of spec.WayReach. -/
namespace Go.Proofs.Ytljnjpjnadlmhaa
open Go.RowKit
set_option linter.unusedVariables false

theorem Try.infoBool : (Try.prog.info? 4).map (fun i => (i.zero, i.size, i.bytes)) = some (some (.bool false), 1, 1) := by kernel_rfl
def bcell (M : Nat → Bool) (j : Nat) : Value := .bool (M j)
theorem OwnI.madeB {w : World} {g n cap : Nat} {base : Nat} (h : w.ownsRow base 4 1 (.slice (some ⟨g, 0, none⟩) n cap) n (madeCells #[.bool false] n).toList) : OwnI w g n (bcell fun _ => false) := by
  refine ⟨fun j hj => ?_, fun j => h.frozenAt j, ?_⟩
  · rw [h.cellAt j (by omega)]
    have hm : j % 1 = 0 := by omega
    simp [madeCells, hj, bcell, hm]
  · rcases h.2 with ⟨h', _⟩ | ⟨g', cap', cur, h', _, hg, _⟩
    · simp at h'
    · simp only [Value.slice.injEq, Option.some.injEq, Addr.mk.injEq, and_true, true_and] at h'
      obtain ⟨rfl, _⟩ := h'
      exact (Array.getElem?_eq_some_iff.1 hg).1
theorem mark_cells (M : Nat → Bool) (y j : Nat) : (if j = y then Value.bool true else bcell M j) = bcell (mark M y) j := by
  unfold bcell mark
  by_cases e : j = y
  · rw [if_pos e, if_pos e]
  · rw [if_neg e, if_neg e]
/-- how long the answer is -/
def reachN (K : Int) (ts : List (Int × Int)) (a : Int) : Nat := if (okB K ts && knotB a K) = true then K.toNat else 0
/-- a row of cells of the call's own -/
def OwnR (w : World) (lo hi : Nat) (ao : Option Addr) (n : Nat) (f : Nat → Value) : Prop :=
  (n = 0 ∧ ao = none) ∨ ∃ g, ao = some ⟨g, 0, none⟩ ∧ lo ≤ g ∧ g < hi ∧ OwnI w g n f
theorem own_new (w : World) (t : TypeId) (f : Nat → Value) : OwnI (w.alloc (.cells #[] t)) w.heap.size 0 f := ⟨fun j hj => absurd hj (by omega), fun j => World.frozen?_alloc_at _ _ _ _ rfl, by simp⟩

/-- what stands while a net is gone through: the box, the marks at O, the row that waits -/
structure Bst (w wr : World) (Kn : Nat) (nv : Value) (O : Nat) (ts : List (Int × Int)) (x : Nat) (M : Nat → Bool) (row : List Nat) (g off cap : Nat) (ex : Nat → Prop) : Prop where
  X : Bx w wr (Kn : Int) nv
  I : OwnI wr O Kn (bcell M)
  R : RowS wr (O + 1) g off cap row
  F : Bfs (Kn : Int) ts x M row ex
  hO : w.heap.size < O
theorem Bst.next {w wr w' : World} {Kn : Nat} {nv : Value} {O : Nat} {ts : List (Int × Int)} {x : Nat} {M : Nat → Bool} {row : List Nat} {g off cap : Nat} {ex : Nat → Prop} (h : Bst w wr Kn nv O ts x M row g off cap ex) (hb : Below wr.heap.size wr w') : Bst w w' Kn nv O ts x M row g off cap ex :=
  ⟨h.X.next hb, h.I.below hb h.I.2.2, h.R.next hb, h.F, h.hO⟩
theorem Bst.pop {w wr : World} {Kn : Nat} {nv : Value} {O : Nat} {ts : List (Int × Int)} {x : Nat} {M : Nat → Bool} {z : Nat} {row : List Nat} {g off c : Nat} (h : Bst w wr Kn nv O ts x M (z :: row) g off (c + 1) (fun _ => False)) : Bst w wr Kn nv O ts x M row g (off + 1) c (fun y => y = z) :=
  ⟨h.X, h.I, h.R.tail, h.F.pop, h.hO⟩
/-- one is marked -/
theorem Bst.set {w wr : World} {Kn : Nat} {nv : Value} {O : Nat} {ts : List (Int × Int)} {x : Nat} {M : Nat → Bool} {row : List Nat} {g off cap : Nat} {ex : Nat → Prop} (h : Bst w wr Kn nv O ts x M row g off cap ex) {y : Nat} (hy : y < Kn) :
    Bx w (wr.setCell ⟨O, y, none⟩ (.bool true)) (Kn : Int) nv ∧ OwnI (wr.setCell ⟨O, y, none⟩ (.bool true)) O Kn (bcell (mark M y)) ∧ RowS (wr.setCell ⟨O, y, none⟩ (.bool true)) (O + 1) g off cap row := by
  have ht : Turned O (O + 1) wr (wr.setCell ⟨O, y, none⟩ (.bool true)) := ⟨rfl, rfl, rfl, by simp [World.setCell], fun k _ hk => Below.heap_setCell _ _ _ _ (by show k ≠ O; omega)⟩
  exact ⟨h.X.turn ht h.hO, (h.I.set hy _).congr (fun j _ => mark_cells M y j), h.R.turn ht (Or.inr h.R.lo)⟩

set_option maxHeartbeats 1600000 in
theorem specReach_any (K : Int) (ao : Option Addr) (cap : Nat) (ts : List (Int × Int)) (a : Int) (w : World) (hn : ts.length ≤ 1099511627776) (ht : TiesIn w w.heap.size ao ts) :
    Calls Try.prog 60 #[.agg #[.int .i64 K, .slice ao ts.length cap], .int .i64 a] w fun e w' => ∃ ao' cap', e = .returned (.slice ao' (reachN K ts a) cap') ∧ OwnR w' w.heap.size w'.heap.size ao' (reachN K ts a) (bcell (reachB ts a.toNat)) ∧ Below w.heap.size w w' := by
  have X0 := fun (t : TypeId) => Bx.start w K (.slice ao ts.length cap) t
  have HX0 := hideP X0
  have HT := hideP ht
  clear X0
  cases hok : (okB K ts && knotB a K)
  · have HN : Hid (reachN K ts a = 0) := by show reachN K ts a = 0; simp [reachN, hok]
    have HOK := hideP hok
    clear hok
    go_enter Try.func60, Try.ntmps60
    go_wp2_with fail
    refine (l1Knot_v false K ao cap ts a _ hn ((HT.out.below (HX0.out _).B (Nat.le_refl _)).wide (Nat.le_of_lt (HX0.out _).lt)) HOK.out).mono ?_
    rintro e w1 ⟨rfl, hb1⟩
    have X1 := hideP ((HX0.out _).next hb1)
    clear hb1
    go_wp2
    go_ret
    exact ⟨some ⟨w1.heap.size, 0, none⟩, 0, by rw [HN.out]; rfl, by rw [HN.out]; exact Or.inr ⟨_, rfl, X1.out.B.size, by simp, own_new _ _ _⟩, X1.out.B.trans ((below_one _ _).mono X1.out.B.size)⟩
  · have hnet : NetOk K ts := okB_iff.1 (by simp only [Bool.and_eq_true] at hok; exact hok.1)
    have hkn : 0 ≤ a ∧ a < K := by simp only [Bool.and_eq_true, knotB, decide_eq_true_eq] at hok; exact hok.2
    have HN : Hid (reachN K ts a = K.toNat) := by show reachN K ts a = _; simp [reachN, hok]
    have HOK := hideP hok
    obtain ⟨Kn, hKn⟩ : ∃ n : Nat, K = (n : Int) := ⟨K.toNat, by omega⟩
    subst hKn
    obtain ⟨x, hx⟩ : ∃ n : Nat, a = (n : Int) := ⟨a.toNat, by omega⟩
    subst hx
    have hxK : x < Kn := by omega
    have hK8 : Kn ≤ 8 := by have := hnet.2.1; omega
    have HNT := hideP hnet
    obtain ⟨i0, hi, hz0, hz1, hz2⟩ := info_parts Try.infoBool
    obtain ⟨i1, hj, hy0, hy1, hy2⟩ := info_parts Try.infoInt
    have HI1 : Hid (Try.prog.info? 3 = some i1 ∧ i1.zero = some (.int .i64 0) ∧ i1.size = 1 ∧ i1.bytes = 8) := ⟨hj, hy0, hy1, hy2⟩
    clear hj hy0 hy1 hy2
    have HI : Hid (i0.bytes * Kn ≤ 281474976710656) := by rw [hz2]; show 1 * Kn ≤ _; omega
    clear hok hkn hnet
    go_enter Try.func60, Try.ntmps60
    go_wp2_with fail
    refine (l1Knot_v true _ ao cap ts _ _ hn ((HT.out.below (HX0.out _).B (Nat.le_refl _)).wide (Nat.le_of_lt (HX0.out _).lt)) HOK.out).mono ?_
    rintro e w1 ⟨rfl, hb1⟩
    have X1 := hideP ((HX0.out _).next hb1)
    have c0 := X1.out.c0
    clear hb1
    go_wp2_with (at_make; refine wpList_make_full _ rfl _ _ 76 rfl w1.heap.size 4 i0 (.bool false) 1 Try.underlying76 hi hz0 hz1 .i64 .i64 _ _ Kn rfl rfl ?_ ?_ HI.out ?_ ?_ ?_)
    · rfl
    · rfl
    · unfold maxLen; omega
    · exact Nat.le_refl _
    intro w2 hown hgrow
    have O2 := hideP (OwnI.madeB hown)
    have hb2 : Below w1.heap.size w1 w2 := (Below.refl _ _).grown hgrow (Nat.le_refl _) (fun k h => by cases h)
    have X2 := hideP (X1.out.next hb2)
    have d0 := O2.out.1 x hxK
    have e0 := O2.out.2.1 x
    have hx0 : (0 : Int) ≤ (x : Int) := by omega
    have hx1 : (x : Int) < (Kn : Int) := by omega
    clear hown hgrow hb2 hi hz0 hz1 hz2 HI c0
    go_wp2
    have O3 : Hid (∀ t, OwnI ((w2.setCell ⟨w1.heap.size, x, none⟩ (.bool true)).alloc (.cells #[.int .i64 (x : Int)] t)) w1.heap.size Kn (bcell (mark (fun _ => false) x))) := fun t => ((O2.out.set hxK _).congr (fun j _ => mark_cells _ x j)).below (below_one _ _) (by simpa using O2.out.2.2)
    have tu2 : Turned w1.heap.size (w1.heap.size + 1) w2 (w2.setCell ⟨w1.heap.size, x, none⟩ (.bool true)) := ⟨rfl, rfl, rfl, by simp [World.setCell], fun k _ hk => Below.heap_setCell _ _ _ _ (by show k ≠ w1.heap.size; omega)⟩
    have hz12 : w1.heap.size < w2.heap.size := O2.out.2.2
    have S3 : Hid (∀ t, Bst w ((w2.setCell ⟨w1.heap.size, x, none⟩ (.bool true)).alloc (.cells #[.int .i64 (x : Int)] t)) Kn (.slice ao ts.length cap) w1.heap.size ts x (mark (fun _ => false) x) [x] w2.heap.size 0 1 (fun _ => False)) := fun t =>
      ⟨(X2.out.turn tu2 X1.out.lt).next (below_one _ _), O3.out t, by
        have h := RowS.one (w2.setCell ⟨w1.heap.size, x, none⟩ (.bool true)) x t
        have e : (w2.setCell ⟨w1.heap.size, x, none⟩ (.bool true)).heap.size = w2.heap.size := by simp [World.setCell]
        rw [e] at h
        exact h.down hz12, Bfs.first (by omega), X1.out.lt⟩
    have HU : Hid (2 * unm (mark (fun _ => false) x) Kn + [x].length ≤ 17) := by
      have := unm_le (mark (fun _ => false) x) Kn
      show 2 * unm (mark (fun _ => false) x) Kn + 1 ≤ 17
      omega
    have hO1 := hideP X1.out.lt
    clear d0 e0 tu2 O3
    go_loopg [6] 17 (fun gk v wr => ∃ M row g off cap', 2 * unm M Kn + row.length ≤ gk ∧ gk ≤ 17 ∧ v = .slice (some ⟨g, off, none⟩) row.length cap' ∧ Bst w wr Kn (.slice ao ts.length cap) w1.heap.size ts x M row g off cap' (fun _ => False))
    case atStart => exact ⟨_, [x], w2.heap.size, 0, 1, HU.out, Nat.le_refl _, rfl, S3.out _⟩
    case round =>
      obtain ⟨M, row, g, off, cap', hgk, hg17, rfl, hS⟩ := hrel
      cases row with
      | nil =>
        have HA : Hid (OwnR wr w.heap.size wr.heap.size (some ⟨w1.heap.size, 0, none⟩) Kn (bcell (reachB ts x))) :=
          Or.inr ⟨_, rfl, Nat.le_of_lt hS.hO, hS.I.2.2, hS.I.congr (fun j _ => by unfold bcell; rw [hS.F.answer HNT.out j])⟩
        have HB := hideP hS.X.B
        clear hS
        go_wp2
        go_ret
        refine ⟨some ⟨w1.heap.size, 0, none⟩, Kn, ?_, ?_, HB.out⟩
        · rw [HN.out]; rfl
        · rw [HN.out]; exact HA.out
      | cons z rest =>
        obtain ⟨c, rfl⟩ : ∃ c, cap' = c + 1 := ⟨cap' - 1, by have := hS.R.len; simp at this; omega⟩
        have hzM := hS.F.inrow z (by simp)
        have hzK : z < Kn := by have := (hS.F.reach z hzM).1; simpa using this
        have n0 := hS.X.c0
        have n1 := hS.X.c1
        have r0 : wr.cell? ⟨g, off, none⟩ = some (.int .i64 (z : Int)) := by have := hS.R.cells 0 (by simp); simpa [ncell] using this
        have TR := hideP (((HT.out.below hS.X.B (Nat.le_refl _)).wide (Nat.le_of_lt hS.X.lt)).below (C := wr.heap.size) (Below.refl _ _).drew (Nat.le_refl _))
        have HS := hideP (hS.next (Below.refl _ _).drew)
        have nl := hS.X.lt
        have gl := hS.R.lt
        have hrl : (0 : Int) < ((z :: rest).length : Int) := Int.natCast_pos.2 (Nat.succ_pos _)
        have hrlen : (z :: rest).length = rest.length + 1 := by simp
        rw [hrlen] at hrl ⊢
        have HGK : Hid (2 * unm M Kn + rest.length < gk) := by show 2 * unm M Kn + rest.length < gk; simp at hgk; omega
        have HMZ := hideP hzM
        have hrc : rest.length ≤ c := by have := hS.R.len; simp at this; omega
        have hrc' : (rest.length : Int) ≤ (c : Int) := by omega
        clear hS hzM hgk hrlen
        go_wp2
        go_region_held3 (fun w' => w'.cell? ⟨w.heap.size, 0, none⟩ = some (.int .i64 (Kn : Int)) ∧ w'.cell? ⟨w.heap.size, 1, none⟩ = some (.slice ao ts.length cap) ∧ w'.cell? ⟨g, off, none⟩ = some (.int .i64 (z : Int))) (first | exact ⟨n0, n1, r0⟩ | exact ⟨(hb3.cell (p := ⟨w.heap.size, 0, none⟩) nl).trans n0, (hb3.cell (p := ⟨w.heap.size, 1, none⟩) nl).trans n1, (hb3.cell (p := ⟨g, off, none⟩) gl).trans r0⟩) (first | (go_at_call 49; refine (l2Next_any Kn ao cap ts z _ hn TR.out hK8).mono ?_; rintro e w3 ⟨g2, off2, cap2, rfl, hL3, hb3⟩))
        have S3' := hideP (HS.out.next hb3)
        obtain ⟨L, hL⟩ : ∃ L, L = nbrs ts z Kn := ⟨_, rfl⟩
        have HLL := hideP hL
        have hL8 : L.length ≤ 8 := by rw [hL]; exact Nat.le_trans (nbrs_len ts z Kn) hK8
        rw [← hL] at hL3 ⊢
        obtain ⟨lo2, hlo2⟩ : ∃ lo2, lo2 = wr.drew.heap.size := ⟨_, rfl⟩
        rw [← hlo2] at hL3
        have L3 := hideP hL3
        have hge : lo2 ≤ g2 := hL3.lo
        have hlo3 : lo2 = wr.heap.size := hlo2
        have HNE : Hid (g ≠ g2 ∧ w1.heap.size < g2) := ⟨by omega, by have := HS.out.I.2.2; have e : wr.drew.heap.size = wr.heap.size := rfl; omega⟩
        clear hb3 hL3 hL hlo2 n0 n1 r0 TR HS
        by_cases hc0 : c = 0
        · obtain rfl : rest = [] := by cases rest with | nil => rfl | cons _ _ => simp at hrc; omega
          subst hc0
          have S4 : Hid (Bst w w3 Kn (.slice ao ts.length cap) w1.heap.size ts x M [] g off 0 (fun y => y = z)) := ⟨S3'.out.X, S3'.out.I, S3'.out.R.void off, S3'.out.F.pop, S3'.out.hO⟩
          clear hrl hrc hrc'
          simp only [List.length_nil, Nat.zero_add]
          go_wp2
          go_loopw [6, 8] (fun v i wr => ∃ (jj : Nat) (M' : Nat → Bool) (row' : List Nat) (g' off' cap'' : Nat), jj ≤ L.length ∧ i = .int .i64 jj ∧ v = .slice (some ⟨g', off', none⟩) row'.length cap'' ∧ 2 * unm M' Kn + row'.length < gk ∧ Bst w wr Kn (.slice ao ts.length cap) w1.heap.size ts x M' row' g' off' cap'' (fun y => y = z) ∧ (∀ t, t < jj → M' (L.getD t 0) = true) ∧ M' z = true ∧ RowS wr lo2 g2 off2 cap2 L ∧ g' ≠ g2 ∧ w1.heap.size < g2)
            (fun _ i _ => L.length - (intOf i).toNat)
          case atStart => exact ⟨0, M, [], g, off, 0, Nat.zero_le _, rfl, rfl, HGK.out, S4.out, fun t ht => absurd ht (by omega), HMZ.out, L3.out, HNE.out.1, HNE.out.2⟩
          case round =>
            obtain ⟨jj, M', row', g', off', cap'', hjj, rfl, rfl, hgk', hS', hall, hMz, hL', hgne, hOg⟩ := hrel
            by_cases hlt : jj < L.length
            · obtain ⟨y, hy⟩ : ∃ y, y = L.getD jj 0 := ⟨_, rfl⟩
              have hmem : y ∈ L := by rw [hy, List.getD_eq_getElem?_getD, List.getElem?_eq_getElem hlt]; exact List.getElem_mem hlt
              have hyn := mem_nbrs.1 (HLL.out ▸ hmem)
              have hyK := hyn.1
              have HYT := hideP hyn.2
              have cy : wr.cell? ⟨g2, off2 + jj, none⟩ = some (.int .i64 (y : Int)) := by rw [hy]; exact hL'.cells jj hlt
              have co : wr.cell? ⟨w1.heap.size, y, none⟩ = some (.bool (M' y)) := hS'.I.1 y hyK
              have fo := hS'.I.2.1 y
              have hj0 : (0 : Int) ≤ (jj : Int) := by omega
              have hj1 : (jj : Int) < (L.length : Int) := by omega
              have hy0 : (0 : Int) ≤ (y : Int) := by omega
              have hy1 : (y : Int) < (Kn : Int) := by omega
              have HY := hideP hy
              have HS' := hideP hS'
              have HL' := hideP hL'
              have HALL := hideP hall
              have HMZ' := hideP hMz
              clear hyn hmem hy hS' hL' hall hMz
              cases hMy : M' y
              · have HMY := hideP hMy
                have SE := hideP (HS'.out.set hyK)
                have HUN := hideP (unm_mark M' hMy Kn hyK)
                have HFP := hideP (HS'.out.F.push HNT.out HMZ'.out (by simpa using hyK) HYT.out)
                rw [hMy] at co
                have tuO : Turned w1.heap.size (w1.heap.size + 1) wr (wr.setCell ⟨w1.heap.size, y, none⟩ (.bool true)) := ⟨rfl, rfl, rfl, by simp [World.setCell], fun k _ hk => Below.heap_setCell _ _ _ _ (by show k ≠ w1.heap.size; omega)⟩
                have LA := hideP (HL'.out.turn tuO (Or.inr hOg))
                have cyA : (wr.setCell ⟨w1.heap.size, y, none⟩ (.bool true)).cell? ⟨g2, off2 + jj, none⟩ = some (.int .i64 (y : Int)) := (LA.out.cells jj hlt).trans (by rw [← HY.out]; rfl)
                have eW : (wr.setCell ⟨w1.heap.size, y, none⟩ (.bool true)).heap.size = wr.heap.size := by simp [World.setCell]
                have bo := below_one (wr.setCell ⟨w1.heap.size, y, none⟩ (.bool true)) (.cells #[.int .i64 (y : Int)] 3)
                have XB := hideP (SE.out.1.next bo)
                have IB := hideP (SE.out.2.1.below bo SE.out.2.1.2.2)
                have RB := hideP (SE.out.2.2.next bo)
                have LB := hideP (LA.out.next bo)
                have hsh : row'.length ≤ 1000 := by omega
                obtain ⟨m, hm⟩ : ∃ m, m = row'.length := ⟨_, rfl⟩
                have HM := hideP hm
                rw [← hm] at hsh hgk' ⊢
                have hSO := hideP HS'.out.hO
                clear hMy tuO bo hm
                go_wp2_with (at_builtin; refine wpList_append_rowS _ rfl _ _ 30 rfl (w1.heap.size + 1) 3 i1 Try.underlying30 HI1.out.1 HI1.out.2.1 HI1.out.2.2.1 HI1.out.2.2.2 g' off' cap'' row' m HM.out.symm rfl RB.out wr.heap.size y rfl ?_ ?_ ?_ ?_)
                · rw [World.cell?_alloc_at _ _ _ _ eW.symm]; rfl
                · rw [← HM.out]; exact hsh
                · exact IB.out.2.2
                intro g4 off4 cap4 w4 hR4 hg4 ht4
                have hOg' : w1.heap.size + 1 ≤ g' := RB.out.lo
                have X4 := hideP (XB.out.turn ht4 (Nat.lt_of_lt_of_le hSO.out (by omega)))
                have I4 := hideP (IB.out.turn ht4 (Or.inl (by omega)))
                have L4 := hideP (LB.out.turn ht4 (by omega))
                have HNE4 : Hid (g4 ≠ g2) := by
                  have hlt2 : g2 < wr.heap.size + 1 := by simpa using LB.out.lt
                  rcases hg4 with e | e
                  · rw [e]; exact hgne
                  · have e2 : wr.heap.size + 1 ≤ g4 := by simpa using e
                    show g4 ≠ g2
                    omega
                have S5 : Hid (Bst w w4 Kn (.slice ao ts.length cap) w1.heap.size ts x (mark M' y) (row' ++ [y]) g4 off4 cap4 (fun y => y = z)) := ⟨X4.out, I4.out, hR4, HFP.out, hSO.out⟩
                have HALL4 : Hid (∀ t, t < jj + 1 → mark M' y (L.getD t 0) = true) := by
                  intro t ht
                  by_cases e : t = jj
                  · subst e; rw [← HY.out]; simp [mark]
                  · exact mark_old (HALL.out t (by omega))
                have HMZ4 : Hid (mark M' y z = true) := mark_old HMZ'.out
                have HLN : Hid ((row' ++ [y]).length = m + 1) := by show (row' ++ [y]).length = m + 1; rw [HM.out]; simp
                have HUN4 : Hid (2 * unm (mark M' y) Kn + (row' ++ [y]).length < gk) := by
                  have h1 := HUN.out
                  have h2 := HLN.out
                  show 2 * unm (mark M' y) Kn + (row' ++ [y]).length < gk
                  omega
                clear hR4 ht4 hg4 co fo cy cyA
                go_wp2
                refine ⟨?_, ?measure⟩
                (repeat apply Exists.intro)
                refine ⟨?rel, rfl⟩
                case rel => exact ⟨jj + 1, mark M' y, row' ++ [y], g4, off4, cap4, by omega, by go_num, by rw [HLN.out], HUN4.out, S5.out, HALL4.out, HMZ4.out, L4.out, HNE4.out, hOg⟩
                case measure => simp [intOf]; omega
              · have HR : Hid (∀ t, t < jj + 1 → M' (L.getD t 0) = true) := by
                  intro t ht
                  by_cases e : t = jj
                  · subst e; rw [← HY.out]; exact hMy
                  · exact HALL.out t (by omega)
                rw [hMy] at co
                clear hMy
                go_wp2
                go_roundw
                case rel => exact ⟨jj + 1, M', row', g', off', cap'', by omega, by go_num, rfl, hgk', HS'.out, HR.out, HMZ'.out, HL'.out, hgne, hOg⟩
                case measure => simp [intOf]; omega
            · obtain rfl : jj = L.length := by omega
              have SD : Hid (Bst w wr Kn (.slice ao ts.length cap) w1.heap.size ts x M' row' g' off' cap'' (fun _ => False)) :=
                ⟨hS'.X, hS'.I, hS'.R, hS'.F.done (fun u hu hzu => by
                  have hm : u ∈ L := HLL.out ▸ mem_nbrs.2 ⟨by simpa using hu, hzu⟩
                  obtain ⟨t, ht, e⟩ := List.mem_iff_getElem.1 hm
                  have := hall t ht
                  rw [List.getD_eq_getElem?_getD, List.getElem?_eq_getElem ht, Option.getD_some, e] at this
                  exact this), hS'.hO⟩
              clear hS' hL' hall
              go_wp2
              go_roundg (2 * unm M' Kn + row'.length)
              case measure => exact hgk'
              case rel => exact ⟨M', row', g', off', cap'', Nat.le_refl _, by omega, rfl, SD.out⟩
        · have S4 := hideP S3'.out.pop
          go_wp2
          go_loopw [6, 8] (fun v i wr => ∃ (jj : Nat) (M' : Nat → Bool) (row' : List Nat) (g' off' cap'' : Nat), jj ≤ L.length ∧ i = .int .i64 jj ∧ v = .slice (some ⟨g', off', none⟩) row'.length cap'' ∧ 2 * unm M' Kn + row'.length < gk ∧ Bst w wr Kn (.slice ao ts.length cap) w1.heap.size ts x M' row' g' off' cap'' (fun y => y = z) ∧ (∀ t, t < jj → M' (L.getD t 0) = true) ∧ M' z = true ∧ RowS wr lo2 g2 off2 cap2 L ∧ g' ≠ g2 ∧ w1.heap.size < g2)
            (fun _ i _ => L.length - (intOf i).toNat)
          case atStart => exact ⟨0, M, rest, g, off + 1, c, Nat.zero_le _, rfl, rfl, HGK.out, S4.out, fun t ht => absurd ht (by omega), HMZ.out, L3.out, HNE.out.1, HNE.out.2⟩
          case round =>
            obtain ⟨jj, M', row', g', off', cap'', hjj, rfl, rfl, hgk', hS', hall, hMz, hL', hgne, hOg⟩ := hrel
            by_cases hlt : jj < L.length
            · obtain ⟨y, hy⟩ : ∃ y, y = L.getD jj 0 := ⟨_, rfl⟩
              have hmem : y ∈ L := by rw [hy, List.getD_eq_getElem?_getD, List.getElem?_eq_getElem hlt]; exact List.getElem_mem hlt
              have hyn := mem_nbrs.1 (HLL.out ▸ hmem)
              have hyK := hyn.1
              have HYT := hideP hyn.2
              have cy : wr.cell? ⟨g2, off2 + jj, none⟩ = some (.int .i64 (y : Int)) := by rw [hy]; exact hL'.cells jj hlt
              have co : wr.cell? ⟨w1.heap.size, y, none⟩ = some (.bool (M' y)) := hS'.I.1 y hyK
              have fo := hS'.I.2.1 y
              have hj0 : (0 : Int) ≤ (jj : Int) := by omega
              have hj1 : (jj : Int) < (L.length : Int) := by omega
              have hy0 : (0 : Int) ≤ (y : Int) := by omega
              have hy1 : (y : Int) < (Kn : Int) := by omega
              have HY := hideP hy
              have HS' := hideP hS'
              have HL' := hideP hL'
              have HALL := hideP hall
              have HMZ' := hideP hMz
              clear hyn hmem hy hS' hL' hall hMz
              cases hMy : M' y
              · have HMY := hideP hMy
                have SE := hideP (HS'.out.set hyK)
                have HUN := hideP (unm_mark M' hMy Kn hyK)
                have HFP := hideP (HS'.out.F.push HNT.out HMZ'.out (by simpa using hyK) HYT.out)
                rw [hMy] at co
                have tuO : Turned w1.heap.size (w1.heap.size + 1) wr (wr.setCell ⟨w1.heap.size, y, none⟩ (.bool true)) := ⟨rfl, rfl, rfl, by simp [World.setCell], fun k _ hk => Below.heap_setCell _ _ _ _ (by show k ≠ w1.heap.size; omega)⟩
                have LA := hideP (HL'.out.turn tuO (Or.inr hOg))
                have cyA : (wr.setCell ⟨w1.heap.size, y, none⟩ (.bool true)).cell? ⟨g2, off2 + jj, none⟩ = some (.int .i64 (y : Int)) := (LA.out.cells jj hlt).trans (by rw [← HY.out]; rfl)
                have eW : (wr.setCell ⟨w1.heap.size, y, none⟩ (.bool true)).heap.size = wr.heap.size := by simp [World.setCell]
                have bo := below_one (wr.setCell ⟨w1.heap.size, y, none⟩ (.bool true)) (.cells #[.int .i64 (y : Int)] 3)
                have XB := hideP (SE.out.1.next bo)
                have IB := hideP (SE.out.2.1.below bo SE.out.2.1.2.2)
                have RB := hideP (SE.out.2.2.next bo)
                have LB := hideP (LA.out.next bo)
                have hsh : row'.length ≤ 1000 := by omega
                obtain ⟨m, hm⟩ : ∃ m, m = row'.length := ⟨_, rfl⟩
                have HM := hideP hm
                rw [← hm] at hsh hgk' ⊢
                have hSO := hideP HS'.out.hO
                clear hMy tuO bo hm
                go_wp2_with (at_builtin; refine wpList_append_rowS _ rfl _ _ 30 rfl (w1.heap.size + 1) 3 i1 Try.underlying30 HI1.out.1 HI1.out.2.1 HI1.out.2.2.1 HI1.out.2.2.2 g' off' cap'' row' m HM.out.symm rfl RB.out wr.heap.size y rfl ?_ ?_ ?_ ?_)
                · rw [World.cell?_alloc_at _ _ _ _ eW.symm]; rfl
                · rw [← HM.out]; exact hsh
                · exact IB.out.2.2
                intro g4 off4 cap4 w4 hR4 hg4 ht4
                have hOg' : w1.heap.size + 1 ≤ g' := RB.out.lo
                have X4 := hideP (XB.out.turn ht4 (Nat.lt_of_lt_of_le hSO.out (by omega)))
                have I4 := hideP (IB.out.turn ht4 (Or.inl (by omega)))
                have L4 := hideP (LB.out.turn ht4 (by omega))
                have HNE4 : Hid (g4 ≠ g2) := by
                  have hlt2 : g2 < wr.heap.size + 1 := by simpa using LB.out.lt
                  rcases hg4 with e | e
                  · rw [e]; exact hgne
                  · have e2 : wr.heap.size + 1 ≤ g4 := by simpa using e
                    show g4 ≠ g2
                    omega
                have S5 : Hid (Bst w w4 Kn (.slice ao ts.length cap) w1.heap.size ts x (mark M' y) (row' ++ [y]) g4 off4 cap4 (fun y => y = z)) := ⟨X4.out, I4.out, hR4, HFP.out, hSO.out⟩
                have HALL4 : Hid (∀ t, t < jj + 1 → mark M' y (L.getD t 0) = true) := by
                  intro t ht
                  by_cases e : t = jj
                  · subst e; rw [← HY.out]; simp [mark]
                  · exact mark_old (HALL.out t (by omega))
                have HMZ4 : Hid (mark M' y z = true) := mark_old HMZ'.out
                have HLN : Hid ((row' ++ [y]).length = m + 1) := by show (row' ++ [y]).length = m + 1; rw [HM.out]; simp
                have HUN4 : Hid (2 * unm (mark M' y) Kn + (row' ++ [y]).length < gk) := by
                  have h1 := HUN.out
                  have h2 := HLN.out
                  show 2 * unm (mark M' y) Kn + (row' ++ [y]).length < gk
                  omega
                clear hR4 ht4 hg4 co fo cy cyA
                go_wp2
                go_roundw
                case rel => exact ⟨jj + 1, mark M' y, row' ++ [y], g4, off4, cap4, by omega, by go_num, by rw [HLN.out], HUN4.out, S5.out, HALL4.out, HMZ4.out, L4.out, HNE4.out, hOg⟩
                case measure => simp [intOf]; omega
              · have HR : Hid (∀ t, t < jj + 1 → M' (L.getD t 0) = true) := by
                  intro t ht
                  by_cases e : t = jj
                  · subst e; rw [← HY.out]; exact hMy
                  · exact HALL.out t (by omega)
                rw [hMy] at co
                clear hMy
                go_wp2
                go_roundw
                case rel => exact ⟨jj + 1, M', row', g', off', cap'', by omega, by go_num, rfl, hgk', HS'.out, HR.out, HMZ'.out, HL'.out, hgne, hOg⟩
                case measure => simp [intOf]; omega
            · obtain rfl : jj = L.length := by omega
              have SD : Hid (Bst w wr Kn (.slice ao ts.length cap) w1.heap.size ts x M' row' g' off' cap'' (fun _ => False)) :=
                ⟨hS'.X, hS'.I, hS'.R, hS'.F.done (fun u hu hzu => by
                  have hm : u ∈ L := HLL.out ▸ mem_nbrs.2 ⟨by simpa using hu, hzu⟩
                  obtain ⟨t, ht, e⟩ := List.mem_iff_getElem.1 hm
                  have := hall t ht
                  rw [List.getD_eq_getElem?_getD, List.getElem?_eq_getElem ht, Option.getD_some, e] at this
                  exact this), hS'.hO⟩
              clear hS' hL' hall
              go_wp2
              go_roundg (2 * unm M' Kn + row'.length)
              case measure => exact hgk'
              case rel => exact ⟨M', row', g', off', cap'', Nat.le_refl _, by omega, rfl, SD.out⟩

end Go.Proofs.Ytljnjpjnadlmhaa

/- A region that draws its order and whose callees make memory of their own but answer alike in every world of a class: one walk in the order of the text. -/
namespace Go.Proofs.Ytljnjpjnadlmhaa
open Go.RowKit
set_option linter.unusedVariables false

/-- a world of the class -/
structure Cls (D : World → Prop) where
  w : World
  ok : D w

theorem wp_region_cls (D : World → Prop) {P : Program} {id : Nat} {Q : Exit → Act → World → Prop} {a : Act} {w : World} {l : List Oper} (hm : P.follows .mixedOrders = true) (hB : Region.lexB .any l.toArray = true) (h0 : D w.drew)
    (h : wpQuiet P l.toArray (fun w' => ∃ u : Cls D, w' = u.w) (fun a' => ∀ w', (∃ u : Cls D, w' = u.w) → Q .normal a' w') l a) : (Code.region id l.toArray true).wp P Q a w :=
  wp_region_quiet (C := fun w' => ∃ u : Cls D, w' = u.w) hm hB ⟨⟨w.drew, h0⟩, rfl⟩ (by simpa using h)
theorem Calls.cls {D : World → Prop} {P : Program} {f : FuncId} {args : Array Value} {w : World} {v : Value}
    (h : Calls P f args w fun e w' => e = .returned v ∧ D w') : Calls P f args w fun e w'' => e = .returned v ∧ ∃ u : Cls D, w'' = u.w :=
  h.mono fun _ w' ⟨he, hm⟩ => ⟨he, ⟨w', hm⟩, rfl⟩

end Go.Proofs.Ytljnjpjnadlmhaa
