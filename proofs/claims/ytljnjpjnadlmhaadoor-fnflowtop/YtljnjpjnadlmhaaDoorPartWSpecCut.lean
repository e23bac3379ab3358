/- Texts put together: WSpecCut, WAlls, WCapS. -/
import Derived.Test.YtljnjpjnadlmhaaDoorPartWSpecAdd
import Derived.Test.YtljnjpjnadlmhaaDoorMath4
/- Walks of spec.NetCut and spec.NetWithout. -/
namespace Go.Proofs.YtljnjpjnadlmhaaDoor
open Go.RowKit
set_option linter.unusedVariables false

/-- what a round reads, as it lay when the loop began -/
structure St2 (w5 : World) (O B : Nat) (nv : Value) (bb at_ : Nat) (x y : Int) : Prop where
  b1 : w5.cell? ⟨B, 1, none⟩ = some nv
  c0 : w5.cell? ⟨bb, at_, none⟩ = some (.int .i64 x)
  c1 : w5.cell? ⟨bb, at_ + 1, none⟩ = some (.int .i64 y)
  zB : B < w5.heap.size ∧ B ≠ O
  zb : bb < w5.heap.size ∧ bb ≠ O
theorem St2.at {w5 wr : World} {K : Int} {O : Nat} {v : Value} {L : List (Int × Int)} {B : Nat} {nv : Value} {bb at_ : Nat} {x y : Int} (h : St2 w5 O B nv bb at_ x y) (M : Made w5 wr K O v L) :
    wr.cell? ⟨B, 1, none⟩ = some nv ∧ wr.cell? ⟨bb, at_, none⟩ = some (.int .i64 x) ∧ wr.cell? ⟨bb, at_ + 1, none⟩ = some (.int .i64 y) ∧ O < wr.heap.size ∧ B < wr.heap.size ∧ bb < wr.heap.size := by
  have z := M.gr.size
  have o := M.hO
  exact ⟨(M.old (p := ⟨B, 1, none⟩) h.zB.1 h.zB.2).trans h.b1, (M.old (p := ⟨bb, at_, none⟩) h.zb.1 h.zb.2).trans h.c0, (M.old (p := ⟨bb, at_ + 1, none⟩) h.zb.1 h.zb.2).trans h.c1,
    by omega, by have := h.zB.1; omega, by have := h.zb.1; omega⟩
theorem Made.begin {w3 : World} {K : Int} (t : TypeId) : Made (w3.alloc (.cells #[.int .i64 K, .slice none 0 0] t)) (w3.alloc (.cells #[.int .i64 K, .slice none 0 0] t)) K w3.heap.size (.slice none 0 0) [] :=
  ⟨⟨rfl, rfl, rfl, Nat.le_refl _, fun _ _ _ => rfl⟩, by simp, by simp, by simp, World.ownsRow_nil _ _ _ _, by simp⟩

set_option maxHeartbeats 800000 in
theorem specCut_no (K : Int) (ao : Option Addr) (cap : Nat) (ts : List (Int × Int)) (a b : Int) (w : World) (hn : ts.length ≤ 1099511627776) (ht : TiesIn w w.heap.size ao ts) (hno : hasB K ts a b = false) :
    Calls Tryd.prog 31 #[.agg #[.int .i64 K, .slice ao ts.length cap], .int .i64 a, .int .i64 b] w fun e w' => e = .returned (.tuple #[.agg #[.int .i64 0, .slice none 0 0], .bool false]) ∧ Below w.heap.size w w' := by
  have ht1 := fun o p => (ht.below (below_two w o p) (Nat.le_refl _)).wide (C := w.heap.size + 1 + 1) (by omega)
  go_enter Tryd.func31, Tryd.ntmps31
  go_wp2_with fail
  refine (specHas_is false K ao cap ts a b _ hn (by simpa using ht1 _ _) hno).mono ?_
  rintro e w1 ⟨rfl, hb⟩
  obtain ⟨c0, c1, r0, r1, f0, f1, hz, hbb⟩ := (Boxes.start hb : Boxes w w1 K (.slice ao ts.length cap))
  clear hb ht ht1 hno
  go_wp2
  refine bodyPost_ret (v := .tuple #[.agg #[.int .i64 0, .slice none 0 0], .bool false]) ?_ rfl ⟨rfl, ?_⟩
  · simp [results, Tryd.results31, go_sem, r0, r1]
  · exact (hbb.setCell (by simp) _).setCell (by simp) _

set_option maxHeartbeats 1600000 in
theorem specCut_yes (K : Int) (ao : Option Addr) (cap : Nat) (ts : List (Int × Int)) (a b : Int) (w : World) (hn : ts.length ≤ 1099511627776) (ht : TiesIn w w.heap.size ao ts) (hyes : hasB K ts a b = true) (hlen : ts.length ≤ 64) :
    Calls Tryd.prog 31 #[.agg #[.int .i64 K, .slice ao ts.length cap], .int .i64 a, .int .i64 b] w fun e w' => ∃ ao' cap', e = .returned (.tuple #[.agg #[.int .i64 K, .slice ao' (ts.filter (other (tieOf a b))).length cap'], .bool true]) ∧
      w'.ownsRow w.heap.size 63 2 (.slice ao' (ts.filter (other (tieOf a b))).length cap') (ts.filter (other (tieOf a b))).length (clist (ts.filter (other (tieOf a b))) (ts.filter (other (tieOf a b))).length) ∧ Below w.heap.size w w' := by
  obtain ⟨i0, hi, hz0, hz1, hz2⟩ := info_parts Tryd.infoTie
  have ht1 := fun o p => (ht.below (below_two w o p) (Nat.le_refl _)).wide (C := w.heap.size + 1 + 1) (by omega)
  have HI : Hid (Tryd.prog.info? 63 = some i0 ∧ i0.zero = some (.agg #[.int .i64 0, .int .i64 0]) ∧ i0.size = 2 ∧ i0.bytes = 16) := ⟨hi, hz0, hz1, hz2⟩
  clear hi hz0 hz1 hz2
  go_enter Tryd.func31, Tryd.ntmps31
  go_wp2_with fail
  refine (specHas_is true K ao cap ts a b _ hn (by simpa using ht1 _ _) hyes).mono ?_
  rintro e w3 ⟨rfl, hb⟩
  have B3 : Boxes w w3 K (.slice ao ts.length cap) := Boxes.start hb
  have B3' := B3
  obtain ⟨c0, c1, r0, r1, f0, f1, hz, hbb⟩ := B3'
  obtain ⟨w5, hw5⟩ : ∃ w5, w5 = w3.alloc (.cells #[.int .i64 K, .slice none 0 0] 25) := ⟨_, rfl⟩
  have hB5 : Below w3.heap.size w3 w5 := by rw [hw5]; exact below_one _ _
  have hs5 : w5.heap.size = w3.heap.size + 1 := by rw [hw5]; simp
  have B5 : Boxes w w5 K (.slice ao ts.length cap) := B3.next hB5
  have M0 : Made w5 w5 K w3.heap.size (.slice none 0 0) [] := by rw [hw5]; exact Made.begin _
  have t5 : TiesIn w5 w.heap.size ao ts := ht.below B5.bel (Nat.le_refl _)
  have hwO : w.heap.size + 1 < w3.heap.size := B3.hz
  have HW5 := hideP hw5
  have hwB : w.heap.size < w5.heap.size := by have := B5.hz; omega
  have hsz5 : w3.heap.size < w5.heap.size := by omega
  have hn64 : (ts.length : Int) ≤ 64 := by omega
  clear hb ht1 hyes hB5 r0 r1 f0 f1 hbb B3 ht hw5 hs5 c1
  go_wp2
  go_loopw [9] (fun i wr => ∃ (k : Nat) (v : Value), k ≤ ts.length ∧ i = .int .i64 k ∧ Made w5 wr K w3.heap.size v ((ts.take k).filter (other (tieOf a b)))) (fun i _ => ts.length - (intOf i).toNat)
  case atStart => exact ⟨0, .slice none 0 0, Nat.zero_le _, rfl, by rw [← HW5.out]; exact M0⟩
  case round =>
    obtain ⟨k, v, hk, rfl, M⟩ := hrel
    have hl64 : ((ts.take k).filter (other (tieOf a b))).length ≤ 64 := Nat.le_trans (filter_len _ _) (by rw [List.length_take]; omega)
    by_cases hlt : k < ts.length
    · obtain ⟨bb, off, rfl, hbw, d0, d1⟩ := t5 k hlt
      have hstep := filter_succ (other (tieOf a b)) ts k hlt
      obtain ⟨x, hx⟩ : ∃ x, x = tA ts k := ⟨_, rfl⟩
      obtain ⟨y, hy⟩ : ∃ y, y = tB ts k := ⟨_, rfl⟩
      have hxy : ts[k] = (x, y) := by rw [hx, hy, tA_get ts k hlt, tB_get ts k hlt]
      rw [hxy] at hstep
      rw [← hx] at d0; rw [← hy] at d1
      have S : St2 w5 w3.heap.size w.heap.size (.slice (some ⟨bb, off, none⟩) ts.length cap) bb (off + k * 2) x y :=
        ⟨B5.c1, d0, d1, ⟨hwB, by omega⟩, ⟨by omega, by omega⟩⟩
      have HST := hideP hstep
      have hk0 : (0 : Int) ≤ (k : Int) := by omega
      have hk1 : (k : Int) < (ts.length : Int) := by omega
      clear d0 d1 hx hy hxy hstep M0 t5
      obtain ⟨L, hL⟩ : ∃ L, L = (ts.take k).filter (other (tieOf a b)) := ⟨_, rfl⟩
      have HL := hideP hL
      rw [← hL] at M hl64
      clear hL
      obtain ⟨b1, e0, e1, zO, zB, zb⟩ := S.at M
      obtain ⟨t, ht⟩ : ∃ t, t = tieOf a b := ⟨_, rfl⟩
      have HT := hideP ht
      clear ht
      by_cases hsame : x = t.1 ∧ y = t.2
      · have hN : (ts.take (k + 1)).filter (other (tieOf a b)) = L := by
          have : other (tieOf a b) (x, y) = false := by
            rw [← HT.out]; simp [other, hsame]
          rw [HST.out, ← HL.out, this]; simp
        have HNX := hideP hN
        have hx1 : (x == t.1) = true := by simp [hsame.1]
        have hx2 : (y == t.2) = true := by simp [hsame.2]
        clear hN hsame
        go_wp2
        go_region_held3 (fun w' => w'.cell? ⟨w.heap.size, 1, none⟩ = some (.slice (some ⟨bb, off, none⟩) ts.length cap) ∧ w'.cell? ⟨bb, off + k * 2, none⟩ = some (.int .i64 x) ∧ w'.cell? ⟨bb, off + k * 2 + 1, none⟩ = some (.int .i64 y)) (first | exact ⟨b1, e0, e1⟩ | exact ⟨b1', e0', e1'⟩) (first | (go_at_call 58; refine (l1Tie_b a b _).mono ?_; rw [← HT.out]; rintro e w6 ⟨rfl, hb6⟩; have M6 := M.next ((Below.refl _ _).drew.trans hb6); obtain ⟨b1', e0', e1', zO', zB', zb'⟩ := S.at M6))
        clear b1 e0 e1 zO zB zb hb6 M
        go_wp2
        go_roundw
        case rel => exact ⟨k + 1, _, by omega, by go_num, by rw [HNX.out]; exact M6⟩
        case measure => simp [intOf]; omega
      · have hN : (ts.take (k + 1)).filter (other (tieOf a b)) = L ++ [(x, y)] := by
          have : other (tieOf a b) (x, y) = true := by
            rw [← HT.out]; simp only [other, decide_eq_true_eq]; intro e; exact hsame ⟨congrArg Prod.fst e, congrArg Prod.snd e⟩
          rw [HST.out, ← HL.out, this]; simp
        have HNX := hideP hN
        clear hN
        by_cases h1 : x = t.1
        · have hx1 : (x == t.1) = true := by simp [h1]
          have hx2 : (y == t.2) = false := by simp; exact fun e => hsame ⟨h1, e⟩
          clear hsame h1
          go_wp2
          go_region_held3 (fun w' => w'.cell? ⟨w.heap.size, 1, none⟩ = some (.slice (some ⟨bb, off, none⟩) ts.length cap) ∧ w'.cell? ⟨bb, off + k * 2, none⟩ = some (.int .i64 x) ∧ w'.cell? ⟨bb, off + k * 2 + 1, none⟩ = some (.int .i64 y)) (first | exact ⟨b1, e0, e1⟩ | exact ⟨b1', e0', e1'⟩) (first | (go_at_call 58; refine (l1Tie_b a b _).mono ?_; rw [← HT.out]; rintro e w6 ⟨rfl, hb6⟩; have M6 := M.next ((Below.refl _ _).drew.trans hb6); obtain ⟨b1', e0', e1', zO', zB', zb'⟩ := S.at M6))
          clear b1 e0 e1 zO zB zb hb6 M
          have o1 := M6.o1
          go_wp2
          go_region_law ((refine step_append_lies _ (by rfl) _ _ _ (by rfl) w5.heap.size 63 i0 _ 2 16 Tryd.underlying23 HI.out.1 HI.out.2.1 HI.out.2.2.1 HI.out.2.2.2 rfl (by omega) v L.length (clist L L.length) (by rfl) ((M6.own.alloc _).drew) ⟨w6.heap.size, 0, none⟩ 1 1 [.int .i64 x, .int .i64 y] (by rfl) (by rfl) (World.news_of_block (cs := #[.int .i64 x, .int .i64 y]) (t := 63) (fr := (0, 0)) (heap_alloc_new w6 _)) (by simp [Value.oneCell']) (by omega) (by unfold maxLen; omega) (by omega) (by have := M6.gr.size; simp; omega) (w6.heap.size + 1) (by simp) ?_; intro g cap' wb hown1 hgrow hat hltg; obtain ⟨oB, fB⟩ := M6.far ((below_one _ _).drew) hgrow))
          all_goals
            have MP := M6.push ((below_one _ _).drew) (x := (x, y)) hown1 hgrow
            clear hown1 hgrow hat hltg oB fB
            go_wp2
            go_roundw
            case rel => exact ⟨k + 1, _, by omega, by go_num, by rw [HNX.out]; exact MP⟩
            case measure => simp [intOf]; omega
        · have hx1 : (x == t.1) = false := by simp [h1]
          clear hsame h1
          go_wp2
          go_region_held3 (fun w' => w'.cell? ⟨w.heap.size, 1, none⟩ = some (.slice (some ⟨bb, off, none⟩) ts.length cap) ∧ w'.cell? ⟨bb, off + k * 2, none⟩ = some (.int .i64 x) ∧ w'.cell? ⟨bb, off + k * 2 + 1, none⟩ = some (.int .i64 y)) (first | exact ⟨b1, e0, e1⟩ | exact ⟨b1', e0', e1'⟩) (first | (go_at_call 58; refine (l1Tie_b a b _).mono ?_; rw [← HT.out]; rintro e w6 ⟨rfl, hb6⟩; have M6 := M.next ((Below.refl _ _).drew.trans hb6); obtain ⟨b1', e0', e1', zO', zB', zb'⟩ := S.at M6))
          clear b1 e0 e1 zO zB zb hb6 M
          have o1 := M6.o1
          go_wp2
          go_region_law ((refine step_append_lies _ (by rfl) _ _ _ (by rfl) w5.heap.size 63 i0 _ 2 16 Tryd.underlying23 HI.out.1 HI.out.2.1 HI.out.2.2.1 HI.out.2.2.2 rfl (by omega) v L.length (clist L L.length) (by rfl) ((M6.own.alloc _).drew) ⟨w6.heap.size, 0, none⟩ 1 1 [.int .i64 x, .int .i64 y] (by rfl) (by rfl) (World.news_of_block (cs := #[.int .i64 x, .int .i64 y]) (t := 63) (fr := (0, 0)) (heap_alloc_new w6 _)) (by simp [Value.oneCell']) (by omega) (by unfold maxLen; omega) (by omega) (by have := M6.gr.size; simp; omega) (w6.heap.size + 1) (by simp) ?_; intro g cap' wb hown1 hgrow hat hltg; obtain ⟨oB, fB⟩ := M6.far ((below_one _ _).drew) hgrow))
          all_goals
            have MP := M6.push ((below_one _ _).drew) (x := (x, y)) hown1 hgrow
            clear hown1 hgrow hat hltg oB fB
            go_wp2
            go_roundw
            case rel => exact ⟨k + 1, _, by omega, by go_num, by rw [HNX.out]; exact MP⟩
            case measure => simp [intOf]; omega
    · have hkn : k = ts.length := by omega
      subst hkn
      have hall : (ts.take ts.length).filter (other (tieOf a b)) = ts.filter (other (tieOf a b)) := by rw [List.take_length]
      rw [hall] at M hl64
      clear hall
      obtain ⟨ao', cap', rfl⟩ := own_slice M.own
      have z : w.heap.size + 1 < w5.heap.size := B5.hz
      have r0 : wr.cell? ⟨w.heap.size + 1, 0, none⟩ = some (.int .i64 0) := (M.old (p := ⟨w.heap.size + 1, 0, none⟩) z (by show w.heap.size + 1 ≠ _; omega)).trans B5.r0
      have r1 : wr.cell? ⟨w.heap.size + 1, 1, none⟩ = some (.slice none 0 0) := (M.old (p := ⟨w.heap.size + 1, 1, none⟩) z (by show w.heap.size + 1 ≠ _; omega)).trans B5.r1
      have f0 : wr.frozen? ⟨w.heap.size + 1, 0, none⟩ = false := (M.oldF (p := ⟨w.heap.size + 1, 0, none⟩) z (by show w.heap.size + 1 ≠ _; omega)).trans B5.f0
      have f1 : wr.frozen? ⟨w.heap.size + 1, 1, none⟩ = false := (M.oldF (p := ⟨w.heap.size + 1, 1, none⟩) z (by show w.heap.size + 1 ≠ _; omega)).trans B5.f1
      have b1 : wr.cell? ⟨w.heap.size, 1, none⟩ = some (.slice ao ts.length cap) := (M.old (p := ⟨w.heap.size, 1, none⟩) hwB (by show w.heap.size ≠ w3.heap.size; omega)).trans B5.c1
      have hb := M.below B5.bel (by omega)
      have HB := hideP ((hb.setCell (p := ⟨w.heap.size + 1, 0, none⟩) (by show w.heap.size ≤ w.heap.size + 1; omega) (.int .i64 K)).setCell (p := ⟨w.heap.size + 1, 1, none⟩) (by show w.heap.size ≤ w.heap.size + 1; omega) (.slice ao' (ts.filter (other (tieOf a b))).length cap'))
      have HO := hideP (own_base (ownsRow_setCell_below (ownsRow_setCell_below M.own (a := ⟨w.heap.size + 1, 0, none⟩) (by show w.heap.size + 1 < _; omega) (.int .i64 K)) (a := ⟨w.heap.size + 1, 1, none⟩) (by show w.heap.size + 1 < _; omega) (.slice ao' (ts.filter (other (tieOf a b))).length cap')) (base' := w.heap.size) (by omega))
      have o1 := M.o1
      have o0 := M.o0
      clear hb M t5 M0 B5
      go_wp2
      refine bodyPost_ret (v := .tuple #[.agg #[.int .i64 K, .slice ao' (ts.filter (other (tieOf a b))).length cap'], .bool true]) ?_ rfl ⟨ao', cap', rfl, HO.out, HB.out⟩
      simp [results, Tryd.results31, go_sem, r0, r1]

end Go.Proofs.YtljnjpjnadlmhaaDoor

/- The answers of NetAdd, NetCut, NetWithout in one form each. -/
namespace Go.Proofs.YtljnjpjnadlmhaaDoor
open Go.RowKit
set_option linter.unusedVariables false

theorem cutB_no {K : Int} {ts : List (Int × Int)} {a b : Int} (h : cutB K ts a b = false) : hasB K ts a b = false := h
theorem cutB_yes {K : Int} {ts : List (Int × Int)} {a b : Int} (h : cutB K ts a b = true) : hasB K ts a b = true := h
theorem specCut_all (K : Int) (ao : Option Addr) (cap : Nat) (ts : List (Int × Int)) (a b : Int) (w : World) (hn : ts.length ≤ 1099511627776) (ht : TiesIn w w.heap.size ao ts) :
    Calls Tryd.prog 31 #[.agg #[.int .i64 K, .slice ao ts.length cap], .int .i64 a, .int .i64 b] w fun e w' => ∃ ao' cap', e = .returned (.tuple #[.agg #[.int .i64 (cutK K ts a b), .slice ao' (cutTs K ts a b).length cap'], .bool (cutB K ts a b)]) ∧
      OwnN w' w.heap.size w'.heap.size ao' (cutTs K ts a b).length (tcell (cutTs K ts a b)) ∧ Below w.heap.size w w' := by
  cases h : cutB K ts a b
  · refine (specCut_no K ao cap ts a b w hn ht (cutB_no h)).mono ?_
    rintro e w' ⟨rfl, hb⟩
    exact ⟨none, 0, by simp [cutK, cutTs, h], Or.inl ⟨by simp [cutTs, h], rfl⟩, hb⟩
  · refine (specCut_yes K ao cap ts a b w hn ht (cutB_yes h) (ok_short (okB_iff.1 (has_ok (cutB_yes h))))).mono ?_
    rintro e w' ⟨ao', cap', rfl, ho, hb⟩
    refine ⟨ao', cap', by simp [cutK, cutTs, h], ?_, hb⟩
    have e : cutTs K ts a b = ts.filter (other (tieOf a b)) := by simp [cutTs, h]
    rw [e]; exact OwnN.of_row ho
end Go.Proofs.YtljnjpjnadlmhaaDoor

/- spec.NetCut and spec.NetAdd, with the room that their ties have. -/
namespace Go.Proofs.YtljnjpjnadlmhaaDoor
open Go.RowKit
set_option linter.unusedVariables false

theorem own_room {w : World} {base n cap sz : Nat} {ao : Option Addr} {e : TypeId} {xs : List Value} (h : w.ownsRow base e sz (.slice ao n cap) n xs) : n ≤ cap := by
  rcases h.2 with ⟨h1, h2⟩ | ⟨g', c', cur, h1, _, _, h4, _⟩
  · omega
  · simp only [Value.slice.injEq, true_and] at h1
    omega
theorem specCut_cap (K : Int) (ao : Option Addr) (cap : Nat) (ts : List (Int × Int)) (a b : Int) (w : World) (hn : ts.length ≤ 1099511627776) (ht : TiesIn w w.heap.size ao ts) :
    Calls Tryd.prog 31 #[.agg #[.int .i64 K, .slice ao ts.length cap], .int .i64 a, .int .i64 b] w fun e w' => ∃ ao' cap', e = .returned (.tuple #[.agg #[.int .i64 (cutK K ts a b), .slice ao' (cutTs K ts a b).length cap'], .bool (cutB K ts a b)]) ∧
      OwnN w' w.heap.size w'.heap.size ao' (cutTs K ts a b).length (tcell (cutTs K ts a b)) ∧ Below w.heap.size w w' ∧ (cutTs K ts a b).length ≤ cap' := by
  cases h : cutB K ts a b
  · refine (specCut_no K ao cap ts a b w hn ht (cutB_no h)).mono ?_
    rintro e w' ⟨rfl, hb⟩
    exact ⟨none, 0, by simp [cutK, cutTs, h], Or.inl ⟨by simp [cutTs, h], rfl⟩, hb, by simp [cutTs, h]⟩
  · refine (specCut_yes K ao cap ts a b w hn ht (cutB_yes h) (ok_short (okB_iff.1 (has_ok (cutB_yes h))))).mono ?_
    rintro e w' ⟨ao', cap', rfl, ho, hb⟩
    have e : cutTs K ts a b = ts.filter (other (tieOf a b)) := by simp [cutTs, h]
    refine ⟨ao', cap', by simp [cutK, cutTs, h], ?_, hb, ?_⟩
    · rw [e]; exact OwnN.of_row ho
    · rw [e]; exact own_room ho
theorem specAdd_cap (K : Int) (ao : Option Addr) (cap : Nat) (ts : List (Int × Int)) (a b : Int) (w : World) (hn : ts.length ≤ 1099511627776) (ht : TiesIn w w.heap.size ao ts) :
    Calls Tryd.prog 78 #[.agg #[.int .i64 K, .slice ao ts.length cap], .int .i64 a, .int .i64 b] w fun e w' => ∃ ao' cap', e = .returned (.tuple #[.agg #[.int .i64 (addK K ts a b), .slice ao' (addTs K ts a b).length cap'], .bool (addB K ts a b)]) ∧
      OwnN w' w.heap.size w'.heap.size ao' (addTs K ts a b).length (tcell (addTs K ts a b)) ∧ Below w.heap.size w w' ∧ (addTs K ts a b).length ≤ cap' := by
  cases h : addB K ts a b
  · refine (specAdd_no K ao cap ts a b w hn ht h).mono ?_
    rintro e w' ⟨rfl, hb⟩
    exact ⟨none, 0, by simp [addK, addTs, h], Or.inl ⟨by simp [addTs, h], rfl⟩, hb, by simp [addTs, h]⟩
  · refine (specAdd_yes K ao cap ts a b w hn ht h).mono ?_
    rintro e w' ⟨ao', cap', rfl, ho, hb⟩
    have e : addTs K ts a b = ins (tieOf a b) ts := by simp [addTs, h]
    refine ⟨ao', cap', by simp [addK, addTs, h], ?_, hb, ?_⟩
    · rw [e]; exact OwnN.of_row ho
    · rw [e]; exact own_room ho

end Go.Proofs.YtljnjpjnadlmhaaDoor
