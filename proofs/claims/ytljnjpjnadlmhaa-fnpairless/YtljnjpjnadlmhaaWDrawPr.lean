/- What laws.FnPairLess draws. -/
import Derived.Test.YtljnjpjnadlmhaaWTst
import Derived.Test.YtljnjpjnadlmhaaPartWTree
import Derived.Test.YtljnjpjnadlmhaaWPairOkS
import Derived.Test.YtljnjpjnadlmhaaWApp
import Derived.Test.YtljnjpjnadlmhaaWPickF
namespace Go.Proofs.Ytljnjpjnadlmhaa
open Go.RowKit
set_option linter.unusedVariables false

theorem specPairOk_v (v : Bool) (K : Int) (ao bo : Option Addr) (cap cap2 n : Nat) (ts us : List (Int × Int)) (w : World) (hn : ts.length ≤ 1099511627776) (ht : TiesIn w w.heap.size ao ts) (hn2 : us.length ≤ 1099511627776) (hu : TiesIn w w.heap.size bo us) (hnn : us.length = n) (h : pairB K ts us = v) :
    Calls Try.prog 13 #[.agg #[.int .i64 K, .slice ao ts.length cap], .slice bo n cap2] w fun e w' => e = .returned (.bool v) ∧ Below w.heap.size w w' := by
  rw [← hnn, ← h]; exact specPairOk_any K ao bo cap cap2 ts us w hn ht hn2 hu
/-- room for ties that is made, and a tie that is put behind it, in either order -/
structure RoomsT (w : World) (x y : Int) : Prop where
  bC : Below w.heap.size w (w.alloc (.cells #[] 37))
  bT : Below w.heap.size w (w.alloc (.cells #[.int .i64 x, .int .i64 y] 37))
  bCT : Below w.heap.size w ((w.alloc (.cells #[] 37)).alloc (.cells #[.int .i64 x, .int .i64 y] 37))
  bTC : Below w.heap.size w ((w.alloc (.cells #[.int .i64 x, .int .i64 y] 37)).alloc (.cells #[] 37))
  i1 : (w.alloc (.cells #[] 37)).ownsRow w.heap.size 37 2 (.slice (some ⟨w.heap.size, 0, none⟩) 0 0) 0 (tlist [])
  i2 : ((w.alloc (.cells #[] 37)).alloc (.cells #[.int .i64 x, .int .i64 y] 37)).ownsRow w.heap.size 37 2 (.slice (some ⟨w.heap.size, 0, none⟩) 0 0) 0 (tlist [])
  i3 : ((w.alloc (.cells #[.int .i64 x, .int .i64 y] 37)).alloc (.cells #[] 37)).ownsRow w.heap.size 37 2 (.slice (some ⟨w.heap.size + 1, 0, none⟩) 0 0) 0 (tlist [])
theorem RoomsT.of (w : World) (x y : Int) : RoomsT w x y := by
  have bC : Below w.heap.size w (w.alloc (.cells #[] 37)) := below_one _ _
  have bT : Below w.heap.size w (w.alloc (.cells #[.int .i64 x, .int .i64 y] 37)) := below_one _ _
  have i1 := own_empty w 37 w.heap.size (Nat.le_refl _)
  have i3 := own_empty (w.alloc (.cells #[.int .i64 x, .int .i64 y] 37)) 37 w.heap.size (by simp)
  rw [World.size_alloc] at i3
  exact ⟨bC, bT, bC.alloc bC.size _, bT.alloc bT.size _, i1, i1.alloc _, i3⟩
theorem tempT_behind {w wa : World} {cs : Array Value} {t t' : TypeId} (h : ((w.alloc (.cells #[] t)).alloc (.cells cs t')).grownBy wa (some w.heap.size)) : wa.heap[w.heap.size + 1]? = some (.cells cs t' (0, 0)) := by
  refine (h.block (w.heap.size + 1) (by simp) (by simp)).trans ?_
  have := heap_alloc_new (w.alloc (.cells #[] t)) (.cells cs t')
  rw [World.size_alloc] at this
  exact this
theorem tempT_ahead {w wa : World} {cs : Array Value} {t t' : TypeId} (h : ((w.alloc (.cells cs t')).alloc (.cells #[] t)).grownBy wa (some (w.heap.size + 1))) : wa.heap[w.heap.size]? = some (.cells cs t' (0, 0)) :=
  (h.block w.heap.size (by simp; omega) (by simp)).trans ((Below.heap_alloc (w.alloc (.cells cs t')) (.cells #[] t) w.heap.size (by simp)).trans (heap_alloc_new w (.cells cs t')))
theorem tlist_cells {w : World} {base g n cap : Nat} {us : List (Int × Int)} (h : w.ownsRow base 37 2 (.slice (some ⟨g, 0, none⟩) n cap) n (tlist us)) : ∀ j u, (tlist us)[j]? = some u → w.cell? ((⟨g, 0, none⟩ : Addr).add j) = some u := by
  intro j u hu
  have hl := h.1
  have hj : j < n * 2 := by
    have := (List.getElem?_eq_some_iff.1 hu).1
    omega
  have hadd : (⟨g, 0, none⟩ : Addr).add j = ⟨g, j, none⟩ := by unfold Addr.add; split <;> simp_all
  rw [hadd, h.cellAt j hj]; exact hu
theorem own_lt8 {w : World} {base g n cap : Nat} {e : TypeId} {size : Nat} {vs : List Value} (h : w.ownsRow base e size (.slice (some ⟨g, 0, none⟩) n cap) n vs) : base < w.heap.size := by
  rcases h.2 with ⟨h', _⟩ | ⟨g', cap', cur, h', hb, hg, _⟩
  · simp at h'
  · exact Nat.lt_of_le_of_lt hb (Array.getElem?_eq_some_iff.1 hg).1
theorem own_nxt {w w' : World} {base n size : Nat} {e : TypeId} {v : Value} {vs : List Value} (h : w.ownsRow base e size v n vs) (hb : Below w.heap.size w w') : w'.ownsRow base e size v n vs := own_same h (fun g _ hg => hb.block g hg)
set_option maxHeartbeats 1600000 in
theorem drawPairOk_any (bo : Option Addr) (n cap : Nat) (w : World) (hb : BytesIn w bo n) (hnil : bo = none → n = 0 ∧ cap = 0) (hc : n ≤ cap) (hm : cap ≤ maxLen) :
    Calls Try.prog 11 #[.slice bo n cap] w fun e w' => ∃ K ao cap' ts co capC us, e = .returned (.tuple #[.agg #[.int .i64 K, .slice ao ts.length cap'], .slice co us.length capC]) ∧ us.length ≤ capC ∧ DealtT w w' ao ts co us := by
  obtain ⟨i1, hj, hy0, hy1, hy2⟩ := info_parts Try.infoTie
  have HI : Hid (Try.prog.info? 37 = some i1 ∧ i1.zero = some (.agg #[.int .i64 0, .int .i64 0]) ∧ i1.size = 2 ∧ i1.bytes = 16) := ⟨hj, hy0, hy1, hy2⟩
  clear hj hy0 hy1 hy2
  go_enter Try.func11, Try.ntmps11
  go_wp2_with fail
  refine (l6Open_any bo n cap _ (fun i hi => by obtain ⟨b, off, v, e, h1, h2, h3⟩ := hb i hi; exact ⟨b, off, v, e, Nat.lt_of_lt_of_le h1 (by simp), by rw [World.cell?_alloc_past _ _ _ h1]; exact h2, h3⟩) hnil hc hm).mono ?_
  rintro e w1 ⟨rfl, ⟨bn, bcap, rd⟩, hb1⟩
  have hb1' : Below (w.heap.size + 1) (w.alloc (.cells #[.int .i64 0, .slice none 0 0] 25)) w1 := by simpa using hb1
  have C1 := hideP ((Cel.new w 0 (.slice none 0 0) 25).below hb1' (Nat.lt_succ_self _))
  have hB1 := hideP ((below_one w (.cells #[.int .i64 0, .slice none 0 0] 25)).trans (hb1'.mono (Nat.le_succ _)))
  have rd' : Rdr w1 (w.heap.size + 1) bo bn bcap 0 := by simpa using rd
  have hR := rd'.lt
  clear hb1 hb1' rd
  obtain ⟨R, hRR⟩ : ∃ R, R = w.heap.size + 1 := ⟨_, rfl⟩
  have hwR : w.heap.size < R := by omega
  rw [← hRR] at rd' hR
  simp only [World.size_alloc] at *
  rw [← hRR]
  clear hRR
  go_wp2_with fail
  refine (l71Any_any R bo bn bcap 0 _ rd' (by omega)).mono ?_
  rintro e w2 ⟨K, ao, cap', ts, rfl, ⟨p, hp, rd2⟩, tr2, ho2, hk0, hk9, hlen⟩
  have hn : ts.length ≤ 1099511627776 := by omega
  have S2 : ∀ t, Hid (Tst w (w2.alloc (.cells #[.int .i64 K, .slice ao ts.length cap'] t)) R bo bn bcap p w2.heap.size K ao cap' ts) := fun t => by
    have hRw := tr2.size
    have h0 := rd2.lt
    refine ⟨rd2.next (below_one _ _), (C1.out.turn' tr2 hwR).nextC (below_one _ _), by simp, by simp, h0, by simp, (ho2.tiesUp.down hR).next (below_one _ _), (hB1.out.trans (tr2.toBelow (Nat.le_of_lt hwR) (Nat.le_of_lt hR))).trans ((below_one w2 _).mono (by have := hB1.out.size; omega)), hwR, fun b off e hl => ?_⟩
    rcases ho2 with ⟨h1, _⟩ | ⟨g, e2, _, h2, _⟩
    · omega
    · rw [e2] at e; simp only [Option.some.injEq, Addr.mk.injEq] at e; omega
  clear rd2 tr2 ho2 C1 hB1 rd'
  have S3 := hideP (S2 25).out
  obtain ⟨w3, hw3⟩ : ∃ w3, w3 = w2.alloc (.cells #[.int .i64 K, .slice ao ts.length cap'] 25) := ⟨_, rfl⟩
  have hlow : R < w2.heap.size := S3.out.hA
  obtain ⟨A, hAe⟩ : ∃ A, A = w2.heap.size := ⟨_, rfl⟩
  have hsz : w3.heap.size = A + 1 := by rw [hw3, hAe]; simp
  rw [← hw3, ← hAe] at S3
  rw [← hAe] at hlow
  clear S2
  go_wp2_with (fail)
  rw [← hw3, ← hAe]
  clear hw3 hAe
  refine (pick_any R bo bn bcap p 4 _ S3.out.rd (by omega)).mono ?_
  rintro e w4 ⟨z, rfl, z0, z1, rd4, tr4⟩
  have S4 := hideP (S3.out.turn tr4 rd4)
  have hs4 := tr4.size
  have hR4 : R + 1 ≤ w4.heap.size := by have := S4.out.rd.lt; omega
  clear S3 rd4 tr4 z1
  have r0 := S4.out.C.c0
  have r1 := S4.out.C.c1
  have g0 := S4.out.C.f0
  have g1 := S4.out.C.f1
  have k0 := S4.out.n0
  have k1 := S4.out.n1
  by_cases hz : z = 0
  · subst hz
    have hul := treeTs_len K ts
    have S4d := hideP (S4.out.next (Below.refl _ _).drew)
    have hw0A : w.heap.size ≠ A := by omega
    go_wp2
    go_region_held3 (fun w' => w'.cell? ⟨A, 0, none⟩ = some (.int .i64 K) ∧ w'.cell? ⟨A, 1, none⟩ = some (.slice ao ts.length cap')) (first | exact ⟨k0, k1⟩ | exact ⟨S5.out.n0, S5.out.n1⟩ | exact ⟨(World.cell?_setCell_other _ _ _ _ (by simp <;> omega)).trans ((World.cell?_setCell_other _ _ _ _ (by simp <;> omega)).trans S5.out.n0), (World.cell?_setCell_other _ _ _ _ (by simp <;> omega)).trans ((World.cell?_setCell_other _ _ _ _ (by simp <;> omega)).trans S5.out.n1)⟩) (first | (go_at_call 36; refine (specTree_row K ao cap' ts _ hn S4d.out.tN.in).mono ?_; rintro e w5 ⟨co, capC, rfl, ho5, hb5⟩; have S5 := hideP (S4d.out.next hb5); have O5 := hideP ho5; have r0 := S5.out.C.c0; have r1 := S5.out.C.c1; have g0 := S5.out.C.f0; have g1 := S5.out.C.f1; clear ho5 hb5))
    all_goals
      have L5 : Hid (TiesUp w5 (R + 1) co (treeTs K ts)) := hideP ((OwnN.of_row O5.out).tiesUp.down (by show R + 1 ≤ w4.drew.heap.size; exact hR4))
      have hroom := own_room O5.out
      go_wp2
      refine bodyPost_ret (v := .tuple #[.agg #[.int .i64 K, .slice ao ts.length cap'], .slice co (treeTs K ts).length capC]) ?_ rfl ⟨K, ao, cap', ts, co, capC, treeTs K ts, rfl, hroom, S5.out.fin L5.out hlen (by omega) _ _⟩
      simp [results, Try.results11, go_sem, r0, r1]
  · have hzb : (z == 0) = false := by simp [hz]
    clear r0 r1 g0 g1
    have bx := below_one w4 (.cells #[] 37)
    have S5 := hideP (S4.out.next bx)
    have hAw : A < w4.heap.size := S4.out.lt
    obtain ⟨S, hS⟩ : ∃ S, S = w4.heap.size := ⟨_, rfl⟩
    have OW : Hid ((w4.alloc (.cells #[] 37)).ownsRow S 37 2 (.slice (some ⟨S, 0, none⟩) 0 0) 0 (tlist [])) := hideP (by rw [hS]; exact own_empty w4 37 w4.heap.size (Nat.le_refl _))
    rw [← hS] at hAw hR4
    clear S4 bx k0 k1
    go_wp2
    rw [← hS]
    clear hS
    go_loopw [6, 7] (fun v i wr => ∃ (k p' g capv : Nat) (us : List (Int × Int)), k ≤ ts.length ∧ i = .int .i64 (k : Int) ∧ v = .slice (some ⟨g, 0, none⟩) us.length capv ∧ us.length ≤ k ∧ p' ≤ 90 + 2 * k ∧ wr.ownsRow S 37 2 (.slice (some ⟨g, 0, none⟩) us.length capv) us.length (tlist us) ∧ Tst w wr R bo bn bcap p' A K ao cap' ts)
      (fun _ i _ => ts.length - (intOf i).toNat)
    case atStart => exact ⟨0, p + 1, S, 0, [], Nat.zero_le _, rfl, rfl, Nat.le_refl _, by omega, OW.out, S5.out⟩
    case round =>
      clear S5 OW
      obtain ⟨k, p', g, capv, us, hk, rfl, rfl, huk, hpk, hO, hT⟩ := hrel
      have HO := hideP hO
      have HS := hideP hT
      clear hO hT
      have n0 := HS.out.n0
      have n1 := HS.out.n1
      by_cases hlt : k < ts.length
      · have hkk0 : (0 : Int) ≤ (k : Int) := by omega
        have hkk1 : (k : Int) < (ts.length : Int) := by omega
        obtain ⟨b2, off2, rfl, _, hbl2, e0, e1⟩ := HS.out.tN k hlt
        obtain ⟨x, hx⟩ : ∃ x, x = tA ts k := ⟨_, rfl⟩
        obtain ⟨y, hy⟩ : ∃ x, x = tB ts k := ⟨_, rfl⟩
        rw [← hx] at e0
        rw [← hy] at e1
        have hb2R : R + 1 ≤ b2 := by
          obtain ⟨b3, off3, e3, h3, _⟩ := HS.out.tN k hlt
          cases e3; exact h3
        have HRl := hideP HS.out.rd.lt
        obtain ⟨q1, q10, q11, hPF1⟩ := pick_fix R bo bn bcap p' 2 wr HS.out.rd (by omega)
        have PF1 := hideP hPF1
        obtain ⟨q2, q20, q21, hPF2⟩ := pick_fix R bo bn bcap (p' + 1) 12 (wr.setCell ⟨R, 1, none⟩ (.int .i64 ((p' : Int) + 1))) HS.out.rd.count (by omega)
        have PF2 : Hid (∀ w, Rdr w R bo bn bcap (p' + 1) → (∀ k, k < R → w.heap[k]? = wr.heap[k]?) → Calls Try.prog 26 #[.pointer (some ⟨R, 0, none⟩), .int .i64 12] w fun e w' => e = .returned (.int .i64 q2) ∧ Rdr w' R bo bn bcap (p' + 1 + 1) ∧ Turned R (R + 1) w w') := hideP (fun w h1 h2 => hPF2 w h1 (fun k hk => (h2 k hk).trans (Below.heap_setCell _ _ _ _ (by show k ≠ R; omega)).symm))
        have q1b := q11 (by omega)
        have S6d := hideP (HS.out.next (Below.refl _ _).drew)
        have O6d : Hid (wr.drew.ownsRow S 37 2 (.slice (some ⟨g, 0, none⟩) us.length capv) us.length (tlist us)) := hideP HO.out.drew
        have hus66 : us.length ≤ 66 := by omega
        have PK : Hid (∀ (W : World) (gB cB : Nat), TiesIn W W.heap.size (some ⟨b2, off2, none⟩) ts → (∃ bs, W.ownsRow bs 37 2 (.slice (some ⟨gB, 0, none⟩) (us.length + 1) cB) (us.length + 1) (tlist (us ++ [(x, y)]))) → Calls Try.prog 13 #[.agg #[.int .i64 K, .slice (some ⟨b2, off2, none⟩) ts.length cap'], .slice (some ⟨gB, 0, none⟩) (us.length + 1) cB] W fun e w' => e = .returned (.bool (pairB K ts (us ++ [(x, y)]))) ∧ Below W.heap.size W w') := hideP (fun W gB cB h1 h2 => by
          have h3 : TiesIn W W.heap.size (some ⟨gB, 0, none⟩) (us ++ [(x, y)]) := by
            obtain ⟨_, h2⟩ := h2
            exact own_tl h2 (by simp)
          exact specPairOk_v _ K _ _ cap' cB _ ts (us ++ [(x, y)]) W hn h1 (by simp; omega) h3 (by simp) rfl)
        obtain ⟨fv, hfv⟩ : ∃ fv, pairB K ts (us ++ [(x, y)]) = fv := ⟨_, rfl⟩
        rw [hfv] at PK
        clear hPF1 hPF2 q11 q21 HS HO hx hy hfv
        go_wp2_with fail
        rcases (show q1 = 1 ∨ (q1 = 0 ∧ q2 = 0) ∨ (q1 = 0 ∧ q2 ≠ 0) by omega) with rfl | ⟨rfl, rfl⟩ | ⟨rfl, hq2⟩
        · clear PF2 PK
          refine wp_region_held_drew (S := fun w' => w'.cell? ⟨A, 0, none⟩ = some (.int .i64 K) ∧ w'.cell? ⟨A, 1, none⟩ = some (.slice (some ⟨b2, off2, none⟩) ts.length cap') ∧ w'.cell? ⟨b2, off2 + k * 2, none⟩ = some (.int .i64 x) ∧ w'.cell? ⟨b2, off2 + k * 2 + 1, none⟩ = some (.int .i64 y)) (by kernel_rfl) ⟨n0, n1, e0, e1⟩ (fun hHeld => ?_)
          refine wpAnyH_take (i := 0) (v := ?va0) rfl (by kernel_rfl) (by kernel_rfl) (by kernel_rfl) (fun _ _ _ h => h) (Or.inl ⟨by rfl, ?ha0⟩) (by assumption) ?_
          case ha0 => (intro w hSw; (try dsimp only at hSw); go_simp; (try with_reducible rfl))
          simp only [Act.put, List.setIfInBounds_toArray, List.set_cons_zero, List.set_cons_succ, List.getElem_toArray, List.getElem_cons_zero]
          refine wpAnyH_ready (rs := [1]) (by kernel_rfl) (by simp) ?_
          apply AllReadyH.cons
          case ho => rfl
          case hs => exact AllReadyH.nil
          case h =>
          intro K' hK
          go_simp
          go_at_call 26
          refine (PF1.out _ S6d.out.rd (fun _ _ => rfl)).mono ?_
          rintro e w7 ⟨rfl, rd7, tr7⟩
          have S7 := hideP (S6d.out.turn tr7 rd7)
          have O7 : Hid (w7.ownsRow S 37 2 (.slice (some ⟨g, 0, none⟩) us.length capv) us.length (tlist us)) := own_same O6d.out (fun g hg hgl => tr7.block g hgl (Or.inr (by omega)))
          have SM7 : Hid (∀ k, k < R → w7.heap[k]? = wr.heap[k]?) := hideP (fun k hk => tr7.block k (Nat.lt_trans hk HRl.out) (Or.inl hk))
          have EE7 : Hid (w7.cell? ⟨b2, off2 + k * 2, none⟩ = some (.int .i64 x) ∧ w7.cell? ⟨b2, off2 + k * 2 + 1, none⟩ = some (.int .i64 y)) := hideP ⟨(tr7.cell (p := ⟨b2, off2 + k * 2, none⟩) hbl2 (Or.inr hb2R)).trans e0, (tr7.cell (p := ⟨b2, off2 + k * 2 + 1, none⟩) hbl2 (Or.inr hb2R)).trans e1⟩
          have hl7 := tr7.size
          clear rd7 tr7
          refine hK.out _ _ ⟨S7.out.n0, S7.out.n1, EE7.out.1, EE7.out.2⟩ (fun hHeld7 => ?_)
          clear hK K' hHeld
          try simp only [Act.put, List.setIfInBounds_toArray, List.set_cons_zero, List.set_cons_succ, List.getElem_toArray, List.getElem_cons_zero, List.getElem_cons_succ]
          refine wpAnyH_take (i := 2) (v := ?va2) rfl (by kernel_rfl) (by kernel_rfl) (by kernel_rfl) (fun _ _ _ h => h) (Or.inl ⟨by rfl, ?ha2⟩) (by assumption) ?_
          case ha2 => (intro w hSw; (try dsimp only at hSw); go_simp; (try with_reducible rfl))
          simp only [Act.put, List.setIfInBounds_toArray, List.set_cons_zero, List.set_cons_succ, List.getElem_toArray, List.getElem_cons_zero, List.getElem_cons_succ]
          refine wpAnyH_take (i := 3) (v := ?va3) rfl (by kernel_rfl) (by kernel_rfl) (by kernel_rfl) (fun _ _ _ h => h) (Or.inl ⟨by rfl, ?ha3⟩) (by assumption) ?_
          case ha3 => (intro w hSw; (try dsimp only at hSw); go_simp; (try with_reducible rfl))
          simp only [Act.put, List.setIfInBounds_toArray, List.set_cons_zero, List.set_cons_succ, List.getElem_toArray, List.getElem_cons_zero, List.getElem_cons_succ]
          refine wpAnyH_take (i := 4) (v := undef) rfl (by kernel_rfl) (by kernel_rfl) (by kernel_rfl) (fun _ _ _ h => h) (Or.inr ⟨by kernel_rfl, rfl⟩) (by assumption) ?_
          simp only [Act.put, List.setIfInBounds_toArray, List.set_cons_zero, List.set_cons_succ, List.getElem_toArray, List.getElem_cons_zero, List.getElem_cons_succ]
          refine wpAnyH_take (i := 5) (v := undef) rfl (by kernel_rfl) (by kernel_rfl) (by kernel_rfl) (fun _ _ _ h => h) (Or.inr ⟨by kernel_rfl, rfl⟩) (by assumption) ?_
          simp only [Act.put, List.setIfInBounds_toArray, List.set_cons_zero, List.set_cons_succ, List.getElem_toArray, List.getElem_cons_zero, List.getElem_cons_succ]
          refine wpAnyH_take (i := 6) (v := undef) rfl (by kernel_rfl) (by kernel_rfl) (by kernel_rfl) (fun _ _ _ h => h) (Or.inr ⟨by kernel_rfl, rfl⟩) (by assumption) ?_
          simp only [Act.put, List.setIfInBounds_toArray, List.set_cons_zero, List.set_cons_succ, List.getElem_toArray, List.getElem_cons_zero, List.getElem_cons_succ]
          refine wpAnyH_take (i := 7) (v := undef) rfl (by kernel_rfl) (by kernel_rfl) (by kernel_rfl) (fun _ _ _ h => h) (Or.inr ⟨by kernel_rfl, rfl⟩) (by assumption) ?_
          simp only [Act.put, List.setIfInBounds_toArray, List.set_cons_zero, List.set_cons_succ, List.getElem_toArray, List.getElem_cons_zero, List.getElem_cons_succ]
          refine wpAnyH_take (i := 8) (v := undef) rfl (by kernel_rfl) (by kernel_rfl) (by kernel_rfl) (fun _ _ _ h => h) (Or.inr ⟨by kernel_rfl, rfl⟩) (by assumption) ?_
          simp only [Act.put, List.setIfInBounds_toArray, List.set_cons_zero, List.set_cons_succ, List.getElem_toArray, List.getElem_cons_zero, List.getElem_cons_succ]
          refine wpAnyH_take (i := 9) (v := undef) rfl (by kernel_rfl) (by kernel_rfl) (by kernel_rfl) (fun _ _ _ h => h) (Or.inr ⟨by kernel_rfl, rfl⟩) (by assumption) ?_
          simp only [Act.put, List.setIfInBounds_toArray, List.set_cons_zero, List.set_cons_succ, List.getElem_toArray, List.getElem_cons_zero, List.getElem_cons_succ]
          refine wpAnyH_take (i := 10) (v := undef) rfl (by kernel_rfl) (by kernel_rfl) (by kernel_rfl) (fun _ _ _ h => h) (Or.inr ⟨by kernel_rfl, rfl⟩) (by assumption) ?_
          simp only [Act.put, List.setIfInBounds_toArray, List.set_cons_zero, List.set_cons_succ, List.getElem_toArray, List.getElem_cons_zero, List.getElem_cons_succ]
          refine wpAnyH_take (i := 11) (v := undef) rfl (by kernel_rfl) (by kernel_rfl) (by kernel_rfl) (fun _ _ _ h => h) (Or.inr ⟨by kernel_rfl, rfl⟩) (by assumption) ?_
          simp only [Act.put, List.setIfInBounds_toArray, List.set_cons_zero, List.set_cons_succ, List.getElem_toArray, List.getElem_cons_zero, List.getElem_cons_succ]
          refine wpAnyH_take (i := 12) (v := undef) rfl (by kernel_rfl) (by kernel_rfl) (by kernel_rfl) (fun _ _ _ h => h) (Or.inr ⟨by kernel_rfl, rfl⟩) (by assumption) ?_
          simp only [Act.put, List.setIfInBounds_toArray, List.set_cons_zero, List.set_cons_succ, List.getElem_toArray, List.getElem_cons_zero, List.getElem_cons_succ]
          refine wpAnyH_take (i := 13) (v := undef) rfl (by kernel_rfl) (by kernel_rfl) (by kernel_rfl) (fun _ _ _ h => h) (Or.inr ⟨by kernel_rfl, rfl⟩) (by assumption) ?_
          simp only [Act.put, List.setIfInBounds_toArray, List.set_cons_zero, List.set_cons_succ, List.getElem_toArray, List.getElem_cons_zero, List.getElem_cons_succ]
          refine wpAnyH_take (i := 14) (v := undef) rfl (by kernel_rfl) (by kernel_rfl) (by kernel_rfl) (fun _ _ _ h => h) (Or.inr ⟨by kernel_rfl, rfl⟩) (by assumption) ?_
          simp only [Act.put, List.setIfInBounds_toArray, List.set_cons_zero, List.set_cons_succ, List.getElem_toArray, List.getElem_cons_zero, List.getElem_cons_succ]
          refine wpAnyH_take (i := 15) (v := undef) rfl (by kernel_rfl) (by kernel_rfl) (by kernel_rfl) (fun _ _ _ h => h) (Or.inr ⟨by kernel_rfl, rfl⟩) (by assumption) ?_
          simp only [Act.put, List.setIfInBounds_toArray, List.set_cons_zero, List.set_cons_succ, List.getElem_toArray, List.getElem_cons_zero, List.getElem_cons_succ]
          refine wpAnyH_take (i := 16) (v := undef) rfl (by kernel_rfl) (by kernel_rfl) (by kernel_rfl) (fun _ _ _ h => h) (Or.inr ⟨by kernel_rfl, rfl⟩) (by assumption) ?_
          simp only [Act.put, List.setIfInBounds_toArray, List.set_cons_zero, List.set_cons_succ, List.getElem_toArray, List.getElem_cons_zero, List.getElem_cons_succ]
          refine wpAnyH_take (i := 17) (v := undef) rfl (by kernel_rfl) (by kernel_rfl) (by kernel_rfl) (fun _ _ _ h => h) (Or.inr ⟨by kernel_rfl, rfl⟩) (by assumption) ?_
          simp only [Act.put, List.setIfInBounds_toArray, List.set_cons_zero, List.set_cons_succ, List.getElem_toArray, List.getElem_cons_zero, List.getElem_cons_succ]
          refine wpAnyH_take (i := 18) (v := undef) rfl (by kernel_rfl) (by kernel_rfl) (by kernel_rfl) (fun _ _ _ h => h) (Or.inr ⟨by kernel_rfl, rfl⟩) (by assumption) ?_
          simp only [Act.put, List.setIfInBounds_toArray, List.set_cons_zero, List.set_cons_succ, List.getElem_toArray, List.getElem_cons_zero, List.getElem_cons_succ]
          refine wpAnyH_take (i := 19) (v := undef) rfl (by kernel_rfl) (by kernel_rfl) (by kernel_rfl) (fun _ _ _ h => h) (Or.inr ⟨by kernel_rfl, rfl⟩) (by assumption) ?_
          simp only [Act.put, List.setIfInBounds_toArray, List.set_cons_zero, List.set_cons_succ, List.getElem_toArray, List.getElem_cons_zero, List.getElem_cons_succ]
          refine wpAnyH_take (i := 20) (v := undef) rfl (by kernel_rfl) (by kernel_rfl) (by kernel_rfl) (fun _ _ _ h => h) (Or.inr ⟨by kernel_rfl, rfl⟩) (by assumption) ?_
          simp only [Act.put, List.setIfInBounds_toArray, List.set_cons_zero, List.set_cons_succ, List.getElem_toArray, List.getElem_cons_zero, List.getElem_cons_succ]
          refine wpAnyH_take (i := 21) (v := ?va21) rfl (by kernel_rfl) (by kernel_rfl) (by kernel_rfl) (fun _ _ _ h => h) (Or.inl ⟨by rfl, ?ha21⟩) (by assumption) ?_
          case ha21 => (intro w hSw; (try dsimp only at hSw); go_simp; (try with_reducible rfl))
          simp only [Act.put, List.setIfInBounds_toArray, List.set_cons_zero, List.set_cons_succ, List.getElem_toArray, List.getElem_cons_zero, List.getElem_cons_succ]
          refine wpAnyH_done (by kernel_rfl) ?_ _
          go_wp2
          go_roundw
          case rel => exact ⟨k + 1, p' + 1, g, capv, us, by omega, by go_num, rfl, by omega, by omega, O7.out, S7.out⟩
          case measure => (simp [intOf] <;> omega)
        · clear PK
          refine wp_region_held_drew (S := fun w' => w'.cell? ⟨A, 0, none⟩ = some (.int .i64 K) ∧ w'.cell? ⟨A, 1, none⟩ = some (.slice (some ⟨b2, off2, none⟩) ts.length cap') ∧ w'.cell? ⟨b2, off2 + k * 2, none⟩ = some (.int .i64 x) ∧ w'.cell? ⟨b2, off2 + k * 2 + 1, none⟩ = some (.int .i64 y)) (by kernel_rfl) ⟨n0, n1, e0, e1⟩ (fun hHeld => ?_)
          refine wpAnyH_take (i := 0) (v := ?vb0) rfl (by kernel_rfl) (by kernel_rfl) (by kernel_rfl) (fun _ _ _ h => h) (Or.inl ⟨by rfl, ?hb0⟩) (by assumption) ?_
          case hb0 => (intro w hSw; (try dsimp only at hSw); go_simp; (try with_reducible rfl))
          simp only [Act.put, List.setIfInBounds_toArray, List.set_cons_zero, List.set_cons_succ, List.getElem_toArray, List.getElem_cons_zero]
          refine wpAnyH_ready (rs := [1]) (by kernel_rfl) (by simp) ?_
          apply AllReadyH.cons
          case ho => rfl
          case hs => exact AllReadyH.nil
          case h =>
          intro K' hK
          go_simp
          go_at_call 26
          refine (PF1.out _ S6d.out.rd (fun _ _ => rfl)).mono ?_
          rintro e w7 ⟨rfl, rd7, tr7⟩
          have S7 := hideP (S6d.out.turn tr7 rd7)
          have O7 : Hid (w7.ownsRow S 37 2 (.slice (some ⟨g, 0, none⟩) us.length capv) us.length (tlist us)) := own_same O6d.out (fun g hg hgl => tr7.block g hgl (Or.inr (by omega)))
          have SM7 : Hid (∀ k, k < R → w7.heap[k]? = wr.heap[k]?) := hideP (fun k hk => tr7.block k (Nat.lt_trans hk HRl.out) (Or.inl hk))
          have EE7 : Hid (w7.cell? ⟨b2, off2 + k * 2, none⟩ = some (.int .i64 x) ∧ w7.cell? ⟨b2, off2 + k * 2 + 1, none⟩ = some (.int .i64 y)) := hideP ⟨(tr7.cell (p := ⟨b2, off2 + k * 2, none⟩) hbl2 (Or.inr hb2R)).trans e0, (tr7.cell (p := ⟨b2, off2 + k * 2 + 1, none⟩) hbl2 (Or.inr hb2R)).trans e1⟩
          have hl7 := tr7.size
          clear rd7 tr7
          refine hK.out _ _ ⟨S7.out.n0, S7.out.n1, EE7.out.1, EE7.out.2⟩ (fun hHeld7 => ?_)
          clear hK K' hHeld
          try simp only [Act.put, List.setIfInBounds_toArray, List.set_cons_zero, List.set_cons_succ, List.getElem_toArray, List.getElem_cons_zero, List.getElem_cons_succ]
          refine wpAnyH_take (i := 2) (v := ?vb2) rfl (by kernel_rfl) (by kernel_rfl) (by kernel_rfl) (fun _ _ _ h => h) (Or.inl ⟨by rfl, ?hb2⟩) (by assumption) ?_
          case hb2 => (intro w hSw; (try dsimp only at hSw); go_simp; (try with_reducible rfl))
          simp only [Act.put, List.setIfInBounds_toArray, List.set_cons_zero, List.set_cons_succ, List.getElem_toArray, List.getElem_cons_zero, List.getElem_cons_succ]
          refine wpAnyH_take (i := 3) (v := ?vb3) rfl (by kernel_rfl) (by kernel_rfl) (by kernel_rfl) (fun _ _ _ h => h) (Or.inl ⟨by rfl, ?hb3⟩) (by assumption) ?_
          case hb3 => (intro w hSw; (try dsimp only at hSw); go_simp; (try with_reducible rfl))
          simp only [Act.put, List.setIfInBounds_toArray, List.set_cons_zero, List.set_cons_succ, List.getElem_toArray, List.getElem_cons_zero, List.getElem_cons_succ]
          refine wpAnyH_take (i := 4) (v := ?vb4) rfl (by kernel_rfl) (by kernel_rfl) (by kernel_rfl) (fun _ _ _ h => h) (Or.inl ⟨by rfl, ?hb4⟩) (by assumption) ?_
          case hb4 => (intro w hSw; (try dsimp only at hSw); go_simp; (try with_reducible rfl))
          simp only [Act.put, List.setIfInBounds_toArray, List.set_cons_zero, List.set_cons_succ, List.getElem_toArray, List.getElem_cons_zero, List.getElem_cons_succ]
          refine wpAnyH_ready (rs := [5]) (by kernel_rfl) (by simp) ?_
          apply AllReadyH.cons
          case ho => rfl
          case hs => exact AllReadyH.nil
          case h =>
          intro K' hK
          go_simp
          go_at_call 26
          refine (PF2.out _ S7.out.rd SM7.out).mono ?_
          rintro e w8 ⟨rfl, rd8, tr8⟩
          have S8 := hideP (S7.out.turn tr8 rd8)
          have O8 : Hid (w8.ownsRow S 37 2 (.slice (some ⟨g, 0, none⟩) us.length capv) us.length (tlist us)) := own_same O7.out (fun g hg hgl => tr8.block g hgl (Or.inr (by omega)))
          have EE8 : Hid (w8.cell? ⟨b2, off2 + k * 2, none⟩ = some (.int .i64 x) ∧ w8.cell? ⟨b2, off2 + k * 2 + 1, none⟩ = some (.int .i64 y)) := hideP ⟨(tr8.cell (p := ⟨b2, off2 + k * 2, none⟩) (Nat.lt_of_lt_of_le hbl2 hl7) (Or.inr hb2R)).trans EE7.out.1, (tr8.cell (p := ⟨b2, off2 + k * 2 + 1, none⟩) (Nat.lt_of_lt_of_le hbl2 hl7) (Or.inr hb2R)).trans EE7.out.2⟩
          have hl8 := Nat.le_trans hl7 tr8.size
          clear rd8 tr8
          refine hK.out _ _ ⟨S8.out.n0, S8.out.n1, EE8.out.1, EE8.out.2⟩ (fun hHeld8 => ?_)
          clear hK K' hHeld7
          try simp only [Act.put, List.setIfInBounds_toArray, List.set_cons_zero, List.set_cons_succ, List.getElem_toArray, List.getElem_cons_zero, List.getElem_cons_succ]
          refine wpAnyH_take (i := 6) (v := ?vb6) rfl (by kernel_rfl) (by kernel_rfl) (by kernel_rfl) (fun _ _ _ h => h) (Or.inl ⟨by rfl, ?hb6⟩) (by assumption) ?_
          case hb6 => (intro w hSw; (try dsimp only at hSw); go_simp; (try with_reducible rfl))
          simp only [Act.put, List.setIfInBounds_toArray, List.set_cons_zero, List.set_cons_succ, List.getElem_toArray, List.getElem_cons_zero, List.getElem_cons_succ]
          refine wpAnyH_take (i := 7) (v := ?vb7) rfl (by kernel_rfl) (by kernel_rfl) (by kernel_rfl) (fun _ _ _ h => h) (Or.inl ⟨by rfl, ?hb7⟩) (by assumption) ?_
          case hb7 => (intro w hSw; (try dsimp only at hSw); go_simp; (try with_reducible rfl))
          simp only [Act.put, List.setIfInBounds_toArray, List.set_cons_zero, List.set_cons_succ, List.getElem_toArray, List.getElem_cons_zero, List.getElem_cons_succ]
          refine wpAnyH_take (i := 8) (v := undef) rfl (by kernel_rfl) (by kernel_rfl) (by kernel_rfl) (fun _ _ _ h => h) (Or.inr ⟨by kernel_rfl, rfl⟩) (by assumption) ?_
          simp only [Act.put, List.setIfInBounds_toArray, List.set_cons_zero, List.set_cons_succ, List.getElem_toArray, List.getElem_cons_zero, List.getElem_cons_succ]
          refine wpAnyH_take (i := 9) (v := undef) rfl (by kernel_rfl) (by kernel_rfl) (by kernel_rfl) (fun _ _ _ h => h) (Or.inr ⟨by kernel_rfl, rfl⟩) (by assumption) ?_
          simp only [Act.put, List.setIfInBounds_toArray, List.set_cons_zero, List.set_cons_succ, List.getElem_toArray, List.getElem_cons_zero, List.getElem_cons_succ]
          refine wpAnyH_take (i := 10) (v := undef) rfl (by kernel_rfl) (by kernel_rfl) (by kernel_rfl) (fun _ _ _ h => h) (Or.inr ⟨by kernel_rfl, rfl⟩) (by assumption) ?_
          simp only [Act.put, List.setIfInBounds_toArray, List.set_cons_zero, List.set_cons_succ, List.getElem_toArray, List.getElem_cons_zero, List.getElem_cons_succ]
          refine wpAnyH_take (i := 11) (v := undef) rfl (by kernel_rfl) (by kernel_rfl) (by kernel_rfl) (fun _ _ _ h => h) (Or.inr ⟨by kernel_rfl, rfl⟩) (by assumption) ?_
          simp only [Act.put, List.setIfInBounds_toArray, List.set_cons_zero, List.set_cons_succ, List.getElem_toArray, List.getElem_cons_zero, List.getElem_cons_succ]
          refine wpAnyH_take (i := 12) (v := undef) rfl (by kernel_rfl) (by kernel_rfl) (by kernel_rfl) (fun _ _ _ h => h) (Or.inr ⟨by kernel_rfl, rfl⟩) (by assumption) ?_
          simp only [Act.put, List.setIfInBounds_toArray, List.set_cons_zero, List.set_cons_succ, List.getElem_toArray, List.getElem_cons_zero, List.getElem_cons_succ]
          refine wpAnyH_take (i := 13) (v := undef) rfl (by kernel_rfl) (by kernel_rfl) (by kernel_rfl) (fun _ _ _ h => h) (Or.inr ⟨by kernel_rfl, rfl⟩) (by assumption) ?_
          simp only [Act.put, List.setIfInBounds_toArray, List.set_cons_zero, List.set_cons_succ, List.getElem_toArray, List.getElem_cons_zero, List.getElem_cons_succ]
          refine wpAnyH_take (i := 14) (v := undef) rfl (by kernel_rfl) (by kernel_rfl) (by kernel_rfl) (fun _ _ _ h => h) (Or.inr ⟨by kernel_rfl, rfl⟩) (by assumption) ?_
          simp only [Act.put, List.setIfInBounds_toArray, List.set_cons_zero, List.set_cons_succ, List.getElem_toArray, List.getElem_cons_zero, List.getElem_cons_succ]
          refine wpAnyH_take (i := 15) (v := undef) rfl (by kernel_rfl) (by kernel_rfl) (by kernel_rfl) (fun _ _ _ h => h) (Or.inr ⟨by kernel_rfl, rfl⟩) (by assumption) ?_
          simp only [Act.put, List.setIfInBounds_toArray, List.set_cons_zero, List.set_cons_succ, List.getElem_toArray, List.getElem_cons_zero, List.getElem_cons_succ]
          refine wpAnyH_take (i := 16) (v := undef) rfl (by kernel_rfl) (by kernel_rfl) (by kernel_rfl) (fun _ _ _ h => h) (Or.inr ⟨by kernel_rfl, rfl⟩) (by assumption) ?_
          simp only [Act.put, List.setIfInBounds_toArray, List.set_cons_zero, List.set_cons_succ, List.getElem_toArray, List.getElem_cons_zero, List.getElem_cons_succ]
          refine wpAnyH_take (i := 17) (v := undef) rfl (by kernel_rfl) (by kernel_rfl) (by kernel_rfl) (fun _ _ _ h => h) (Or.inr ⟨by kernel_rfl, rfl⟩) (by assumption) ?_
          simp only [Act.put, List.setIfInBounds_toArray, List.set_cons_zero, List.set_cons_succ, List.getElem_toArray, List.getElem_cons_zero, List.getElem_cons_succ]
          refine wpAnyH_take (i := 18) (v := undef) rfl (by kernel_rfl) (by kernel_rfl) (by kernel_rfl) (fun _ _ _ h => h) (Or.inr ⟨by kernel_rfl, rfl⟩) (by assumption) ?_
          simp only [Act.put, List.setIfInBounds_toArray, List.set_cons_zero, List.set_cons_succ, List.getElem_toArray, List.getElem_cons_zero, List.getElem_cons_succ]
          refine wpAnyH_take (i := 19) (v := undef) rfl (by kernel_rfl) (by kernel_rfl) (by kernel_rfl) (fun _ _ _ h => h) (Or.inr ⟨by kernel_rfl, rfl⟩) (by assumption) ?_
          simp only [Act.put, List.setIfInBounds_toArray, List.set_cons_zero, List.set_cons_succ, List.getElem_toArray, List.getElem_cons_zero, List.getElem_cons_succ]
          refine wpAnyH_take (i := 20) (v := ?vb20) rfl (by kernel_rfl) (by kernel_rfl) (by kernel_rfl) (fun _ _ _ h => h) (Or.inl ⟨by rfl, ?hb20⟩) (by assumption) ?_
          case hb20 => (intro w hSw; (try dsimp only at hSw); go_simp; (try with_reducible rfl))
          simp only [Act.put, List.setIfInBounds_toArray, List.set_cons_zero, List.set_cons_succ, List.getElem_toArray, List.getElem_cons_zero, List.getElem_cons_succ]
          refine wpAnyH_take (i := 21) (v := ?vb21) rfl (by kernel_rfl) (by kernel_rfl) (by kernel_rfl) (fun _ _ _ h => h) (Or.inl ⟨by rfl, ?hb21⟩) (by assumption) ?_
          case hb21 => (intro w hSw; (try dsimp only at hSw); go_simp; (try with_reducible rfl))
          simp only [Act.put, List.setIfInBounds_toArray, List.set_cons_zero, List.set_cons_succ, List.getElem_toArray, List.getElem_cons_zero, List.getElem_cons_succ]
          refine wpAnyH_done (by kernel_rfl) ?_ _
          have hSw := S8.out.lt
          have hSg := own_lt8 O8.out
          have m0 := S8.out.n0
          have m1 := S8.out.n1
          have t0 := EE8.out.1
          have t1 := EE8.out.2
          go_wp2_with (at_builtin; refine wpList_append_own _ rfl _ _ 23 rfl S 37 i1 (.agg #[.int .i64 0, .int .i64 0]) 2 16 Try.underlying23 HI.out.1 HI.out.2.1 HI.out.2.2.1 HI.out.2.2.2 rfl (by decide) _ us.length (tlist us) rfl (O8.out.alloc _) ⟨_, 0, none⟩ 1 1 [.int .i64 x, .int .i64 y] rfl rfl (World.news_of_block (cs := #[.int .i64 x, .int .i64 y]) (t := 37) (fr := (0, 0)) (heap_alloc_new w8 _)) (by simp [Value.oneCell']) (by unfold maxLen; omega) (by omega) (by simp; omega) ?_)
          intro v9 wb hown1 hgrow _
          obtain ⟨gN, cN, rfl, _, _⟩ := hown1.form (Nat.succ_pos _)
          have hl9 : (us ++ [(x, y)]).length = us.length + 1 := by simp
          have S9 := hideP (S8.out.grown (below_one _ _) hgrow (fun k e => by have := own_ge O8.out k e; omega))
          have O9 : Hid (wb.ownsRow S 37 2 (.slice (some ⟨gN, 0, none⟩) (us ++ [(x, y)]).length cN) (us ++ [(x, y)]).length (tlist (us ++ [(x, y)]))) := hideP (by rw [hl9, tlist_app]; exact hown1)
          clear hown1 hgrow
          go_wp2
          go_roundw
          case rel => exact ⟨k + 1, p' + 2, gN, cN, us ++ [(x, y)], by omega, by go_num, by rw [hl9], by rw [hl9]; omega, by omega, O9.out, S9.out⟩
          case measure => (simp [intOf] <;> omega)
        · have hq2b : (q2 == 0) = false := by simp [hq2]
          cases fv with
          | false =>
            go_region_held3 (fun w' => w'.cell? ⟨A, 0, none⟩ = some (.int .i64 K) ∧ w'.cell? ⟨A, 1, none⟩ = some (.slice (some ⟨b2, off2, none⟩) ts.length cap') ∧ w'.cell? ⟨b2, off2 + k * 2, none⟩ = some (.int .i64 x) ∧ w'.cell? ⟨b2, off2 + k * 2 + 1, none⟩ = some (.int .i64 y)) (first | exact HELD.out _ bF.out | exact HELD.out _ bB.out | exact HELD.out _ bA.out | exact HELD.out _ (bA.out.alloc bA.out.size _) | exact HELD.out _ RT.out.bCT | exact HELD.out _ RT.out.bTC | exact HELD.out _ RT.out.bC | exact HELD.out _ RT.out.bT | exact HELD.out _ (Below.refl _ _) | exact ⟨S7.out.n0, S7.out.n1, EE7.out.1, EE7.out.2⟩ | exact ⟨n0, n1, e0, e1⟩) (first | (go_at_call 26; refine (PF2.out _ S7.out.rd SM7.out).mono ?_; rintro e w8 ⟨rfl, rd8, tr8⟩; have S8 := hideP (S7.out.turn tr8 rd8); have O8 : Hid (w8.ownsRow S 37 2 (.slice (some ⟨g, 0, none⟩) us.length capv) us.length (tlist us)) := own_same O7.out (fun g hg hgl => tr8.block g hgl (Or.inr (by omega))); have EE8 : Hid (w8.cell? ⟨b2, off2 + k * 2, none⟩ = some (.int .i64 x) ∧ w8.cell? ⟨b2, off2 + k * 2 + 1, none⟩ = some (.int .i64 y)) := hideP ⟨(tr8.cell (p := ⟨b2, off2 + k * 2, none⟩) (Nat.lt_of_lt_of_le hbl2 hl7) (Or.inr hb2R)).trans EE7.out.1, (tr8.cell (p := ⟨b2, off2 + k * 2 + 1, none⟩) (Nat.lt_of_lt_of_le hbl2 hl7) (Or.inr hb2R)).trans EE7.out.2⟩; have hl8 := Nat.le_trans hl7 tr8.size; clear rd8 tr8; have RT := hideP (RoomsT.of w8 x y); have HELD : Hid (∀ W, Below w8.heap.size w8 W → W.cell? ⟨A, 0, none⟩ = some (.int .i64 K) ∧ W.cell? ⟨A, 1, none⟩ = some (.slice (some ⟨b2, off2, none⟩) ts.length cap') ∧ W.cell? ⟨b2, off2 + k * 2, none⟩ = some (.int .i64 x) ∧ W.cell? ⟨b2, off2 + k * 2 + 1, none⟩ = some (.int .i64 y)) := hideP (fun W hb => ⟨(S8.out.next hb).n0, (S8.out.next hb).n1, (hb.cell (p := ⟨b2, off2 + k * 2, none⟩) (Nat.lt_of_lt_of_le hbl2 hl8)).trans EE8.out.1, (hb.cell (p := ⟨b2, off2 + k * 2 + 1, none⟩) (Nat.lt_of_lt_of_le hbl2 hl8)).trans EE8.out.2⟩)) | (go_at_call 26; refine (PF1.out _ S6d.out.rd (fun _ _ => rfl)).mono ?_; rintro e w7 ⟨rfl, rd7, tr7⟩; have S7 := hideP (S6d.out.turn tr7 rd7); have O7 : Hid (w7.ownsRow S 37 2 (.slice (some ⟨g, 0, none⟩) us.length capv) us.length (tlist us)) := own_same O6d.out (fun g hg hgl => tr7.block g hgl (Or.inr (by omega))); have SM7 : Hid (∀ k, k < R → w7.heap[k]? = wr.heap[k]?) := hideP (fun k hk => tr7.block k (Nat.lt_trans hk HRl.out) (Or.inl hk)); have EE7 : Hid (w7.cell? ⟨b2, off2 + k * 2, none⟩ = some (.int .i64 x) ∧ w7.cell? ⟨b2, off2 + k * 2 + 1, none⟩ = some (.int .i64 y)) := hideP ⟨(tr7.cell (p := ⟨b2, off2 + k * 2, none⟩) hbl2 (Or.inr hb2R)).trans e0, (tr7.cell (p := ⟨b2, off2 + k * 2 + 1, none⟩) hbl2 (Or.inr hb2R)).trans e1⟩; have hl7 := tr7.size; clear rd7 tr7) | (go_at_call 13; (with_reducible refine (PK.out _ gB cB (S8.out.next bB.out).tN.in ⟨_, OB.out⟩).mono ?_); rintro e wF ⟨rfl, hbF⟩; have bF : Hid (Below w8.heap.size w8 wF) := hideP (bB.out.trans (hbF.mono bB.out.size)); clear hbF; go_simp) | (refine step_appn (by rfl) _ _ _ (by rfl) w8.heap.size 37 i1 (.agg #[.int .i64 0, .int .i64 0]) 2 16 Try.underlying23 HI.out.1 HI.out.2.1 HI.out.2.2.1 HI.out.2.2.2 rfl (by decide) (.slice (some ⟨gA, 0, none⟩) us.length cA) us.length (tlist [] ++ tlist us) (by rfl) (by simp) (by first | exact OA.out | exact OA.out.alloc _) (us.length + 1) ⟨_, 0, none⟩ 1 1 rfl [.int .i64 x, .int .i64 y] (by rfl) rfl (by first | exact World.news_of_block (cs := #[.int .i64 x, .int .i64 y]) (t := 37) (fr := (0, 0)) TK.out | exact World.news_of_block (cs := #[.int .i64 x, .int .i64 y]) (t := 37) (fr := (0, 0)) (heap_alloc_new wA _)) (by simp [Value.oneCell']) (by unfold maxLen; omega) (by omega) (by first | exact bA.out.size | exact (bA.out.alloc bA.out.size _).size) ?_; intro gB cB wB hownB hgrowB _; have OB : Hid (wB.ownsRow w8.heap.size 37 2 (.slice (some ⟨gB, 0, none⟩) (us.length + 1) cB) (us.length + 1) (tlist (us ++ [(x, y)]))) := hideP (by rw [tlist_app]; exact hownB); have bB : Hid (Below w8.heap.size w8 wB) := (by first | exact hideP (bA.out.grown hgrowB bA.out.size (own_ge OA.out)) | exact hideP ((bA.out.alloc bA.out.size _).grown hgrowB (bA.out.alloc bA.out.size _).size (own_ge OA.out))); clear hownB hgrowB) | (refine step_appn (by rfl) _ _ _ (by rfl) w8.heap.size 37 i1 (.agg #[.int .i64 0, .int .i64 0]) 2 16 Try.underlying23 HI.out.1 HI.out.2.1 HI.out.2.2.1 HI.out.2.2.2 rfl (by decide) (.slice (some ⟨w8.heap.size, 0, none⟩) 0 0) 0 (tlist []) (by rfl) (by simp) (by first | exact RT.out.i1 | exact RT.out.i2) us.length ⟨g, 0, none⟩ us.length capv (Nat.zero_add _) (tlist us) (by rfl) (tlist_len us) (by first | exact tlist_cells (own_nxt O8.out RT.out.bC) | exact tlist_cells (own_nxt O8.out RT.out.bCT) | exact tlist_cells (own_nxt O8.out RT.out.bTC)) (tlist_one us) (by unfold maxLen; omega) (by omega) (by first | exact RT.out.bC.size | exact RT.out.bCT.size | exact RT.out.bTC.size) ?_; intro gA cA wA hownA hgrowA _; have OA := hideP hownA; have bA : Hid (Below w8.heap.size w8 wA) := (by first | exact hideP (RT.out.bCT.grown hgrowA RT.out.bCT.size (by intro z e; simp [Value.ownBlock] at e; omega)) | exact hideP (RT.out.bTC.grown hgrowA RT.out.bTC.size (by intro z e; simp [Value.ownBlock] at e; omega)) | exact hideP (RT.out.bC.grown hgrowA RT.out.bC.size (by intro z e; simp [Value.ownBlock] at e; omega))); (first | (have TK : Hid (wA.heap[w8.heap.size + 1]? = some (.cells #[.int .i64 x, .int .i64 y] 37 (0, 0))) := hideP (tempT_behind hgrowA)) | (have TK : Hid (wA.heap[w8.heap.size]? = some (.cells #[.int .i64 x, .int .i64 y] 37 (0, 0))) := hideP (tempT_ahead hgrowA)) | (have TK : Hid True := trivial)); clear hownA hgrowA) | (refine step_appn (by rfl) _ _ _ (by rfl) w8.heap.size 37 i1 (.agg #[.int .i64 0, .int .i64 0]) 2 16 Try.underlying23 HI.out.1 HI.out.2.1 HI.out.2.2.1 HI.out.2.2.2 rfl (by decide) (.slice (some ⟨w8.heap.size + 1, 0, none⟩) 0 0) 0 (tlist []) (by rfl) (by simp) RT.out.i3 us.length ⟨g, 0, none⟩ us.length capv (Nat.zero_add _) (tlist us) (by rfl) (tlist_len us) (by first | exact tlist_cells (own_nxt O8.out RT.out.bC) | exact tlist_cells (own_nxt O8.out RT.out.bCT) | exact tlist_cells (own_nxt O8.out RT.out.bTC)) (tlist_one us) (by unfold maxLen; omega) (by omega) (by first | exact RT.out.bC.size | exact RT.out.bCT.size | exact RT.out.bTC.size) ?_; intro gA cA wA hownA hgrowA _; have OA := hideP hownA; have bA : Hid (Below w8.heap.size w8 wA) := (by first | exact hideP (RT.out.bCT.grown hgrowA RT.out.bCT.size (by intro z e; simp [Value.ownBlock] at e; omega)) | exact hideP (RT.out.bTC.grown hgrowA RT.out.bTC.size (by intro z e; simp [Value.ownBlock] at e; omega)) | exact hideP (RT.out.bC.grown hgrowA RT.out.bC.size (by intro z e; simp [Value.ownBlock] at e; omega))); (first | (have TK : Hid (wA.heap[w8.heap.size + 1]? = some (.cells #[.int .i64 x, .int .i64 y] 37 (0, 0))) := hideP (tempT_behind hgrowA)) | (have TK : Hid (wA.heap[w8.heap.size]? = some (.cells #[.int .i64 x, .int .i64 y] 37 (0, 0))) := hideP (tempT_ahead hgrowA)) | (have TK : Hid True := trivial)); clear hownA hgrowA))
            all_goals
              have S9 := hideP (S8.out.next bF.out)
              have O9 := hideP (own_nxt O8.out bF.out)
              clear S7 S8 O7 O8 RT HELD OA bA TK OB bB bF EE7 EE8 SM7
              go_wp2
              go_roundw
              case rel => exact ⟨k + 1, p' + 2, g, capv, us, by omega, by go_num, rfl, by omega, by omega, O9.out, S9.out⟩
              case measure => (simp [intOf] <;> omega)
          | true =>
            go_region_held3 (fun w' => w'.cell? ⟨A, 0, none⟩ = some (.int .i64 K) ∧ w'.cell? ⟨A, 1, none⟩ = some (.slice (some ⟨b2, off2, none⟩) ts.length cap') ∧ w'.cell? ⟨b2, off2 + k * 2, none⟩ = some (.int .i64 x) ∧ w'.cell? ⟨b2, off2 + k * 2 + 1, none⟩ = some (.int .i64 y)) (first | exact HELD.out _ bF.out | exact HELD.out _ bB.out | exact HELD.out _ bA.out | exact HELD.out _ (bA.out.alloc bA.out.size _) | exact HELD.out _ RT.out.bCT | exact HELD.out _ RT.out.bTC | exact HELD.out _ RT.out.bC | exact HELD.out _ RT.out.bT | exact HELD.out _ (Below.refl _ _) | exact ⟨S7.out.n0, S7.out.n1, EE7.out.1, EE7.out.2⟩ | exact ⟨n0, n1, e0, e1⟩) (first | (go_at_call 26; refine (PF2.out _ S7.out.rd SM7.out).mono ?_; rintro e w8 ⟨rfl, rd8, tr8⟩; have S8 := hideP (S7.out.turn tr8 rd8); have O8 : Hid (w8.ownsRow S 37 2 (.slice (some ⟨g, 0, none⟩) us.length capv) us.length (tlist us)) := own_same O7.out (fun g hg hgl => tr8.block g hgl (Or.inr (by omega))); have EE8 : Hid (w8.cell? ⟨b2, off2 + k * 2, none⟩ = some (.int .i64 x) ∧ w8.cell? ⟨b2, off2 + k * 2 + 1, none⟩ = some (.int .i64 y)) := hideP ⟨(tr8.cell (p := ⟨b2, off2 + k * 2, none⟩) (Nat.lt_of_lt_of_le hbl2 hl7) (Or.inr hb2R)).trans EE7.out.1, (tr8.cell (p := ⟨b2, off2 + k * 2 + 1, none⟩) (Nat.lt_of_lt_of_le hbl2 hl7) (Or.inr hb2R)).trans EE7.out.2⟩; have hl8 := Nat.le_trans hl7 tr8.size; clear rd8 tr8; have RT := hideP (RoomsT.of w8 x y); have HELD : Hid (∀ W, Below w8.heap.size w8 W → W.cell? ⟨A, 0, none⟩ = some (.int .i64 K) ∧ W.cell? ⟨A, 1, none⟩ = some (.slice (some ⟨b2, off2, none⟩) ts.length cap') ∧ W.cell? ⟨b2, off2 + k * 2, none⟩ = some (.int .i64 x) ∧ W.cell? ⟨b2, off2 + k * 2 + 1, none⟩ = some (.int .i64 y)) := hideP (fun W hb => ⟨(S8.out.next hb).n0, (S8.out.next hb).n1, (hb.cell (p := ⟨b2, off2 + k * 2, none⟩) (Nat.lt_of_lt_of_le hbl2 hl8)).trans EE8.out.1, (hb.cell (p := ⟨b2, off2 + k * 2 + 1, none⟩) (Nat.lt_of_lt_of_le hbl2 hl8)).trans EE8.out.2⟩)) | (go_at_call 26; refine (PF1.out _ S6d.out.rd (fun _ _ => rfl)).mono ?_; rintro e w7 ⟨rfl, rd7, tr7⟩; have S7 := hideP (S6d.out.turn tr7 rd7); have O7 : Hid (w7.ownsRow S 37 2 (.slice (some ⟨g, 0, none⟩) us.length capv) us.length (tlist us)) := own_same O6d.out (fun g hg hgl => tr7.block g hgl (Or.inr (by omega))); have SM7 : Hid (∀ k, k < R → w7.heap[k]? = wr.heap[k]?) := hideP (fun k hk => tr7.block k (Nat.lt_trans hk HRl.out) (Or.inl hk)); have EE7 : Hid (w7.cell? ⟨b2, off2 + k * 2, none⟩ = some (.int .i64 x) ∧ w7.cell? ⟨b2, off2 + k * 2 + 1, none⟩ = some (.int .i64 y)) := hideP ⟨(tr7.cell (p := ⟨b2, off2 + k * 2, none⟩) hbl2 (Or.inr hb2R)).trans e0, (tr7.cell (p := ⟨b2, off2 + k * 2 + 1, none⟩) hbl2 (Or.inr hb2R)).trans e1⟩; have hl7 := tr7.size; clear rd7 tr7) | (go_at_call 13; (with_reducible refine (PK.out _ gB cB (S8.out.next bB.out).tN.in ⟨_, OB.out⟩).mono ?_); rintro e wF ⟨rfl, hbF⟩; have bF : Hid (Below w8.heap.size w8 wF) := hideP (bB.out.trans (hbF.mono bB.out.size)); clear hbF; go_simp) | (refine step_appn (by rfl) _ _ _ (by rfl) w8.heap.size 37 i1 (.agg #[.int .i64 0, .int .i64 0]) 2 16 Try.underlying23 HI.out.1 HI.out.2.1 HI.out.2.2.1 HI.out.2.2.2 rfl (by decide) (.slice (some ⟨gA, 0, none⟩) us.length cA) us.length (tlist [] ++ tlist us) (by rfl) (by simp) (by first | exact OA.out | exact OA.out.alloc _) (us.length + 1) ⟨_, 0, none⟩ 1 1 rfl [.int .i64 x, .int .i64 y] (by rfl) rfl (by first | exact World.news_of_block (cs := #[.int .i64 x, .int .i64 y]) (t := 37) (fr := (0, 0)) TK.out | exact World.news_of_block (cs := #[.int .i64 x, .int .i64 y]) (t := 37) (fr := (0, 0)) (heap_alloc_new wA _)) (by simp [Value.oneCell']) (by unfold maxLen; omega) (by omega) (by first | exact bA.out.size | exact (bA.out.alloc bA.out.size _).size) ?_; intro gB cB wB hownB hgrowB _; have OB : Hid (wB.ownsRow w8.heap.size 37 2 (.slice (some ⟨gB, 0, none⟩) (us.length + 1) cB) (us.length + 1) (tlist (us ++ [(x, y)]))) := hideP (by rw [tlist_app]; exact hownB); have bB : Hid (Below w8.heap.size w8 wB) := (by first | exact hideP (bA.out.grown hgrowB bA.out.size (own_ge OA.out)) | exact hideP ((bA.out.alloc bA.out.size _).grown hgrowB (bA.out.alloc bA.out.size _).size (own_ge OA.out))); clear hownB hgrowB) | (refine step_appn (by rfl) _ _ _ (by rfl) w8.heap.size 37 i1 (.agg #[.int .i64 0, .int .i64 0]) 2 16 Try.underlying23 HI.out.1 HI.out.2.1 HI.out.2.2.1 HI.out.2.2.2 rfl (by decide) (.slice (some ⟨w8.heap.size, 0, none⟩) 0 0) 0 (tlist []) (by rfl) (by simp) (by first | exact RT.out.i1 | exact RT.out.i2) us.length ⟨g, 0, none⟩ us.length capv (Nat.zero_add _) (tlist us) (by rfl) (tlist_len us) (by first | exact tlist_cells (own_nxt O8.out RT.out.bC) | exact tlist_cells (own_nxt O8.out RT.out.bCT) | exact tlist_cells (own_nxt O8.out RT.out.bTC)) (tlist_one us) (by unfold maxLen; omega) (by omega) (by first | exact RT.out.bC.size | exact RT.out.bCT.size | exact RT.out.bTC.size) ?_; intro gA cA wA hownA hgrowA _; have OA := hideP hownA; have bA : Hid (Below w8.heap.size w8 wA) := (by first | exact hideP (RT.out.bCT.grown hgrowA RT.out.bCT.size (by intro z e; simp [Value.ownBlock] at e; omega)) | exact hideP (RT.out.bTC.grown hgrowA RT.out.bTC.size (by intro z e; simp [Value.ownBlock] at e; omega)) | exact hideP (RT.out.bC.grown hgrowA RT.out.bC.size (by intro z e; simp [Value.ownBlock] at e; omega))); (first | (have TK : Hid (wA.heap[w8.heap.size + 1]? = some (.cells #[.int .i64 x, .int .i64 y] 37 (0, 0))) := hideP (tempT_behind hgrowA)) | (have TK : Hid (wA.heap[w8.heap.size]? = some (.cells #[.int .i64 x, .int .i64 y] 37 (0, 0))) := hideP (tempT_ahead hgrowA)) | (have TK : Hid True := trivial)); clear hownA hgrowA) | (refine step_appn (by rfl) _ _ _ (by rfl) w8.heap.size 37 i1 (.agg #[.int .i64 0, .int .i64 0]) 2 16 Try.underlying23 HI.out.1 HI.out.2.1 HI.out.2.2.1 HI.out.2.2.2 rfl (by decide) (.slice (some ⟨w8.heap.size + 1, 0, none⟩) 0 0) 0 (tlist []) (by rfl) (by simp) RT.out.i3 us.length ⟨g, 0, none⟩ us.length capv (Nat.zero_add _) (tlist us) (by rfl) (tlist_len us) (by first | exact tlist_cells (own_nxt O8.out RT.out.bC) | exact tlist_cells (own_nxt O8.out RT.out.bCT) | exact tlist_cells (own_nxt O8.out RT.out.bTC)) (tlist_one us) (by unfold maxLen; omega) (by omega) (by first | exact RT.out.bC.size | exact RT.out.bCT.size | exact RT.out.bTC.size) ?_; intro gA cA wA hownA hgrowA _; have OA := hideP hownA; have bA : Hid (Below w8.heap.size w8 wA) := (by first | exact hideP (RT.out.bCT.grown hgrowA RT.out.bCT.size (by intro z e; simp [Value.ownBlock] at e; omega)) | exact hideP (RT.out.bTC.grown hgrowA RT.out.bTC.size (by intro z e; simp [Value.ownBlock] at e; omega)) | exact hideP (RT.out.bC.grown hgrowA RT.out.bC.size (by intro z e; simp [Value.ownBlock] at e; omega))); (first | (have TK : Hid (wA.heap[w8.heap.size + 1]? = some (.cells #[.int .i64 x, .int .i64 y] 37 (0, 0))) := hideP (tempT_behind hgrowA)) | (have TK : Hid (wA.heap[w8.heap.size]? = some (.cells #[.int .i64 x, .int .i64 y] 37 (0, 0))) := hideP (tempT_ahead hgrowA)) | (have TK : Hid True := trivial)); clear hownA hgrowA))
            all_goals
              have SF := hideP (S8.out.next bF.out)
              have OF := hideP (own_nxt O8.out bF.out)
              have HH := hideP (HELD.out _ bF.out)
              clear S7 S8 O7 O8 RT HELD OA bA TK OB bB bF EE7 EE8 SM7
              have hSg := own_lt8 OF.out
              have m0 := HH.out.1
              have m1 := HH.out.2.1
              have t0 := HH.out.2.2.1
              have t1 := HH.out.2.2.2
              go_wp2_with (at_builtin; refine wpList_append_own _ rfl _ _ 23 rfl S 37 i1 (.agg #[.int .i64 0, .int .i64 0]) 2 16 Try.underlying23 HI.out.1 HI.out.2.1 HI.out.2.2.1 HI.out.2.2.2 rfl (by decide) _ us.length (tlist us) rfl (OF.out.alloc _) ⟨_, 0, none⟩ 1 1 [.int .i64 x, .int .i64 y] rfl rfl (World.news_of_block (cs := #[.int .i64 x, .int .i64 y]) (t := 37) (fr := (0, 0)) (heap_alloc_new wF _)) (by simp [Value.oneCell']) (by unfold maxLen; omega) (by omega) (by simp; omega) ?_)
              intro v9 wb hown1 hgrow _
              obtain ⟨gN, cN, rfl, _, _⟩ := hown1.form (Nat.succ_pos _)
              have hl9 : (us ++ [(x, y)]).length = us.length + 1 := by simp
              have S9 := hideP (SF.out.grown (below_one _ _) hgrow (fun k e => by have := own_ge OF.out k e; omega))
              have O9 : Hid (wb.ownsRow S 37 2 (.slice (some ⟨gN, 0, none⟩) (us ++ [(x, y)]).length cN) (us ++ [(x, y)]).length (tlist (us ++ [(x, y)]))) := hideP (by rw [hl9, tlist_app]; exact hown1)
              clear hown1 hgrow
              go_wp2
              go_roundw
              case rel => exact ⟨k + 1, p' + 2, gN, cN, us ++ [(x, y)], by omega, by go_num, by rw [hl9], by rw [hl9]; omega, by omega, O9.out, S9.out⟩
              case measure => (simp [intOf] <;> omega)
      · obtain rfl : k = ts.length := by omega
        have hlow2 := HS.out.hA
        have hcap := own_room HO.out
        have L8 : Hid (TiesUp wr (R + 1) (some ⟨g, 0, none⟩) us) := hideP (fun i hi => by
          obtain ⟨b, off, e, h1, h2, h3⟩ := own_tl HO.out rfl i hi
          cases e
          exact ⟨g, 0, rfl, by have := own_ge HO.out g rfl; omega, h1, h2, h3⟩)
        have r0 := HS.out.C.c0
        have r1 := HS.out.C.c1
        have g0 := HS.out.C.f0
        have g1 := HS.out.C.f1
        clear HO
        go_wp2
        refine bodyPost_ret (v := .tuple #[.agg #[.int .i64 K, .slice ao ts.length cap'], .slice (some ⟨g, 0, none⟩) us.length capv]) ?_ rfl ⟨K, ao, cap', ts, some ⟨g, 0, none⟩, capv, us, rfl, hcap, HS.out.fin L8.out hlen (by omega) _ _⟩
        simp [results, Try.results11, go_sem, r0, r1]

end Go.Proofs.Ytljnjpjnadlmhaa
