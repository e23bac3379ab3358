/- Walk of laws.FnBridgeTree: it returns true. -/
import Derived.Test.YtloicmngoaccoaaDoorWDrawT
import Derived.Test.YtloicmngoaccoaaDoorWLo
import Derived.Test.YtloicmngoaccoaaDoorPartWBridge
import Derived.Test.YtloicmngoaccoaaDoorPartWBridgeS
import Derived.Test.YtloicmngoaccoaaDoorPartWTree
import Derived.Test.YtloicmngoaccoaaDoorPartWCutV
import Derived.Test.YtloicmngoaccoaaDoorPartMathX
import Derived.Deep.RegionHeld3
namespace Go.Proofs.YtloicmngoaccoaaDoor
open Go.RowKit
set_option linter.unusedVariables false

/-- what stands while bridges are held against the tree and its rings -/
structure Btr (w wr : World) (aoL aoV aoR : Option Addr) (us vs : List (Int × Int)) (ps : List (List Nat)) : Prop where
  L : TiesIn wr wr.heap.size aoL us
  V : TiesIn wr wr.heap.size aoV vs
  R : AllU wr aoR ps
  B : Below w.heap.size w wr
theorem loHas_is (v : Bool) (ao : Option Addr) (cap : Nat) (ts : List (Int × Int)) (a b : Int) (w : World) (hn : ts.length ≤ 1099511627776) (ht : TiesIn w w.heap.size ao ts) (h : tiedB ts a b = v) :
    Calls Tryd.prog 27 #[.slice ao ts.length cap, .agg #[.int .i64 a, .int .i64 b]] w fun e w' => e = .returned (.bool v) ∧ Below w.heap.size w w' := by
  rw [← h]; exact loHas_any ao cap ts a b w hn ht
theorem Btr.next {w wr w' : World} {aoL aoV aoR : Option Addr} {us vs : List (Int × Int)} {ps : List (List Nat)} (h : Btr w wr aoL aoV aoR us vs ps) (hb : Below wr.heap.size wr w') : Btr w w' aoL aoV aoR us vs ps :=
  ⟨(h.L.below hb (Nat.le_refl _)).wide hb.size, (h.V.below hb (Nat.le_refl _)).wide hb.size, h.R.next hb, h.B.trans (hb.mono h.B.size)⟩
set_option maxRecDepth 100000 in
set_option maxHeartbeats 6400000 in
theorem bridgeTree_walk (bo : Option Addr) (n cap : Nat) (w : World) (hb : BytesIn w bo n) (hnil : bo = none → n = 0 ∧ cap = 0) (hc : n ≤ cap) (hm : cap ≤ maxLen) (hT : Tab w) :
    Calls Tryd.prog 7 #[.slice bo n cap] w fun e w' => e = .returned (.bool true) ∧ Below w.heap.size w w' := by
  have hn1' : n ≤ 9223372036854775807 := by unfold maxLen at hm; omega
  by_cases hl : 1048576 < n
  · have hl' : (1048576 : Int) < (n : Int) := by omega
    go_enter Tryd.func7, Tryd.ntmps7
    go_wp2
    go_ret
    exact ⟨rfl, Below.refl _ _⟩
  have hl' : decide ((1048576 : Int) < (n : Int)) = false := by simp; omega
  go_enter Tryd.func7, Tryd.ntmps7
  go_wp2_with fail
  refine (drawBridgeList_any bo n cap _ hb hnil hc hm).mono ?_
  rintro e w1 ⟨K, ao, cap', ts, rfl, D1⟩
  have hn : ts.length ≤ 1099511627776 := by have := D1.short; omega
  have HB1 := hideP D1.bel
  have T1 := hideP (hT.below D1.bel hT.2)
  have hoN := D1.own
  clear D1 hT
  have T1a := hideP (T1.out.below (below_one w1 (.cells #[.int .i64 K, .slice ao ts.length cap'] 25)) T1.out.2)
  have HB1a := hideP (HB1.out.trans ((below_one w1 (.cells #[.int .i64 K, .slice ao ts.length cap'] 25)).mono HB1.out.size))
  have N1a := hideP (NetV.new (K := K) (cap := cap') 25 (hoN.ties (Nat.le_refl _)))
  clear hoN
  have hul := brTs_len K ts
  have hul' : (brTs K ts).length ≤ 1099511627776 := by omega
  obtain ⟨us, hus⟩ : ∃ us, us = brTs K ts := ⟨_, rfl⟩
  have HUS := hideP hus
  rw [← hus] at hul hul'
  clear hus
  go_wp2_with fail
  refine (implBridges_cap K ao cap' ts _ hn N1a.out.ties T1a.out).mono ?_
  rw [← HUS.out]
  rintro e w2 ⟨aoL, capL, rfl, ho2, hb2, hcpL⟩
  have N2 := hideP (N1a.out.next hb2)
  have T2 := hideP (T1a.out.below hb2 T1a.out.2)
  have HB2 := hideP (HB1a.out.trans (hb2.mono HB1a.out.size))
  have L2 := hideP (ho2.ties (Nat.le_refl _))
  clear hb2 ho2 N1a T1a HB1a
  have n0 := N2.out.c0
  have n1 := N2.out.c1
  go_wp2_with fail
  refine (specBridges_any K ao cap' ts _ hn N2.out.ties).mono ?_
  rw [← HUS.out]
  rintro e w3 ⟨aoS, capS, rfl, ho3, hb3⟩
  have N3 := hideP (N2.out.next hb3)
  have L3 := hideP ((L2.out.below hb3 (Nat.le_refl _)).wide hb3.size)
  have S3 := hideP (ho3.ties (Nat.le_refl _))
  have HB3 := hideP (HB2.out.trans (hb3.mono HB2.out.size))
  have T3 := hideP (T2.out.below hb3 T2.out.2)
  clear hb3 ho3 N2 L2 HB2 T2 n0 n1
  go_wp2_with fail
  refine (loTies_same aoL aoS capL capS us _ hul' L3.out S3.out).mono ?_
  rintro e w4 ⟨rfl, hb4⟩
  have N4 := hideP (N3.out.next hb4)
  have L4 := hideP ((L3.out.below hb4 (Nat.le_refl _)).wide hb4.size)
  have HB4 := hideP (HB3.out.trans (hb4.mono HB3.out.size))
  have T4 := hideP (T3.out.below hb4 T3.out.2)
  clear hb4 N3 L3 S3 HB3 T3
  have n0 := N4.out.c0
  have n1 := N4.out.c1
  have hvl := treeTs_len K ts
  have hvn : (treeTs K ts).length ≤ 1099511627776 := by omega
  obtain ⟨ps, hps⟩ : ∃ ps, ringsB K ts = ps := ⟨_, rfl⟩
  have HPS := hideP hps
  have hp64 : ps.length ≤ 64 := by rw [← hps, ringsB_len]; exact restTs_len K ts
  have HIN : Hid (∀ i, i < us.length → tiedB (treeTs K ts) (tA us i) (tB us i) = true) := fun i hi => by
    have hm := mem_at hi
    rw [HUS.out] at hm
    rw [tied_mem, HUS.out]
    cases hok : okB K ts
    · rw [brTs_no hok] at hm; cases hm
    · exact bridge_in_tree hok hm
  have HRG : Hid (∀ i, i < us.length → ∀ k, k < ps.length → ∃ q : List Nat, q = ps.getD k [] ∧ 1 ≤ q.length ∧ q.length ≤ 8 ∧ ∀ m, m + 1 < q.length → tieOf ((q.getD m 0 : Nat) : Int) ((q.getD (m + 1) 0 : Nat) : Int) ≠ (tA us i, tB us i)) := fun i hi k hk => by
    have hm := mem_at hi
    rw [← hps, ringsB_len] at hk
    have hok : okB K ts = true := by
      cases hok : okB K ts
      · rw [restTs_no hok] at hk; simp at hk
      · rfl
    obtain ⟨x, y, _, R⟩ := rng_of hok hk
    refine ⟨_, ?_, by have := R.len; omega, R.le, fun m hm2 e => R.bridge hok hm2 ?_⟩
    · rw [← hps]
      simp [ringsB, tA, tB, hk]
    · rw [e, ← HUS.out]; exact hm
  obtain ⟨vs, hvs⟩ : ∃ vs, vs = treeTs K ts := ⟨_, rfl⟩
  have HVS := hideP hvs
  rw [← hvs] at hvl hvn HIN
  clear hvs hps
  go_wp2_with fail
  refine (implTree_any K ao cap' ts _ hn N4.out.ties T4.out).mono ?_
  rw [← HVS.out]
  rintro e w5 ⟨aoV, capV, rfl, ho5, hb5⟩
  have N5 := hideP (N4.out.next hb5)
  have L5 := hideP ((L4.out.below hb5 (Nat.le_refl _)).wide hb5.size)
  have V5 := hideP (ho5.ties (Nat.le_refl _))
  have HB5 := hideP (HB4.out.trans (hb5.mono HB4.out.size))
  have T5 := hideP (T4.out.below hb5 T4.out.2)
  clear hb5 ho5 N4 L4 HB4 T4 n0 n1
  have n0 := N5.out.c0
  have n1 := N5.out.c1
  go_wp2_with fail
  refine (implRings_u ps K ao cap' ts _ hn N5.out.ties T5.out HPS.out).mono ?_
  rintro e w6 ⟨aoR, capR, rfl, hoR, hb6⟩
  have S6 : Hid (Btr w w6 aoL aoV aoR us vs ps) := ⟨(L5.out.below hb6 (Nat.le_refl _)).wide hb6.size, (V5.out.below hb6 (Nat.le_refl _)).wide hb6.size, hoR, HB5.out.trans (hb6.mono HB5.out.size)⟩
  clear hb6 hoR N5 L5 V5 HB5 T5 n0 n1
  go_wp2
  go_loopw [7] (fun i wr => ∃ i' : Nat, i' ≤ us.length ∧ i = .int .i64 (i' : Int) ∧ Btr w wr aoL aoV aoR us vs ps)
    (fun i _ => us.length - (intOf i).toNat)
  case atStart => exact ⟨0, Nat.zero_le _, rfl, S6.out⟩
  case round =>
    clear S6
    obtain ⟨i, hi, rfl, hS⟩ := hrel
    by_cases hlt : i < us.length
    · obtain ⟨b, off, rfl, hbw, d0, d1⟩ := hS.L i hlt
      have HRI := hideP (fun k hk => HRG.out i hlt k hk)
      have hin := HIN.out i hlt
      obtain ⟨a1, ha1⟩ : ∃ a1, a1 = tA us i := ⟨_, rfl⟩
      obtain ⟨b1, hb1⟩ : ∃ b1, b1 = tB us i := ⟨_, rfl⟩
      rw [← ha1, ← hb1] at hin HRI
      rw [← ha1] at d0
      rw [← hb1] at d1
      have HIN1 := hideP hin
      have HS := hideP hS
      have hi0 : (0 : Int) ≤ (i : Int) := by omega
      have hi1 : (i : Int) < (us.length : Int) := by omega
      have hi64 : i < 64 := by omega
      have HD : Hid (∀ W, Below wr.heap.size wr W → W.cell? ⟨b, off + i * 2, none⟩ = some (.int .i64 a1) ∧ W.cell? ⟨b, off + i * 2 + 1, none⟩ = some (.int .i64 b1)) := fun W hb => ⟨(hb.cell (p := ⟨b, off + i * 2, none⟩) hbw).trans d0, (hb.cell (p := ⟨b, off + i * 2 + 1, none⟩) hbw).trans d1⟩
      clear hS ha1 hb1 hin hbw
      go_wp2_with fail
      refine (loHas_is true aoV capV vs a1 b1 _ hvn HS.out.V HIN1.out).mono ?_
      rintro e w7 ⟨rfl, hb7⟩
      have S7 := hideP (HS.out.next hb7)
      obtain ⟨W0, hW0⟩ : ∃ W0, W0 = wr := ⟨_, rfl⟩
      rw [← hW0] at HD
      have HB7 : Hid (Below W0.heap.size W0 w7) := by rw [hW0]; exact hb7
      clear hW0
      clear hb7 HS d0 d1
      go_wp2
      go_loopw [8] (fun kk wx => ∃ k : Nat, k ≤ ps.length ∧ kk = .int .i64 (k : Int) ∧ Btr w wx (some ⟨b, off, none⟩) aoV aoR us vs ps ∧ Below W0.heap.size W0 wx)
        (fun kk _ => ps.length - (intOf kk).toNat)
      case atStart => exact ⟨0, Nat.zero_le _, rfl, S7.out, HB7.out⟩
      case round =>
        clear S7 HB7
        obtain ⟨k, hk, rfl, hS, hbx⟩ := hrel
        have HS := hideP hS
        have HBX := hideP hbx
        clear hS hbx
        by_cases hltk : k < ps.length
        · obtain ⟨q, hq, hq1, hq8, hne⟩ := HRI.out k hltk
          obtain ⟨G, offG, g, c, rfl, hG, hcell, hrow, _⟩ := HS.out.R.at' k hltk
          rw [← hq] at hcell hrow
          have HNE := hideP hne
          have HROW := hideP hrow
          have hk0 : (0 : Int) ≤ (k : Int) := by omega
          have hk1 : (k : Int) < (ps.length : Int) := by omega
          obtain ⟨wx, hwx⟩ : ∃ wx, wx = w := ⟨_, rfl⟩
          obtain ⟨N, hN⟩ : ∃ N, N = q.length := ⟨_, rfl⟩
          have HNN := hideP hN
          rw [← hN] at hq1 hq8 hcell
          clear hq hne hrow hwx hN
          go_wp2
          go_loopw [9] (fun mm wy => ∃ m : Nat, m + 1 ≤ N ∧ mm = .int .i64 ((m : Int) + 1) ∧ Btr w wy (some ⟨b, off, none⟩) aoV (some ⟨G, offG, none⟩) us vs ps ∧ Below W0.heap.size W0 wy ∧ wy.cell? ⟨G, offG + k, none⟩ = some (.slice (some ⟨g, 0, none⟩) N c) ∧ G < wy.heap.size ∧ RowV wy wy.heap.size (some ⟨g, 0, none⟩) q.length (pcellN (pn q)))
            (fun mm _ => N - (intOf mm).toNat)
          case atStart => exact ⟨0, by omega, rfl, HS.out, HBX.out, hcell, hG, HROW.out⟩
          case round =>
            clear HS HBX HROW hcell hG
            obtain ⟨m, hm, rfl, hS, hbx, hcell, hG, hrow⟩ := hrel
            have HS := hideP hS
            have HBX := hideP hbx
            have HROW := hideP hrow
            clear hS hbx hrow
            by_cases hltm : m + 1 < N
            · obtain ⟨ga, oa, ea, la, ca⟩ := HROW.out m (by rw [← HNN.out]; omega)
              obtain ⟨gb, ob, eb, lb, cb⟩ := HROW.out (m + 1) (by rw [← HNN.out]; omega)
              cases ea
              cases eb
              rw [Nat.zero_add] at ca cb
              obtain ⟨e0, e1⟩ := HD.out wr HBX.out
              have hbl : b < wr.heap.size := by
                obtain ⟨b2, off2, e, h, _⟩ := HS.out.L i hlt
                cases e; exact h
              obtain ⟨u, hu⟩ : ∃ u : Int, u = ((pn q m : Nat) : Int) := ⟨_, rfl⟩
              obtain ⟨v, hv⟩ : ∃ v : Int, v = ((pn q (m + 1) : Nat) : Int) := ⟨_, rfl⟩
              have hca : wr.cell? ⟨g, m, none⟩ = some (.int .i64 u) := by rw [ca, hu]; rfl
              have hcb : wr.cell? ⟨g, m + 1, none⟩ = some (.int .i64 v) := by rw [cb, hv]; rfl
              have hnn := HNE.out m (by rw [← HNN.out]; omega)
              have hnn2 : tieOf u v ≠ (a1, b1) := by rw [hu, hv]; exact hnn
              obtain ⟨mn, hmn⟩ : ∃ mn, mn = min u v := ⟨_, rfl⟩
              obtain ⟨mx, hmx⟩ : ∃ mx, mx = max u v := ⟨_, rfl⟩
              have hne1 : ¬ (mn = a1 ∧ mx = b1) := fun ⟨x1, x2⟩ => hnn2 (by unfold tieOf; rw [← hmn, ← hmx, x1, x2])
              have HNE1 := hideP hne1
              have LT : Hid (∀ W, Calls Tryd.prog 25 #[.int .i64 u, .int .i64 v] W fun e w' => e = .returned (.agg #[.int .i64 mn, .int .i64 mx]) ∧ Below W.heap.size W w') := fun W => by
                have := loTie_any u v W
                rw [← hmn, ← hmx] at this; exact this
              have D0 : Hid (Below wr.heap.size wr wr.drew) := (Below.refl _ _).drew
              have HELD : Hid (∀ W, Below wr.heap.size wr W → W.cell? ⟨b, off + i * 2, none⟩ = some (.int .i64 a1) ∧ W.cell? ⟨b, off + i * 2 + 1, none⟩ = some (.int .i64 b1) ∧ W.cell? ⟨G, offG + k, none⟩ = some (.slice (some ⟨g, 0, none⟩) N c) ∧ W.cell? ⟨g, m, none⟩ = some (.int .i64 u) ∧ W.cell? ⟨g, m + 1, none⟩ = some (.int .i64 v)) := fun W hb => ⟨(hb.cell (p := ⟨b, off + i * 2, none⟩) hbl).trans e0, (hb.cell (p := ⟨b, off + i * 2 + 1, none⟩) hbl).trans e1, (hb.cell (p := ⟨G, offG + k, none⟩) hG).trans hcell, (hb.cell (p := ⟨g, m, none⟩) la).trans hca, (hb.cell (p := ⟨g, m + 1, none⟩) la).trans hcb⟩
              have hlt1 : (m : Int) + 1 < (N : Int) := by omega
              have hm0 : (0 : Int) ≤ (m : Int) := by omega
              have hm1 : (m : Int) < (N : Int) := by omega
              have hm2 : (0 : Int) ≤ (m : Int) + 1 := by omega
              have jw1 : IntKind.i64.wrap (m : Int) = (m : Int) := by rw [IntKind.wrap_i64]; omega
              have jw2 : IntKind.i64.wrap ((m : Int) + 1 - 1) = (m : Int) := by rw [Int.add_sub_cancel]; exact jw1
              have jw3 : IntKind.i64.wrap ((m : Int) + 1) = (m : Int) + 1 := by rw [IntKind.wrap_i64]; omega
              have jw4 : IntKind.i64.wrap ((m : Int) + 1 + 1) = (m : Int) + 1 + 1 := by rw [IntKind.wrap_i64]; omega
              have HCELL := hideP hcell
              have HGG := hideP hG
              have hi9 : i < us.length := hlt
              clear hu hv hca hcb ca cb hnn hnn2 hmn hmx e0 e1 hne1
              by_cases hmn1 : mn = a1
              · have hmx1 : ¬ mx = b1 := fun e => HNE1.out ⟨hmn1, e⟩
                have hmx2 : (mx == b1) = false := by simpa using hmx1
                subst hmn1
                go_wp2
                go_region_held3 (fun w' => w'.cell? ⟨b, off + i * 2, none⟩ = some (.int .i64 mn) ∧ w'.cell? ⟨b, off + i * 2 + 1, none⟩ = some (.int .i64 b1) ∧ w'.cell? ⟨G, offG + k, none⟩ = some (.slice (some ⟨g, 0, none⟩) N c) ∧ w'.cell? ⟨g, m, none⟩ = some (.int .i64 u) ∧ w'.cell? ⟨g, m + 1, none⟩ = some (.int .i64 v)) (first | exact HELD.out _ bX.out | exact HELD.out _ D0.out) (first | (go_at_call 25; refine (LT.out _).mono ?_; rintro e wq ⟨rfl, hb6⟩; have bX : Hid (Below wr.heap.size wr wq) := hideP (D0.out.trans hb6); clear hb6))
                have hz : Below wr.heap.size wr wq := bX.out
                clear HELD D0 bX LT
                have S9 := hideP (HS.out.next hz)
                have B9 := hideP (HBX.out.trans (hz.mono HBX.out.size))
                have C9 : Hid (wq.cell? ⟨G, offG + k, none⟩ = some (.slice (some ⟨g, 0, none⟩) N c)) := (hz.cell (p := ⟨G, offG + k, none⟩) HGG.out).trans HCELL.out
                have G9 : Hid (G < wq.heap.size) := Nat.lt_of_lt_of_le HGG.out hz.size
                have R9 := hideP ((HROW.out.next hz).wide hz.size)
                clear hz HS HBX HROW HCELL HGG hG
                go_wp2
                go_roundw
                case measure => (simp [intOf] <;> omega)
                case rel => exact ⟨m + 1, by omega, by go_num, S9.out, B9.out, C9.out, G9.out, R9.out⟩
              · have hmn2 : (mn == a1) = false := by simpa using hmn1
                go_wp2
                go_region_held3 (fun w' => w'.cell? ⟨b, off + i * 2, none⟩ = some (.int .i64 a1) ∧ w'.cell? ⟨b, off + i * 2 + 1, none⟩ = some (.int .i64 b1) ∧ w'.cell? ⟨G, offG + k, none⟩ = some (.slice (some ⟨g, 0, none⟩) N c) ∧ w'.cell? ⟨g, m, none⟩ = some (.int .i64 u) ∧ w'.cell? ⟨g, m + 1, none⟩ = some (.int .i64 v)) (first | exact HELD.out _ bX.out | exact HELD.out _ D0.out) (first | (go_at_call 25; refine (LT.out _).mono ?_; rintro e wq ⟨rfl, hb6⟩; have bX : Hid (Below wr.heap.size wr wq) := hideP (D0.out.trans hb6); clear hb6))
                have hz : Below wr.heap.size wr wq := bX.out
                clear HELD D0 bX LT
                have S9 := hideP (HS.out.next hz)
                have B9 := hideP (HBX.out.trans (hz.mono HBX.out.size))
                have C9 : Hid (wq.cell? ⟨G, offG + k, none⟩ = some (.slice (some ⟨g, 0, none⟩) N c)) := (hz.cell (p := ⟨G, offG + k, none⟩) HGG.out).trans HCELL.out
                have G9 : Hid (G < wq.heap.size) := Nat.lt_of_lt_of_le HGG.out hz.size
                have R9 := hideP ((HROW.out.next hz).wide hz.size)
                clear hz HS HBX HROW HCELL HGG hG
                go_wp2
                go_roundw
                case measure => (simp [intOf] <;> omega)
                case rel => exact ⟨m + 1, by omega, by go_num, S9.out, B9.out, C9.out, G9.out, R9.out⟩
            · have hltm' : ¬ ((m : Int) + 1 < (N : Int)) := by omega
              go_wp2
              go_roundw
              case measure => (simp [intOf] <;> omega)
              case rel => exact ⟨k + 1, by omega, by go_num, HS.out, HBX.out⟩
        · obtain rfl : k = ps.length := by omega
          go_wp2
          go_roundw
          case measure => (simp [intOf] <;> omega)
          case rel => exact ⟨i + 1, by omega, by go_num, HS.out⟩
    · obtain rfl : i = us.length := by omega
      have HBX := hideP hS.B
      clear hS
      go_wp2
      go_ret
      exact ⟨rfl, HBX.out⟩

end Go.Proofs.YtloicmngoaccoaaDoor
