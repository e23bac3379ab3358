/- Walk of spec.WayFind where there is a way: its answer is a row of its own that begins where its block does. -/
import Derived.Test.YtiaeffpjcinilaaDoorPartWFar
import Derived.Test.YtiaeffpjcinilaaDoorPartWAllI
import Derived.Test.YtiaeffpjcinilaaDoorPartWTell
import Derived.Maps.AppendAt
namespace Go.Proofs.YtiaeffpjcinilaaDoor
open Go.RowKit
set_option linter.unusedVariables false

theorem plist_snoc (p : List Nat) (k : Nat) : plist (p ++ [k]) = plist p ++ [.int .i64 (k : Int)] := by simp [plist]
/-- what stands while a way is found step by step: the box, how far it is at O, the way so far -/
structure Wst0 (w wr : World) (Kn : Nat) (nv : Value) (O : Nat) (F : Nat → Int) (q : List Nat) (g cap : Nat) : Prop where
  X : Bx w wr (Kn : Int) nv
  I : OwnI wr O Kn (farC F)
  R : wr.ownsRow (w.heap.size + 1) 3 1 (.slice (some ⟨g, 0, none⟩) q.length cap) q.length (plist q)
  hO : w.heap.size < O
  ne : g ≠ O
theorem Wst0.next {w wr w' : World} {Kn : Nat} {nv : Value} {O : Nat} {F : Nat → Int} {q : List Nat} {g cap : Nat} (h : Wst0 w wr Kn nv O F q g cap) (hb : Below wr.heap.size wr w') : Wst0 w w' Kn nv O F q g cap :=
  ⟨h.X.next hb, h.I.below hb h.I.2.2, own_kept2 h.R (fun g hg => hb.block g hg), h.hO, h.ne⟩
theorem Wst0.pushed {w wr w' : World} {Kn : Nat} {nv : Value} {O : Nat} {F : Nat → Int} {q q' : List Nat} {g cap g' cap' : Nat} (h : Wst0 w wr Kn nv O F q g cap) (hgr : wr.grownBy w' (Value.ownBlock (.slice (some ⟨g, 0, none⟩) q.length cap))) (hR : w'.ownsRow (w.heap.size + 1) 3 1 (.slice (some ⟨g', 0, none⟩) q'.length cap') q'.length (plist q')) (hg : g' = g ∨ g' = wr.heap.size) : Wst0 w w' Kn nv O F q' g' cap' := by
  obtain ⟨_, _, _, hlo⟩ := row_type (g := g) (c := cap) h.R rfl
  have ht : Turned g (g + 1) wr w' := ⟨hgr.os, hgr.tape, hgr.output, hgr.size, fun k hk ho => hgr.block k hk (by simp [Value.ownBlock]; omega)⟩
  exact ⟨h.X.turn ht hlo, h.I.turn ht (by have := h.ne; omega), hR, h.hO, by have := h.ne; have := h.I.2.2; omega⟩

set_option maxHeartbeats 1600000 in
theorem specFind0_ok (Kn : Nat) (ao : Option Addr) (cap : Nat) (ts : List (Int × Int)) (a b : Nat) (w : World) (hn : ts.length ≤ 1099511627776) (ht : TiesIn w w.heap.size ao ts) (hok : okB (Kn : Int) ts = true) (haK : a < Kn) (hbK : b < Kn) (hfd : allTo (tieNB ts) a b Kn ≠ []) :
    Calls Tryd.prog 61 #[.agg #[.int .i64 (Kn : Int), .slice ao ts.length cap], .int .i64 (a : Int), .int .i64 (b : Int)] w fun e w' => ∃ g cap' p, e = .returned (.tuple #[.slice (some ⟨g, 0, none⟩) p.length cap', .bool true]) ∧ w'.ownsRow w.heap.size 3 1 (.slice (some ⟨g, 0, none⟩) p.length cap') p.length (plist p) ∧ Below w.heap.size w w' ∧ (allTo (tieNB ts) a b Kn).head? = some p := by
  have hnet : NetOk (Kn : Int) ts := okB_iff.1 hok
  have hK8 : Kn ≤ 8 := by have := hnet.2.1; omega
  have HNT := hideP hnet
  have h1 : (okB (Kn : Int) ts && knotB (a : Int) (Kn : Int)) = true := by rw [hok]; simp [knotB]; omega
  have h2 : (okB (Kn : Int) ts && knotB (b : Int) (Kn : Int)) = true := by rw [hok]; simp [knotB]; omega
  have HV := hideP h1
  have HV2 := hideP h2
  obtain ⟨i1, hj, hy0, hy1, hy2⟩ := info_parts Tryd.infoInt
  have HI1 : Hid (Tryd.prog.info? 3 = some i1 ∧ i1.zero = some (.int .i64 0) ∧ i1.size = 1 ∧ i1.bytes = 8) := ⟨hj, hy0, hy1, hy2⟩
  have X0 := fun (t u : TypeId) => (Bx.start w (Kn : Int) (.slice ao ts.length cap) t).next (below_one _ (.cells #[] u))
  have R0 : ∀ t : TypeId, ((w.alloc (.cells #[.int .i64 (Kn : Int), .slice ao ts.length cap] t)).alloc (.cells #[] 3)).ownsRow (w.heap.size + 1) 3 1 (.slice (some ⟨w.heap.size + 1, 0, none⟩) 0 0) 0 (plist []) := fun t => by
    have h := World.ownsRow_lit (w.alloc (.cells #[.int .i64 (Kn : Int), .slice ao ts.length cap] t)) #[] 0 (base := (w.alloc (.cells #[.int .i64 (Kn : Int), .slice ao ts.length cap] t)).heap.size) (e := 3) (size := 1) (Nat.le_refl _) (by simp) rfl
    have e : (w.alloc (.cells #[.int .i64 (Kn : Int), .slice ao ts.length cap] t)).heap.size = w.heap.size + 1 := by simp
    rw [e] at h
    exact h
  have HX0 := hideP X0
  have HR0 := hideP R0
  have HT := hideP ht
  have HFD := hideP hfd
  have HFAR := hideP (fun w' h => l2Far_any Kn ao cap ts b w' hn h hok hbK)
  clear X0 R0 ht h1 h2 hj hy0 hy1 hy2 hnet hok
  go_enter Tryd.func61, Tryd.ntmps61
  go_wp2_with fail
  refine (l1Knot_v true _ ao cap ts _ _ hn ((HT.out.below (HX0.out _ _).B (Nat.le_refl _)).wide (Nat.le_of_lt (HX0.out _ _).lt)) HV.out).mono ?_
  rintro e w1 ⟨rfl, hb1⟩
  have X1 := hideP ((HX0.out _ _).next hb1)
  have R1 := hideP (own_kept2 (HR0.out _) (fun g hg => hb1.block g hg))
  clear hb1 HX0 HR0
  have c0 := X1.out.c0
  have c1 := X1.out.c1
  go_wp2_with fail
  refine (l1Knot_v true _ ao cap ts _ _ hn ((HT.out.below X1.out.B (Nat.le_refl _)).wide (Nat.le_of_lt X1.out.lt)) HV2.out).mono ?_
  rintro e w2 ⟨rfl, hb2⟩
  have X2 := hideP (X1.out.next hb2)
  have R2 := hideP (own_kept2 R1.out (fun g hg => hb2.block g hg))
  clear hb2 c0 c1 X1 R1
  have c0 := X2.out.c0
  have c1 := X2.out.c1
  go_wp2_with fail
  refine (HFAR.out _ ((HT.out.below X2.out.B (Nat.le_refl _)).wide (Nat.le_of_lt X2.out.lt))).mono ?_
  rintro e w3 ⟨O, capF, F, rfl, hI3, hO3, hF3, hG3, hb3⟩
  have S3 : Hid (Wst0 w w3 Kn (.slice ao ts.length cap) O F [] (w.heap.size + 1) 0) := ⟨X2.out.next hb3, hI3, own_kept2 R2.out (fun g hg => hb3.block g hg), by have := X2.out.lt; omega, by have := X2.out.lt; obtain ⟨_, _, hh, _⟩ := row_type (g := w.heap.size + 1) (c := 0) R2.out rfl; have := (Array.getElem?_eq_some_iff.1 hh).1; omega⟩
  have HF := hideP hF3
  have HG := hideP hG3
  have d0 : w3.cell? ⟨O, a, none⟩ = some (.int .i64 (F a)) := hI3.1 a haK
  have ha0 : (0 : Int) ≤ (a : Int) := by omega
  have ha1 : (a : Int) < (Kn : Int) := by omega
  clear hb3 hI3 hF3 hG3 hO3 c0 c1 X2 R2 HFAR
  by_cases hneg : F a < 0
  · have HN : Hid (allTo (tieNB ts) a b Kn = []) := find_no HF.out hneg
    exact absurd HN.out HFD.out
  · have hneg' : ¬ F a < 0 := hneg
    obtain ⟨D, hD⟩ : ∃ D : Nat, F a = (D : Int) := ⟨(F a).toNat, by omega⟩
    have HH : Hid ((allTo (tieNB ts) a b Kn).head? = some (a :: geo (tieNB ts) F D a)) := find_is (fun _ _ h => tieNB_8 HNT.out h) (fun _ _ h => by have := tieNB_lt HNT.out h; simpa using this) (fun _ _ h => tieNB_sym h) HF.out haK hD
    have hD8 : D ≤ 8 := by have := (HG.out a).1; omega
    have HD := hideP hD
    have bo := below_one w3 (.cells #[.int .i64 (a : Int)] 3)
    have SB := hideP (S3.out.next bo)
    clear hD bo
    go_wp2_with (at_builtin; refine wpList_append_own_at _ rfl _ _ 27 rfl (w.heap.size + 1) 3 i1 _ 1 8 Tryd.underlying27 HI1.out.1 HI1.out.2.1 HI1.out.2.2.1 HI1.out.2.2.2 rfl (by omega) (.slice (some ⟨w.heap.size + 1, 0, none⟩) 0 0) 0 (plist []) rfl SB.out.R ⟨w3.heap.size, 0, none⟩ 1 1 [.int .i64 (a : Int)] rfl rfl (cell_one_new _ _ _) (by simp [Value.oneCell']) (by unfold maxLen; omega) (by omega) ?_ ?_)
    · have := S3.out.X.lt; simp; omega
    intro v4 w4 hR4 ht4 _ hg4
    obtain ⟨g4, cap4, rfl⟩ := ownsRow_succ hR4
    have S4 : Hid (Wst0 w w4 Kn (.slice ao ts.length cap) O F [a] g4 cap4) := SB.out.pushed ht4 hR4 (by simpa [Value.ownBlock] using hg4)
    clear hR4 hg4 ht4 SB S3 d0
    obtain ⟨T, hT⟩ : ∃ T, T = a :: geo (tieNB ts) F D a := ⟨_, rfl⟩
    have HT0 : Hid ([a] ++ geo (tieNB ts) F D a = T) := hideP hT.symm
    rw [← hT] at HH
    clear hT
    go_wp2
    go_loopg [8, 10] 9 (fun gk v at' wr => ∃ (d x : Nat) (q : List Nat) (g cap' : Nat), v = .slice (some ⟨g, 0, none⟩) q.length cap' ∧ at' = .int .i64 x ∧ F x = (d : Int) ∧ d ≤ gk ∧ gk ≤ 9 ∧ x < Kn ∧ q ++ geo (tieNB ts) F d x = T ∧ q.length + d ≤ 9 ∧ Wst0 w wr Kn (.slice ao ts.length cap) O F q g cap')
    case atStart => exact ⟨D, a, [a], g4, cap4, rfl, rfl, HD.out, by omega, by omega, haK, HT0.out, by simp; omega, S4.out⟩
    case round =>
      clear S4 HT0 HD
      obtain ⟨d, x, q, g, cap', rfl, rfl, hFx, hdg, hg9, hxK, hq, hql, hS⟩ := hrel
      by_cases hxb : x = b
      · subst hxb
        have hd0 : d = 0 := by have := HF.out.at; omega
        subst hd0
        have hqT : q = T := by simpa [geo] using hq
        have HQ := hideP hqT
        have HR := hideP hS.R
        have HB := hideP hS.X.B
        clear hS hq hqT
        go_wp2
        exact bodyPost_ret (v := .tuple #[.slice (some ⟨g, 0, none⟩) q.length cap', .bool true]) (by simp [results, Tryd.results61, go_sem]) rfl ⟨_, _, q, rfl, own_low HR.out (by omega), HB.out, by rw [HQ.out]; exact HH.out⟩
      · have hne : ((x : Int) == (b : Int)) = false := by simp; omega
        obtain ⟨d', rfl⟩ : ∃ d', d = d' + 1 := ⟨d - 1, by
          have : d ≠ 0 := fun e => hxb (HF.out.zero (by rw [hFx, e]; rfl))
          omega⟩
        have hFx1 : F x = (d' : Int) + 1 := by rw [hFx]; omega
        have HNF := hideP (fun jj h1 h2 h3 => near_first (jj := jj) (Kn := Kn) HNT.out HF.out hFx1 h1 h2 h3)
        have HNS := hideP (near_some (Kn := Kn) HNT.out HF.out hFx1)
        have HGE : Hid (geo (tieNB ts) F (d' + 1) x = near (tieNB ts) F x :: geo (tieNB ts) F d' (near (tieNB ts) F x)) := rfl
        have HNI := hideP (near_is (E := tieNB ts) (fun _ _ h => tieNB_8 HNT.out h) HF.out (fun _ _ h => tieNB_sym h) hFx1)
        have c0 := hS.X.c0
        have c1 := hS.X.c1
        have HS := hideP hS
        have TR := hideP ((HT.out.below hS.X.B (Nat.le_refl _)).wide (Nat.le_of_lt hS.X.lt))
        have HQ := hideP hq
        have HFX := hideP hFx1
        clear hS hq hFx hFx1
        go_wp2_with fail
        refine (l2Next_any Kn ao cap ts x _ hn TR.out hK8).mono ?_
        rintro e w5 ⟨g2, off2, cap2, rfl, hL5, hb5⟩
        have S5 := hideP (HS.out.next hb5)
        obtain ⟨L, hL⟩ : ∃ L, L = nbrs ts x Kn := ⟨_, rfl⟩
        have HLL := hideP hL
        have hL8 : L.length ≤ 8 := by rw [hL]; exact Nat.le_trans (nbrs_len ts x Kn) hK8
        rw [← hL] at hL5 HNF HNS ⊢
        have L5 := hideP hL5
        clear hb5 hL5 hL c0 c1 TR HS
        have hx0 : (0 : Int) ≤ (x : Int) := by omega
        have hx1 : (x : Int) < (Kn : Int) := by omega
        go_wp2
        go_loopw [10, 12] (fun at' i wr => ∃ (jj : Nat), jj ≤ L.length ∧ i = .int .i64 jj ∧ at' = .int .i64 x ∧ (∀ t, t < jj → F (L.getD t 0) ≠ F x - 1) ∧ Below w5.heap.size w5 wr)
          (fun _ i _ => L.length - (intOf i).toNat)
        case atStart => exact ⟨0, Nat.zero_le _, rfl, rfl, fun t ht => absurd ht (by omega), Below.refl _ _⟩
        case round =>
          obtain ⟨jj, hjj, rfl, rfl, hall, hbr⟩ := hrel
          by_cases hlt : jj < L.length
          · obtain ⟨y, hy⟩ : ∃ y, y = L.getD jj 0 := ⟨_, rfl⟩
            have hmem : y ∈ L := by rw [hy, List.getD_eq_getElem?_getD, List.getElem?_eq_getElem hlt]; exact List.getElem_mem hlt
            have hyn := mem_nbrs.1 (HLL.out ▸ hmem)
            have hyK := hyn.1
            have S6 := hideP (S5.out.next hbr)
            have L6 := L5.out.next hbr
            have cy : wr.cell? ⟨g2, off2 + jj, none⟩ = some (.int .i64 (y : Int)) := by rw [hy]; exact L6.cells jj hlt
            have co : wr.cell? ⟨O, y, none⟩ = some (.int .i64 (F y)) := S6.out.I.1 y hyK
            have cz : wr.cell? ⟨O, x, none⟩ = some (.int .i64 (F x)) := S6.out.I.1 x hxK
            have hj0 : (0 : Int) ≤ (jj : Int) := by omega
            have hj1 : (jj : Int) < (L.length : Int) := by omega
            have hy0 : (0 : Int) ≤ (y : Int) := by omega
            have hy1 : (y : Int) < (Kn : Int) := by omega
            have hFx8 := (HG.out x).1
            have hFx9 := (HG.out x).2
            have HALL := hideP hall
            have HBR := hideP hbr
            have HY := hideP hy
            clear hyn hmem hy hall hbr L6
            by_cases hF : F y = F x - 1
            · have hFe : (F y == F x - 1) = true := by simp [hF]
              have HYN : Hid (y = near (tieNB ts) F x) := by rw [HY.out]; exact hideP (HNF.out jj hlt (by rw [← HY.out]; exact hF) HALL.out)
              have HQ2 : Hid ((q ++ [y]) ++ geo (tieNB ts) F d' y = T) := hideP (by rw [List.append_assoc, ← HQ.out, HGE.out, ← HYN.out]; rfl)
              have HFY : Hid (F y = (d' : Int)) := hideP (by rw [HYN.out]; exact HNI.out.2.1)
              have S8 := hideP ((S6.out.next (Below.refl _ _).drew).next (below_one wr.drew (.cells #[.int .i64 (y : Int)] 3)))
              have HBW := hideP S6.out.X.lt
              have ES : Hid (((wr.drew).alloc (.cells #[.int .i64 (y : Int)] 3)).heap.size = wr.heap.size + 1) := World.size_alloc wr.drew _
              obtain ⟨m, hm⟩ : ∃ m, m = q.length := ⟨_, rfl⟩
              have HM := hideP hm
              rw [← hm] at hql ⊢
              clear hF hm
              go_wp2
              go_region
              go_wp2_with (at_builtin; refine wpList_append_own_at _ rfl _ _ 27 rfl (w.heap.size + 1) 3 i1 _ 1 8 Tryd.underlying27 HI1.out.1 HI1.out.2.1 HI1.out.2.2.1 HI1.out.2.2.2 rfl (by omega) (.slice (some ⟨g, 0, none⟩) m cap') m (plist q) rfl (by rw [HM.out]; exact S8.out.R) ⟨wr.heap.size, 0, none⟩ 1 1 [.int .i64 (y : Int)] rfl rfl (cell_one_new _ _ _) (by simp [Value.oneCell']) (by unfold maxLen; omega) (by omega) ?_ ?_)
              · have h3 : wr.heap.size ≤ ((wr.drew).alloc (.cells #[.int .i64 (y : Int)] 3)).heap.size := by rw [ES.out]; omega
                exact Nat.le_trans HBW.out h3
              intro v7 w7 hR7 ht7 _ hg7
              obtain ⟨g7, cap7, rfl⟩ := ownsRow_succ hR7
              have HLN : Hid ((q ++ [y]).length = m + 1) := by show (q ++ [y]).length = m + 1; rw [HM.out]; simp
              have S7 : Hid (Wst0 w w7 Kn (.slice ao ts.length cap) O F (q ++ [y]) g7 cap7) := S8.out.pushed ht7 (by rw [HLN.out, plist_snoc]; exact hR7) (by have h2 := ES.out; simp [Value.ownBlock] at hg7; omega)
              clear hR7 hg7 ht7 S8 S6 co cz cy
              go_wp2
              go_roundg (gk - 1)
              case measure => omega
              case rel => exact ⟨d', y, q ++ [y], g7, cap7, by rw [HLN.out], rfl, HFY.out, by omega, by omega, hyK, HQ2.out, by rw [HLN.out]; omega, S7.out⟩
            · have hFe : (F y == F x - 1) = false := by simp [hF]
              have HR : Hid (∀ t, t < jj + 1 → F (L.getD t 0) ≠ F x - 1) := by
                intro t ht
                by_cases e : t = jj
                · subst e; rw [← HY.out]; exact hF
                · exact HALL.out t (by omega)
              clear hF
              go_wp2
              go_region
              go_wp2
              go_roundw
              case rel => exact ⟨jj + 1, by omega, by go_num, rfl, HR.out, HBR.out.trans (by first | exact (Below.refl _ _).drew | exact Below.refl _ _)⟩
              case measure => simp [intOf]; omega
          · exfalso
            obtain ⟨t, ht, e⟩ := HNS.out
            exact hall t (by omega) e

theorem specFind0_any (Kn : Nat) (ao : Option Addr) (cap : Nat) (ts : List (Int × Int)) (a b : Nat) (w : World) (hn : ts.length ≤ 1099511627776) (ht : TiesIn w w.heap.size ao ts) (hok : okB (Kn : Int) ts = true) (haK : a < Kn) (hbK : b < Kn) (hfd : foundB (Kn : Int) ts (a : Int) (b : Int) = true) :
    Calls Tryd.prog 61 #[.agg #[.int .i64 (Kn : Int), .slice ao ts.length cap], .int .i64 (a : Int), .int .i64 (b : Int)] w fun e w' => ∃ g cap', e = .returned (.tuple #[.slice (some ⟨g, 0, none⟩) (findB (Kn : Int) ts (a : Int) (b : Int)).length cap', .bool true]) ∧ w'.ownsRow w.heap.size 3 1 (.slice (some ⟨g, 0, none⟩) (findB (Kn : Int) ts (a : Int) (b : Int)).length cap') (findB (Kn : Int) ts (a : Int) (b : Int)).length (plist (findB (Kn : Int) ts (a : Int) (b : Int))) ∧ Below w.heap.size w w' := by
  have hc : (okB (Kn : Int) ts && knotB (a : Int) (Kn : Int) && knotB (b : Int) (Kn : Int)) = true := by rw [hok]; simp [knotB]; omega
  have e := waysB_yes hc
  simp only [Int.toNat_natCast] at e
  have hne : allTo (tieNB ts) a b Kn ≠ [] := fun h => by
    rw [(foundB_no (e.trans h)).2] at hfd; cases hfd
  refine (specFind0_ok Kn ao cap ts a b w hn ht hok haK hbK hne).mono ?_
  rintro e0 w' ⟨g, cap', p, rfl, hR, hB, hp⟩
  rw [← e] at hp
  obtain ⟨e1, _⟩ := foundB_yes hp
  rw [e1]
  exact ⟨g, cap', rfl, hR, hB⟩

end Go.Proofs.YtiaeffpjcinilaaDoor
