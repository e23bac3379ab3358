/- Walk of laws.FnTreeOk: it returns true. -/
import Derived.Test.YtloicmngoaccoaaDoorWDrawTk
import Derived.Test.YtloicmngoaccoaaDoorWLo
import Derived.Test.YtloicmngoaccoaaDoorWLo2
import Derived.Test.YtloicmngoaccoaaDoorWReach3
import Derived.Test.YtloicmngoaccoaaDoorWTreeOkS
import Derived.Test.YtloicmngoaccoaaDoorWBridgeI
import Derived.Test.YtloicmngoaccoaaDoorWApp
import Derived.Test.YtloicmngoaccoaaDoorWCutV
import Derived.Test.YtloicmngoaccoaaDoorMathX
import Derived.Test.YtloicmngoaccoaaDoorMathF
namespace Go.Proofs.YtloicmngoaccoaaDoor
open Go.RowKit
set_option linter.unusedVariables false

theorem implTreeOk_w (v : Bool) (K : Int) (ao bo : Option Addr) (cap cap2 : Nat) (ts us : List (Int × Int)) (w : World) (hn : ts.length ≤ 1099511627776) (ht : TiesIn w w.heap.size ao ts) (hn2 : us.length ≤ 1099511627776) (hu : TiesIn w w.heap.size bo us) (hT : Tab w) (h : treeOkB K ts us = v) :
    Calls Tryd.prog 11 #[.agg #[.int .i64 K, .slice ao ts.length cap], .slice bo us.length cap2] w fun e w' => e = .returned (.bool v) ∧ Below w.heap.size w w' := by
  rw [← h]; exact implTreeOk_any K ao bo cap cap2 ts us w hn ht hn2 hu hT
theorem specTreeOk_w (v : Bool) (K : Int) (ao bo : Option Addr) (cap cap2 : Nat) (ts us : List (Int × Int)) (w : World) (hn : ts.length ≤ 1099511627776) (ht : TiesIn w w.heap.size ao ts) (hn2 : us.length ≤ 1099511627776) (hu : TiesIn w w.heap.size bo us) (h : treeOkB K ts us = v) :
    Calls Tryd.prog 12 #[.agg #[.int .i64 K, .slice ao ts.length cap], .slice bo us.length cap2] w fun e w' => e = .returned (.bool v) ∧ Below w.heap.size w w' := by
  rw [← h]; exact specTreeOk_any K ao bo cap cap2 ts us w hn ht hn2 hu
theorem RowV.like {w : World} {B n : Nat} {ao : Option Addr} {f g : Nat → Value} (h : RowV w B ao n f) (e : ∀ j, j < n → f j = g j) : RowV w B ao n g := fun j hj => by
  obtain ⟨b, off, h1, h2, h3⟩ := h j hj
  exact ⟨b, off, h1, h2, by rw [← e j hj]; exact h3⟩
theorem wrap_sm {t : Nat} (h : t ≤ 8) : IntKind.i64.wrap (t : Int) = (t : Int) := by
  have : t = 0 ∨ t = 1 ∨ t = 2 ∨ t = 3 ∨ t = 4 ∨ t = 5 ∨ t = 6 ∨ t = 7 ∨ t = 8 := by omega
  rcases this with rfl | rfl | rfl | rfl | rfl | rfl | rfl | rfl | rfl <;> rfl
theorem implBridge_w (v : Bool) (K : Int) (ao : Option Addr) (cap : Nat) (ts : List (Int × Int)) (a b : Int) (w : World) (hn : ts.length ≤ 1099511627776) (ht : TiesIn w w.heap.size ao ts) (h : bridgeB K ts a b = v) :
    Calls Tryd.prog 16 #[.agg #[.int .i64 K, .slice ao ts.length cap], .int .i64 a, .int .i64 b] w fun e w' => e = .returned (.bool v) ∧ Below w.heap.size w w' := by
  rw [← h]; exact implBridge_any K ao cap ts a b w hn ht
set_option maxRecDepth 100000 in
set_option maxHeartbeats 3200000 in
theorem treeOk_walk (bo : Option Addr) (n cap : Nat) (co0 : Option Addr) (n2 cap2 : Nat) (w : World) (hb : BytesIn w bo n) (hnil : bo = none → n = 0 ∧ cap = 0) (hc : n ≤ cap) (hm : cap ≤ maxLen) (hbb : BytesIn w co0 n2) (hnil2 : co0 = none → n2 = 0 ∧ cap2 = 0) (hc2 : n2 ≤ cap2) (hm2 : cap2 ≤ maxLen) (hT : Tab w) :
    Calls Tryd.prog 3 #[.slice bo n cap, .slice co0 n2 cap2] w fun e w' => e = .returned (.bool true) ∧ Below w.heap.size w w' := by
  have hn2' : n2 ≤ 9223372036854775807 := by unfold maxLen at hm2; omega
  have hn1' : n ≤ 9223372036854775807 := by unfold maxLen at hm; omega
  clear hbb hnil2 hc2 hm2
  by_cases hl : 1048576 < n
  · have hl' : (1048576 : Int) < (n : Int) := by omega
    go_enter Tryd.func3, Tryd.ntmps3
    go_wp2
    go_ret
    exact ⟨rfl, Below.refl _ _⟩
  have hl' : decide ((1048576 : Int) < (n : Int)) = false := by simp; omega
  by_cases hl2 : 1048576 < n2
  · have hl2' : (1048576 : Int) < (n2 : Int) := by omega
    go_enter Tryd.func3, Tryd.ntmps3
    go_wp2
    go_ret
    exact ⟨rfl, Below.refl _ _⟩
  have hl2' : decide ((1048576 : Int) < (n2 : Int)) = false := by simp; omega
  go_enter Tryd.func3, Tryd.ntmps3
  go_wp2_with fail
  refine (drawTreeOk_any bo n cap _ hb hnil hc hm).mono ?_
  rintro e w1 ⟨K, ao, cap', ts, co, capC, us, rfl, hcpC, D1⟩
  have hn : ts.length ≤ 1099511627776 := by have := D1.short; omega
  have hn2 : us.length ≤ 1099511627776 := by have := D1.few; omega
  have HB1 := hideP D1.bel
  have T1 := hideP (hT.below D1.bel hT.2)
  have LN := D1.net
  have LU := D1.list
  clear D1 hT
  have T1a := hideP (T1.out.below (below_one w1 (.cells #[.int .i64 K, .slice ao ts.length cap'] 25)) T1.out.2)
  have HB1a := hideP (HB1.out.trans ((below_one w1 (.cells #[.int .i64 K, .slice ao ts.length cap'] 25)).mono HB1.out.size))
  have N1a := hideP (NetV.new (K := K) (cap := cap') 25 LN)
  have U1a : Hid (TiesIn (w1.alloc (.cells #[.int .i64 K, .slice ao ts.length cap'] 25)) (w1.alloc (.cells #[.int .i64 K, .slice ao ts.length cap'] 25)).heap.size co us) := (LU.below (below_one _ _) (Nat.le_refl _)).wide (by simp)
  clear LN LU HB1 T1
  obtain ⟨ok, hok⟩ : ∃ b, b = treeOkB K ts us := ⟨_, rfl⟩
  have HOK : Hid (treeOkB K ts us = ok) := hok.symm
  clear hok
  go_wp2_with fail
  refine (implTreeOk_w ok K ao co cap' capC ts us _ hn N1a.out.ties hn2 U1a.out T1a.out HOK.out).mono ?_
  rintro e w2 ⟨rfl, hb2⟩
  have N2 := hideP (N1a.out.next hb2)
  have T2 := hideP (T1a.out.below hb2 T1a.out.2)
  have U2 := hideP ((U1a.out.below hb2 (Nat.le_refl _)).wide hb2.size)
  have HB2 := hideP (HB1a.out.trans (hb2.mono HB1a.out.size))
  clear hb2 N1a T1a U1a HB1a
  have n0 := N2.out.c0
  have n1 := N2.out.c1
  have hokk : (ok != ok) = false := by simp
  go_wp2_with fail
  refine (specTreeOk_w ok K ao co cap' capC ts us _ hn N2.out.ties hn2 U2.out HOK.out).mono ?_
  rintro e w3 ⟨rfl, hb3⟩
  have N3 := hideP (N2.out.next hb3)
  have T3 := hideP (T2.out.below hb3 T2.out.2)
  have U3 := hideP ((U2.out.below hb3 (Nat.le_refl _)).wide hb3.size)
  have HB3 := hideP (HB2.out.trans (hb3.mono HB2.out.size))
  clear hb3 n0 n1 N2 U2 HB2 T2
  have n0 := N3.out.c0
  have n1 := N3.out.c1
  cases ok
  · clear hokk
    go_wp2_with fail
    refine (specTreeOk_w false K ao co cap' capC ts us _ hn N3.out.ties hn2 U3.out HOK.out).mono ?_
    rintro e w4 ⟨rfl, hb4⟩
    have HB4 := hideP (HB3.out.trans (hb4.mono HB3.out.size))
    clear hb4
    go_wp2
    go_ret
    exact ⟨rfl, HB4.out⟩
  clear hokk
  obtain ⟨p1, p2, p3, p4, p5⟩ := tree_parts HOK.out
  have P1 := hideP p1
  have P2 := hideP p2
  have P3 := hideP p3
  have P5 := hideP p5
  have h0K := (okB_iff.1 p1).1
  have h8K := (okB_iff.1 p1).2.1
  obtain ⟨Kn, hKn⟩ : ∃ m : Nat, K = (m : Int) := ⟨K.toNat, by omega⟩
  subst hKn
  have hK9 : Kn ≤ 8 := by omega
  have HN1 : Hid (partN (Kn : Int) ts = Kn) := by show partN (Kn : Int) ts = Kn; simp [partN, p1]
  have HN2 : Hid (partN (Kn : Int) us = Kn) := by show partN (Kn : Int) us = Kn; simp [partN, p2]
  have hcv : ((us.length : Int) == (Kn : Int) - (cnt ts Kn : Int)) = true := by simp at p4 ⊢; omega
  have hcv2 : (us.length : Int) = (Kn : Int) - (cnt ts Kn : Int) := by simp at p4; omega
  have HCV : Hid (countV (Kn : Int) ts = (cnt ts Kn : Int)) := by rw [countV_ok p1]; simp; exact hideP trivial
  have hul8 : us.length ≤ 8 := by simp at p4; omega
  clear p1 p2 p3 p4 p5 h0K h8K
  have hcv3 : ((us.length : Int) != (Kn : Int) - (cnt ts Kn : Int)) = false := by rw [bne, hcv]; rfl
  have hcw : IntKind.i64.wrap ((Kn : Int) - (cnt ts Kn : Int)) = (Kn : Int) - (cnt ts Kn : Int) := by rw [← hcv2]; exact wrap_sm hul8
  have bo3 := below_one w3 (.cells #[.int .i64 (Kn : Int), .slice co us.length capC] 25)
  have N3a := hideP (N3.out.next bo3)
  have X3a := hideP (NetV.new (K := (Kn : Int)) (cap := capC) 25 U3.out)
  have T3a := hideP (T3.out.below bo3 T3.out.2)
  have HB3a := hideP (HB3.out.trans (bo3.mono HB3.out.size))
  have U3a := hideP ((U3.out.below bo3 (Nat.le_refl _)).wide bo3.size)
  obtain ⟨w4, hw4⟩ : ∃ w4, w4 = w3.alloc (.cells #[.int .i64 (Kn : Int), .slice co us.length capC] 25) := ⟨_, rfl⟩
  rw [← hw4] at N3a X3a T3a HB3a U3a
  have m0 := N3a.out.c0
  have m1 := N3a.out.c1
  have q0 := X3a.out.c0
  have q1 := X3a.out.c1
  have XD := hideP (X3a.out.next (Below.refl _ _).drew).ties
  have TD := hideP (T3a.out.below (Below.refl _ _).drew T3a.out.2)
  clear bo3 N3 T3 U3 HB3
  go_wp2_with fail
  clear n0 n1
  rw [← hw4]
  clear hw4
  go_region_held3 (fun w' => w'.cell? ⟨w1.heap.size, 0, none⟩ = some (.int .i64 (Kn : Int)) ∧ w'.cell? ⟨w1.heap.size, 1, none⟩ = some (.slice ao ts.length cap') ∧ w'.cell? ⟨w3.heap.size, 0, none⟩ = some (.int .i64 (Kn : Int)) ∧ w'.cell? ⟨w3.heap.size, 1, none⟩ = some (.slice co us.length capC)) (first | exact ⟨N8.out.c0, N8.out.c1, X8.out.c0, X8.out.c1⟩ | exact ⟨N7.out.c0, N7.out.c1, X7.out.c0, X7.out.c1⟩ | exact ⟨N6.out.c0, N6.out.c1, X6.out.c0, X6.out.c1⟩ | exact ⟨N5.out.c0, N5.out.c1, X5.out.c0, X5.out.c1⟩ | exact ⟨m0, m1, q0, q1⟩) (first | (go_at_call 14; refine (implParts_any (Kn : Int) ao cap' ts _ hn N5.out.ties T5.out).mono ?_; rw [HN1.out]; rintro e w6 ⟨aoQ, capQ, rfl, ho6, hb6⟩; have N6 := hideP (N5.out.next hb6); have X6 := hideP (X5.out.next hb6); have T6 := hideP (T5.out.below hb6 T5.out.2); have U6 := hideP ((U5.out.below hb6 (Nat.le_refl _)).wide hb6.size); have HB6 := hideP (HB5.out.trans (hb6.mono HB5.out.size)); have R6 := hideP ((R5.out.next hb6).wide hb6.size); have S6 := hideP ho6.inside; clear ho6 hb6) | (go_at_call 14; refine (implParts_any (Kn : Int) co capC us _ hn2 XD.out TD.out).mono ?_; rw [HN2.out]; rintro e w5 ⟨aoP, capP, rfl, ho5, hb5⟩; have N5 := hideP (N3a.out.next ((Below.refl _ _).drew.trans hb5)); have X5 := hideP (X3a.out.next ((Below.refl _ _).drew.trans hb5)); have T5 := hideP (T3a.out.below ((Below.refl _ _).drew.trans hb5) T3a.out.2); have U5 := hideP ((U3a.out.below ((Below.refl _ _).drew.trans hb5) (Nat.le_refl _)).wide hb5.size); have HB5 := hideP (HB3a.out.trans (((Below.refl _ _).drew.trans hb5).mono HB3a.out.size)); have R5 := hideP (ho5.inside.like (g := pcellN (topN ts)) (fun j hj => by unfold pcellN; rw [P3.out j (by simpa using hj)])); clear ho5 hb5) | (go_at_call 13; refine (loInts_same _ _ _ _ Kn (topN ts) _ (by omega) R6.out S6.out).mono ?_; rintro e w7 ⟨rfl, hb7⟩; have N7 := hideP (N6.out.next hb7); have X7 := hideP (X6.out.next hb7); have T7 := hideP (T6.out.below hb7 T6.out.2); have U7 := hideP ((U6.out.below hb7 (Nat.le_refl _)).wide hb7.size); have HB7 := hideP (HB6.out.trans (hb7.mono HB6.out.size)); clear hb7) | (go_at_call 15; refine (implCount_ok (cnt ts Kn : Int) (Kn : Int) ao cap' ts _ hn N7.out.ties T7.out HCV.out).mono ?_; rintro e w8 ⟨rfl, hb8⟩; have N8 := hideP (N7.out.next hb8); have X8 := hideP (X7.out.next hb8); have T8 := hideP (T7.out.below hb8 T7.out.2); have U8 := hideP ((U7.out.below hb8 (Nat.le_refl _)).wide hb8.size); have HB8 := hideP (HB7.out.trans (hb8.mono HB7.out.size)); clear hb8))
  clear m0 m1 q0 q1 XD TD N3a X3a T3a HB3a U3a N5 X5 T5 U5 HB5 R5 N6 X6 T6 U6 HB6 R6 S6 N7 X7 T7 U7 HB7 HN1 HN2 HCV hcv hcv2
  by_cases hz : us.length = 0
  · rw [hz]
    rw [hz] at hcv3
    have hcv4 : ((0 : Int) != (Kn : Int) - (cnt ts Kn : Int)) = false := hcv3
    go_wp2
    go_ret
    exact ⟨rfl, HB8.out⟩
  obtain ⟨i, hi⟩ : ∃ i : Nat, i = n2 % us.length := ⟨_, rfl⟩
  have hil : i < us.length := by rw [hi]; exact Nat.mod_lt _ (by omega)
  have hmod : (n2 : Int) % (us.length : Int) = (i : Int) := by rw [hi]; exact (Int.natCast_emod n2 us.length).symm
  have hmt : Int.tmod (n2 : Int) (us.length : Int) = (i : Int) := by rw [Int.tmod_eq_emod_of_nonneg (show (0 : Int) ≤ (n2 : Int) by omega)]; exact hmod
  have hzi : ((us.length : Int) == 0) = false := by rw [beq_eq_false_iff_ne]; omega
  have hz0 : ¬ ((us.length : Int) = 0) := by omega
  obtain ⟨gL, offL, rfl, hgL, l0, l1⟩ := U8.out i hil
  have hi0 : (0 : Int) ≤ (i : Int) := by omega
  have hil' : (i : Int) < (us.length : Int) := by omega
  have hil2 : (i : Int) ≤ (us.length : Int) := by omega
  have hil3 : (i : Int) + 1 ≤ (us.length : Int) := by omega
  have n0 := N8.out.c0
  have n1 := N8.out.c1
  have x0 := X8.out.c0
  have x1 := X8.out.c1
  clear hmod hi
  obtain ⟨i0, hi0', hz0', hz1', hz2'⟩ := info_parts Tryd.infoTie
  have HI : Hid (Tryd.prog.info? 35 = some i0 ∧ i0.zero = some (.agg #[.int .i64 0, .int .i64 0]) ∧ i0.size = 2 ∧ i0.bytes = 16) := ⟨hi0', hz0', hz1', hz2'⟩
  clear hi0' hz0' hz1' hz2'
  have HELD : Hid (∀ W, Below w8.heap.size w8 W → W.cell? ⟨w1.heap.size, 0, none⟩ = some (.int .i64 (Kn : Int)) ∧ W.cell? ⟨w1.heap.size, 1, none⟩ = some (.slice ao ts.length cap') ∧ W.cell? ⟨w3.heap.size, 0, none⟩ = some (.int .i64 (Kn : Int)) ∧ W.cell? ⟨w3.heap.size, 1, none⟩ = some (.slice (some ⟨gL, offL, none⟩) us.length capC) ∧ W.cell? ⟨gL, offL + i * 2, none⟩ = some (.int .i64 (tA us i)) ∧ W.cell? ⟨gL, offL + i * 2 + 1, none⟩ = some (.int .i64 (tB us i))) := fun W hb => ⟨(hb.cell (p := ⟨w1.heap.size, 0, none⟩) N8.out.lt).trans n0, (hb.cell (p := ⟨w1.heap.size, 1, none⟩) N8.out.lt).trans n1, (hb.cell (p := ⟨w3.heap.size, 0, none⟩) X8.out.lt).trans x0, (hb.cell (p := ⟨w3.heap.size, 1, none⟩) X8.out.lt).trans x1, (hb.cell (p := ⟨gL, offL + i * 2, none⟩) hgL).trans l0, (hb.cell (p := ⟨gL, offL + i * 2 + 1, none⟩) hgL).trans l1⟩
  have hlesB := tree_less HOK.out (vs := us.take i ++ us.drop (i + 1)) (by simp; omega)
  have HHB : Hid (bridgeB (Kn : Int) us (tA us i) (tB us i) = true) := by
    have hcu : us.length + cnt us (Kn : Int).toNat = (Kn : Int).toNat := P5.out
    obtain ⟨x, y, _, _, e, _, hh⟩ := tie_form P2.out (mem_at hil)
    simp only [Prod.mk.injEq] at e
    show bridgeB (Kn : Int) us (tA us i) (tB us i) = true
    rw [e.1, e.2]
    exact tree_bridge hcu hh
  obtain ⟨zs, hzs⟩ : ∃ zs, zs = us.take i ++ us.drop (i + 1) := ⟨_, rfl⟩
  rw [← hzs] at hlesB
  have HZS := hideP hzs
  have hzl : zs.length = i + (us.length - (i + 1)) := by rw [hzs]; simp; omega
  have HZL := hideP hzl
  have HLE := hideP hlesB
  have hzn : zs.length ≤ 1099511627776 := by omega
  have BIS : Hid (∀ W, Below w8.heap.size w8 W → Calls Tryd.prog 16 #[.agg #[.int .i64 (Kn : Int), .slice (some ⟨gL, offL, none⟩) us.length capC], .int .i64 (tA us i), .int .i64 (tB us i)] W fun e w' => e = .returned (.bool true) ∧ Below W.heap.size W w') := fun W hb => by
    have := implBridge_any (Kn : Int) (some ⟨gL, offL, none⟩) capC us (tA us i) (tB us i) W hn2 ((U8.out.below hb (Nat.le_refl _)).wide hb.size)
    rw [HHB.out] at this; exact this
  have TOK : Hid (∀ (W : World) (gB cB : Nat), Below w8.heap.size w8 W → W.ownsRow w8.heap.size 35 2 (.slice (some ⟨gB, 0, none⟩) (i + (us.length - (i + 1))) cB) (i + (us.length - (i + 1))) (tlist [] ++ tlist (us.take i) ++ tlist (us.drop (i + 1))) → Calls Tryd.prog 11 #[.agg #[.int .i64 (Kn : Int), .slice ao ts.length cap'], .slice (some ⟨gB, 0, none⟩) (i + (us.length - (i + 1))) cB] W fun e w' => e = .returned (.bool false) ∧ Below W.heap.size W w') := fun W gB cB hb h2 => by
    have e : tlist [] ++ tlist (us.take i) ++ tlist (us.drop (i + 1)) = tlist zs := by rw [HZS.out, tlist_app]; rfl
    rw [e] at h2
    have := implTreeOk_any (Kn : Int) ao (some ⟨gB, 0, none⟩) cap' cB ts zs W hn (N8.out.next hb).ties hzn (own_tl h2 HZL.out) (T8.out.below hb T8.out.2)
    rw [HLE.out, HZL.out] at this; exact this
  have HT1 : Hid ((tlist (us.take i)).length = i * 2) := by
    have : (us.take i).length = i := by rw [List.length_take]; omega
    rw [tlist_len, this]; exact hideP rfl
  have HT2 : Hid ((tlist (us.drop (i + 1))).length = (us.length - (i + 1)) * 2) := by
    rw [tlist_len, List.length_drop]; exact hideP rfl
  have PC1 : Hid (∀ W', Below w8.heap.size w8 W' → ∀ j u, (tlist (us.take i))[j]? = some u → W'.cell? ((⟨gL, offL, none⟩ : Addr).add j) = some u) := fun W' hb => by
    have := (U8.out.below hb (Nat.le_refl _)).piece 0 i (by omega)
    simpa using this
  obtain ⟨ad, had, hpc2⟩ : ∃ ad : Addr, (∀ inst : Decidable (capC = i + 1), @ite (Option Addr) (capC = i + 1) inst (some ⟨gL, offL, none⟩) (some ⟨gL, offL + (i + 1) * 2, none⟩) = some ad) ∧ ∀ W', Below w8.heap.size w8 W' → ∀ j u, (tlist (us.drop (i + 1)))[j]? = some u → W'.cell? (ad.add j) = some u := by
    by_cases hcc : capC = i + 1
    · refine ⟨⟨gL, offL, none⟩, fun _ => if_pos hcc, fun W' hb j u hj => ?_⟩
      have h0 : (tlist (us.drop (i + 1))).length = 0 := by rw [HT2.out]; omega
      rw [List.length_eq_zero_iff.1 h0] at hj
      simp at hj
    · refine ⟨⟨gL, offL + (i + 1) * 2, none⟩, fun _ => if_neg hcc, fun W' hb => ?_⟩
      have := (U8.out.below hb (Nat.le_refl _)).piece (i + 1) (us.length - (i + 1)) (by omega)
      rwa [List.take_of_length_le (by simp)] at this
  have PC2 := hideP hpc2
  have HAD := hideP had
  have B0 : Hid (Below w8.heap.size w8 w8.drew) := (Below.refl _ _).drew
  have B1 : Hid (Below w8.heap.size w8 ((w8.alloc (.cells #[] 35)).drew)) := ((Below.refl _ _).alloc (Nat.le_refl _) _).drew
  have EMP : Hid (((w8.alloc (.cells #[] 35)).drew).ownsRow w8.heap.size 35 2 (.slice (some ⟨w8.heap.size, 0, none⟩) 0 0) 0 (tlist [])) := own_empty w8 35 w8.heap.size (Nat.le_refl _)
  have hcp1 : (i : Int) ≤ (capC : Int) := by omega
  have hcp2 : (us.length : Int) ≤ (capC : Int) := by omega
  have hcp4 : i ≤ capC := by omega
  have hw1 : IntKind.i64.wrap ((i : Int) + 1) = (i : Int) + 1 := by
    have hall : ∀ t : Fin 64, IntKind.i64.wrap ((t.val : Int) + 1) = (t.val : Int) + 1 := by decide
    exact hall ⟨i, by omega⟩
  have hcp6 : (0 : Int) ≤ (i : Int) + 1 := by omega
  have hcp7 : (i : Int) + 1 ≤ (capC : Int) := by omega
  have hcp5 : i + 1 ≤ us.length := by omega
  clear hzs hzl hlesB hpc2 had
  go_wp2
  go_region_held3 (fun w' => w'.cell? ⟨w1.heap.size, 0, none⟩ = some (.int .i64 (Kn : Int)) ∧ w'.cell? ⟨w1.heap.size, 1, none⟩ = some (.slice ao ts.length cap') ∧ w'.cell? ⟨w3.heap.size, 0, none⟩ = some (.int .i64 (Kn : Int)) ∧ w'.cell? ⟨w3.heap.size, 1, none⟩ = some (.slice (some ⟨gL, offL, none⟩) us.length capC) ∧ w'.cell? ⟨gL, offL + i * 2, none⟩ = some (.int .i64 (tA us i)) ∧ w'.cell? ⟨gL, offL + i * 2 + 1, none⟩ = some (.int .i64 (tB us i))) (first | exact HELD.out _ bI.out | exact HELD.out _ bT.out | exact HELD.out _ bB.out | exact HELD.out _ bA.out | exact HELD.out _ B1.out | exact HELD.out _ B0.out) (first | (go_at_call 16; (with_reducible refine (BIS.out _ bT.out).mono ?_); rintro e wI ⟨rfl, hbI⟩; have bI : Hid (Below w8.heap.size w8 wI) := hideP (bT.out.trans (hbI.mono bT.out.size)); clear hbI; go_simp) | (go_at_call 11; refine (TOK.out _ gB cB bB.out OB.out).mono ?_; rintro e wT ⟨rfl, hbT⟩; have bT : Hid (Below w8.heap.size w8 wT) := hideP (bB.out.trans (hbT.mono bB.out.size)); clear hbT; go_simp) | (refine step_appn (by rfl) _ _ _ (by rfl) w8.heap.size 35 i0 _ 2 16 Tryd.underlying23 HI.out.1 HI.out.2.1 HI.out.2.2.1 HI.out.2.2.2 rfl (by decide) (.slice (some ⟨gA, 0, none⟩) i cA) i (tlist [] ++ tlist (us.take i)) (by rfl) (by simp) OA.out (i + (us.length - (i + 1))) ad (us.length - (i + 1)) (capC - (i + 1)) rfl (tlist (us.drop (i + 1))) (by exact congrArg (fun z => Value.slice z (us.length - (i + 1)) (capC - (i + 1))) (HAD.out _)) HT2.out (PC2.out _ bA.out) (tlist_one _) (by unfold maxLen; omega) (by omega) bA.out.size ?_; intro gB cB wB hownB hgrowB _; have OB := hideP hownB; have bB : Hid (Below w8.heap.size w8 wB) := hideP (bA.out.grown hgrowB bA.out.size (own_ge OA.out)); clear hownB hgrowB) | (refine step_appn (by rfl) _ _ _ (by rfl) w8.heap.size 35 i0 _ 2 16 Tryd.underlying23 HI.out.1 HI.out.2.1 HI.out.2.2.1 HI.out.2.2.2 rfl (by decide) (.slice (some ⟨w8.heap.size, 0, none⟩) 0 0) 0 (tlist []) (by rfl) (by simp) (EMP.out) i ⟨gL, offL, none⟩ i _ (Nat.zero_add _) (tlist (us.take i)) (by rfl) HT1.out (PC1.out _ B1.out) (tlist_one _) (by unfold maxLen; omega) (by omega) B1.out.size ?_; intro gA cA wA hownA hgrowA _; have OA := hideP hownA; have bA : Hid (Below w8.heap.size w8 wA) := hideP (B1.out.grown hgrowA B1.out.size (own_ge EMP.out)); clear hownA hgrowA) | fail)
  all_goals (have HBF : Hid (Below w.heap.size w wI) := hideP (HB8.out.trans (bI.out.mono HB8.out.size)); go_wp2 <;> (go_ret; exact ⟨rfl, HBF.out⟩))

end Go.Proofs.YtloicmngoaccoaaDoor
