/- What laws.FnFlowOk, FnFlowTop draw. -/
import Derived.Test.YtljnjpjnadlmhaaPartWRowsI
import Derived.Test.YtljnjpjnadlmhaaWPairs
import Derived.Test.YtljnjpjnadlmhaaPartWOnS
import Derived.Test.YtljnjpjnadlmhaaPartWPickF
import Derived.Test.YtljnjpjnadlmhaaWFlowOkS
import Derived.Test.YtljnjpjnadlmhaaPartWRange
namespace Go.Proofs.Ytljnjpjnadlmhaa
open Go.RowKit
set_option linter.unusedVariables false

theorem wpList_appn {P : Program} {w : World} {ops : Array Oper} {rest : List Oper} {o : Oper} {a : Act} {Q : Exit → Act → World → Prop} (hw : Region.wanted o (yielded ops a.tmps) = true) (s x : Operand) (t : TypeId)
    (ho : o.op = .call { callee := .builtin .append, args := #[s, x], argTypes := #[t, t] })
    (base : Nat) (e : TypeId) (i : TypeInfo) (z : Value) (size bytes : Nat) (ht : P.underlying t = some (.slice e)) (hi : P.info? e = some i) (hz : i.zero = some z)
    (hsize : i.size = size) (hby : i.bytes = bytes) (hzs : z.cells.size = size) (hsz : 0 < size)
    (v : Value) (n : Nat) (xs : List Value) (hs : a.eval s = v) (hv : v ≠ .slice none 0 0) (hown : w.ownsRow base e size v n xs)
    (r : Nat) (ad : Addr) (m c : Nat) (hnm : n + m = r) (news : List Value) (hx : a.eval x = .slice (some ad) m c) (hl : news.length = m * size) (hnews : ∀ j u, news[j]? = some u → w.cell? (ad.add j) = some u) (h1 : ∀ u ∈ news, u.oneCell' = true)
    (h63 : n + m ≤ maxLen) (hbytes : (n + m) * bytes ≤ 140737488355328) (hbase : base ≤ w.heap.size)
    (h : ∀ g cap w', w'.ownsRow base e size (.slice (some ⟨g, 0, none⟩) r cap) r (xs ++ news) → w.grownBy w' v.ownBlock → (some g = v.ownBlock ∨ g = w.heap.size) → wpList P ops Q rest (a.put o.dst (.slice (some ⟨g, 0, none⟩) r cap)) w') :
    wpList P ops Q (o :: rest) a w :=
  wpList_step fun K hK => step_appn hw s x t ho base e i z size bytes ht hi hz hsize hby hzs hsz v n xs hs hv hown r ad m c hnm news hx hl hnews h1 h63 hbytes hbase (fun g cap w' h1 h2 h3 => hK _ _ (h g cap w' h1 h2 h3))
theorem own_cells {w : World} {base g n cap : Nat} {e : TypeId} {vs : List Value} (h : w.ownsRow base e 1 (.slice (some ⟨g, 0, none⟩) n cap) n vs) : ∀ j u, vs[j]? = some u → w.cell? ((⟨g, 0, none⟩ : Addr).add j) = some u := by
  intro j u hu
  have hl := h.1
  have hj : j < n * 1 := by
    have := (List.getElem?_eq_some_iff.1 hu).1
    omega
  have hadd : (⟨g, 0, none⟩ : Addr).add j = ⟨g, j, none⟩ := by unfold Addr.add; split <;> simp_all
  rw [hadd, h.cellAt j hj]; exact hu
theorem own_len {w : World} {base n : Nat} {e : TypeId} {v : Value} {vs : List Value} (h : w.ownsRow base e 1 v n vs) : vs.length = n := by have := h.1; omega
theorem own_nx {w w' : World} {base n size : Nat} {e : TypeId} {v : Value} {vs : List Value} (h : w.ownsRow base e size v n vs) (hb : Below w.heap.size w w') : w'.ownsRow base e size v n vs := own_kept2 h (fun g hg => hb.block g hg)
/-- a row's room that is made, and what is put behind it, in either order -/
structure Rooms (w : World) (S g cap n : Nat) (vs : List Value) (u : Value) : Prop where
  bC : Below w.heap.size w (w.alloc (.cells #[] 30))
  bT : Below w.heap.size w (w.alloc (.cells #[u] 30))
  bCT : Below w.heap.size w ((w.alloc (.cells #[] 30)).alloc (.cells #[u] 30))
  bTC : Below w.heap.size w ((w.alloc (.cells #[u] 30)).alloc (.cells #[] 30))
  i1 : (w.alloc (.cells #[] 30)).ownsRow w.heap.size 30 1 (.slice (some ⟨w.heap.size, 0, none⟩) 0 0) 0 []
  i2 : ((w.alloc (.cells #[] 30)).alloc (.cells #[u] 30)).ownsRow w.heap.size 30 1 (.slice (some ⟨w.heap.size, 0, none⟩) 0 0) 0 []
  i3 : ((w.alloc (.cells #[u] 30)).alloc (.cells #[] 30)).ownsRow w.heap.size 30 1 (.slice (some ⟨w.heap.size + 1, 0, none⟩) 0 0) 0 []
  c1 : ∀ j x, vs[j]? = some x → (w.alloc (.cells #[] 30)).cell? ((⟨g, 0, none⟩ : Addr).add j) = some x
  c2 : ∀ j x, vs[j]? = some x → ((w.alloc (.cells #[] 30)).alloc (.cells #[u] 30)).cell? ((⟨g, 0, none⟩ : Addr).add j) = some x
  c3 : ∀ j x, vs[j]? = some x → ((w.alloc (.cells #[u] 30)).alloc (.cells #[] 30)).cell? ((⟨g, 0, none⟩ : Addr).add j) = some x
theorem Rooms.of {w : World} {S g cap n : Nat} {vs : List Value} (u : Value) (h : w.ownsRow S 30 1 (.slice (some ⟨g, 0, none⟩) n cap) n vs) : Rooms w S g cap n vs u := by
  have bC : Below w.heap.size w (w.alloc (.cells #[] 30)) := below_one _ _
  have bT : Below w.heap.size w (w.alloc (.cells #[u] 30)) := below_one _ _
  have bCT : Below w.heap.size w ((w.alloc (.cells #[] 30)).alloc (.cells #[u] 30)) := bC.alloc bC.size _
  have bTC : Below w.heap.size w ((w.alloc (.cells #[u] 30)).alloc (.cells #[] 30)) := bT.alloc bT.size _
  have i1 : (w.alloc (.cells #[] 30)).ownsRow w.heap.size 30 1 (.slice (some ⟨w.heap.size, 0, none⟩) 0 0) 0 [] := World.ownsRow_lit w #[] 0 (base := w.heap.size) (e := 30) (size := 1) (Nat.le_refl _) (by simp) rfl
  have i3 := World.ownsRow_lit (w.alloc (.cells #[u] 30)) #[] 0 (base := w.heap.size) (e := 30) (size := 1) (by simp) (by simp) rfl
  rw [World.size_alloc] at i3
  exact ⟨bC, bT, bCT, bTC, i1, i1.alloc _, i3, own_cells (own_nx h bC), own_cells (own_nx h bCT), own_cells (own_nx h bTC)⟩
theorem temp_behind {w wa : World} {u : Value} {t t' : TypeId} (h : ((w.alloc (.cells #[] t)).alloc (.cells #[u] t')).grownBy wa (some w.heap.size)) : wa.heap[w.heap.size + 1]? = some (.cells #[u] t' (0, 0)) := by
  refine (h.block (w.heap.size + 1) (by simp) (by simp)).trans ?_
  have := heap_alloc_new (w.alloc (.cells #[] t)) (.cells #[u] t')
  rw [World.size_alloc] at this
  exact this
theorem temp_ahead {w wa : World} {u : Value} {t t' : TypeId} (h : ((w.alloc (.cells #[u] t')).alloc (.cells #[] t)).grownBy wa (some (w.heap.size + 1))) : wa.heap[w.heap.size]? = some (.cells #[u] t' (0, 0)) :=
  (h.block w.heap.size (by simp; omega) (by simp)).trans ((Below.heap_alloc (w.alloc (.cells #[u] t')) (.cells #[] t) w.heap.size (by simp)).trans (heap_alloc_new w (.cells #[u] t')))
theorem specFlowOk_v (v : Bool) (K : Int) (ao bo : Option Addr) (cap cap2 n : Nat) (ts : List (Int × Int)) (xss : List (List Int)) (a b : Int) (w : World) (hn : ts.length ≤ 1099511627776) (ht : TiesIn w w.heap.size ao ts) (hl : xss.length ≤ 1099511627776) (hx : RowsI w w.heap.size bo xss) (hnn : xss.length = n) (h : flowB K ts a b xss = v) :
    Calls Try.prog 9 #[.agg #[.int .i64 K, .slice ao ts.length cap], .int .i64 a, .int .i64 b, .slice bo n cap2] w fun e w' => e = .returned (.bool v) ∧ Below w.heap.size w w' := by
  rw [← hnn, ← h]; exact specFlowOk_any K ao bo cap cap2 ts xss a b w hn ht hl hx
set_option maxHeartbeats 1600000 in
theorem drawFlowOk_any (bo : Option Addr) (n cap : Nat) (w : World) (hb : BytesIn w bo n) (hnil : bo = none → n = 0 ∧ cap = 0) (hc : n ≤ cap) (hm : cap ≤ maxLen) :
    Calls Try.prog 7 #[.slice bo n cap] w fun e w' => ∃ K ao cap' ts a b co capC xss, e = .returned (.tuple #[.agg #[.int .i64 K, .slice ao ts.length cap'], .int .i64 a, .int .i64 b, .slice co xss.length capC]) ∧ xss.length ≤ capC ∧ DealtS w w' ao ts co xss := by
  obtain ⟨i1, hj, hy0, hy1, hy2⟩ := info_parts Try.infoRow2
  have HI : Hid (Try.prog.info? 30 = some i1 ∧ i1.zero = some (.slice none 0 0) ∧ i1.size = 1 ∧ i1.bytes = 24) := ⟨hj, hy0, hy1, hy2⟩
  clear hj hy0 hy1 hy2
  go_enter Try.func7, Try.ntmps7
  go_wp2_with fail
  refine (l6Open_any bo n cap _ (fun i hi => by obtain ⟨b, off, v, e, h1, h2, h3⟩ := hb i hi; exact ⟨b, off, v, e, Nat.lt_of_lt_of_le h1 (by simp), by rw [World.cell?_alloc_past _ _ _ h1]; exact h2, h3⟩) hnil hc hm).mono ?_
  rintro e w1 ⟨rfl, ⟨bn, bcap, rd⟩, hb1⟩
  have hb1' : Below (w.heap.size + 1) (w.alloc (.cells #[.int .i64 0, .slice none 0 0] 25)) w1 := by simpa using hb1
  have C1 := hideP ((Cel.new w 0 (.slice none 0 0) 25).below hb1' (Nat.lt_succ_self _))
  have hB1 := hideP ((below_one w (.cells #[.int .i64 0, .slice none 0 0] 25)).trans (hb1'.mono (Nat.le_succ _)))
  have rd' : Rdr w1 (w.heap.size + 1) bo bn bcap 0 := by simpa using rd
  have hR := rd'.lt
  clear hb1 hb1' rd
  obtain ⟨R, hRR⟩ : ∃ R, R = w.heap.size + 1 := ⟨_, rfl⟩
  have hwR : w.heap.size < R := by omega
  rw [← hRR] at rd' hR
  simp only [World.size_alloc] at *
  rw [← hRR]
  clear hRR
  go_wp2_with fail
  refine (l71Pair_any R bo bn bcap 0 _ rd' (by omega)).mono ?_
  rintro e w2 ⟨K, ao, cap', ts, a, b, rfl, _, _, _, _, ⟨p, hp, rd2⟩, tr2, ho2, hk0, hk9, hlen⟩
  have hn : ts.length ≤ 1099511627776 := by omega
  have S2 : ∀ t, Hid (Tst w (w2.alloc (.cells #[.int .i64 K, .slice ao ts.length cap'] t)) R bo bn bcap p w2.heap.size K ao cap' ts) := fun t => by
    have hRw := tr2.size
    have h0 := rd2.lt
    refine ⟨rd2.next (below_one _ _), (C1.out.turn' tr2 hwR).nextC (below_one _ _), by simp, by simp, h0, by simp, (ho2.tiesUp.down hR).next (below_one _ _), (hB1.out.trans (tr2.toBelow (Nat.le_of_lt hwR) (Nat.le_of_lt hR))).trans ((below_one w2 _).mono (by have := hB1.out.size; omega)), hwR, fun b off e hl => ?_⟩
    rcases ho2 with ⟨h1, _⟩ | ⟨g, e2, _, h2, _⟩
    · omega
    · rw [e2] at e; simp only [Option.some.injEq, Addr.mk.injEq] at e; omega
  clear rd2 tr2 ho2 C1 hB1 rd'
  go_wp2_with fail
  refine (specAll_any K ao cap' ts a b _ hn (S2 _).out.tN.in).mono ?_
  rintro e w3 ⟨Gb, Cb, gs, cs, rfl, hacc, hb3⟩
  have S3 := hideP ((S2 _).out.next hb3)
  have hlow : R < w2.heap.size := (S2 25).out.hA
  obtain ⟨A, hAe⟩ : ∃ A, A = w2.heap.size := ⟨_, rfl⟩
  have hsz2 : ∀ t : TypeId, (w2.alloc (.cells #[.int .i64 K, .slice ao ts.length cap'] t)).heap.size = A + 1 := fun t => by simp [hAe]
  rw [hsz2] at hacc
  obtain ⟨L, hL⟩ : ∃ L, L = (waysB K ts a b).length := ⟨_, rfl⟩
  have ACC : Hid (∀ i, i < L → ∃ u xs, w3.cell? ⟨Gb, i, none⟩ = some u ∧ Good w3 (A + 1) w3.heap.size (fun k => k = R) u xs) := hideP (fun i hi => by
    obtain ⟨u, h1, h2⟩ := hacc.good (bad := fun k => k = R) (i := i) (fun b hb e => by omega) (by omega)
    exact ⟨u, _, h1, h2⟩)
  obtain ⟨hG1, hG2⟩ := hacc.lt
  rw [← hAe] at S3 hlow ⊢
  rw [← hL]
  obtain ⟨S, hS⟩ : ∃ S, S = w3.heap.size := ⟨_, rfl⟩
  rw [← hS] at ACC hG2
  clear hb3 S2 hacc hAe hsz2 hL
  have bx := below_one w3 (.cells #[] 30)
  have S4 := hideP (S3.out.next bx)
  have hAS : A < S := by have := S3.out.lt; omega
  have OW : Hid ((w3.alloc (.cells #[] 30)).ownsRow S 30 1 (.slice (some ⟨S, 0, none⟩) 0 0) 0 []) := hideP (by have := World.ownsRow_lit w3 #[] 0 (base := S) (e := 30) (size := 1) (by omega) (by simp) rfl; rw [← hS] at this; exact this)
  have ST4 : Hid (Stay S (fun k => k = R) w3 (w3.alloc (.cells #[] 30))) := hideP (by have := (Stay.first w3 (fun k => k = R)).next bx; rw [← hS] at this; exact this)
  clear S3 bx
  go_wp2_with fail
  refine (pick_any R bo bn bcap p 4 _ S4.out.rd (by omega)).mono ?_
  rintro e w5 ⟨z, rfl, z0, z1, rd5, tr5⟩
  have z4 := z1 (by omega)
  have S5 := hideP (S4.out.turn tr5 rd5)
  have O5 : Hid (w5.ownsRow S 30 1 (.slice (some ⟨S, 0, none⟩) 0 0) 0 []) := own_same OW.out (fun g hg hgl => tr5.block g hgl (Or.inr (by omega)))
  have ST5 := hideP (ST4.out.turn tr5 rfl)
  clear rd5 tr5 z1 S4 OW ST4
  obtain ⟨zn, rfl⟩ : ∃ k : Nat, z = (k : Int) := ⟨z.toNat, by omega⟩
  go_wp2
  rw [← hS]
  clear hS
  go_loopw [11, 12] (fun v i wr => ∃ (k p' g capv : Nat) (vs : List Value) (xss : List (List Int)), k ≤ 3 ∧ i = .int .i64 (k : Int) ∧ v = .slice (some ⟨g, 0, none⟩) vs.length capv ∧ vs.length + k ≤ 3 ∧ p' + 2 * k ≤ 90 ∧ wr.ownsRow S 30 1 (.slice (some ⟨g, 0, none⟩) vs.length capv) vs.length vs ∧ GoodR w3 (A + 1) S (fun k => k = R) vs xss ∧ Stay S (fun k => k = R) w3 wr ∧ Tst w wr R bo bn bcap p' A K ao cap' ts)
    (fun _ i _ => (intOf i).toNat)
  case atStart => exact ⟨zn, p + 1, S, 0, [], [], by omega, rfl, rfl, by simp; omega, by omega, O5.out, GoodR.nil _ _ _ _, ST5.out, S5.out⟩
  case round =>
    clear S5 O5 ST5
    obtain ⟨k, p', g, capv, vs, xss, hk, rfl, rfl, hvk, hpk, hO, hG, hST, hT⟩ := hrel
    have HO := hideP hO
    have HG := hideP hG
    have HST := hideP hST
    have HS := hideP hT
    have HXL : Hid (vs.length = xss.length) := hideP hG.1
    clear hO hG hST hT
    by_cases hgo : 0 < k ∧ 0 < L
    · obtain ⟨hk1, hL1⟩ := hgo
      have hk1' : (0 : Int) < (k : Int) := by omega
      have hL1' : (0 : Int) < (L : Int) := by omega
      go_wp2_with fail
      refine (pick_any R bo bn bcap p' L _ HS.out.rd (by omega)).mono ?_
      rintro e w6 ⟨y, rfl, y0, y1, rd6, tr6⟩
      have y2 := y1 (by omega)
      obtain ⟨yn, rfl⟩ : ∃ k : Nat, y = (k : Int) := ⟨y.toNat, by omega⟩
      have hyL : yn < L := by omega
      have S6 := hideP (HS.out.turn tr6 rd6)
      have ST6 := hideP (HST.out.turn tr6 rfl)
      have O6 : Hid (w6.ownsRow S 30 1 (.slice (some ⟨g, 0, none⟩) vs.length capv) vs.length vs) := own_same HO.out (fun g hg hgl => tr6.block g hgl (Or.inr (by omega)))
      obtain ⟨u, xs, hu, hgu⟩ := ACC.out yn hyL
      have HGU := hideP hgu
      have cu : w6.cell? ⟨Gb, yn, none⟩ = some u := (World.cell?_of_block (a := ⟨Gb, yn, none⟩) (ST6.out.same Gb hG2 (by show ¬ Gb = R; omega))).trans hu
      have hyL0 : (0 : Int) ≤ (yn : Int) := by omega
      have hyL1 : (yn : Int) < (L : Int) := by omega
      obtain ⟨bo2, cap2, rfl, _⟩ := hgu
      clear rd6 tr6 y1 HS HST HO hu
      have hvs : vs.length ≤ 3 := by omega
      have HU1 : Hid (∀ x ∈ [Value.slice bo2 xs.length cap2], x.oneCell' = true) := hideP (fun x hx => by simp at hx; rw [hx]; exact HGU.out.one)
      obtain ⟨q, q0, q1, hPF⟩ := pick_fix R bo bn bcap (p' + 1) 3 w6 S6.out.rd (by omega)
      have PF := hideP hPF
      have q3 := q1 (by omega)
      have n0 := S6.out.n0
      have n1 := S6.out.n1
      have S6d := hideP (S6.out.next (Below.refl _ _).drew)
      have ST6d := hideP (ST6.out.next (Below.refl _ _).drew)
      have O6d : Hid (w6.drew.ownsRow S 30 1 (.slice (some ⟨g, 0, none⟩) vs.length capv) vs.length vs) := hideP O6.out.drew
      clear q1 hPF S6 ST6 O6
      go_wp2_with fail
      clear cu
      rcases (show q = 1 ∨ q = 2 ∨ q = 0 by omega) with hq | hq | hq
      · obtain rfl : q = 1 := by omega
        have hxn : (xss ++ [xs]).length = vs.length + 1 := by rw [List.length_append, ← HXL.out]; rfl
        have hlx : (xss ++ [xs]).length ≤ 1099511627776 := by omega
        have HVS := hideP HG.out.one
        obtain ⟨fv, hfv⟩ : ∃ fv, flowB K ts a b (xss ++ [xs]) = fv := ⟨_, rfl⟩
        have HFV := hideP hfv
        clear hfv
        cases fv with
        | true =>
          go_region_held3 (fun w' => w'.cell? ⟨A, 0, none⟩ = some (.int .i64 K) ∧ w'.cell? ⟨A, 1, none⟩ = some (.slice ao ts.length cap')) (first | exact HELD.out _ BF.out | exact HELD.out _ BZ.out | exact HELD.out _ BA.out | exact HELD.out _ (BA.out.alloc BA.out.size _) | exact HELD.out _ MM.out.bCT | exact HELD.out _ MM.out.bTC | exact HELD.out _ MM.out.bC | exact HELD.out _ MM.out.bT | exact HELD.out _ (Below.refl _ _) | exact ⟨n0, n1⟩) (first | (go_at_call 26; refine (PF.out _ S6d.out.rd (fun _ _ => rfl)).mono ?_; rintro e w7 ⟨rfl, rd7, tr7⟩; have S7 := hideP (S6d.out.turn tr7 rd7); have ST7 := hideP (ST6d.out.turn tr7 rfl); have O7 : Hid (w7.ownsRow S 30 1 (.slice (some ⟨g, 0, none⟩) vs.length capv) vs.length vs) := own_same O6d.out (fun g hg hgl => tr7.block g hgl (Or.inr (by omega))); have MM := hideP (Rooms.of (.slice bo2 xs.length cap2) O7.out); have HELD : Hid (∀ W, Below w7.heap.size w7 W → W.cell? ⟨A, 0, none⟩ = some (.int .i64 K) ∧ W.cell? ⟨A, 1, none⟩ = some (.slice ao ts.length cap')) := hideP (fun W hb => ⟨(S7.out.next hb).n0, (S7.out.next hb).n1⟩); clear rd7 tr7) | (refine step_appn (by rfl) _ _ _ (by rfl) w7.heap.size 30 i1 (.slice none 0 0) 1 24 Try.underlying26 HI.out.1 HI.out.2.1 HI.out.2.2.1 HI.out.2.2.2 rfl (by decide) (.slice (some ⟨w7.heap.size, 0, none⟩) 0 0) 0 [] (by rfl) (by simp) (by first | exact MM.out.i1 | exact MM.out.i2) vs.length ⟨g, 0, none⟩ vs.length capv (Nat.zero_add _) vs (by rfl) (Nat.mul_one _).symm (by first | exact MM.out.c1 | exact MM.out.c2 | exact MM.out.c3) HVS.out (by unfold maxLen; omega) (by omega) (by first | exact MM.out.bC.size | exact MM.out.bCT.size | exact MM.out.bTC.size) ?_; intro g8 c8 wa h8 hg8 hh8; have H8 := hideP h8; have BA : Hid (Below w7.heap.size w7 wa) := (by first | exact hideP (MM.out.bCT.grown hg8 MM.out.bCT.size (by intro k e; simp [Value.ownBlock] at e; omega)) | exact hideP (MM.out.bTC.grown hg8 MM.out.bTC.size (by intro k e; simp [Value.ownBlock] at e; omega)) | exact hideP (MM.out.bC.grown hg8 MM.out.bC.size (by intro k e; simp [Value.ownBlock] at e; omega))); (first | (have TK : Hid (wa.heap[w7.heap.size + 1]? = some (.cells #[.slice bo2 xs.length cap2] 30 (0, 0))) := hideP (temp_behind hg8)) | (have TK : Hid (wa.heap[w7.heap.size]? = some (.cells #[.slice bo2 xs.length cap2] 30 (0, 0))) := hideP (temp_ahead hg8)) | (have TK : Hid True := trivial)); clear h8 hg8 hh8) | (refine step_appn (by rfl) _ _ _ (by rfl) w7.heap.size 30 i1 (.slice none 0 0) 1 24 Try.underlying26 HI.out.1 HI.out.2.1 HI.out.2.2.1 HI.out.2.2.2 rfl (by decide) (.slice (some ⟨w7.heap.size + 1, 0, none⟩) 0 0) 0 [] (by rfl) (by simp) MM.out.i3 vs.length ⟨g, 0, none⟩ vs.length capv (Nat.zero_add _) vs (by rfl) (Nat.mul_one _).symm (by first | exact MM.out.c1 | exact MM.out.c2 | exact MM.out.c3) HVS.out (by unfold maxLen; omega) (by omega) (by first | exact MM.out.bC.size | exact MM.out.bCT.size | exact MM.out.bTC.size) ?_; intro g8 c8 wa h8 hg8 hh8; have H8 := hideP h8; have BA : Hid (Below w7.heap.size w7 wa) := (by first | exact hideP (MM.out.bCT.grown hg8 MM.out.bCT.size (by intro k e; simp [Value.ownBlock] at e; omega)) | exact hideP (MM.out.bTC.grown hg8 MM.out.bTC.size (by intro k e; simp [Value.ownBlock] at e; omega)) | exact hideP (MM.out.bC.grown hg8 MM.out.bC.size (by intro k e; simp [Value.ownBlock] at e; omega))); (first | (have TK : Hid (wa.heap[w7.heap.size + 1]? = some (.cells #[.slice bo2 xs.length cap2] 30 (0, 0))) := hideP (temp_behind hg8)) | (have TK : Hid (wa.heap[w7.heap.size]? = some (.cells #[.slice bo2 xs.length cap2] 30 (0, 0))) := hideP (temp_ahead hg8)) | (have TK : Hid True := trivial)); clear h8 hg8 hh8) | (refine step_appn (by rfl) _ _ _ (by rfl) w7.heap.size 30 i1 (.slice none 0 0) 1 24 Try.underlying26 HI.out.1 HI.out.2.1 HI.out.2.2.1 HI.out.2.2.2 rfl (by decide) (.slice (some ⟨g8, 0, none⟩) vs.length c8) vs.length vs (by rfl) (by simp) (by first | exact H8.out | exact H8.out.alloc _) (vs.length + 1) ⟨_, 0, none⟩ 1 1 rfl [.slice bo2 xs.length cap2] (by rfl) rfl (by first | exact World.news_of_block (cs := #[.slice bo2 xs.length cap2]) (t := 30) (fr := (0, 0)) TK.out | exact World.news_of_block (cs := #[.slice bo2 xs.length cap2]) (t := 30) (fr := (0, 0)) (heap_alloc_new wa _)) HU1.out (by unfold maxLen; omega) (by omega) (by first | exact BA.out.size | exact (BA.out.alloc BA.out.size _).size) ?_; intro gz cz wz hz hgz hhz; have BZ : Hid (Below w7.heap.size w7 wz) := (by first | exact hideP (BA.out.grown hgz BA.out.size (own_ge H8.out)) | exact hideP ((BA.out.alloc BA.out.size _).grown hgz (BA.out.alloc BA.out.size _).size (own_ge H8.out))); have RZ : Hid (RowsI wz wz.heap.size (some ⟨gz, 0, none⟩) (xss ++ [xs])) := hideP ((HG.out.snoc HGU.out).rowsI (ST7.out.next BZ.out) hz); clear hz hgz hhz) | (go_at_call 9; refine (specFlowOk_v true K ao _ cap' cz (vs.length + 1) ts (xss ++ [xs]) a b _ hn (S7.out.next BZ.out).tN.in hlx RZ.out hxn HFV.out).mono ?_; rintro e wf ⟨rfl, hbf⟩; have BF := hideP (BZ.out.trans (hbf.mono BZ.out.size)); clear hbf))
          all_goals
            have S9 := hideP (S7.out.next BF.out)
            have ST9 := hideP (ST7.out.next BF.out)
            have O9 := hideP (own_nx O7.out BF.out)
            have hSw := ST9.out.size
            clear S7 ST7 O7 MM HELD H8 BA TK BZ RZ BF
            go_wp2_with (at_builtin; refine wpList_append_own _ rfl _ _ 26 rfl S 30 i1 (.slice none 0 0) 1 24 Try.underlying26 HI.out.1 HI.out.2.1 HI.out.2.2.1 HI.out.2.2.2 rfl (by decide) _ vs.length vs rfl (O9.out.alloc _) ⟨_, 0, none⟩ 1 1 [.slice bo2 xs.length cap2] rfl rfl (World.news_of_block (cs := #[.slice bo2 xs.length cap2]) (t := 30) (fr := (0, 0)) (heap_alloc_new wf _)) HU1.out (by unfold maxLen; omega) (by omega) (by simp; omega) ?_)
            intro v9 wb hown1 hgrow _
            obtain ⟨gN, cN, rfl, hgN, _⟩ := hown1.form (Nat.succ_pos _)
            have S8 := hideP (S9.out.grown (below_one _ _) hgrow (fun k e => by have := own_ge O9.out k e; omega))
            have ST8 := hideP (ST9.out.grown (below_one _ _) hgrow (fun k e => Or.inl (own_ge O9.out k e)))
            have G8 := hideP (HG.out.snoc HGU.out)
            have hl8 : (vs ++ [Value.slice bo2 xs.length cap2]).length = vs.length + 1 := by simp
            have O8 : Hid (wb.ownsRow S 30 1 (.slice (some ⟨gN, 0, none⟩) (vs ++ [Value.slice bo2 xs.length cap2]).length cN) (vs ++ [Value.slice bo2 xs.length cap2]).length (vs ++ [Value.slice bo2 xs.length cap2])) := hideP (by rw [hl8]; exact hown1)
            clear hown1 hgrow
            go_wp2
            go_roundw
            case rel => exact ⟨k - 1, p' + 2, gN, cN, vs ++ [.slice bo2 xs.length cap2], xss ++ [xs], by omega, by go_num, by rw [hl8], by rw [hl8]; omega, by omega, O8.out, G8.out, ST8.out, S8.out⟩
            case measure => (simp [intOf] <;> omega)
        | false =>
          go_region_held3 (fun w' => w'.cell? ⟨A, 0, none⟩ = some (.int .i64 K) ∧ w'.cell? ⟨A, 1, none⟩ = some (.slice ao ts.length cap')) (first | exact HELD.out _ BF.out | exact HELD.out _ BZ.out | exact HELD.out _ BA.out | exact HELD.out _ (BA.out.alloc BA.out.size _) | exact HELD.out _ MM.out.bCT | exact HELD.out _ MM.out.bTC | exact HELD.out _ MM.out.bC | exact HELD.out _ MM.out.bT | exact HELD.out _ (Below.refl _ _) | exact ⟨n0, n1⟩) (first | (go_at_call 26; refine (PF.out _ S6d.out.rd (fun _ _ => rfl)).mono ?_; rintro e w7 ⟨rfl, rd7, tr7⟩; have S7 := hideP (S6d.out.turn tr7 rd7); have ST7 := hideP (ST6d.out.turn tr7 rfl); have O7 : Hid (w7.ownsRow S 30 1 (.slice (some ⟨g, 0, none⟩) vs.length capv) vs.length vs) := own_same O6d.out (fun g hg hgl => tr7.block g hgl (Or.inr (by omega))); have MM := hideP (Rooms.of (.slice bo2 xs.length cap2) O7.out); have HELD : Hid (∀ W, Below w7.heap.size w7 W → W.cell? ⟨A, 0, none⟩ = some (.int .i64 K) ∧ W.cell? ⟨A, 1, none⟩ = some (.slice ao ts.length cap')) := hideP (fun W hb => ⟨(S7.out.next hb).n0, (S7.out.next hb).n1⟩); clear rd7 tr7) | (refine step_appn (by rfl) _ _ _ (by rfl) w7.heap.size 30 i1 (.slice none 0 0) 1 24 Try.underlying26 HI.out.1 HI.out.2.1 HI.out.2.2.1 HI.out.2.2.2 rfl (by decide) (.slice (some ⟨w7.heap.size, 0, none⟩) 0 0) 0 [] (by rfl) (by simp) (by first | exact MM.out.i1 | exact MM.out.i2) vs.length ⟨g, 0, none⟩ vs.length capv (Nat.zero_add _) vs (by rfl) (Nat.mul_one _).symm (by first | exact MM.out.c1 | exact MM.out.c2 | exact MM.out.c3) HVS.out (by unfold maxLen; omega) (by omega) (by first | exact MM.out.bC.size | exact MM.out.bCT.size | exact MM.out.bTC.size) ?_; intro g8 c8 wa h8 hg8 hh8; have H8 := hideP h8; have BA : Hid (Below w7.heap.size w7 wa) := (by first | exact hideP (MM.out.bCT.grown hg8 MM.out.bCT.size (by intro k e; simp [Value.ownBlock] at e; omega)) | exact hideP (MM.out.bTC.grown hg8 MM.out.bTC.size (by intro k e; simp [Value.ownBlock] at e; omega)) | exact hideP (MM.out.bC.grown hg8 MM.out.bC.size (by intro k e; simp [Value.ownBlock] at e; omega))); (first | (have TK : Hid (wa.heap[w7.heap.size + 1]? = some (.cells #[.slice bo2 xs.length cap2] 30 (0, 0))) := hideP (temp_behind hg8)) | (have TK : Hid (wa.heap[w7.heap.size]? = some (.cells #[.slice bo2 xs.length cap2] 30 (0, 0))) := hideP (temp_ahead hg8)) | (have TK : Hid True := trivial)); clear h8 hg8 hh8) | (refine step_appn (by rfl) _ _ _ (by rfl) w7.heap.size 30 i1 (.slice none 0 0) 1 24 Try.underlying26 HI.out.1 HI.out.2.1 HI.out.2.2.1 HI.out.2.2.2 rfl (by decide) (.slice (some ⟨w7.heap.size + 1, 0, none⟩) 0 0) 0 [] (by rfl) (by simp) MM.out.i3 vs.length ⟨g, 0, none⟩ vs.length capv (Nat.zero_add _) vs (by rfl) (Nat.mul_one _).symm (by first | exact MM.out.c1 | exact MM.out.c2 | exact MM.out.c3) HVS.out (by unfold maxLen; omega) (by omega) (by first | exact MM.out.bC.size | exact MM.out.bCT.size | exact MM.out.bTC.size) ?_; intro g8 c8 wa h8 hg8 hh8; have H8 := hideP h8; have BA : Hid (Below w7.heap.size w7 wa) := (by first | exact hideP (MM.out.bCT.grown hg8 MM.out.bCT.size (by intro k e; simp [Value.ownBlock] at e; omega)) | exact hideP (MM.out.bTC.grown hg8 MM.out.bTC.size (by intro k e; simp [Value.ownBlock] at e; omega)) | exact hideP (MM.out.bC.grown hg8 MM.out.bC.size (by intro k e; simp [Value.ownBlock] at e; omega))); (first | (have TK : Hid (wa.heap[w7.heap.size + 1]? = some (.cells #[.slice bo2 xs.length cap2] 30 (0, 0))) := hideP (temp_behind hg8)) | (have TK : Hid (wa.heap[w7.heap.size]? = some (.cells #[.slice bo2 xs.length cap2] 30 (0, 0))) := hideP (temp_ahead hg8)) | (have TK : Hid True := trivial)); clear h8 hg8 hh8) | (refine step_appn (by rfl) _ _ _ (by rfl) w7.heap.size 30 i1 (.slice none 0 0) 1 24 Try.underlying26 HI.out.1 HI.out.2.1 HI.out.2.2.1 HI.out.2.2.2 rfl (by decide) (.slice (some ⟨g8, 0, none⟩) vs.length c8) vs.length vs (by rfl) (by simp) (by first | exact H8.out | exact H8.out.alloc _) (vs.length + 1) ⟨_, 0, none⟩ 1 1 rfl [.slice bo2 xs.length cap2] (by rfl) rfl (by first | exact World.news_of_block (cs := #[.slice bo2 xs.length cap2]) (t := 30) (fr := (0, 0)) TK.out | exact World.news_of_block (cs := #[.slice bo2 xs.length cap2]) (t := 30) (fr := (0, 0)) (heap_alloc_new wa _)) HU1.out (by unfold maxLen; omega) (by omega) (by first | exact BA.out.size | exact (BA.out.alloc BA.out.size _).size) ?_; intro gz cz wz hz hgz hhz; have BZ : Hid (Below w7.heap.size w7 wz) := (by first | exact hideP (BA.out.grown hgz BA.out.size (own_ge H8.out)) | exact hideP ((BA.out.alloc BA.out.size _).grown hgz (BA.out.alloc BA.out.size _).size (own_ge H8.out))); have RZ : Hid (RowsI wz wz.heap.size (some ⟨gz, 0, none⟩) (xss ++ [xs])) := hideP ((HG.out.snoc HGU.out).rowsI (ST7.out.next BZ.out) hz); clear hz hgz hhz) | (go_at_call 9; refine (specFlowOk_v false K ao _ cap' cz (vs.length + 1) ts (xss ++ [xs]) a b _ hn (S7.out.next BZ.out).tN.in hlx RZ.out hxn HFV.out).mono ?_; rintro e wf ⟨rfl, hbf⟩; have BF := hideP (BZ.out.trans (hbf.mono BZ.out.size)); clear hbf))
          all_goals
            have S9 := hideP (S7.out.next BF.out)
            have ST9 := hideP (ST7.out.next BF.out)
            have O9 := hideP (own_nx O7.out BF.out)
            have hSw := ST9.out.size
            clear S7 ST7 O7 MM HELD H8 BA TK BZ RZ BF
            go_wp2
            go_roundw
            case rel => exact ⟨k - 1, p' + 2, g, capv, vs, xss, by omega, by go_num, rfl, by omega, by omega, O9.out, HG.out, ST9.out, S9.out⟩
            case measure => (simp [intOf] <;> omega)
      · obtain rfl : q = 2 := by omega
        have hxn : (xss ++ [xs]).length = vs.length + 1 := by rw [List.length_append, ← HXL.out]; rfl
        have hlx : (xss ++ [xs]).length ≤ 1099511627776 := by omega
        have HVS := hideP HG.out.one
        obtain ⟨fv, hfv⟩ : ∃ fv, flowB K ts a b (xss ++ [xs]) = fv := ⟨_, rfl⟩
        have HFV := hideP hfv
        clear hfv
        cases fv with
        | true =>
          go_region_held3 (fun w' => w'.cell? ⟨A, 0, none⟩ = some (.int .i64 K) ∧ w'.cell? ⟨A, 1, none⟩ = some (.slice ao ts.length cap')) (first | exact HELD.out _ BF.out | exact HELD.out _ BZ.out | exact HELD.out _ BA.out | exact HELD.out _ (BA.out.alloc BA.out.size _) | exact HELD.out _ MM.out.bCT | exact HELD.out _ MM.out.bTC | exact HELD.out _ MM.out.bC | exact HELD.out _ MM.out.bT | exact HELD.out _ (Below.refl _ _) | exact ⟨n0, n1⟩) (first | (go_at_call 26; refine (PF.out _ S6d.out.rd (fun _ _ => rfl)).mono ?_; rintro e w7 ⟨rfl, rd7, tr7⟩; have S7 := hideP (S6d.out.turn tr7 rd7); have ST7 := hideP (ST6d.out.turn tr7 rfl); have O7 : Hid (w7.ownsRow S 30 1 (.slice (some ⟨g, 0, none⟩) vs.length capv) vs.length vs) := own_same O6d.out (fun g hg hgl => tr7.block g hgl (Or.inr (by omega))); have MM := hideP (Rooms.of (.slice bo2 xs.length cap2) O7.out); have HELD : Hid (∀ W, Below w7.heap.size w7 W → W.cell? ⟨A, 0, none⟩ = some (.int .i64 K) ∧ W.cell? ⟨A, 1, none⟩ = some (.slice ao ts.length cap')) := hideP (fun W hb => ⟨(S7.out.next hb).n0, (S7.out.next hb).n1⟩); clear rd7 tr7) | (refine step_appn (by rfl) _ _ _ (by rfl) w7.heap.size 30 i1 (.slice none 0 0) 1 24 Try.underlying26 HI.out.1 HI.out.2.1 HI.out.2.2.1 HI.out.2.2.2 rfl (by decide) (.slice (some ⟨w7.heap.size, 0, none⟩) 0 0) 0 [] (by rfl) (by simp) (by first | exact MM.out.i1 | exact MM.out.i2) vs.length ⟨g, 0, none⟩ vs.length capv (Nat.zero_add _) vs (by rfl) (Nat.mul_one _).symm (by first | exact MM.out.c1 | exact MM.out.c2 | exact MM.out.c3) HVS.out (by unfold maxLen; omega) (by omega) (by first | exact MM.out.bC.size | exact MM.out.bCT.size | exact MM.out.bTC.size) ?_; intro g8 c8 wa h8 hg8 hh8; have H8 := hideP h8; have BA : Hid (Below w7.heap.size w7 wa) := (by first | exact hideP (MM.out.bCT.grown hg8 MM.out.bCT.size (by intro k e; simp [Value.ownBlock] at e; omega)) | exact hideP (MM.out.bTC.grown hg8 MM.out.bTC.size (by intro k e; simp [Value.ownBlock] at e; omega)) | exact hideP (MM.out.bC.grown hg8 MM.out.bC.size (by intro k e; simp [Value.ownBlock] at e; omega))); (first | (have TK : Hid (wa.heap[w7.heap.size + 1]? = some (.cells #[.slice bo2 xs.length cap2] 30 (0, 0))) := hideP (temp_behind hg8)) | (have TK : Hid (wa.heap[w7.heap.size]? = some (.cells #[.slice bo2 xs.length cap2] 30 (0, 0))) := hideP (temp_ahead hg8)) | (have TK : Hid True := trivial)); clear h8 hg8 hh8) | (refine step_appn (by rfl) _ _ _ (by rfl) w7.heap.size 30 i1 (.slice none 0 0) 1 24 Try.underlying26 HI.out.1 HI.out.2.1 HI.out.2.2.1 HI.out.2.2.2 rfl (by decide) (.slice (some ⟨w7.heap.size + 1, 0, none⟩) 0 0) 0 [] (by rfl) (by simp) MM.out.i3 vs.length ⟨g, 0, none⟩ vs.length capv (Nat.zero_add _) vs (by rfl) (Nat.mul_one _).symm (by first | exact MM.out.c1 | exact MM.out.c2 | exact MM.out.c3) HVS.out (by unfold maxLen; omega) (by omega) (by first | exact MM.out.bC.size | exact MM.out.bCT.size | exact MM.out.bTC.size) ?_; intro g8 c8 wa h8 hg8 hh8; have H8 := hideP h8; have BA : Hid (Below w7.heap.size w7 wa) := (by first | exact hideP (MM.out.bCT.grown hg8 MM.out.bCT.size (by intro k e; simp [Value.ownBlock] at e; omega)) | exact hideP (MM.out.bTC.grown hg8 MM.out.bTC.size (by intro k e; simp [Value.ownBlock] at e; omega)) | exact hideP (MM.out.bC.grown hg8 MM.out.bC.size (by intro k e; simp [Value.ownBlock] at e; omega))); (first | (have TK : Hid (wa.heap[w7.heap.size + 1]? = some (.cells #[.slice bo2 xs.length cap2] 30 (0, 0))) := hideP (temp_behind hg8)) | (have TK : Hid (wa.heap[w7.heap.size]? = some (.cells #[.slice bo2 xs.length cap2] 30 (0, 0))) := hideP (temp_ahead hg8)) | (have TK : Hid True := trivial)); clear h8 hg8 hh8) | (refine step_appn (by rfl) _ _ _ (by rfl) w7.heap.size 30 i1 (.slice none 0 0) 1 24 Try.underlying26 HI.out.1 HI.out.2.1 HI.out.2.2.1 HI.out.2.2.2 rfl (by decide) (.slice (some ⟨g8, 0, none⟩) vs.length c8) vs.length vs (by rfl) (by simp) (by first | exact H8.out | exact H8.out.alloc _) (vs.length + 1) ⟨_, 0, none⟩ 1 1 rfl [.slice bo2 xs.length cap2] (by rfl) rfl (by first | exact World.news_of_block (cs := #[.slice bo2 xs.length cap2]) (t := 30) (fr := (0, 0)) TK.out | exact World.news_of_block (cs := #[.slice bo2 xs.length cap2]) (t := 30) (fr := (0, 0)) (heap_alloc_new wa _)) HU1.out (by unfold maxLen; omega) (by omega) (by first | exact BA.out.size | exact (BA.out.alloc BA.out.size _).size) ?_; intro gz cz wz hz hgz hhz; have BZ : Hid (Below w7.heap.size w7 wz) := (by first | exact hideP (BA.out.grown hgz BA.out.size (own_ge H8.out)) | exact hideP ((BA.out.alloc BA.out.size _).grown hgz (BA.out.alloc BA.out.size _).size (own_ge H8.out))); have RZ : Hid (RowsI wz wz.heap.size (some ⟨gz, 0, none⟩) (xss ++ [xs])) := hideP ((HG.out.snoc HGU.out).rowsI (ST7.out.next BZ.out) hz); clear hz hgz hhz) | (go_at_call 9; refine (specFlowOk_v true K ao _ cap' cz (vs.length + 1) ts (xss ++ [xs]) a b _ hn (S7.out.next BZ.out).tN.in hlx RZ.out hxn HFV.out).mono ?_; rintro e wf ⟨rfl, hbf⟩; have BF := hideP (BZ.out.trans (hbf.mono BZ.out.size)); clear hbf))
          all_goals
            have S9 := hideP (S7.out.next BF.out)
            have ST9 := hideP (ST7.out.next BF.out)
            have O9 := hideP (own_nx O7.out BF.out)
            have hSw := ST9.out.size
            clear S7 ST7 O7 MM HELD H8 BA TK BZ RZ BF
            go_wp2_with (at_builtin; refine wpList_append_own _ rfl _ _ 26 rfl S 30 i1 (.slice none 0 0) 1 24 Try.underlying26 HI.out.1 HI.out.2.1 HI.out.2.2.1 HI.out.2.2.2 rfl (by decide) _ vs.length vs rfl (O9.out.alloc _) ⟨_, 0, none⟩ 1 1 [.slice bo2 xs.length cap2] rfl rfl (World.news_of_block (cs := #[.slice bo2 xs.length cap2]) (t := 30) (fr := (0, 0)) (heap_alloc_new wf _)) HU1.out (by unfold maxLen; omega) (by omega) (by simp; omega) ?_)
            intro v9 wb hown1 hgrow _
            obtain ⟨gN, cN, rfl, hgN, _⟩ := hown1.form (Nat.succ_pos _)
            have S8 := hideP (S9.out.grown (below_one _ _) hgrow (fun k e => by have := own_ge O9.out k e; omega))
            have ST8 := hideP (ST9.out.grown (below_one _ _) hgrow (fun k e => Or.inl (own_ge O9.out k e)))
            have G8 := hideP (HG.out.snoc HGU.out)
            have hl8 : (vs ++ [Value.slice bo2 xs.length cap2]).length = vs.length + 1 := by simp
            have O8 : Hid (wb.ownsRow S 30 1 (.slice (some ⟨gN, 0, none⟩) (vs ++ [Value.slice bo2 xs.length cap2]).length cN) (vs ++ [Value.slice bo2 xs.length cap2]).length (vs ++ [Value.slice bo2 xs.length cap2])) := hideP (by rw [hl8]; exact hown1)
            clear hown1 hgrow
            go_wp2
            go_roundw
            case rel => exact ⟨k - 1, p' + 2, gN, cN, vs ++ [.slice bo2 xs.length cap2], xss ++ [xs], by omega, by go_num, by rw [hl8], by rw [hl8]; omega, by omega, O8.out, G8.out, ST8.out, S8.out⟩
            case measure => (simp [intOf] <;> omega)
        | false =>
          go_region_held3 (fun w' => w'.cell? ⟨A, 0, none⟩ = some (.int .i64 K) ∧ w'.cell? ⟨A, 1, none⟩ = some (.slice ao ts.length cap')) (first | exact HELD.out _ BF.out | exact HELD.out _ BZ.out | exact HELD.out _ BA.out | exact HELD.out _ (BA.out.alloc BA.out.size _) | exact HELD.out _ MM.out.bCT | exact HELD.out _ MM.out.bTC | exact HELD.out _ MM.out.bC | exact HELD.out _ MM.out.bT | exact HELD.out _ (Below.refl _ _) | exact ⟨n0, n1⟩) (first | (go_at_call 26; refine (PF.out _ S6d.out.rd (fun _ _ => rfl)).mono ?_; rintro e w7 ⟨rfl, rd7, tr7⟩; have S7 := hideP (S6d.out.turn tr7 rd7); have ST7 := hideP (ST6d.out.turn tr7 rfl); have O7 : Hid (w7.ownsRow S 30 1 (.slice (some ⟨g, 0, none⟩) vs.length capv) vs.length vs) := own_same O6d.out (fun g hg hgl => tr7.block g hgl (Or.inr (by omega))); have MM := hideP (Rooms.of (.slice bo2 xs.length cap2) O7.out); have HELD : Hid (∀ W, Below w7.heap.size w7 W → W.cell? ⟨A, 0, none⟩ = some (.int .i64 K) ∧ W.cell? ⟨A, 1, none⟩ = some (.slice ao ts.length cap')) := hideP (fun W hb => ⟨(S7.out.next hb).n0, (S7.out.next hb).n1⟩); clear rd7 tr7) | (refine step_appn (by rfl) _ _ _ (by rfl) w7.heap.size 30 i1 (.slice none 0 0) 1 24 Try.underlying26 HI.out.1 HI.out.2.1 HI.out.2.2.1 HI.out.2.2.2 rfl (by decide) (.slice (some ⟨w7.heap.size, 0, none⟩) 0 0) 0 [] (by rfl) (by simp) (by first | exact MM.out.i1 | exact MM.out.i2) vs.length ⟨g, 0, none⟩ vs.length capv (Nat.zero_add _) vs (by rfl) (Nat.mul_one _).symm (by first | exact MM.out.c1 | exact MM.out.c2 | exact MM.out.c3) HVS.out (by unfold maxLen; omega) (by omega) (by first | exact MM.out.bC.size | exact MM.out.bCT.size | exact MM.out.bTC.size) ?_; intro g8 c8 wa h8 hg8 hh8; have H8 := hideP h8; have BA : Hid (Below w7.heap.size w7 wa) := (by first | exact hideP (MM.out.bCT.grown hg8 MM.out.bCT.size (by intro k e; simp [Value.ownBlock] at e; omega)) | exact hideP (MM.out.bTC.grown hg8 MM.out.bTC.size (by intro k e; simp [Value.ownBlock] at e; omega)) | exact hideP (MM.out.bC.grown hg8 MM.out.bC.size (by intro k e; simp [Value.ownBlock] at e; omega))); (first | (have TK : Hid (wa.heap[w7.heap.size + 1]? = some (.cells #[.slice bo2 xs.length cap2] 30 (0, 0))) := hideP (temp_behind hg8)) | (have TK : Hid (wa.heap[w7.heap.size]? = some (.cells #[.slice bo2 xs.length cap2] 30 (0, 0))) := hideP (temp_ahead hg8)) | (have TK : Hid True := trivial)); clear h8 hg8 hh8) | (refine step_appn (by rfl) _ _ _ (by rfl) w7.heap.size 30 i1 (.slice none 0 0) 1 24 Try.underlying26 HI.out.1 HI.out.2.1 HI.out.2.2.1 HI.out.2.2.2 rfl (by decide) (.slice (some ⟨w7.heap.size + 1, 0, none⟩) 0 0) 0 [] (by rfl) (by simp) MM.out.i3 vs.length ⟨g, 0, none⟩ vs.length capv (Nat.zero_add _) vs (by rfl) (Nat.mul_one _).symm (by first | exact MM.out.c1 | exact MM.out.c2 | exact MM.out.c3) HVS.out (by unfold maxLen; omega) (by omega) (by first | exact MM.out.bC.size | exact MM.out.bCT.size | exact MM.out.bTC.size) ?_; intro g8 c8 wa h8 hg8 hh8; have H8 := hideP h8; have BA : Hid (Below w7.heap.size w7 wa) := (by first | exact hideP (MM.out.bCT.grown hg8 MM.out.bCT.size (by intro k e; simp [Value.ownBlock] at e; omega)) | exact hideP (MM.out.bTC.grown hg8 MM.out.bTC.size (by intro k e; simp [Value.ownBlock] at e; omega)) | exact hideP (MM.out.bC.grown hg8 MM.out.bC.size (by intro k e; simp [Value.ownBlock] at e; omega))); (first | (have TK : Hid (wa.heap[w7.heap.size + 1]? = some (.cells #[.slice bo2 xs.length cap2] 30 (0, 0))) := hideP (temp_behind hg8)) | (have TK : Hid (wa.heap[w7.heap.size]? = some (.cells #[.slice bo2 xs.length cap2] 30 (0, 0))) := hideP (temp_ahead hg8)) | (have TK : Hid True := trivial)); clear h8 hg8 hh8) | (refine step_appn (by rfl) _ _ _ (by rfl) w7.heap.size 30 i1 (.slice none 0 0) 1 24 Try.underlying26 HI.out.1 HI.out.2.1 HI.out.2.2.1 HI.out.2.2.2 rfl (by decide) (.slice (some ⟨g8, 0, none⟩) vs.length c8) vs.length vs (by rfl) (by simp) (by first | exact H8.out | exact H8.out.alloc _) (vs.length + 1) ⟨_, 0, none⟩ 1 1 rfl [.slice bo2 xs.length cap2] (by rfl) rfl (by first | exact World.news_of_block (cs := #[.slice bo2 xs.length cap2]) (t := 30) (fr := (0, 0)) TK.out | exact World.news_of_block (cs := #[.slice bo2 xs.length cap2]) (t := 30) (fr := (0, 0)) (heap_alloc_new wa _)) HU1.out (by unfold maxLen; omega) (by omega) (by first | exact BA.out.size | exact (BA.out.alloc BA.out.size _).size) ?_; intro gz cz wz hz hgz hhz; have BZ : Hid (Below w7.heap.size w7 wz) := (by first | exact hideP (BA.out.grown hgz BA.out.size (own_ge H8.out)) | exact hideP ((BA.out.alloc BA.out.size _).grown hgz (BA.out.alloc BA.out.size _).size (own_ge H8.out))); have RZ : Hid (RowsI wz wz.heap.size (some ⟨gz, 0, none⟩) (xss ++ [xs])) := hideP ((HG.out.snoc HGU.out).rowsI (ST7.out.next BZ.out) hz); clear hz hgz hhz) | (go_at_call 9; refine (specFlowOk_v false K ao _ cap' cz (vs.length + 1) ts (xss ++ [xs]) a b _ hn (S7.out.next BZ.out).tN.in hlx RZ.out hxn HFV.out).mono ?_; rintro e wf ⟨rfl, hbf⟩; have BF := hideP (BZ.out.trans (hbf.mono BZ.out.size)); clear hbf))
          all_goals
            have S9 := hideP (S7.out.next BF.out)
            have ST9 := hideP (ST7.out.next BF.out)
            have O9 := hideP (own_nx O7.out BF.out)
            have hSw := ST9.out.size
            clear S7 ST7 O7 MM HELD H8 BA TK BZ RZ BF
            go_wp2
            go_roundw
            case rel => exact ⟨k - 1, p' + 2, g, capv, vs, xss, by omega, by go_num, rfl, by omega, by omega, O9.out, HG.out, ST9.out, S9.out⟩
            case measure => (simp [intOf] <;> omega)
      · obtain rfl : q = 0 := by omega
        refine wp_region_held_drew (S := fun w' => w'.cell? ⟨A, 0, none⟩ = some (.int .i64 K) ∧ w'.cell? ⟨A, 1, none⟩ = some (.slice ao ts.length cap')) (by kernel_rfl) ⟨n0, n1⟩ (fun hHeld => ?_)
        refine wpAnyH_take (i := 0) (v := ?va0) rfl (by kernel_rfl) (by kernel_rfl) (by kernel_rfl) (fun _ _ _ h => h) (Or.inl ⟨by rfl, ?ha0⟩) (by assumption) ?_
        case ha0 => (intro w hSw; (try dsimp only at hSw); go_simp; (try with_reducible rfl))
        simp only [Act.put, List.setIfInBounds_toArray, List.set_cons_zero, List.set_cons_succ, List.getElem_toArray, List.getElem_cons_zero]
        refine wpAnyH_ready (rs := [1]) (by kernel_rfl) (by simp) ?_
        apply AllReadyH.cons
        case ho => rfl
        case hs => exact AllReadyH.nil
        case h =>
        intro K' hK
        go_simp
        go_at_call 26
        refine (PF.out _ S6d.out.rd (fun _ _ => rfl)).mono ?_
        rintro e w7 ⟨rfl, rd7, tr7⟩
        have S7 := hideP (S6d.out.turn tr7 rd7)
        have ST7 := hideP (ST6d.out.turn tr7 rfl)
        have O7 : Hid (w7.ownsRow S 30 1 (.slice (some ⟨g, 0, none⟩) vs.length capv) vs.length vs) := own_same O6d.out (fun g hg hgl => tr7.block g hgl (Or.inr (by omega)))
        refine hK.out _ _ ⟨S7.out.n0, S7.out.n1⟩ (fun hHeld2 => ?_)
        clear hHeld hK K'
        try simp only [Act.put, List.setIfInBounds_toArray, List.set_cons_zero, List.set_cons_succ, List.getElem_toArray, List.getElem_cons_zero, List.getElem_cons_succ]
        refine wpAnyH_take (i := 2) (v := ?va2) rfl (by kernel_rfl) (by kernel_rfl) (by kernel_rfl) (fun _ _ _ h => h) (Or.inl ⟨by rfl, ?ha2⟩) (by assumption) ?_
        case ha2 => (intro w hSw; (try dsimp only at hSw); go_simp; (try with_reducible rfl))
        simp only [Act.put, List.setIfInBounds_toArray, List.set_cons_zero, List.set_cons_succ, List.getElem_toArray, List.getElem_cons_zero, List.getElem_cons_succ]
        refine wpAnyH_take (i := 3) (v := ?va3) rfl (by kernel_rfl) (by kernel_rfl) (by kernel_rfl) (fun _ _ _ h => h) (Or.inl ⟨by rfl, ?ha3⟩) (by assumption) ?_
        case ha3 => (intro w hSw; (try dsimp only at hSw); go_simp; (try with_reducible rfl))
        simp only [Act.put, List.setIfInBounds_toArray, List.set_cons_zero, List.set_cons_succ, List.getElem_toArray, List.getElem_cons_zero, List.getElem_cons_succ]
        refine wpAnyH_take (i := 4) (v := undef) rfl (by kernel_rfl) (by kernel_rfl) (by kernel_rfl) (fun _ _ _ h => h) (Or.inr ⟨by kernel_rfl, rfl⟩) (by assumption) ?_
        simp only [Act.put, List.setIfInBounds_toArray, List.set_cons_zero, List.set_cons_succ, List.getElem_toArray, List.getElem_cons_zero, List.getElem_cons_succ]
        refine wpAnyH_take (i := 5) (v := undef) rfl (by kernel_rfl) (by kernel_rfl) (by kernel_rfl) (fun _ _ _ h => h) (Or.inr ⟨by kernel_rfl, rfl⟩) (by assumption) ?_
        simp only [Act.put, List.setIfInBounds_toArray, List.set_cons_zero, List.set_cons_succ, List.getElem_toArray, List.getElem_cons_zero, List.getElem_cons_succ]
        refine wpAnyH_take (i := 6) (v := undef) rfl (by kernel_rfl) (by kernel_rfl) (by kernel_rfl) (fun _ _ _ h => h) (Or.inr ⟨by kernel_rfl, rfl⟩) (by assumption) ?_
        simp only [Act.put, List.setIfInBounds_toArray, List.set_cons_zero, List.set_cons_succ, List.getElem_toArray, List.getElem_cons_zero, List.getElem_cons_succ]
        refine wpAnyH_take (i := 7) (v := undef) rfl (by kernel_rfl) (by kernel_rfl) (by kernel_rfl) (fun _ _ _ h => h) (Or.inr ⟨by kernel_rfl, rfl⟩) (by assumption) ?_
        simp only [Act.put, List.setIfInBounds_toArray, List.set_cons_zero, List.set_cons_succ, List.getElem_toArray, List.getElem_cons_zero, List.getElem_cons_succ]
        refine wpAnyH_take (i := 8) (v := undef) rfl (by kernel_rfl) (by kernel_rfl) (by kernel_rfl) (fun _ _ _ h => h) (Or.inr ⟨by kernel_rfl, rfl⟩) (by assumption) ?_
        simp only [Act.put, List.setIfInBounds_toArray, List.set_cons_zero, List.set_cons_succ, List.getElem_toArray, List.getElem_cons_zero, List.getElem_cons_succ]
        refine wpAnyH_take (i := 9) (v := undef) rfl (by kernel_rfl) (by kernel_rfl) (by kernel_rfl) (fun _ _ _ h => h) (Or.inr ⟨by kernel_rfl, rfl⟩) (by assumption) ?_
        simp only [Act.put, List.setIfInBounds_toArray, List.set_cons_zero, List.set_cons_succ, List.getElem_toArray, List.getElem_cons_zero, List.getElem_cons_succ]
        refine wpAnyH_take (i := 10) (v := undef) rfl (by kernel_rfl) (by kernel_rfl) (by kernel_rfl) (fun _ _ _ h => h) (Or.inr ⟨by kernel_rfl, rfl⟩) (by assumption) ?_
        simp only [Act.put, List.setIfInBounds_toArray, List.set_cons_zero, List.set_cons_succ, List.getElem_toArray, List.getElem_cons_zero, List.getElem_cons_succ]
        refine wpAnyH_take (i := 11) (v := undef) rfl (by kernel_rfl) (by kernel_rfl) (by kernel_rfl) (fun _ _ _ h => h) (Or.inr ⟨by kernel_rfl, rfl⟩) (by assumption) ?_
        simp only [Act.put, List.setIfInBounds_toArray, List.set_cons_zero, List.set_cons_succ, List.getElem_toArray, List.getElem_cons_zero, List.getElem_cons_succ]
        refine wpAnyH_take (i := 12) (v := undef) rfl (by kernel_rfl) (by kernel_rfl) (by kernel_rfl) (fun _ _ _ h => h) (Or.inr ⟨by kernel_rfl, rfl⟩) (by assumption) ?_
        simp only [Act.put, List.setIfInBounds_toArray, List.set_cons_zero, List.set_cons_succ, List.getElem_toArray, List.getElem_cons_zero, List.getElem_cons_succ]
        refine wpAnyH_take (i := 13) (v := undef) rfl (by kernel_rfl) (by kernel_rfl) (by kernel_rfl) (fun _ _ _ h => h) (Or.inr ⟨by kernel_rfl, rfl⟩) (by assumption) ?_
        simp only [Act.put, List.setIfInBounds_toArray, List.set_cons_zero, List.set_cons_succ, List.getElem_toArray, List.getElem_cons_zero, List.getElem_cons_succ]
        refine wpAnyH_take (i := 14) (v := undef) rfl (by kernel_rfl) (by kernel_rfl) (by kernel_rfl) (fun _ _ _ h => h) (Or.inr ⟨by kernel_rfl, rfl⟩) (by assumption) ?_
        simp only [Act.put, List.setIfInBounds_toArray, List.set_cons_zero, List.set_cons_succ, List.getElem_toArray, List.getElem_cons_zero, List.getElem_cons_succ]
        refine wpAnyH_take (i := 15) (v := ?va15) rfl (by kernel_rfl) (by kernel_rfl) (by kernel_rfl) (fun _ _ _ h => h) (Or.inl ⟨by rfl, ?ha15⟩) (by assumption) ?_
        case ha15 => (intro w hSw; (try dsimp only at hSw); go_simp; (try with_reducible rfl))
        simp only [Act.put, List.setIfInBounds_toArray, List.set_cons_zero, List.set_cons_succ, List.getElem_toArray, List.getElem_cons_zero, List.getElem_cons_succ]
        refine wpAnyH_done (by kernel_rfl) ?_ _
        have hSw := ST7.out.size
        clear S6d ST6d O6d n0 n1 rd7 tr7
        go_wp2_with (at_builtin; refine wpList_append_own _ rfl _ _ 26 rfl S 30 i1 (.slice none 0 0) 1 24 Try.underlying26 HI.out.1 HI.out.2.1 HI.out.2.2.1 HI.out.2.2.2 rfl (by decide) _ vs.length vs rfl (O7.out.alloc _) ⟨_, 0, none⟩ 1 1 [.slice bo2 xs.length cap2] rfl rfl (World.news_of_block (cs := #[.slice bo2 xs.length cap2]) (t := 30) (fr := (0, 0)) (heap_alloc_new w7 _)) HU1.out (by unfold maxLen; omega) (by omega) (by simp; omega) ?_)
        intro v9 wb hown1 hgrow _
        obtain ⟨gN, cN, rfl, hgN, _⟩ := hown1.form (Nat.succ_pos _)
        have S8 := hideP (S7.out.grown (below_one _ _) hgrow (fun k e => by have := own_ge O7.out k e; omega))
        have ST8 := hideP (ST7.out.grown (below_one _ _) hgrow (fun k e => Or.inl (own_ge O7.out k e)))
        have G8 := hideP (HG.out.snoc HGU.out)
        have hl8 : (vs ++ [Value.slice bo2 xs.length cap2]).length = vs.length + 1 := by simp
        have O8 : Hid (wb.ownsRow S 30 1 (.slice (some ⟨gN, 0, none⟩) (vs ++ [Value.slice bo2 xs.length cap2]).length cN) (vs ++ [Value.slice bo2 xs.length cap2]).length (vs ++ [Value.slice bo2 xs.length cap2])) := hideP (by rw [hl8]; exact hown1)
        clear hown1 hgrow
        go_wp2
        go_roundw
        case rel => exact ⟨k - 1, p' + 2, gN, cN, vs ++ [.slice bo2 xs.length cap2], xss ++ [xs], by omega, by go_num, by rw [hl8], by rw [hl8]; omega, by omega, O8.out, G8.out, ST8.out, S8.out⟩
        case measure => (simp [intOf] <;> omega)
    · rcases (show k = 0 ∨ (0 < k ∧ L = 0) by omega) with rfl | ⟨hk1, rfl⟩
      · go_wp2_with fail
        refine (pick_any R bo bn bcap p' 12 _ HS.out.rd (by omega)).mono ?_
        rintro e w6 ⟨y, rfl, y0, y1, rd6, tr6⟩
        have S6 := hideP (HS.out.turn tr6 rd6)
        have ST6 := hideP (HST.out.turn tr6 rfl)
        have O6 : Hid (w6.ownsRow S 30 1 (.slice (some ⟨g, 0, none⟩) vs.length capv) vs.length vs) := own_same HO.out (fun g hg hgl => tr6.block g hgl (Or.inr (by omega)))
        have hcap := own_room O6.out
        clear rd6 tr6 y1 HS HST HO
        have n0 := S6.out.n0
        have n1 := S6.out.n1
        by_cases hy : y = 0
        · subst hy
          have HTR : Hid (∀ j, j < ts.length → ∀ b off, ao = some ⟨b, off, none⟩ → b ≠ R) := hideP (fun j hj b off e => by
            obtain ⟨b', off', e', h1, _⟩ := S6.out.tN j hj
            rw [e] at e'
            cases e'
            omega)
          go_wp2_with fail
          refine (l71Walk_any R bo bn bcap (p' + 1) K ao cap' ts _ S6.out.rd (by omega) ⟨hk0, hk9⟩ hn S6.out.tN.in HTR.out).mono ?_
          rintro e w7 ⟨g7, off7, cap7, ys, rfl, hz7, hl7, tr7⟩
          have T7 := hideP (S6.out.tN.turn tr7 (Nat.le_refl _))
          have C7 := hideP (S6.out.C.turn' tr7 hwR)
          have hRl := S6.out.rd.lt
          have B7 := hideP (S6.out.B.trans (tr7.toBelow (Nat.le_of_lt hwR) (Nat.le_of_lt hRl)))
          have O7 : Hid (w7.ownsRow S 30 1 (.slice (some ⟨g, 0, none⟩) vs.length capv) vs.length vs) := own_same O6.out (fun g hg hgl => tr7.block g hgl (Or.inr (by omega)))
          have ST7 := hideP (ST6.out.turn tr7 rfl)
          have hgl : g < w6.heap.size := by
            rcases O6.out.2 with ⟨h', _⟩ | ⟨g', cap', cur, h', _, hb, _⟩
            · simp at h'
            · simp only [Value.slice.injEq, Option.some.injEq, Addr.mk.injEq, and_true, true_and] at h'
              obtain ⟨rfl, _⟩ := h'
              exact (Array.getElem?_eq_some_iff.1 hb).1
          have hgS : S ≤ g := own_ge O6.out g rfl
          have hs7 := tr7.size
          have hs6 := ST6.out.size
          have hz7l := hz7.lo
          have GZ := hideP (hz7.good (bad := fun k => k = R ∨ k = g) (by omega) (by omega))
          have G7 := hideP (HG.out.rebase (S' := w7.heap.size) (bad' := fun k => k = R ∨ k = g) ST7.out (by omega) (fun b hb hn => by show ¬ (b = R ∨ b = g); have : b ≠ R := hn; omega))
          have G8 := hideP (G7.out.snoc (GZ.out.down (lo' := A + 1) (by omega)))
          have HTb : Hid (∀ b off, ao = some ⟨b, off, none⟩ → 0 < ts.length → ¬ (b = R ∨ b = g) ∧ b < w7.heap.size) := hideP (fun b off e h0 => by
            have hA := S6.out.hi b off e h0
            have hR2 := HTR.out 0 h0 b off e
            omega)
          have NA7 : Hid (w7.cell? ⟨A, 0, none⟩ = some (.int .i64 K) ∧ w7.cell? ⟨A, 1, none⟩ = some (.slice ao ts.length cap')) := hideP ⟨(tr7.cell (p := ⟨A, 0, none⟩) S6.out.lt (Or.inr hlow)).trans n0, (tr7.cell (p := ⟨A, 1, none⟩) S6.out.lt (Or.inr hlow)).trans n1⟩
          clear S6 ST6 O6 ST7 G7 HTR hz7 tr7 n0 n1
          have HU1 : Hid (∀ x ∈ [Value.slice (some ⟨g7, off7, none⟩) ys.length cap7], x.oneCell' = true) := hideP (fun x hx => by simp at hx; rw [hx]; rfl)
          go_wp2_with (at_builtin; refine wpList_append_own _ rfl _ _ 26 rfl S 30 i1 (.slice none 0 0) 1 24 Try.underlying26 HI.out.1 HI.out.2.1 HI.out.2.2.1 HI.out.2.2.2 rfl (by decide) _ vs.length vs rfl (O7.out.alloc _) ⟨_, 0, none⟩ 1 1 [.slice (some ⟨g7, off7, none⟩) ys.length cap7] rfl rfl (World.news_of_block (cs := #[.slice (some ⟨g7, off7, none⟩) ys.length cap7]) (t := 30) (fr := (0, 0)) (heap_alloc_new w7 _)) HU1.out (by unfold maxLen; omega) (by omega) (by simp; omega) ?_)
          intro v9 wb hown1 hgrow _
          obtain ⟨gN, cN, rfl, hgN, _⟩ := hown1.form (Nat.succ_pos _)
          have hroom := own_room hown1
          have ST8 := hideP ((Stay.first w7 (fun k => k = R ∨ k = g)).grown (below_one _ _) hgrow (fun k e => Or.inr (Or.inr (by simp [Value.ownBlock] at e; omega))))
          have B8 := hideP ((B7.out.alloc (by omega) _).grown hgrow (by simp; omega) (fun k e => by simp [Value.ownBlock] at e; omega))
          have O8 := hideP hown1
          have ew : wb.heap[w.heap.size]? = w7.heap[w.heap.size]? := (hgrow.block w.heap.size (by simp; omega) (by simp [Value.ownBlock]; omega)).trans (Below.heap_alloc _ _ _ (by omega))
          have r0 := (World.cell?_of_block (a := ⟨w.heap.size, 0, none⟩) ew).trans C7.out.c0
          have r1 := (World.cell?_of_block (a := ⟨w.heap.size, 1, none⟩) ew).trans C7.out.c1
          have g0 := (World.frozen?_of_block (a := ⟨w.heap.size, 0, none⟩) ew).trans C7.out.f0
          have g1 := (World.frozen?_of_block (a := ⟨w.heap.size, 1, none⟩) ew).trans C7.out.f1
          have eA : wb.heap[A]? = w7.heap[A]? := (hgrow.block A (by simp; omega) (by simp [Value.ownBlock]; omega)).trans (Below.heap_alloc _ _ _ (by omega))
          have k0 := (World.cell?_of_block (a := ⟨A, 0, none⟩) eA).trans NA7.out.1
          have k1 := (World.cell?_of_block (a := ⟨A, 1, none⟩) eA).trans NA7.out.2
          have hxl4 : (xss ++ [ys]).length = vs.length + 1 := by rw [List.length_append, ← HXL.out]; rfl
          clear hown1 hgrow ew eA
          go_wp2
          refine bodyPost_ret (v := .tuple #[.agg #[.int .i64 K, .slice ao ts.length cap'], .int .i64 a, .int .i64 b, .slice (some ⟨gN, 0, none⟩) (vs.length + 1) cN]) ?_ rfl ⟨K, ao, cap', ts, a, b, some ⟨gN, 0, none⟩, cN, xss ++ [ys], by rw [hxl4], by rw [hxl4]; exact hroom, ends2 T7.out HTb.out (by omega) G8.out ST8.out O8.out (by omega) (by omega) B8.out hlen (by omega) _ _⟩
          simp [results, Try.results7, go_sem, r0, r1]
        · have hyb : (y == 0) = false := by simp [hy]
          have r0 := S6.out.C.c0
          have r1 := S6.out.C.c1
          have g0 := S6.out.C.f0
          have g1 := S6.out.C.f1
          go_wp2
          refine bodyPost_ret (v := .tuple #[.agg #[.int .i64 K, .slice ao ts.length cap'], .int .i64 a, .int .i64 b, .slice (some ⟨g, 0, none⟩) vs.length capv]) ?_ rfl ⟨K, ao, cap', ts, a, b, some ⟨g, 0, none⟩, capv, xss, by rw [HXL.out], by rw [← HXL.out]; exact hcap, S6.out.ends HG.out ST6.out O6.out (by omega) (by omega) hlen (by have := HXL.out; omega) _ _⟩
          simp [results, Try.results7, go_sem, r0, r1]
      · have hk1' : (0 : Int) < (k : Int) := by omega
        go_wp2_with fail
        refine (pick_any R bo bn bcap p' 12 _ HS.out.rd (by omega)).mono ?_
        rintro e w6 ⟨y, rfl, y0, y1, rd6, tr6⟩
        have S6 := hideP (HS.out.turn tr6 rd6)
        have ST6 := hideP (HST.out.turn tr6 rfl)
        have O6 : Hid (w6.ownsRow S 30 1 (.slice (some ⟨g, 0, none⟩) vs.length capv) vs.length vs) := own_same HO.out (fun g hg hgl => tr6.block g hgl (Or.inr (by omega)))
        have hcap := own_room O6.out
        clear rd6 tr6 y1 HS HST HO
        have n0 := S6.out.n0
        have n1 := S6.out.n1
        by_cases hy : y = 0
        · subst hy
          have HTR : Hid (∀ j, j < ts.length → ∀ b off, ao = some ⟨b, off, none⟩ → b ≠ R) := hideP (fun j hj b off e => by
            obtain ⟨b', off', e', h1, _⟩ := S6.out.tN j hj
            rw [e] at e'
            cases e'
            omega)
          go_wp2_with fail
          refine (l71Walk_any R bo bn bcap (p' + 1) K ao cap' ts _ S6.out.rd (by omega) ⟨hk0, hk9⟩ hn S6.out.tN.in HTR.out).mono ?_
          rintro e w7 ⟨g7, off7, cap7, ys, rfl, hz7, hl7, tr7⟩
          have T7 := hideP (S6.out.tN.turn tr7 (Nat.le_refl _))
          have C7 := hideP (S6.out.C.turn' tr7 hwR)
          have hRl := S6.out.rd.lt
          have B7 := hideP (S6.out.B.trans (tr7.toBelow (Nat.le_of_lt hwR) (Nat.le_of_lt hRl)))
          have O7 : Hid (w7.ownsRow S 30 1 (.slice (some ⟨g, 0, none⟩) vs.length capv) vs.length vs) := own_same O6.out (fun g hg hgl => tr7.block g hgl (Or.inr (by omega)))
          have ST7 := hideP (ST6.out.turn tr7 rfl)
          have hgl : g < w6.heap.size := by
            rcases O6.out.2 with ⟨h', _⟩ | ⟨g', cap', cur, h', _, hb, _⟩
            · simp at h'
            · simp only [Value.slice.injEq, Option.some.injEq, Addr.mk.injEq, and_true, true_and] at h'
              obtain ⟨rfl, _⟩ := h'
              exact (Array.getElem?_eq_some_iff.1 hb).1
          have hgS : S ≤ g := own_ge O6.out g rfl
          have hs7 := tr7.size
          have hs6 := ST6.out.size
          have hz7l := hz7.lo
          have GZ := hideP (hz7.good (bad := fun k => k = R ∨ k = g) (by omega) (by omega))
          have G7 := hideP (HG.out.rebase (S' := w7.heap.size) (bad' := fun k => k = R ∨ k = g) ST7.out (by omega) (fun b hb hn => by show ¬ (b = R ∨ b = g); have : b ≠ R := hn; omega))
          have G8 := hideP (G7.out.snoc (GZ.out.down (lo' := A + 1) (by omega)))
          have HTb : Hid (∀ b off, ao = some ⟨b, off, none⟩ → 0 < ts.length → ¬ (b = R ∨ b = g) ∧ b < w7.heap.size) := hideP (fun b off e h0 => by
            have hA := S6.out.hi b off e h0
            have hR2 := HTR.out 0 h0 b off e
            omega)
          have NA7 : Hid (w7.cell? ⟨A, 0, none⟩ = some (.int .i64 K) ∧ w7.cell? ⟨A, 1, none⟩ = some (.slice ao ts.length cap')) := hideP ⟨(tr7.cell (p := ⟨A, 0, none⟩) S6.out.lt (Or.inr hlow)).trans n0, (tr7.cell (p := ⟨A, 1, none⟩) S6.out.lt (Or.inr hlow)).trans n1⟩
          clear S6 ST6 O6 ST7 G7 HTR hz7 tr7 n0 n1
          have HU1 : Hid (∀ x ∈ [Value.slice (some ⟨g7, off7, none⟩) ys.length cap7], x.oneCell' = true) := hideP (fun x hx => by simp at hx; rw [hx]; rfl)
          go_wp2_with (at_builtin; refine wpList_append_own _ rfl _ _ 26 rfl S 30 i1 (.slice none 0 0) 1 24 Try.underlying26 HI.out.1 HI.out.2.1 HI.out.2.2.1 HI.out.2.2.2 rfl (by decide) _ vs.length vs rfl (O7.out.alloc _) ⟨_, 0, none⟩ 1 1 [.slice (some ⟨g7, off7, none⟩) ys.length cap7] rfl rfl (World.news_of_block (cs := #[.slice (some ⟨g7, off7, none⟩) ys.length cap7]) (t := 30) (fr := (0, 0)) (heap_alloc_new w7 _)) HU1.out (by unfold maxLen; omega) (by omega) (by simp; omega) ?_)
          intro v9 wb hown1 hgrow _
          obtain ⟨gN, cN, rfl, hgN, _⟩ := hown1.form (Nat.succ_pos _)
          have hroom := own_room hown1
          have ST8 := hideP ((Stay.first w7 (fun k => k = R ∨ k = g)).grown (below_one _ _) hgrow (fun k e => Or.inr (Or.inr (by simp [Value.ownBlock] at e; omega))))
          have B8 := hideP ((B7.out.alloc (by omega) _).grown hgrow (by simp; omega) (fun k e => by simp [Value.ownBlock] at e; omega))
          have O8 := hideP hown1
          have ew : wb.heap[w.heap.size]? = w7.heap[w.heap.size]? := (hgrow.block w.heap.size (by simp; omega) (by simp [Value.ownBlock]; omega)).trans (Below.heap_alloc _ _ _ (by omega))
          have r0 := (World.cell?_of_block (a := ⟨w.heap.size, 0, none⟩) ew).trans C7.out.c0
          have r1 := (World.cell?_of_block (a := ⟨w.heap.size, 1, none⟩) ew).trans C7.out.c1
          have g0 := (World.frozen?_of_block (a := ⟨w.heap.size, 0, none⟩) ew).trans C7.out.f0
          have g1 := (World.frozen?_of_block (a := ⟨w.heap.size, 1, none⟩) ew).trans C7.out.f1
          have eA : wb.heap[A]? = w7.heap[A]? := (hgrow.block A (by simp; omega) (by simp [Value.ownBlock]; omega)).trans (Below.heap_alloc _ _ _ (by omega))
          have k0 := (World.cell?_of_block (a := ⟨A, 0, none⟩) eA).trans NA7.out.1
          have k1 := (World.cell?_of_block (a := ⟨A, 1, none⟩) eA).trans NA7.out.2
          have hxl4 : (xss ++ [ys]).length = vs.length + 1 := by rw [List.length_append, ← HXL.out]; rfl
          clear hown1 hgrow ew eA
          go_wp2
          refine bodyPost_ret (v := .tuple #[.agg #[.int .i64 K, .slice ao ts.length cap'], .int .i64 a, .int .i64 b, .slice (some ⟨gN, 0, none⟩) (vs.length + 1) cN]) ?_ rfl ⟨K, ao, cap', ts, a, b, some ⟨gN, 0, none⟩, cN, xss ++ [ys], by rw [hxl4], by rw [hxl4]; exact hroom, ends2 T7.out HTb.out (by omega) G8.out ST8.out O8.out (by omega) (by omega) B8.out hlen (by omega) _ _⟩
          simp [results, Try.results7, go_sem, r0, r1]
        · have hyb : (y == 0) = false := by simp [hy]
          have r0 := S6.out.C.c0
          have r1 := S6.out.C.c1
          have g0 := S6.out.C.f0
          have g1 := S6.out.C.f1
          go_wp2
          refine bodyPost_ret (v := .tuple #[.agg #[.int .i64 K, .slice ao ts.length cap'], .int .i64 a, .int .i64 b, .slice (some ⟨g, 0, none⟩) vs.length capv]) ?_ rfl ⟨K, ao, cap', ts, a, b, some ⟨g, 0, none⟩, capv, xss, by rw [HXL.out], by rw [← HXL.out]; exact hcap, S6.out.ends HG.out ST6.out O6.out (by omega) (by omega) hlen (by have := HXL.out; omega) _ _⟩
          simp [results, Try.results7, go_sem, r0, r1]

end Go.Proofs.Ytljnjpjnadlmhaa
