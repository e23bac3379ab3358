/- Texts put together: WOnS, WOnS2, WAllS. -/
import Derived.Test.YtljnjpjnadlmhaaPartWFindI
import Derived.Test.YtljnjpjnadlmhaaPartWRows
import Derived.Deep.RegionLaw
import Derived.Deep.AppendLies
import Derived.Deep.LoopGhost
import Derived.Deep.RegionWith
import Derived.Test.YtljnjpjnadlmhaaPartWSpecOk
import Derived.Test.YtljnjpjnadlmhaaMathS
/- Walk of spec.l2On: all ways that go on from one, put behind others. -/
namespace Go.Proofs.Ytljnjpjnadlmhaa
open Go.RowKit
set_option linter.unusedVariables false

/-- ways that were put together: the row of rows, and each row -/
structure Acc (W : World) (lo : Nat) (G C : Nat) (pre : List (List Nat)) (gs cs : Nat → Nat) : Prop where
  out : W.ownsRow lo 30 1 (.slice (some ⟨G, 0, none⟩) pre.length C) pre.length (rowVs pre gs cs)
  row : Rws W lo pre gs cs
theorem Acc.kept {W W' : World} {lo G C : Nat} {pre : List (List Nat)} {gs cs : Nat → Nat} (h : Acc W lo G C pre gs cs) (hb : Below W.heap.size W W') : Acc W' lo G C pre gs cs :=
  ⟨own_kept2 h.out (fun g hg => hb.block g hg), h.row.kept hb.size (fun k _ _ hk => hb.block k (Array.getElem?_eq_some_iff.1 hk).1)⟩
theorem Acc.lt {W : World} {lo G C : Nat} {pre : List (List Nat)} {gs cs : Nat → Nat} (h : Acc W lo G C pre gs cs) : lo ≤ G ∧ G < W.heap.size := by
  obtain ⟨_, _, hb, hl⟩ := row_type (g := G) (c := C) h.out rfl
  exact ⟨hl, (Array.getElem?_eq_some_iff.1 hb).1⟩
/-- one more is put behind -/
theorem Acc.snoc {w w1 w3 : World} {lo G C G' C' : Nat} {pre : List (List Nat)} {x : List Nat} {gs cs : Nat → Nat} {g c lo1 : Nat} (h : Acc w lo G C pre gs cs) (hx : clip x = x) (hl : lo ≤ w.heap.size) (hb : Below w.heap.size w w1)
    (hn : w1.ownsRow lo1 3 1 (.slice (some ⟨g, 0, none⟩) x.length c) x.length (plist x)) (hlo : w.heap.size ≤ lo1)
    (h3 : w3.ownsRow lo 30 1 (.slice (some ⟨G', 0, none⟩) (pre.length + 1) C') (pre.length + 1) (rowVs pre gs cs ++ [.slice (some ⟨g, 0, none⟩) x.length c])) (hgr : (w1.alloc (.cells #[.slice (some ⟨g, 0, none⟩) x.length c] 30)).grownBy w3 (some G)) :
    Acc w3 lo G' C' (pre ++ [x]) (upd' gs pre.length g) (upd' cs pre.length c) ∧ w.grownBy w3 (some G) := by
  have hA := (h.kept hb).out
  obtain ⟨cG, fG, hGb, _⟩ := row_type (g := G) (c := C) hA rfl
  have same : ∀ (k : Nat) (ce : Array Value) (fr : Nat × Nat), w1.heap[k]? = some (Obj.cells ce 3 fr) → w3.heap[k]? = w1.heap[k]? := fun k ce fr hk => by
    have hkl := (Array.getElem?_eq_some_iff.1 hk).1
    refine (hgr.block k (by simp; omega) (fun e => ?_)).trans (Below.heap_alloc _ _ _ hkl)
    cases e
    rw [hGb] at hk; cases hk
  have hsz : w1.heap.size + 1 ≤ w3.heap.size := by have := hgr.size; simpa using this
  have hs1 := hb.size
  have hl2 : (pre ++ [x]).length = pre.length + 1 := by simp
  obtain ⟨cg, fg, hgb, hgl⟩ := row_type (g := g) (c := c) hn rfl
  refine ⟨⟨?_, ?_⟩, ⟨hgr.os.trans hb.os, hgr.tape.trans hb.tape, hgr.output.trans hb.output, by omega, fun k hk hne => ?_⟩⟩
  · rw [rowVs_snoc, hl2, hx]; exact h3
  · refine h.row.snoc (h.row.kept (by omega) (fun k ce fr hk => ?_)) ?_ (by omega)
    · have e := hb.block k (Array.getElem?_eq_some_iff.1 hk).1
      exact (same k ce fr (e.trans hk)).trans e
    · rw [hx]; exact own_low (own_at hn (same g cg fg hgb)) (by omega)
  · exact (hgr.block k (by simp; omega) hne).trans ((Below.heap_alloc _ _ _ (by omega)).trans (hb.block k hk))
theorem last_at' {p : List Nat} (h0 : 0 < p.length) : p.getD (p.length - 1) 0 = lastN p := by
  obtain ⟨q, z, rfl⟩ : ∃ q z, p = q ++ [z] := ⟨p.dropLast, p.getLast (by intro e; simp [e] at h0), (List.dropLast_concat_getLast _).symm⟩
  rw [lastN_snoc]; simp
/-- what is behind when ways were put behind others -/
def OnPost (w : World) (lo G : Nat) (all : List (List Nat)) (e : Ending) (w' : World) : Prop :=
  ∃ G' C' gs' cs', e = .returned (.slice (some ⟨G', 0, none⟩) all.length C') ∧ Acc w' lo G' C' all gs' cs' ∧ w.grownBy w' (some G) ∧ (G' = G ∨ w.heap.size ≤ G')

set_option maxHeartbeats 1600000 in
theorem on_end (Kn : Nat) (ao : Option Addr) (cap : Nat) (ts : List (Int × Int)) (p : List Nat) (b s lw gw cw lo G C : Nat) (pre : List (List Nat)) (gs cs : Nat → Nat) (w : World) (hs : s ≤ 8) (h0 : 0 < p.length) (hp : p.length = s) (hb : lastN p = b)
    (hway : w.ownsRow lw 3 1 (.slice (some ⟨gw, 0, none⟩) p.length cw) p.length (plist p)) (hA : Acc w lo G C pre gs cs) (hlo : lo ≤ w.heap.size) (hfew : pre.length ≤ 20000000) :
    Calls Try.prog 48 #[.agg #[.int .i64 (Kn : Int), .slice ao ts.length cap], .slice (some ⟨gw, 0, none⟩) p.length cw, .int .i64 (b : Int), .int .i64 (s : Int), .slice (some ⟨G, 0, none⟩) pre.length C] w (OnPost w lo G (pre ++ [p])) := by
  obtain ⟨i0, hi0, hz0, hz1, hz2⟩ := info_parts Try.infoInt
  have HI : Hid (Try.prog.info? 3 = some i0 ∧ i0.zero = some (.int .i64 0) ∧ i0.size = 1 ∧ i0.bytes = 8) := ⟨hi0, hz0, hz1, hz2⟩
  obtain ⟨i1, hj0, hk0, hk1, hk2⟩ := info_parts Try.infoInts
  have HI1 : Hid (Try.prog.info? 30 = some i1 ∧ i1.zero = some (.slice none 0 0) ∧ i1.size = 1 ∧ i1.bytes = 24) := ⟨hj0, hk0, hk1, hk2⟩
  clear hi0 hz0 hz1 hz2 hj0 hk0 hk1 hk2
  obtain ⟨ow, _, hgw⟩ := row_own hway rfl h0
  have bo := below_one w (.cells #[.int .i64 (Kn : Int), .slice ao ts.length cap] 25)
  have cl : (w.alloc (.cells #[.int .i64 (Kn : Int), .slice ao ts.length cap] 25)).cell? ⟨gw, p.length - 1, none⟩ = some (.int .i64 (b : Int)) := by
    rw [bo.cell (p := ⟨gw, p.length - 1, none⟩) hgw, ow.1 (p.length - 1) (by omega), pcellN, pn, last_at' h0, hb]
  have HW := hideP (own_kept2 hway (fun g hg => bo.block g hg))
  have HA := hideP (hA.kept bo)
  have HA0 := hideP hA
  have HB0 := hideP bo
  have q1 : (0 : Int) ≤ (p.length : Int) - 1 := by omega
  have q2 : (p.length : Int) - 1 < (p.length : Int) := by omega
  have q3 : ((p.length : Int) - 1).toNat = p.length - 1 := by omega
  have HCL : Hid (clip p = p) := clip_is h0 (by omega)
  clear ow hway hA bo hb
  subst hp
  have HN : Hid (∀ j u, (plist p)[j]? = some u → ((w.alloc (.cells #[.int .i64 (Kn : Int), .slice ao ts.length cap] 25)).alloc (.cells #[] 3)).cell? ((⟨gw, 0, none⟩ : Addr).add j) = some u) := by
    intro j u hu
    have hj : j < p.length := by have := (List.getElem?_eq_some_iff.1 hu).1; rwa [plist_len] at this
    obtain ⟨ow, _, hgw'⟩ := row_own HW.out rfl h0
    rw [plist_at p j hj] at hu
    have hadd : (⟨gw, 0, none⟩ : Addr).add j = ⟨gw, j, none⟩ := by unfold Addr.add; split <;> simp_all
    rw [hadd, (below_one _ _).cell (p := ⟨gw, j, none⟩) hgw', ow.1 j hj]; exact hu
  have H1 : Hid (∀ u ∈ plist p, u.oneCell' = true) := by
    intro u hu
    obtain ⟨x, _, rfl⟩ := List.mem_map.1 hu
    rfl
  have HL := hideP (plist_len p)
  have HS0 : Hid ((w.alloc (.cells #[.int .i64 (Kn : Int), .slice ao ts.length cap] 25)).heap.size = w.heap.size + 1) := World.size_alloc _ _
  obtain ⟨wa, hwa⟩ : ∃ wa, wa = w.alloc (.cells #[.int .i64 (Kn : Int), .slice ao ts.length cap] 25) := ⟨_, rfl⟩
  have HR0 : Hid ((wa.alloc (.cells #[] 3)).ownsRow (w.heap.size + 1) 3 1 (.slice (some ⟨w.heap.size + 1, 0, none⟩) 0 0) 0 []) := by
    have := World.ownsRow_lit wa #[] 0 (base := w.heap.size + 1) (e := 3) (size := 1) (by rw [hwa, HS0.out]; exact Nat.le_refl _) (by simp) rfl
    rw [hwa, HS0.out] at this
    rw [hwa]
    exact hideP (by simpa using this)
  have HWA := hideP hwa
  rw [← hwa] at HW HA HB0 HN HS0
  obtain ⟨k, hk⟩ : ∃ k, p.length = k + 1 := ⟨p.length - 1, by omega⟩
  have HK := hideP hk
  go_enter Try.func48, Try.ntmps48
  clear hk
  rw [hwa] at HR0
  go_wp2_with (at_builtin; refine wpList_append_own _ rfl _ _ 30 rfl (w.heap.size + 1) 3 i0 _ 1 8 Try.underlying30 HI.out.1 HI.out.2.1 HI.out.2.2.1 HI.out.2.2.2 rfl (by omega) (.slice (some ⟨w.heap.size + 1, 0, none⟩) 0 0) 0 [] rfl HR0.out ⟨gw, 0, none⟩ p.length cw (plist p) rfl (by rw [HL.out]; omega) (hwa ▸ HN.out) H1.out (by unfold maxLen; omega) (by omega) (by simp) ?_)
  intro v' w2 hown hgrow _
  rw [HK.out] at hown
  obtain ⟨g, c, rfl⟩ := ownsRow_succ hown
  rw [← HK.out] at hown
  have hb2 : Below w.heap.size w w2 := ((below_two w _ _).grown hgrow (by simp; omega) (fun j e => by simp [Value.ownBlock] at e; omega))
  have HO := hideP hown
  have HB2 := hideP hb2
  have A2 := hideP (HA0.out.kept hb2)
  have hs2 := hb2.size
  have hz2 : w.heap.size + 2 ≤ w2.heap.size := by have := hgrow.size; simpa using this
  clear hown hgrow hb2
  rw [← HK.out]
  clear cl
  go_wp2_with (at_builtin; refine wpList_append_lies _ rfl _ _ 26 rfl lo 30 i1 _ 1 24 Try.underlying26 HI1.out.1 HI1.out.2.1 HI1.out.2.2.1 HI1.out.2.2.2 rfl (by omega) (.slice (some ⟨G, 0, none⟩) pre.length C) pre.length (rowVs pre gs cs) rfl (A2.out.out.alloc _) ⟨w2.heap.size, 0, none⟩ 1 1 [.slice (some ⟨g, 0, none⟩) p.length c] rfl rfl (World.news_of_block (cs := #[.slice (some ⟨g, 0, none⟩) p.length c]) (t := 30) (fr := (0, 0)) (heap_alloc_new w2 _)) (by simp [Value.oneCell']) (by omega) (by unfold maxLen; omega) (by omega) (by simp; omega) (w2.heap.size + 1) (by simp) ?_)
  intro G' C' w4 hown4 hgrow4 hat _
  obtain ⟨r1, r2⟩ := HA0.out.snoc (x := p) HCL.out hlo HB2.out HO.out (by omega) hown4 hgrow4
  have R1 := hideP r1
  have R2 := hideP r2
  have HG : Hid (G' = G ∨ w.heap.size ≤ G') := by
    rcases hat with e | e
    · left; simpa [Value.ownBlock] using e.symm
    · right; omega
  have hl2 : (pre ++ [p]).length = pre.length + 1 := by simp
  have HL2 := hideP hl2
  clear hown4 hgrow4 r1 r2 hl2 hat
  go_wp2
  go_ret
  exact ⟨G', C', _, _, by rw [HL2.out]; rfl, R1.out, R2.out, HG.out⟩

set_option maxHeartbeats 1600000 in
theorem on_none (Kn : Nat) (ao : Option Addr) (cap : Nat) (ts : List (Int × Int)) (p : List Nat) (b s lw gw cw lo G C : Nat) (pre : List (List Nat)) (gs cs : Nat → Nat) (w : World) (hs : s ≤ 8) (h0 : 0 < p.length) (hp : p.length ≤ s) (hb : (lastN p = b ∧ p.length < s) ∨ (lastN p ≠ b ∧ p.length = s))
    (hway : w.ownsRow lw 3 1 (.slice (some ⟨gw, 0, none⟩) p.length cw) p.length (plist p)) (hA : Acc w lo G C pre gs cs) :
    Calls Try.prog 48 #[.agg #[.int .i64 (Kn : Int), .slice ao ts.length cap], .slice (some ⟨gw, 0, none⟩) p.length cw, .int .i64 (b : Int), .int .i64 (s : Int), .slice (some ⟨G, 0, none⟩) pre.length C] w (OnPost w lo G pre) := by
  obtain ⟨ow, _, hgw⟩ := row_own hway rfl h0
  have bo := below_one w (.cells #[.int .i64 (Kn : Int), .slice ao ts.length cap] 25)
  have cl : (w.alloc (.cells #[.int .i64 (Kn : Int), .slice ao ts.length cap] 25)).cell? ⟨gw, p.length - 1, none⟩ = some (.int .i64 (lastN p : Int)) := by
    rw [bo.cell (p := ⟨gw, p.length - 1, none⟩) hgw, ow.1 (p.length - 1) (by omega), pcellN, pn, last_at' h0]
  have F : Hid (OnPost w lo G pre (.returned (.slice (some ⟨G, 0, none⟩) pre.length C)) (w.alloc (.cells #[.int .i64 (Kn : Int), .slice ao ts.length cap] 25))) := ⟨G, C, gs, cs, rfl, hA.kept bo, ⟨bo.os, bo.tape, bo.output, bo.size, fun k hk _ => bo.block k hk⟩, Or.inl rfl⟩
  have q1 : (0 : Int) ≤ (p.length : Int) - 1 := by omega
  have q2 : (p.length : Int) - 1 < (p.length : Int) := by omega
  have q3 : ((p.length : Int) - 1).toNat = p.length - 1 := by omega
  obtain ⟨z, hz⟩ : ∃ z, z = lastN p := ⟨_, rfl⟩
  rw [← hz] at cl hb
  obtain ⟨m, hm⟩ : ∃ m, m = p.length := ⟨_, rfl⟩
  rw [← hm] at cl hb hp h0 q1 q2 q3 ⊢
  clear ow hway hA bo hz hm
  rcases hb with ⟨rfl, hlt⟩ | ⟨hne, rfl⟩
  · have e1 : ((m : Int) == (s : Int)) = false := by rw [beq_eq_false_iff_ne]; omega
    go_enter Try.func48, Try.ntmps48
    go_wp2
    go_ret
    exact F.out
  · have e1 : ((z : Int) == (b : Int)) = false := by rw [beq_eq_false_iff_ne]; omega
    go_enter Try.func48, Try.ntmps48
    go_wp2
    go_ret
    exact F.out

end Go.Proofs.Ytljnjpjnadlmhaa

/- Walk of spec.l2On: where it goes on. -/
namespace Go.Proofs.Ytljnjpjnadlmhaa
open Go.RowKit
set_option linter.unusedVariables false

/-- what the first of the neighbours add -/
def onN (E : Nat → Nat → Bool) (b s f : Nat) (p : List Nat) (k : Nat) : List (List Nat) := if k ∈ p then [] else onW E b s f (p ++ [k])
def onL (E : Nat → Nat → Bool) (b s f : Nat) (p L : List Nat) (j : Nat) : List (List Nat) := (L.take j).flatMap (onN E b s f p)
theorem onL_zero (E : Nat → Nat → Bool) (b s f : Nat) (p L : List Nat) : onL E b s f p L 0 = [] := rfl
theorem onL_succ (E : Nat → Nat → Bool) (b s f : Nat) (p L : List Nat) {j : Nat} (h : j < L.length) : onL E b s f p L (j + 1) = onL E b s f p L j ++ onN E b s f p (L.getD j 0) := by
  unfold onL
  rw [List.take_succ_eq_append_getElem h, List.flatMap_append]
  simp [h]
theorem onL_all {ts : List (Int × Int)} {Kn : Nat} (hok : NetOk (Kn : Int) ts) (hK : Kn ≤ 8) (b s f : Nat) (p : List Nat) : onL (tieNB ts) b s f p (nbrs ts (lastN p) Kn) (nbrs ts (lastN p) Kn).length = onTo (tieNB ts) b s f p 8 := by
  have h1 : ∀ m, (nbrs ts (lastN p) m).flatMap (onN (tieNB ts) b s f p) = onTo (tieNB ts) b s f p m := by
    intro m
    induction m with
    | zero => rfl
    | succ m ih =>
      rw [onTo_succ, ← ih]
      cases hv : tieNB ts (lastN p) m
      · rw [nbrs_no hv, onK_no (by rw [hv]; rfl), List.append_nil]
      · rw [nbrs_yes hv, List.flatMap_append]
        congr 1
        simp only [List.flatMap_cons, List.flatMap_nil, List.append_nil, onN]
        by_cases hm : m ∈ p
        · rw [if_pos hm, onK_no (by simp [hm])]
        · rw [if_neg hm, onK_yes (by rw [hv]; simp [hm])]
  have h2 : ∀ j, onTo (tieNB ts) b s f p (Kn + j) = onTo (tieNB ts) b s f p Kn := by
    intro j
    induction j with
    | zero => rfl
    | succ j ih =>
      rw [← Nat.add_assoc, onTo_succ, ih, onK_no, List.append_nil]
      have : tieNB ts (lastN p) (Kn + j) = false := by
        rw [← Bool.not_eq_true]
        intro h
        have := tieNB_lt hok h
        simp at this
        omega
      rw [this]; rfl
  unfold onL
  rw [List.take_length, h1]
  have := h2 (8 - Kn)
  rw [show Kn + (8 - Kn) = 8 by omega] at this
  exact this.symm
theorem onL_pre (E : Nat → Nat → Bool) (b s f : Nat) (p L : List Nat) {j : Nat} (h : j ≤ L.length) : (onL E b s f p L j).length ≤ (onL E b s f p L L.length).length := by
  unfold onL
  have : L.take L.length = L.take j ++ L.drop j := by rw [List.take_length, List.take_append_drop]
  rw [this, List.flatMap_append, List.length_append]; omega
/-- what stands while neighbours are gone through -/
structure Ost (w w5 wr : World) (lo G : Nat) (all : List (List Nat)) (G' C' : Nat) (gs cs : Nat → Nat) : Prop where
  A : Acc wr lo G' C' all gs cs
  fr : w5.grownBy wr (some G)
  at' : G' = G ∨ w5.heap.size ≤ G'
theorem Ost.block {w w5 wr : World} {lo G : Nat} {all : List (List Nat)} {G' C' : Nat} {gs cs : Nat → Nat} (h : Ost w w5 wr lo G all G' C' gs cs) {k : Nat} (hk : k < w5.heap.size) (hne : k ≠ G) : wr.heap[k]? = w5.heap[k]? := h.fr.block k hk (fun e => hne (by cases e; rfl))
theorem Ost.next {w w5 wr w' : World} {lo G : Nat} {all : List (List Nat)} {G' C' : Nat} {gs cs : Nat → Nat} (h : Ost w w5 wr lo G all G' C' gs cs) (hb : Below wr.heap.size wr w') : Ost w w5 w' lo G all G' C' gs cs :=
  ⟨h.A.kept hb, ⟨hb.os.trans h.fr.os, hb.tape.trans h.fr.tape, hb.output.trans h.fr.output, Nat.le_trans h.fr.size hb.size, fun k hk hne => (hb.block k (Nat.lt_of_lt_of_le hk h.fr.size)).trans (h.fr.block k hk hne)⟩, h.at'⟩
theorem Ost.then {w w5 wr w' : World} {lo G : Nat} {all all' : List (List Nat)} {G' C' G2 C2 : Nat} {gs cs gs2 cs2 : Nat → Nat} (h : Ost w w5 wr lo G all G' C' gs cs) (hA : Acc w' lo G2 C2 all' gs2 cs2) (hg : wr.grownBy w' (some G')) (ha : G2 = G' ∨ wr.heap.size ≤ G2) : Ost w w5 w' lo G all' G2 C2 gs2 cs2 :=
  ⟨hA, ⟨hg.os.trans h.fr.os, hg.tape.trans h.fr.tape, hg.output.trans h.fr.output, Nat.le_trans h.fr.size hg.size, fun k hk hne => (hg.block k (Nat.lt_of_lt_of_le hk h.fr.size) (fun e => by
    cases e
    rcases h.at' with q | q
    · exact hne (by rw [q])
    · omega)).trans (h.fr.block k hk hne)⟩, by
    have := h.at'
    have := h.fr.size
    omega⟩
theorem l2Has_v (v : Bool) (ao : Option Addr) (cap : Nat) (p : List Nat) (k : Nat) (w : World) (h8 : p.length ≤ 1000) (hx : RowV w w.heap.size ao p.length (pcellN (pn p))) (hv : decide (k ∈ p) = v) :
    Calls Try.prog 50 #[.slice ao p.length cap, .int .i64 (k : Int)] w fun e w' => e = .returned (.bool v) ∧ Below w.heap.size w w' := by
  have hi : IntsIn w w.heap.size ao (cI p) := by
    intro j hj
    rw [cI_len] at hj
    obtain ⟨b, off, e, h1, h2⟩ := hx j hj
    exact ⟨b, off, e, h1, by rw [h2, xi_cI]; rfl⟩
  have := l2Has_any ao cap (cI p) (k : Int) w (by rw [cI_len]; omega) hi
  rw [cI_len, cI_in, hv] at this
  exact this

set_option maxHeartbeats 3200000 in
theorem on_go (Kn : Nat) (ao : Option Addr) (cap : Nat) (ts : List (Int × Int)) (hn : ts.length ≤ 1099511627776) (hok : okB (Kn : Int) ts = true) (b s f lo : Nat) (hs : s ≤ 8)
    (ih : ∀ (p : List Nat) (lw gw cw G C : Nat) (pre : List (List Nat)) (gs cs : Nat → Nat) (w : World), p.length + f = s → 0 < p.length → TiesIn w lo ao ts → w.ownsRow lw 3 1 (.slice (some ⟨gw, 0, none⟩) p.length cw) p.length (plist p) → Acc w lo G C pre gs cs → lo ≤ w.heap.size → pre.length + (onW (tieNB ts) b s f p).length ≤ 20000000 →
      Calls Try.prog 48 #[.agg #[.int .i64 (Kn : Int), .slice ao ts.length cap], .slice (some ⟨gw, 0, none⟩) p.length cw, .int .i64 (b : Int), .int .i64 (s : Int), .slice (some ⟨G, 0, none⟩) pre.length C] w (OnPost w lo G (pre ++ onW (tieNB ts) b s f p)))
    (p : List Nat) (lw gw cw G C : Nat) (pre : List (List Nat)) (gs cs : Nat → Nat) (w : World) (hp : p.length + (f + 1) = s) (h0 : 0 < p.length) (hb : lastN p ≠ b) (ht : TiesIn w lo ao ts)
    (hway : w.ownsRow lw 3 1 (.slice (some ⟨gw, 0, none⟩) p.length cw) p.length (plist p)) (hA : Acc w lo G C pre gs cs) (hlo : lo ≤ w.heap.size) (hfew : pre.length + (onTo (tieNB ts) b s f p 8).length ≤ 20000000) :
    Calls Try.prog 48 #[.agg #[.int .i64 (Kn : Int), .slice ao ts.length cap], .slice (some ⟨gw, 0, none⟩) p.length cw, .int .i64 (b : Int), .int .i64 (s : Int), .slice (some ⟨G, 0, none⟩) pre.length C] w (OnPost w lo G (pre ++ onTo (tieNB ts) b s f p 8)) := by
  have hK8 : Kn ≤ 8 := by have := (okB_iff.1 hok).2.1; omega
  obtain ⟨i0, hi0, hz0, hz1, hz2⟩ := info_parts Try.infoInt
  have HI : Hid (Try.prog.info? 3 = some i0 ∧ i0.zero = some (.int .i64 0) ∧ i0.size = 1 ∧ i0.bytes = 8) := ⟨hi0, hz0, hz1, hz2⟩
  clear hi0 hz0 hz1 hz2
  obtain ⟨ow, _, hgw⟩ := row_own hway rfl h0
  have bo := below_one w (.cells #[.int .i64 (Kn : Int), .slice ao ts.length cap] 25)
  have cl : (w.alloc (.cells #[.int .i64 (Kn : Int), .slice ao ts.length cap] 25)).cell? ⟨gw, p.length - 1, none⟩ = some (.int .i64 (lastN p : Int)) := by
    rw [bo.cell (p := ⟨gw, p.length - 1, none⟩) hgw, ow.1 (p.length - 1) (by omega), pcellN, pn, last_at' h0]
  have q1 : (0 : Int) ≤ (p.length : Int) - 1 := by omega
  have q2 : (p.length : Int) - 1 < (p.length : Int) := by omega
  have q3 : ((p.length : Int) - 1).toNat = p.length - 1 := by omega
  obtain ⟨z, hz⟩ : ∃ z, z = lastN p := ⟨_, rfl⟩
  have e1 : ((lastN p : Int) == (b : Int)) = false := by rw [beq_eq_false_iff_ne]; omega
  have e2 : ¬ ((s : Int) ≤ (p.length : Int)) := by omega
  have e3 : decide ((s : Int) ≤ (p.length : Int)) = false := decide_eq_false e2
  have HONL := hideP (onL_all (okB_iff.1 hok) hK8 b s f p)
  have HZ := hideP hz
  rw [← hz] at cl e1 HONL
  have X1 : Hid (Bx w (w.alloc (.cells #[.int .i64 (Kn : Int), .slice ao ts.length cap] 25)) (Kn : Int) (.slice ao ts.length cap)) := Bx.start w _ _ _
  have A1 := hideP (hA.kept bo)
  have Y1 := hideP (own_kept2 hway (fun g hg => bo.block g hg))
  have T1 : Hid (TiesIn (w.alloc (.cells #[.int .i64 (Kn : Int), .slice ao ts.length cap] 25)) (w.alloc (.cells #[.int .i64 (Kn : Int), .slice ao ts.length cap] 25)).heap.size ao ts) := (ht.below (bo.mono hlo) (Nat.le_refl _)).wide (by simp; omega)
  have HT := hideP ht
  have hGl := hA.lt
  have HA0 := hideP hA
  have c0 := X1.out.c0
  have c1 := X1.out.c1
  clear ow hway hA bo hz hb ht
  go_enter Try.func48, Try.ntmps48
  go_wp2_with fail
  refine (l2Next_any Kn ao cap ts z _ hn T1.out hK8).mono ?_
  rintro e w5 ⟨g2, off2, cap2, rfl, hL5, hb5⟩
  have X5 := hideP (X1.out.next hb5)
  have A5 := hideP (A1.out.kept hb5)
  have Y5 := hideP (own_kept2 Y1.out (fun g hg => hb5.block g hg))
  have L5 := hideP hL5
  have hg2 : w.heap.size + 1 ≤ g2 := by have := hL5.lo; simpa using this
  obtain ⟨L, hL⟩ : ∃ L, L = nbrs ts z Kn := ⟨_, rfl⟩
  have HLL := hideP hL
  have hL8 : L.length ≤ 8 := by rw [hL]; exact Nat.le_trans (nbrs_len ts z Kn) hK8
  rw [← hL] at L5 HONL ⊢
  have O5 : Hid (Ost w w5 w5 lo G (pre ++ onL (tieNB ts) b s f p L 0) G C gs cs) := by
    rw [onL_zero, List.append_nil]
    exact ⟨A5.out, ⟨rfl, rfl, rfl, Nat.le_refl _, fun _ _ _ => rfl⟩, Or.inl rfl⟩
  have hl50 : (pre ++ onL (tieNB ts) b s f p L 0).length = pre.length := by rw [onL_zero, List.append_nil]
  have hGw : gw ≠ G := by
    intro e
    obtain ⟨_, _, h1, _⟩ := row_type (g := gw) (c := cw) Y5.out rfl
    obtain ⟨_, _, h2, _⟩ := row_type (g := G) (c := C) A5.out.out rfl
    rw [e, h2] at h1; simp at h1
  clear hb5 hL5 hL c0 c1 cl X1 A1 Y1 T1 A5
  go_wp2
  go_loopw [4, 13] (fun v i wr => ∃ (jj G' C' : Nat) (gs' cs' : Nat → Nat), jj ≤ L.length ∧ i = .int .i64 jj ∧ v = .slice (some ⟨G', 0, none⟩) (pre ++ onL (tieNB ts) b s f p L jj).length C' ∧ Ost w w5 wr lo G (pre ++ onL (tieNB ts) b s f p L jj) G' C' gs' cs')
    (fun _ i _ => L.length - (intOf i).toNat)
  case atStart => exact ⟨0, G, C, gs, cs, Nat.zero_le _, rfl, by rw [hl50], O5.out⟩
  case round =>
    clear O5 hl50
    obtain ⟨jj, G', C', gs', cs', hjj, rfl, rfl, hO⟩ := hrel
    have HO := hideP hO
    clear hO
    by_cases hlt : jj < L.length
    · obtain ⟨m, hm0⟩ : ∃ m, m = (pre ++ onL (tieNB ts) b s f p L jj).length := ⟨_, rfl⟩
      have HMM := hideP hm0
      rw [← hm0]
      clear hm0
      obtain ⟨y, hy⟩ : ∃ y, y = L.getD jj 0 := ⟨_, rfl⟩
      have HY := hideP hy
      have kB : ∀ k, k < w5.heap.size → k ≠ G → wr.heap[k]? = w5.heap[k]? := fun k h1 h2 => HO.out.block h1 h2
      have cy : wr.cell? ⟨g2, off2 + jj, none⟩ = some (.int .i64 (y : Int)) := by
        rw [World.cell?_of_block (a := ⟨g2, off2 + jj, none⟩) (kB g2 L5.out.lt (by omega)), hy]; exact L5.out.cells jj hlt
      have d0 : wr.cell? ⟨w.heap.size, 0, none⟩ = some (.int .i64 (Kn : Int)) := (World.cell?_of_block (a := ⟨w.heap.size, 0, none⟩) (kB w.heap.size X5.out.lt (by omega))).trans X5.out.c0
      have d1 : wr.cell? ⟨w.heap.size, 1, none⟩ = some (.slice ao ts.length cap) := (World.cell?_of_block (a := ⟨w.heap.size, 1, none⟩) (kB w.heap.size X5.out.lt (by omega))).trans X5.out.c1
      have hgw5 : gw < w5.heap.size := by obtain ⟨_, _, h1, _⟩ := row_type (g := gw) (c := cw) Y5.out rfl; exact (Array.getElem?_eq_some_iff.1 h1).1
      have YR := hideP (own_at Y5.out (kB gw hgw5 hGw))
      have hj0 : (0 : Int) ≤ (jj : Int) := by omega
      have hj1 : (jj : Int) < (L.length : Int) := by omega
      have RW : Hid (RowV wr wr.heap.size (some ⟨gw, 0, none⟩) p.length (pcellN (pn p))) := by
        obtain ⟨ow, _, h2⟩ := row_own YR.out rfl h0
        exact fun j hj => ⟨gw, 0, rfl, h2, by rw [Nat.zero_add]; exact ow.1 j hj⟩
      clear hy kB
      cases hm : decide (y ∈ p)
      · have HM := hideP hm
        have HON : Hid (onL (tieNB ts) b s f p L (jj + 1) = onL (tieNB ts) b s f p L jj ++ onW (tieNB ts) b s f (p ++ [y])) := by
          rw [onL_succ _ _ _ _ _ _ hlt, ← HY.out, onN, if_neg (by simpa using hm)]
          exact hideP rfl
        clear hm
        go_wp2_with fail
        refine (l2Has_v false _ _ p y _ (by omega) RW.out HM.out).mono ?_
        rintro e w6 ⟨rfl, hb6⟩
        have O6 := hideP (HO.out.next hb6)
        have y6 : w6.cell? ⟨g2, off2 + jj, none⟩ = some (.int .i64 (y : Int)) := (hb6.cell (p := ⟨g2, off2 + jj, none⟩) (Nat.lt_of_lt_of_le L5.out.lt HO.out.fr.size)).trans cy
        have m0 : w6.cell? ⟨w.heap.size, 0, none⟩ = some (.int .i64 (Kn : Int)) := (hb6.cell (p := ⟨w.heap.size, 0, none⟩) (Nat.lt_of_lt_of_le X5.out.lt HO.out.fr.size)).trans d0
        have m1 : w6.cell? ⟨w.heap.size, 1, none⟩ = some (.slice ao ts.length cap) := (hb6.cell (p := ⟨w.heap.size, 1, none⟩) (Nat.lt_of_lt_of_le X5.out.lt HO.out.fr.size)).trans d1
        have YR6 := hideP (own_kept2 YR.out (fun g hg => hb6.block g hg))
        have z6 : w5.heap.size ≤ w6.heap.size := Nat.le_trans HO.out.fr.size hb6.size
        have x5 := X5.out.lt
        have g5 := L5.out.lt
        have T6 : Hid (∀ W, Below w6.heap.size w6 W → TiesIn W lo ao ts) := fun W hW => HT.out.below (C := lo) ⟨hW.os.trans (O6.out.fr.os.trans X5.out.B.os), hW.tape.trans (O6.out.fr.tape.trans X5.out.B.tape), hW.output.trans (O6.out.fr.output.trans X5.out.B.output), by have := hW.size; have := X5.out.B.size; omega, fun k hk => (hW.block k (by omega)).trans ((O6.out.fr.block k (by omega) (by intro e; cases e; omega)).trans (X5.out.B.block k (by omega)))⟩ (Nat.le_refl _)
        have WAYC : Hid (∀ W, Below w6.heap.size w6 W → ∀ j u, (plist p)[j]? = some u → W.cell? ((⟨gw, 0, none⟩ : Addr).add j) = some u) := fun W hW j u hu => by
          have hj : j < p.length := by have := (List.getElem?_eq_some_iff.1 hu).1; rwa [plist_len] at this
          obtain ⟨ow, _, hgw'⟩ := row_own YR6.out rfl h0
          rw [plist_at p j hj] at hu
          have hadd : (⟨gw, 0, none⟩ : Addr).add j = ⟨gw, j, none⟩ := by unfold Addr.add; split <;> simp_all
          rw [hadd, hW.cell (p := ⟨gw, j, none⟩) hgw', ow.1 j hj]; exact hu
        have H1 : Hid (∀ u ∈ plist p, u.oneCell' = true) := by
          intro u hu
          obtain ⟨x, _, rfl⟩ := List.mem_map.1 hu
          rfl
        have HPL : Hid ((plist p).length = p.length * 1) := by show (plist p).length = p.length * 1; rw [plist_len]; omega
        have LIT : Hid (∀ W : World, (W.alloc (.cells #[] 3)).ownsRow W.heap.size 3 1 (.slice (some ⟨W.heap.size, 0, none⟩) 0 0) 0 []) := fun W => by
          simpa using World.ownsRow_lit W #[] 0 (base := W.heap.size) (e := 3) (size := 1) (Nat.le_refl _) (by simp) rfl
        have HPS : Hid (plist p ++ [.int .i64 (y : Int)] = plist (p ++ [y])) := by show _ = _; simp [plist]
        have HIH : Hid (∀ (gB cB : Nat) (W : World), Below w6.heap.size w6 W → W.ownsRow w6.heap.size 3 1 (.slice (some ⟨gB, 0, none⟩) (p.length + 1) cB) (p.length + 1) (plist p ++ [.int .i64 (y : Int)]) → Calls Try.prog 48 #[.agg #[.int .i64 (Kn : Int), .slice ao ts.length cap], .slice (some ⟨gB, 0, none⟩) (p.length + 1) cB, .int .i64 (b : Int), .int .i64 (s : Int), .slice (some ⟨G', 0, none⟩) m C'] W fun e W' => ∃ G2 C2 gs2 cs2, e = .returned (.slice (some ⟨G2, 0, none⟩) (pre ++ onL (tieNB ts) b s f p L (jj + 1)).length C2) ∧ Ost w w5 W' lo G (pre ++ onL (tieNB ts) b s f p L (jj + 1)) G2 C2 gs2 cs2) := fun gB cB W hW hrow => by
          rw [HPS.out] at hrow
          have hlen : (p ++ [y]).length = p.length + 1 := by simp
          have OW := O6.out.next hW
          have := ih (p ++ [y]) w6.heap.size gB cB G' C' (pre ++ onL (tieNB ts) b s f p L jj) gs' cs' W (by rw [hlen]; omega) (by rw [hlen]; omega) (T6.out W hW) (by rw [hlen]; exact hrow) OW.A (by have := hW.size; omega) (by
            have h1 := onL_pre (tieNB ts) b s f p L (j := jj + 1) (by omega)
            rw [HON.out, HONL.out, List.length_append] at h1
            rw [List.length_append]
            omega)
          rw [hlen, ← HMM.out] at this
          refine this.mono ?_
          rintro e W' ⟨G2, C2, gs2, cs2, rfl, r1, r2, r3⟩
          rw [List.append_assoc, ← HON.out] at r1
          refine ⟨G2, C2, gs2, cs2, by rw [List.append_assoc, ← HON.out], OW.then r1 r2 r3⟩
        have LITY : Hid (((w6.alloc (.cells #[.int .i64 (y : Int)] 3)).alloc (.cells #[] 3)).ownsRow w6.heap.size 3 1 (.slice (some ⟨w6.heap.size + 1, 0, none⟩) 0 0) 0 []) := by
          have := LIT.out (w6.alloc (.cells #[.int .i64 (y : Int)] 3))
          rw [World.size_alloc] at this
          exact hideP (own_low this (by omega))
        have g6 : g2 < w6.heap.size := by omega
        have w6l : w.heap.size < w6.heap.size := by omega
        have HRES : Hid (∀ (G2 C2 : Nat) (gs2 cs2 : Nat → Nat) (W : World), Ost w w5 W lo G (pre ++ onL (tieNB ts) b s f p L (jj + 1)) G2 C2 gs2 cs2 → ∃ (j2 G3 C3 : Nat) (gs3 cs3 : Nat → Nat), j2 ≤ L.length ∧ Value.int .i64 ((jj : Int) + 1) = .int .i64 (j2 : Int) ∧ Value.slice (some ⟨G2, 0, none⟩) (pre ++ onL (tieNB ts) b s f p L (jj + 1)).length C2 = .slice (some ⟨G3, 0, none⟩) (pre ++ onL (tieNB ts) b s f p L j2).length C3 ∧ Ost w w5 W lo G (pre ++ onL (tieNB ts) b s f p L j2) G3 C3 gs3 cs3) := fun G2 C2 gs2 cs2 W h => ⟨jj + 1, G2, C2, gs2, cs2, by omega, by go_num, rfl, h⟩
        obtain ⟨m', hm'⟩ : ∃ m', m' = (pre ++ onL (tieNB ts) b s f p L (jj + 1)).length := ⟨_, rfl⟩
        rw [← hm'] at HIH HRES
        clear hb6 HO cy d0 d1 YR RW YR6 T6 ih hfew hm' HON HMM HM
        go_wp2_with fail
        go_region_law (first | (refine step_append_lies _ (by rfl) _ _ _ (by rfl) w6.heap.size 3 i0 _ 1 8 Try.underlying30 HI.out.1 HI.out.2.1 HI.out.2.2.1 HI.out.2.2.2 rfl (by omega) (.slice (some ⟨w6.heap.size, 0, none⟩) 0 0) 0 [] (by rfl) (LIT.out w6).drew ⟨gw, 0, none⟩ p.length cw (plist p) (by rfl) HPL.out (WAYC.out _ (below_one w6 (.cells #[] 3)).drew) H1.out (by omega) (by unfold maxLen; omega) (by omega) (by first | (simp; done) | (simp; omega)) (w6.heap.size + 1) (by simp) ?_; intro gA cA wA hownA hgrowA hatA hltA; have OA : Hid (wA.ownsRow w6.heap.size 3 1 (.slice (some ⟨gA, 0, none⟩) p.length cA) p.length (plist p)) := hideP (by simpa using hownA); have bA : Hid (Below w6.heap.size w6 wA) := hideP ((below_one w6 (.cells #[] 3)).drew.grown hgrowA (by first | (simp; done) | (simp; omega)) (fun j e => by simp [Value.ownBlock] at e; omega)); have sA : w6.heap.size < wA.heap.size := (by have := hgrowA.size; simp at this; omega); have lA : w.heap.size < wA.heap.size := (by omega); have lA2 : g2 < wA.heap.size := (by omega); have yA : wA.cell? ⟨g2, off2 + jj, none⟩ = some (.int .i64 (y : Int)) := (bA.out.cell (p := ⟨g2, off2 + jj, none⟩) (by show g2 < w6.heap.size; omega)).trans y6; have mA0 : wA.cell? ⟨w.heap.size, 0, none⟩ = some (.int .i64 (Kn : Int)) := (bA.out.cell (p := ⟨w.heap.size, 0, none⟩) (by show w.heap.size < w6.heap.size; omega)).trans m0; have mA1 : wA.cell? ⟨w.heap.size, 1, none⟩ = some (.slice ao ts.length cap) := (bA.out.cell (p := ⟨w.heap.size, 1, none⟩) (by show w.heap.size < w6.heap.size; omega)).trans m1; clear hownA hgrowA hatA hltA) | (refine step_append_lies _ (by rfl) _ _ _ (by rfl) w6.heap.size 3 i0 _ 1 8 Try.underlying30 HI.out.1 HI.out.2.1 HI.out.2.2.1 HI.out.2.2.2 rfl (by omega) (.slice (some ⟨w6.heap.size, 0, none⟩) 0 0) 0 [] (by rfl) ((LIT.out w6).alloc (.cells #[.int .i64 (y : Int)] 3)).drew ⟨gw, 0, none⟩ p.length cw (plist p) (by rfl) HPL.out (WAYC.out _ (below_two w6 (.cells #[] 3) (.cells #[.int .i64 (y : Int)] 3)).drew) H1.out (by omega) (by unfold maxLen; omega) (by omega) (by first | (simp; done) | (simp; omega)) (w6.heap.size + 1 + 1) (by simp) ?_; intro gA cA wA hownA hgrowA hatA hltA; have OA : Hid (wA.ownsRow w6.heap.size 3 1 (.slice (some ⟨gA, 0, none⟩) p.length cA) p.length (plist p)) := hideP (by simpa using hownA); have bA : Hid (Below w6.heap.size w6 wA) := hideP ((below_two w6 (.cells #[] 3) (.cells #[.int .i64 (y : Int)] 3)).drew.grown hgrowA (by first | (simp; done) | (simp; omega)) (fun j e => by simp [Value.ownBlock] at e; omega)); have sA : w6.heap.size < wA.heap.size := (by have := hgrowA.size; simp at this; omega); have lA : w.heap.size < wA.heap.size := (by omega); have lA2 : g2 < wA.heap.size := (by omega); have yA : wA.cell? ⟨g2, off2 + jj, none⟩ = some (.int .i64 (y : Int)) := (bA.out.cell (p := ⟨g2, off2 + jj, none⟩) (by show g2 < w6.heap.size; omega)).trans y6; have mA0 : wA.cell? ⟨w.heap.size, 0, none⟩ = some (.int .i64 (Kn : Int)) := (bA.out.cell (p := ⟨w.heap.size, 0, none⟩) (by show w.heap.size < w6.heap.size; omega)).trans m0; have mA1 : wA.cell? ⟨w.heap.size, 1, none⟩ = some (.slice ao ts.length cap) := (bA.out.cell (p := ⟨w.heap.size, 1, none⟩) (by show w.heap.size < w6.heap.size; omega)).trans m1; have nbA : Hid (wA.heap[w6.heap.size + 1]? = some (Obj.cells #[.int .i64 (y : Int)] 3 (0, 0))) := hideP ((hgrowA.block (w6.heap.size + 1) (by simp) (by simp [Value.ownBlock])).trans (by have := World.alloc_heap_new (w6.alloc (.cells #[] 3)) (.cells #[.int .i64 (y : Int)] 3); rw [World.size_alloc] at this; exact this)); clear hownA hgrowA hatA hltA) | (refine step_append_lies _ (by rfl) _ _ _ (by rfl) w6.heap.size 3 i0 _ 1 8 Try.underlying30 HI.out.1 HI.out.2.1 HI.out.2.2.1 HI.out.2.2.2 rfl (by omega) (.slice (some ⟨w6.heap.size + 1, 0, none⟩) 0 0) 0 [] (by rfl) (LITY.out).drew ⟨gw, 0, none⟩ p.length cw (plist p) (by rfl) HPL.out (WAYC.out _ (below_two w6 (.cells #[.int .i64 (y : Int)] 3) (.cells #[] 3)).drew) H1.out (by omega) (by unfold maxLen; omega) (by omega) (by first | (simp; done) | (simp; omega)) (w6.heap.size + 1 + 1) (by simp) ?_; intro gA cA wA hownA hgrowA hatA hltA; have OA : Hid (wA.ownsRow w6.heap.size 3 1 (.slice (some ⟨gA, 0, none⟩) p.length cA) p.length (plist p)) := hideP (by simpa using hownA); have bA : Hid (Below w6.heap.size w6 wA) := hideP ((below_two w6 (.cells #[.int .i64 (y : Int)] 3) (.cells #[] 3)).drew.grown hgrowA (by first | (simp; done) | (simp; omega)) (fun j e => by simp [Value.ownBlock] at e; omega)); have sA : w6.heap.size < wA.heap.size := (by have := hgrowA.size; simp at this; omega); have lA : w.heap.size < wA.heap.size := (by omega); have lA2 : g2 < wA.heap.size := (by omega); have yA : wA.cell? ⟨g2, off2 + jj, none⟩ = some (.int .i64 (y : Int)) := (bA.out.cell (p := ⟨g2, off2 + jj, none⟩) (by show g2 < w6.heap.size; omega)).trans y6; have mA0 : wA.cell? ⟨w.heap.size, 0, none⟩ = some (.int .i64 (Kn : Int)) := (bA.out.cell (p := ⟨w.heap.size, 0, none⟩) (by show w.heap.size < w6.heap.size; omega)).trans m0; have mA1 : wA.cell? ⟨w.heap.size, 1, none⟩ = some (.slice ao ts.length cap) := (bA.out.cell (p := ⟨w.heap.size, 1, none⟩) (by show w.heap.size < w6.heap.size; omega)).trans m1; have nbA : Hid (wA.heap[w6.heap.size]? = some (Obj.cells #[.int .i64 (y : Int)] 3 (0, 0))) := hideP ((hgrowA.block w6.heap.size (by simp; omega) (by simp [Value.ownBlock])).trans ((Below.heap_alloc _ _ _ (by simp)).trans (World.alloc_heap_new w6 _))); clear hownA hgrowA hatA hltA) | (refine step_append_lies _ (by rfl) _ _ _ (by rfl) w6.heap.size 3 i0 _ 1 8 Try.underlying30 HI.out.1 HI.out.2.1 HI.out.2.2.1 HI.out.2.2.2 rfl (by omega) (.slice (some ⟨gA, 0, none⟩) p.length cA) p.length (plist p) (by first | rfl | simp) (OA.out.alloc _) ⟨wA.heap.size, 0, none⟩ 1 1 [.int .i64 (y : Int)] (by rfl) (by rfl) (World.news_of_block (cs := #[.int .i64 (y : Int)]) (t := 3) (fr := (0, 0)) (heap_alloc_new wA _)) (by simp [Value.oneCell']) (by omega) (by unfold maxLen; omega) (by omega) (by first | omega | (simp; omega)) (wA.heap.size + 1) (by simp) ?_; intro gB cB wB hownB hgrowB hatB hltB; have OB := hideP hownB; have hgA : w6.heap.size ≤ gA := (by obtain ⟨_, _, _, h⟩ := row_type (g := gA) (c := cA) OA.out rfl; exact h); have bB : Hid (Below w6.heap.size w6 wB) := hideP ((bA.out.alloc (by omega) (.cells #[.int .i64 (y : Int)] 3)).grown hgrowB (by first | omega | (simp; omega)) (fun j e => by simp [Value.ownBlock] at e; omega)); have mB0 : wB.cell? ⟨w.heap.size, 0, none⟩ = some (.int .i64 (Kn : Int)) := (bB.out.cell (p := ⟨w.heap.size, 0, none⟩) (by show w.heap.size < w6.heap.size; omega)).trans m0; have mB1 : wB.cell? ⟨w.heap.size, 1, none⟩ = some (.slice ao ts.length cap) := (bB.out.cell (p := ⟨w.heap.size, 1, none⟩) (by show w.heap.size < w6.heap.size; omega)).trans m1; clear hownB hgrowB hatB hltB) | (refine step_append_lies _ (by rfl) _ _ _ (by rfl) w6.heap.size 3 i0 _ 1 8 Try.underlying30 HI.out.1 HI.out.2.1 HI.out.2.2.1 HI.out.2.2.2 rfl (by omega) (.slice (some ⟨gA, 0, none⟩) p.length cA) p.length (plist p) (by first | rfl | simp) OA.out ⟨_, 0, none⟩ 1 1 [.int .i64 (y : Int)] (by rfl) (by rfl) (World.news_of_block (cs := #[.int .i64 (y : Int)]) (t := 3) (fr := (0, 0)) nbA.out) (by simp [Value.oneCell']) (by omega) (by unfold maxLen; omega) (by omega) (by first | omega | (simp; omega)) (wA.heap.size) (by simp) ?_; intro gB cB wB hownB hgrowB hatB hltB; have OB := hideP hownB; have hgA : w6.heap.size ≤ gA := (by obtain ⟨_, _, _, h⟩ := row_type (g := gA) (c := cA) OA.out rfl; exact h); have bB : Hid (Below w6.heap.size w6 wB) := hideP (bA.out.grown hgrowB (by first | omega | (simp; omega)) (fun j e => by simp [Value.ownBlock] at e; omega)); have mB0 : wB.cell? ⟨w.heap.size, 0, none⟩ = some (.int .i64 (Kn : Int)) := (bB.out.cell (p := ⟨w.heap.size, 0, none⟩) (by show w.heap.size < w6.heap.size; omega)).trans m0; have mB1 : wB.cell? ⟨w.heap.size, 1, none⟩ = some (.slice ao ts.length cap) := (bB.out.cell (p := ⟨w.heap.size, 1, none⟩) (by show w.heap.size < w6.heap.size; omega)).trans m1; clear hownB hgrowB hatB hltB) | (go_simp; go_at_call 48; refine (HIH.out gB cB _ bB.out OB.out).mono ?_; rintro e w9 ⟨G2, C2, gs2, cs2, rfl, hO9⟩))
        all_goals
          have F9 := hideP (HRES.out G2 C2 gs2 cs2 _ hO9)
          clear hO9 HIH HRES LIT LITY WAYC O6
          go_wp2
          refine ⟨?_, ?_⟩
          · exact F9.out
          · simp [intOf]; omega
      · have HM := hideP hm
        have HON : Hid (onL (tieNB ts) b s f p L (jj + 1) = onL (tieNB ts) b s f p L jj) := by
          rw [onL_succ _ _ _ _ _ _ hlt, ← HY.out, onN, if_pos (by simpa using hm), List.append_nil]
          exact hideP rfl
        clear hm
        go_wp2_with fail
        refine (l2Has_v true _ _ p y _ (by omega) RW.out HM.out).mono ?_
        rintro e w6 ⟨rfl, hb6⟩
        have O6 := hideP (HO.out.next hb6)
        clear hb6 HO cy d0 d1 YR RW
        go_wp2
        go_roundw
        case rel => exact ⟨jj + 1, G', C', gs', cs', by omega, by go_num, by rw [HON.out, ← HMM.out], by rw [HON.out]; exact O6.out⟩
        case measure => simp [intOf]; omega
    · obtain rfl : jj = L.length := by omega
      rw [HONL.out] at HO ⊢
      have F : Hid (OnPost w lo G (pre ++ onTo (tieNB ts) b s f p 8) (.returned (.slice (some ⟨G', 0, none⟩) (pre ++ onTo (tieNB ts) b s f p 8).length C')) wr) := by
        have hs5 : w.heap.size < w5.heap.size := X5.out.lt
        refine ⟨G', C', gs', cs', rfl, HO.out.A, ⟨HO.out.fr.os.trans X5.out.B.os, HO.out.fr.tape.trans X5.out.B.tape, HO.out.fr.output.trans X5.out.B.output, Nat.le_trans X5.out.B.size HO.out.fr.size, fun k hk hne => (HO.out.fr.block k (by omega) hne).trans (X5.out.B.block k hk)⟩, ?_⟩
        have := HO.out.at'
        omega
      clear HO
      go_wp2
      go_ret
      exact F.out

/-- spec.l2On puts all ways that go on from one behind others -/
theorem on_any (Kn : Nat) (ao : Option Addr) (cap : Nat) (ts : List (Int × Int)) (hn : ts.length ≤ 1099511627776) (hok : okB (Kn : Int) ts = true) (b s lo : Nat) (hs : s ≤ 8) :
    ∀ (f : Nat) (p : List Nat) (lw gw cw G C : Nat) (pre : List (List Nat)) (gs cs : Nat → Nat) (w : World), p.length + f = s → 0 < p.length → TiesIn w lo ao ts → w.ownsRow lw 3 1 (.slice (some ⟨gw, 0, none⟩) p.length cw) p.length (plist p) → Acc w lo G C pre gs cs → lo ≤ w.heap.size → pre.length + (onW (tieNB ts) b s f p).length ≤ 20000000 →
      Calls Try.prog 48 #[.agg #[.int .i64 (Kn : Int), .slice ao ts.length cap], .slice (some ⟨gw, 0, none⟩) p.length cw, .int .i64 (b : Int), .int .i64 (s : Int), .slice (some ⟨G, 0, none⟩) pre.length C] w (OnPost w lo G (pre ++ onW (tieNB ts) b s f p)) := by
  intro f
  induction f with
  | zero =>
    intro p lw gw cw G C pre gs cs w hp h0 ht hway hA hlo hfew
    by_cases hb : lastN p = b
    · have hon : onW (tieNB ts) b s 0 p = [p] := by rw [onW_end hb, if_pos (by omega)]
      rw [hon] at hfew ⊢
      exact on_end Kn ao cap ts p b s lw gw cw lo G C pre gs cs w hs h0 (by omega) hb hway hA hlo (by simp at hfew; omega)
    · rw [onW_stop hb, List.append_nil]
      exact on_none Kn ao cap ts p b s lw gw cw lo G C pre gs cs w hs h0 (by omega) (Or.inr ⟨hb, by omega⟩) hway hA
  | succ f ih =>
    intro p lw gw cw G C pre gs cs w hp h0 ht hway hA hlo hfew
    by_cases hb : lastN p = b
    · rw [onW_end hb, if_neg (by omega), List.append_nil]
      exact on_none Kn ao cap ts p b s lw gw cw lo G C pre gs cs w hs h0 (by omega) (Or.inl ⟨hb, by omega⟩) hway hA
    · rw [onW_go hb] at hfew ⊢
      exact on_go Kn ao cap ts hn hok b s f lo hs ih p lw gw cw G C pre gs cs w hp h0 hb ht hway hA hlo hfew

end Go.Proofs.Ytljnjpjnadlmhaa

/- Walk of spec.WayAll: it is all ways, too. -/
namespace Go.Proofs.Ytljnjpjnadlmhaa
open Go.RowKit
set_option linter.unusedVariables false

theorem Acc.new (w : World) : Acc (w.alloc (.cells #[] 30)) w.heap.size w.heap.size 0 [] (fun _ => 0) (fun _ => 0) :=
  ⟨by simpa [rowVs] using World.ownsRow_lit w #[] 0 (base := w.heap.size) (e := 30) (size := 1) (Nat.le_refl _) (by simp) rfl, ⟨fun i hi => absurd hi (by simp), fun i j _ hj => absurd hj (by simp)⟩⟩
theorem Acc.down {W : World} {lo lo' G C : Nat} {pre : List (List Nat)} {gs cs : Nat → Nat} (h : Acc W lo G C pre gs cs) (hl : lo' ≤ lo) : Acc W lo' G C pre gs cs := ⟨own_low h.out hl, ⟨fun i hi => own_low (h.row.row i hi) hl, h.row.ne⟩⟩
theorem one_row (w : World) (a : Nat) : (w.alloc (.cells #[.int .i64 (a : Int)] 3)).ownsRow w.heap.size 3 1 (.slice (some ⟨w.heap.size, 0, none⟩) 1 1) 1 (plist [a]) := by
  simpa [plist] using World.ownsRow_lit w #[.int .i64 (a : Int)] 1 (base := w.heap.size) (e := 3) (size := 1) (Nat.le_refl _) (by simp [maxLen]) rfl
/-- what stands while spec.WayAll goes through the sizes -/
structure Sst (w wr : World) (Kn : Nat) (nv : Value) (ps : List (List Nat)) (G C : Nat) (gs cs : Nat → Nat) : Prop where
  X : Bx w wr (Kn : Int) nv
  A : Acc wr (w.heap.size + 1) G C ps gs cs
theorem Sst.next {w wr w' : World} {Kn : Nat} {nv : Value} {ps : List (List Nat)} {G C : Nat} {gs cs : Nat → Nat} (h : Sst w wr Kn nv ps G C gs cs) (hb : Below wr.heap.size wr w') : Sst w w' Kn nv ps G C gs cs := ⟨h.X.next hb, h.A.kept hb⟩
theorem Sst.then {w wr w' : World} {Kn : Nat} {nv : Value} {ps ps' : List (List Nat)} {G C G2 C2 : Nat} {gs cs gs2 cs2 : Nat → Nat} (h : Sst w wr Kn nv ps G C gs cs) (hA : Acc w' (w.heap.size + 1) G2 C2 ps' gs2 cs2) (hg : wr.grownBy w' (some G)) : Sst w w' Kn nv ps' G2 C2 gs2 cs2 := by
  have hG := h.A.lt.1
  have hb : Below (w.heap.size + 1) wr w' := ⟨hg.os, hg.tape, hg.output, hg.size, fun k hk => hg.block k (by have := h.X.lt; omega) (by intro e; cases e; omega)⟩
  exact ⟨⟨(hb.cell (p := ⟨w.heap.size, 0, none⟩) (by show w.heap.size < w.heap.size + 1; omega)).trans h.X.c0, (hb.cell (p := ⟨w.heap.size, 1, none⟩) (by show w.heap.size < w.heap.size + 1; omega)).trans h.X.c1, Nat.lt_of_lt_of_le h.X.lt hb.size, h.X.B.trans (hb.mono (by omega))⟩, hA⟩

set_option maxHeartbeats 1600000 in
theorem specAll_no (K : Int) (ao : Option Addr) (cap : Nat) (ts : List (Int × Int)) (a b : Int) (w : World) (hn : ts.length ≤ 1099511627776) (ht : TiesIn w w.heap.size ao ts) (hno : (okB K ts && knotB a K && knotB b K) = false) :
    Calls Try.prog 25 #[.agg #[.int .i64 K, .slice ao ts.length cap], .int .i64 a, .int .i64 b] w fun e w' => ∃ G C gs cs, e = .returned (.slice (some ⟨G, 0, none⟩) 0 C) ∧ Acc w' w.heap.size G C [] gs cs ∧ Below w.heap.size w w' := by
  have X0 := fun (t u : TypeId) => (Bx.start w K (.slice ao ts.length cap) t).next (below_one _ (.cells #[] u))
  have R0 : ∀ t : TypeId, Acc ((w.alloc (.cells #[.int .i64 K, .slice ao ts.length cap] t)).alloc (.cells #[] 30)) (w.heap.size + 1) (w.heap.size + 1) 0 [] (fun _ => 0) (fun _ => 0) := fun t => by
    have h := Acc.new (w.alloc (.cells #[.int .i64 K, .slice ao ts.length cap] t))
    rw [World.size_alloc] at h
    exact h
  have HX0 := hideP X0
  have HR0 := hideP R0
  have HT := hideP ht
  clear X0 R0 ht
  cases h1 : (okB K ts && knotB a K)
  · have HV := hideP h1
    clear h1 hno
    go_enter Try.func25, Try.ntmps25
    go_wp2_with fail
    refine (l1Knot_v false K ao cap ts a _ hn ((HT.out.below (HX0.out _ _).B (Nat.le_refl _)).wide (Nat.le_of_lt (HX0.out _ _).lt)) HV.out).mono ?_
    rintro e w1 ⟨rfl, hb1⟩
    have X1 := hideP ((HX0.out _ _).next hb1)
    have R1 := hideP ((HR0.out _).kept hb1)
    clear hb1
    go_wp2
    go_ret
    exact ⟨_, _, _, _, rfl, R1.out.down (by omega), X1.out.B⟩
  · have HV := hideP h1
    have h2 : (okB K ts && knotB b K) = false := by
      rw [h1] at hno
      simp only [Bool.and_eq_true] at h1
      rw [h1.1]; simpa using hno
    have HV2 := hideP h2
    clear h1 hno h2
    go_enter Try.func25, Try.ntmps25
    go_wp2_with fail
    refine (l1Knot_v true K ao cap ts a _ hn ((HT.out.below (HX0.out _ _).B (Nat.le_refl _)).wide (Nat.le_of_lt (HX0.out _ _).lt)) HV.out).mono ?_
    rintro e w1 ⟨rfl, hb1⟩
    have X1 := hideP ((HX0.out _ _).next hb1)
    have R1 := hideP ((HR0.out _).kept hb1)
    clear hb1
    have c0 := X1.out.c0
    have c1 := X1.out.c1
    go_wp2_with fail
    refine (l1Knot_v false K ao cap ts b _ hn ((HT.out.below X1.out.B (Nat.le_refl _)).wide (Nat.le_of_lt X1.out.lt)) HV2.out).mono ?_
    rintro e w2 ⟨rfl, hb2⟩
    have X2 := hideP (X1.out.next hb2)
    have R2 := hideP (R1.out.kept hb2)
    clear hb2 c0 c1 X1 R1
    go_wp2
    go_ret
    exact ⟨_, _, _, _, rfl, R2.out.down (by omega), X2.out.B⟩

set_option maxHeartbeats 1600000 in
theorem specAll_ok (Kn : Nat) (ao : Option Addr) (cap : Nat) (ts : List (Int × Int)) (a b : Nat) (w : World) (hn : ts.length ≤ 1099511627776) (ht : TiesIn w w.heap.size ao ts) (hok : okB (Kn : Int) ts = true) (haK : a < Kn) (hbK : b < Kn) :
    Calls Try.prog 25 #[.agg #[.int .i64 (Kn : Int), .slice ao ts.length cap], .int .i64 (a : Int), .int .i64 (b : Int)] w fun e w' => ∃ G C gs cs, e = .returned (.slice (some ⟨G, 0, none⟩) (allTo (tieNB ts) a b Kn).length C) ∧ Acc w' w.heap.size G C (allTo (tieNB ts) a b Kn) gs cs ∧ Below w.heap.size w w' := by
  have hK8 : Kn ≤ 8 := by have := (okB_iff.1 hok).2.1; omega
  have h1 : (okB (Kn : Int) ts && knotB (a : Int) (Kn : Int)) = true := by rw [hok]; simp [knotB]; omega
  have h2 : (okB (Kn : Int) ts && knotB (b : Int) (Kn : Int)) = true := by rw [hok]; simp [knotB]; omega
  have HV := hideP h1
  have HV2 := hideP h2
  have HFW : Hid (∀ k, k < Kn → (allTo (tieNB ts) a b k).length + (onW (tieNB ts) b (k + 1) k [a]).length ≤ 20000000) := fun k hk => by
    have h3 := waysB_few (Kn : Int) ts (a : Int) (b : Int)
    rw [waysB_yes (by rw [hok]; simp [knotB]; omega)] at h3
    simp only [Int.toNat_natCast] at h3
    have h4 := (allTo_le (E := tieNB ts) (a := a) (b := b) (k := k + 1) (j := Kn) (by omega)).length_le
    rw [allTo_succ, List.length_append] at h4
    omega
  have X0 := fun (t u : TypeId) => (Bx.start w (Kn : Int) (.slice ao ts.length cap) t).next (below_one _ (.cells #[] u))
  have R0 : ∀ t : TypeId, Acc ((w.alloc (.cells #[.int .i64 (Kn : Int), .slice ao ts.length cap] t)).alloc (.cells #[] 30)) (w.heap.size + 1) (w.heap.size + 1) 0 [] (fun _ => 0) (fun _ => 0) := fun t => by
    have h := Acc.new (w.alloc (.cells #[.int .i64 (Kn : Int), .slice ao ts.length cap] t))
    rw [World.size_alloc] at h
    exact h
  have HX0 := hideP X0
  have HR0 := hideP R0
  have HT := hideP ht
  clear X0 R0 ht h1 h2
  go_enter Try.func25, Try.ntmps25
  go_wp2_with fail
  refine (l1Knot_v true _ ao cap ts _ _ hn ((HT.out.below (HX0.out _ _).B (Nat.le_refl _)).wide (Nat.le_of_lt (HX0.out _ _).lt)) HV.out).mono ?_
  rintro e w1 ⟨rfl, hb1⟩
  have X1 := hideP ((HX0.out _ _).next hb1)
  have R1 := hideP ((HR0.out _).kept hb1)
  clear hb1 HX0 HR0
  have c0 := X1.out.c0
  have c1 := X1.out.c1
  go_wp2_with fail
  refine (l1Knot_v true _ ao cap ts _ _ hn ((HT.out.below X1.out.B (Nat.le_refl _)).wide (Nat.le_of_lt X1.out.lt)) HV2.out).mono ?_
  rintro e w2 ⟨rfl, hb2⟩
  have S2 : Hid (Sst w w2 Kn (.slice ao ts.length cap) (allTo (tieNB ts) a b 0) (w.heap.size + 1) 0 (fun _ => 0) (fun _ => 0)) := ⟨X1.out.next hb2, R1.out.kept hb2⟩
  clear hb2 c0 c1 X1 R1
  go_wp2
  go_loopw [7, 8] (fun v i wr => ∃ (k G C : Nat) (gs cs : Nat → Nat), k ≤ Kn ∧ i = .int .i64 ((k : Int) + 1) ∧ v = .slice (some ⟨G, 0, none⟩) (allTo (tieNB ts) a b k).length C ∧ Sst w wr Kn (.slice ao ts.length cap) (allTo (tieNB ts) a b k) G C gs cs)
    (fun _ i _ => 9 - (intOf i).toNat)
  case atStart => exact ⟨0, w.heap.size + 1, 0, _, _, Nat.zero_le _, rfl, rfl, S2.out⟩
  case round =>
    clear S2
    obtain ⟨k, G, C, gs, cs, hk, rfl, rfl, hS⟩ := hrel
    have c0 := hS.X.c0
    have c1 := hS.X.c1
    have HS := hideP hS
    have nl := hS.X.lt
    clear hS
    by_cases hlt : k < Kn
    · have hk1 : (k : Int) + 1 ≤ (Kn : Int) := by omega
      have bo := below_one wr (.cells #[.int .i64 (a : Int)] 3)
      have S3 := hideP (HS.out.next bo)
      have T3 : Hid (TiesIn (wr.alloc (.cells #[.int .i64 (a : Int)] 3)) (w.heap.size + 1) ao ts) := (HT.out.below S3.out.X.B (Nat.le_refl _)).wide (by omega)
      have OC : Hid (Calls Try.prog 48 #[.agg #[.int .i64 (Kn : Int), .slice ao ts.length cap], .slice (some ⟨wr.heap.size, 0, none⟩) 1 1, .int .i64 (b : Int), .int .i64 ((k : Int) + 1), .slice (some ⟨G, 0, none⟩) (allTo (tieNB ts) a b k).length C] (wr.alloc (.cells #[.int .i64 (a : Int)] 3)) (OnPost (wr.alloc (.cells #[.int .i64 (a : Int)] 3)) (w.heap.size + 1) G (allTo (tieNB ts) a b (k + 1)))) := by
        rw [allTo_succ]
        exact hideP (on_any Kn ao cap ts hn hok b (k + 1) (w.heap.size + 1) (by omega) k [a] wr.heap.size wr.heap.size 1 G C (allTo (tieNB ts) a b k) gs cs _ (by simp; omega) (by simp) T3.out (one_row wr a) S3.out.A (by simp; omega) (HFW.out k hlt))
      obtain ⟨m, hm⟩ : ∃ m, m = (allTo (tieNB ts) a b k).length := ⟨_, rfl⟩
      rw [← hm] at OC ⊢
      clear bo hm HFW HS T3
      go_wp2_with fail
      refine OC.out.mono ?_
      rintro e w5 ⟨G2, C2, gs2, cs2, rfl, r1, r2, r3⟩
      have S5 := hideP (S3.out.then r1 r2)
      clear r1 r2 r3 S3 OC c0 c1
      obtain ⟨m2, hm2⟩ : ∃ m2, m2 = (allTo (tieNB ts) a b (k + 1)).length := ⟨_, rfl⟩
      have HM2 := hideP hm2
      rw [← hm2]
      clear hm2
      go_wp2
      go_roundw
      case rel => exact ⟨k + 1, G2, C2, gs2, cs2, by omega, by go_num, by rw [← HM2.out], S5.out⟩
      case measure => simp [intOf]; omega
    · obtain rfl : k = Kn := by omega
      have hk1 : ¬ ((k : Int) + 1 ≤ (k : Int)) := by omega
      obtain ⟨m, hm⟩ : ∃ m, m = (allTo (tieNB ts) a b k).length := ⟨_, rfl⟩
      have HMM := hideP hm
      rw [← hm]
      clear hm
      go_wp2
      go_ret
      exact ⟨G, C, (by rw [← HMM.out]; rfl), ⟨gs, cs, HS.out.A.down (by omega)⟩, HS.out.X.B⟩
/-- spec.WayAll is all ways -/
theorem specAll_any (K : Int) (ao : Option Addr) (cap : Nat) (ts : List (Int × Int)) (a b : Int) (w : World) (hn : ts.length ≤ 1099511627776) (ht : TiesIn w w.heap.size ao ts) :
    Calls Try.prog 25 #[.agg #[.int .i64 K, .slice ao ts.length cap], .int .i64 a, .int .i64 b] w fun e w' => ∃ G C gs cs, e = .returned (.slice (some ⟨G, 0, none⟩) (waysB K ts a b).length C) ∧ Acc w' w.heap.size G C (waysB K ts a b) gs cs ∧ Below w.heap.size w w' := by
  cases hc : (okB K ts && knotB a K && knotB b K)
  · rw [waysB_no hc]
    exact specAll_no K ao cap ts a b w hn ht hc
  · have hc' := hc
    simp only [Bool.and_eq_true] at hc'
    obtain ⟨⟨h1, h2⟩, h3⟩ := hc'
    have hK := (okB_iff.1 h1)
    have ha : 0 ≤ a ∧ a < K := by simpa [knotB] using h2
    have hb : 0 ≤ b ∧ b < K := by simpa [knotB] using h3
    obtain ⟨Kn, rfl⟩ : ∃ n : Nat, K = (n : Int) := ⟨K.toNat, by omega⟩
    obtain ⟨x, rfl⟩ : ∃ n : Nat, a = (n : Int) := ⟨a.toNat, by omega⟩
    obtain ⟨y, rfl⟩ : ∃ n : Nat, b = (n : Int) := ⟨b.toNat, by omega⟩
    have e := waysB_yes hc
    simp only [Int.toNat_natCast] at e
    rw [e]
    exact specAll_ok Kn ao cap ts x y w hn ht h1 (by omega) (by omega)

end Go.Proofs.Ytljnjpjnadlmhaa
