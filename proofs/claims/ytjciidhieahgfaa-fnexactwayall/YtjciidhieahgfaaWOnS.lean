/- Walk of spec.l2On: all ways that go on from one, put behind others. -/
import Derived.Test.YtjciidhieahgfaaWAllI
import Derived.Test.YtjciidhieahgfaaWNext
import Derived.Deep.RegionLaw
import Derived.Deep.AppendLies
import Derived.Deep.LoopGhost
namespace Go.Proofs.Ytjciidhieahgfaa
open Go.RowKit
set_option linter.unusedVariables false

/-- ways that were put together: the row of rows, and each row -/
structure Acc (W : World) (lo : Nat) (G C : Nat) (pre : List (List Nat)) (gs cs : Nat → Nat) : Prop where
  out : W.ownsRow lo 26 1 (.slice (some ⟨G, 0, none⟩) pre.length C) pre.length (rowVs pre gs cs)
  row : Rws W lo pre gs cs
theorem Acc.kept {W W' : World} {lo G C : Nat} {pre : List (List Nat)} {gs cs : Nat → Nat} (h : Acc W lo G C pre gs cs) (hb : Below W.heap.size W W') : Acc W' lo G C pre gs cs :=
  ⟨own_kept2 h.out (fun g hg => hb.block g hg), h.row.kept hb.size (fun k _ _ hk => hb.block k (Array.getElem?_eq_some_iff.1 hk).1)⟩
theorem Acc.lt {W : World} {lo G C : Nat} {pre : List (List Nat)} {gs cs : Nat → Nat} (h : Acc W lo G C pre gs cs) : lo ≤ G ∧ G < W.heap.size := by
  obtain ⟨_, _, hb, hl⟩ := row_type (g := G) (c := C) h.out rfl
  exact ⟨hl, (Array.getElem?_eq_some_iff.1 hb).1⟩
/-- one more is put behind -/
theorem Acc.snoc {w w1 w3 : World} {lo G C G' C' : Nat} {pre : List (List Nat)} {x : List Nat} {gs cs : Nat → Nat} {g c lo1 : Nat} (h : Acc w lo G C pre gs cs) (hx : clip x = x) (hl : lo ≤ w.heap.size) (hb : Below w.heap.size w w1)
    (hn : w1.ownsRow lo1 3 1 (.slice (some ⟨g, 0, none⟩) x.length c) x.length (plist x)) (hlo : w.heap.size ≤ lo1)
    (h3 : w3.ownsRow lo 26 1 (.slice (some ⟨G', 0, none⟩) (pre.length + 1) C') (pre.length + 1) (rowVs pre gs cs ++ [.slice (some ⟨g, 0, none⟩) x.length c])) (hgr : (w1.alloc (.cells #[.slice (some ⟨g, 0, none⟩) x.length c] 26)).grownBy w3 (some G)) :
    Acc w3 lo G' C' (pre ++ [x]) (upd' gs pre.length g) (upd' cs pre.length c) ∧ w.grownBy w3 (some G) := by
  have hA := (h.kept hb).out
  obtain ⟨cG, fG, hGb, _⟩ := row_type (g := G) (c := C) hA rfl
  have same : ∀ (k : Nat) (ce : Array Value) (fr : Nat × Nat), w1.heap[k]? = some (Obj.cells ce 3 fr) → w3.heap[k]? = w1.heap[k]? := fun k ce fr hk => by
    have hkl := (Array.getElem?_eq_some_iff.1 hk).1
    refine (hgr.block k (by simp; omega) (fun e => ?_)).trans (Below.heap_alloc _ _ _ hkl)
    cases e
    rw [hGb] at hk; cases hk
  have hsz : w1.heap.size + 1 ≤ w3.heap.size := by have := hgr.size; simpa using this
  have hs1 := hb.size
  have hl2 : (pre ++ [x]).length = pre.length + 1 := by simp
  obtain ⟨cg, fg, hgb, hgl⟩ := row_type (g := g) (c := c) hn rfl
  refine ⟨⟨?_, ?_⟩, ⟨hgr.os.trans hb.os, hgr.tape.trans hb.tape, hgr.output.trans hb.output, by omega, fun k hk hne => ?_⟩⟩
  · rw [rowVs_snoc, hl2, hx]; exact h3
  · refine h.row.snoc (h.row.kept (by omega) (fun k ce fr hk => ?_)) ?_ (by omega)
    · have e := hb.block k (Array.getElem?_eq_some_iff.1 hk).1
      exact (same k ce fr (e.trans hk)).trans e
    · rw [hx]; exact own_low (own_at hn (same g cg fg hgb)) (by omega)
  · exact (hgr.block k (by simp; omega) hne).trans ((Below.heap_alloc _ _ _ (by omega)).trans (hb.block k hk))
theorem last_at' {p : List Nat} (h0 : 0 < p.length) : p.getD (p.length - 1) 0 = lastN p := by
  obtain ⟨q, z, rfl⟩ : ∃ q z, p = q ++ [z] := ⟨p.dropLast, p.getLast (by intro e; simp [e] at h0), (List.dropLast_concat_getLast _).symm⟩
  rw [lastN_snoc]; simp
/-- what is behind when ways were put behind others -/
def OnPost (w : World) (lo G : Nat) (all : List (List Nat)) (e : Ending) (w' : World) : Prop :=
  ∃ G' C' gs' cs', e = .returned (.slice (some ⟨G', 0, none⟩) all.length C') ∧ Acc w' lo G' C' all gs' cs' ∧ w.grownBy w' (some G) ∧ (G' = G ∨ w.heap.size ≤ G')

set_option maxHeartbeats 1600000 in
theorem on_end (Kn : Nat) (ao : Option Addr) (cap : Nat) (ts : List (Int × Int)) (p : List Nat) (b s lw gw cw lo G C : Nat) (pre : List (List Nat)) (gs cs : Nat → Nat) (w : World) (hs : s ≤ 8) (h0 : 0 < p.length) (hp : p.length = s) (hb : lastN p = b)
    (hway : w.ownsRow lw 3 1 (.slice (some ⟨gw, 0, none⟩) p.length cw) p.length (plist p)) (hA : Acc w lo G C pre gs cs) (hlo : lo ≤ w.heap.size) (hfew : pre.length ≤ 20000000) :
    Calls Try.prog 28 #[.agg #[.int .i64 (Kn : Int), .slice ao ts.length cap], .slice (some ⟨gw, 0, none⟩) p.length cw, .int .i64 (b : Int), .int .i64 (s : Int), .slice (some ⟨G, 0, none⟩) pre.length C] w (OnPost w lo G (pre ++ [p])) := by
  obtain ⟨i0, hi0, hz0, hz1, hz2⟩ := info_parts Try.infoInt
  have HI : Hid (Try.prog.info? 3 = some i0 ∧ i0.zero = some (.int .i64 0) ∧ i0.size = 1 ∧ i0.bytes = 8) := ⟨hi0, hz0, hz1, hz2⟩
  obtain ⟨i1, hj0, hk0, hk1, hk2⟩ := info_parts Try.infoInts
  have HI1 : Hid (Try.prog.info? 26 = some i1 ∧ i1.zero = some (.slice none 0 0) ∧ i1.size = 1 ∧ i1.bytes = 24) := ⟨hj0, hk0, hk1, hk2⟩
  clear hi0 hz0 hz1 hz2 hj0 hk0 hk1 hk2
  obtain ⟨ow, _, hgw⟩ := row_own hway rfl h0
  have bo := below_one w (.cells #[.int .i64 (Kn : Int), .slice ao ts.length cap] 31)
  have cl : (w.alloc (.cells #[.int .i64 (Kn : Int), .slice ao ts.length cap] 31)).cell? ⟨gw, p.length - 1, none⟩ = some (.int .i64 (b : Int)) := by
    rw [bo.cell (p := ⟨gw, p.length - 1, none⟩) hgw, ow.1 (p.length - 1) (by omega), pcellN, pn, last_at' h0, hb]
  have HW := hideP (own_kept2 hway (fun g hg => bo.block g hg))
  have HA := hideP (hA.kept bo)
  have HA0 := hideP hA
  have HB0 := hideP bo
  have q1 : (0 : Int) ≤ (p.length : Int) - 1 := by omega
  have q2 : (p.length : Int) - 1 < (p.length : Int) := by omega
  have q3 : ((p.length : Int) - 1).toNat = p.length - 1 := by omega
  have HCL : Hid (clip p = p) := clip_is h0 (by omega)
  clear ow hway hA bo hb
  subst hp
  have HN : Hid (∀ j u, (plist p)[j]? = some u → ((w.alloc (.cells #[.int .i64 (Kn : Int), .slice ao ts.length cap] 31)).alloc (.cells #[] 3)).cell? ((⟨gw, 0, none⟩ : Addr).add j) = some u) := by
    intro j u hu
    have hj : j < p.length := by have := (List.getElem?_eq_some_iff.1 hu).1; rwa [plist_len] at this
    obtain ⟨ow, _, hgw'⟩ := row_own HW.out rfl h0
    rw [plist_at p j hj] at hu
    have hadd : (⟨gw, 0, none⟩ : Addr).add j = ⟨gw, j, none⟩ := by unfold Addr.add; split <;> simp_all
    rw [hadd, (below_one _ _).cell (p := ⟨gw, j, none⟩) hgw', ow.1 j hj]; exact hu
  have H1 : Hid (∀ u ∈ plist p, u.oneCell' = true) := by
    intro u hu
    obtain ⟨x, _, rfl⟩ := List.mem_map.1 hu
    rfl
  have HL := hideP (plist_len p)
  have HS0 : Hid ((w.alloc (.cells #[.int .i64 (Kn : Int), .slice ao ts.length cap] 31)).heap.size = w.heap.size + 1) := World.size_alloc _ _
  obtain ⟨wa, hwa⟩ : ∃ wa, wa = w.alloc (.cells #[.int .i64 (Kn : Int), .slice ao ts.length cap] 31) := ⟨_, rfl⟩
  have HR0 : Hid ((wa.alloc (.cells #[] 3)).ownsRow (w.heap.size + 1) 3 1 (.slice (some ⟨w.heap.size + 1, 0, none⟩) 0 0) 0 []) := by
    have := World.ownsRow_lit wa #[] 0 (base := w.heap.size + 1) (e := 3) (size := 1) (by rw [hwa, HS0.out]; exact Nat.le_refl _) (by simp) rfl
    rw [hwa, HS0.out] at this
    rw [hwa]
    exact hideP (by simpa using this)
  have HWA := hideP hwa
  rw [← hwa] at HW HA HB0 HN HS0
  obtain ⟨k, hk⟩ : ∃ k, p.length = k + 1 := ⟨p.length - 1, by omega⟩
  have HK := hideP hk
  go_enter Try.func28, Try.ntmps28
  clear hk
  rw [hwa] at HR0
  go_wp2_with (at_builtin; refine wpList_append_own _ rfl _ _ 26 rfl (w.heap.size + 1) 3 i0 _ 1 8 Try.underlying26 HI.out.1 HI.out.2.1 HI.out.2.2.1 HI.out.2.2.2 rfl (by omega) (.slice (some ⟨w.heap.size + 1, 0, none⟩) 0 0) 0 [] rfl HR0.out ⟨gw, 0, none⟩ p.length cw (plist p) rfl (by rw [HL.out]; omega) (hwa ▸ HN.out) H1.out (by unfold maxLen; omega) (by omega) (by simp) ?_)
  intro v' w2 hown hgrow _
  rw [HK.out] at hown
  obtain ⟨g, c, rfl⟩ := ownsRow_succ hown
  rw [← HK.out] at hown
  have hb2 : Below w.heap.size w w2 := ((below_two w _ _).grown hgrow (by simp; omega) (fun j e => by simp [Value.ownBlock] at e; omega))
  have HO := hideP hown
  have HB2 := hideP hb2
  have A2 := hideP (HA0.out.kept hb2)
  have hs2 := hb2.size
  have hz2 : w.heap.size + 2 ≤ w2.heap.size := by have := hgrow.size; simpa using this
  clear hown hgrow hb2
  rw [← HK.out]
  clear cl
  go_wp2_with (at_builtin; refine wpList_append_lies _ rfl _ _ 38 rfl lo 26 i1 _ 1 24 Try.underlying38 HI1.out.1 HI1.out.2.1 HI1.out.2.2.1 HI1.out.2.2.2 rfl (by omega) (.slice (some ⟨G, 0, none⟩) pre.length C) pre.length (rowVs pre gs cs) rfl (A2.out.out.alloc _) ⟨w2.heap.size, 0, none⟩ 1 1 [.slice (some ⟨g, 0, none⟩) p.length c] rfl rfl (World.news_of_block (cs := #[.slice (some ⟨g, 0, none⟩) p.length c]) (t := 26) (fr := (0, 0)) (heap_alloc_new w2 _)) (by simp [Value.oneCell']) (by omega) (by unfold maxLen; omega) (by omega) (by simp; omega) (w2.heap.size + 1) (by simp) ?_)
  intro G' C' w4 hown4 hgrow4 hat _
  obtain ⟨r1, r2⟩ := HA0.out.snoc (x := p) HCL.out hlo HB2.out HO.out (by omega) hown4 hgrow4
  have R1 := hideP r1
  have R2 := hideP r2
  have HG : Hid (G' = G ∨ w.heap.size ≤ G') := by
    rcases hat with e | e
    · left; simpa [Value.ownBlock] using e.symm
    · right; omega
  have hl2 : (pre ++ [p]).length = pre.length + 1 := by simp
  have HL2 := hideP hl2
  clear hown4 hgrow4 r1 r2 hl2 hat
  go_wp2
  go_ret
  exact ⟨G', C', _, _, by rw [HL2.out]; rfl, R1.out, R2.out, HG.out⟩

set_option maxHeartbeats 1600000 in
theorem on_none (Kn : Nat) (ao : Option Addr) (cap : Nat) (ts : List (Int × Int)) (p : List Nat) (b s lw gw cw lo G C : Nat) (pre : List (List Nat)) (gs cs : Nat → Nat) (w : World) (hs : s ≤ 8) (h0 : 0 < p.length) (hp : p.length ≤ s) (hb : (lastN p = b ∧ p.length < s) ∨ (lastN p ≠ b ∧ p.length = s))
    (hway : w.ownsRow lw 3 1 (.slice (some ⟨gw, 0, none⟩) p.length cw) p.length (plist p)) (hA : Acc w lo G C pre gs cs) :
    Calls Try.prog 28 #[.agg #[.int .i64 (Kn : Int), .slice ao ts.length cap], .slice (some ⟨gw, 0, none⟩) p.length cw, .int .i64 (b : Int), .int .i64 (s : Int), .slice (some ⟨G, 0, none⟩) pre.length C] w (OnPost w lo G pre) := by
  obtain ⟨ow, _, hgw⟩ := row_own hway rfl h0
  have bo := below_one w (.cells #[.int .i64 (Kn : Int), .slice ao ts.length cap] 31)
  have cl : (w.alloc (.cells #[.int .i64 (Kn : Int), .slice ao ts.length cap] 31)).cell? ⟨gw, p.length - 1, none⟩ = some (.int .i64 (lastN p : Int)) := by
    rw [bo.cell (p := ⟨gw, p.length - 1, none⟩) hgw, ow.1 (p.length - 1) (by omega), pcellN, pn, last_at' h0]
  have F : Hid (OnPost w lo G pre (.returned (.slice (some ⟨G, 0, none⟩) pre.length C)) (w.alloc (.cells #[.int .i64 (Kn : Int), .slice ao ts.length cap] 31))) := ⟨G, C, gs, cs, rfl, hA.kept bo, ⟨bo.os, bo.tape, bo.output, bo.size, fun k hk _ => bo.block k hk⟩, Or.inl rfl⟩
  have q1 : (0 : Int) ≤ (p.length : Int) - 1 := by omega
  have q2 : (p.length : Int) - 1 < (p.length : Int) := by omega
  have q3 : ((p.length : Int) - 1).toNat = p.length - 1 := by omega
  obtain ⟨z, hz⟩ : ∃ z, z = lastN p := ⟨_, rfl⟩
  rw [← hz] at cl hb
  obtain ⟨m, hm⟩ : ∃ m, m = p.length := ⟨_, rfl⟩
  rw [← hm] at cl hb hp h0 q1 q2 q3 ⊢
  clear ow hway hA bo hz hm
  rcases hb with ⟨rfl, hlt⟩ | ⟨hne, rfl⟩
  · have e1 : ((m : Int) == (s : Int)) = false := by rw [beq_eq_false_iff_ne]; omega
    go_enter Try.func28, Try.ntmps28
    go_wp2
    go_ret
    exact F.out
  · have e1 : ((z : Int) == (b : Int)) = false := by rw [beq_eq_false_iff_ne]; omega
    go_enter Try.func28, Try.ntmps28
    go_wp2
    go_ret
    exact F.out

end Go.Proofs.Ytjciidhieahgfaa
