/- Texts put together: WMost, WFlowC. -/
import Derived.Test.YtljnjpjnadlmhaaDoorPartWWhere
import Derived.Test.YtljnjpjnadlmhaaDoorPartWTell
import Derived.Test.YtljnjpjnadlmhaaDoorPartMathFP
import Derived.Test.YtljnjpjnadlmhaaDoorPartMathFN
/- Walk of impl.mostWays: one way more, again and again. -/
namespace Go.Proofs.YtljnjpjnadlmhaaDoor
open Go.RowKit
set_option linter.unusedVariables false

theorem stepT_comm (S x y : Nat) : stepT S x y = stepT S y x := by unfold stepT pbit; rw [Int.min_comm, Int.max_comm]
theorem Flw.void (T : Nat → Nat → Bool) (a b : Nat) : Flw T a b (fun _ _ => 0) 0 := ⟨fun _ _ => by simp, fun _ _ => by simp, fun _ _ _ => rfl, fun _ _ _ _ => su_zero 8, su_zero 8⟩
theorem Fm.first (w : World) : Fm (w.alloc (.map #[] 0)) w.heap.size 0 (fun _ _ => 0) := ⟨.map [], World.ownsMap_made _ _ _ _, fun _ _ _ _ => rfl⟩
theorem Fm.next {w w' : World} {B n : Nat} {F : Nat → Nat → Int} (h : Fm w B n F) (hb : Below w.heap.size w w') : Fm w' B n F := h.below hb h.lt
/-- what stands: the set, the map of what goes, and its variable -/
structure Mst (w wr : World) (S n : Nat) (F : Nat → Nat → Int) : Prop where
  B : Below w.heap.size w wr
  sz : w.heap.size + 3 ≤ wr.heap.size
  set : wr.cell? ⟨w.heap.size, 0, none⟩ = some (.int .u64 (S : Int))
  f : wr.cell? ⟨w.heap.size + 2, 0, none⟩ = some (.map (some (w.heap.size + 1)))
  m : Fm wr (w.heap.size + 1) n F
theorem Mst.next {w wr w' : World} {S n : Nat} {F : Nat → Nat → Int} (h : Mst w wr S n F) (hb : Below wr.heap.size wr w') : Mst w w' S n F :=
  have hz := h.sz
  ⟨h.B.trans (hb.mono h.B.size), Nat.le_trans h.sz hb.size, (hb.cell (p := ⟨w.heap.size, 0, none⟩) (by show w.heap.size < _; omega)).trans h.set, (hb.cell (p := ⟨w.heap.size + 2, 0, none⟩) (by show w.heap.size + 2 < _; omega)).trans h.f, h.m.next hb⟩
theorem Mst.first (w : World) (S : Nat) (t1 t2 : TypeId) : Mst w (((w.alloc (.cells #[.int .u64 (S : Int)] t1)).alloc (.map #[] 0)).alloc (.cells #[.map (some (w.heap.size + 1))] t2)) S 0 (fun _ _ => 0) := by
  have b1 := below_one w (.cells #[.int .u64 (S : Int)] t1)
  have c1 : (w.alloc (.cells #[.int .u64 (S : Int)] t1)).cell? ⟨w.heap.size, 0, none⟩ = some (.int .u64 (S : Int)) := World.cell?_alloc_at _ _ _ _ rfl
  obtain ⟨W1, h1⟩ : ∃ W1, W1 = w.alloc (.cells #[.int .u64 (S : Int)] t1) := ⟨_, rfl⟩
  have s1 : W1.heap.size = w.heap.size + 1 := by rw [h1]; simp
  rw [← h1] at b1 c1 ⊢
  clear h1
  have b2 := below_one W1 (.map #[] 0)
  have m2 := Fm.first W1
  rw [s1] at m2
  obtain ⟨W2, h2⟩ : ∃ W2, W2 = W1.alloc (.map #[] 0) := ⟨_, rfl⟩
  have s2 : W2.heap.size = w.heap.size + 2 := by rw [h2]; simp; omega
  rw [← h2] at b2 m2 ⊢
  clear h2
  have b3 := below_one W2 (.cells #[.map (some (w.heap.size + 1))] t2)
  exact ⟨b1.trans ((b2.mono (by omega)).trans (b3.mono (by omega))), by simp; omega, (b3.cell (p := ⟨w.heap.size, 0, none⟩) (by show w.heap.size < _; omega)).trans ((b2.cell (p := ⟨w.heap.size, 0, none⟩) (by show w.heap.size < _; omega)).trans c1), World.cell?_alloc_at _ _ _ _ s2.symm, m2.next b3⟩
/-- what one was told: a way, or that there is none -/
def Wr (S : Nat) (F : Nat → Nat → Int) (a b : Nat) (l : List Int) (ok : Bool) : Prop := (ok = true ∧ ∃ M p, l = cI p ∧ WayF (stepT S) F a M p ∧ endW p = b) ∨ (ok = false ∧ ∃ M, Wq (stepT S) F a b M [] (fun _ => False))
theorem ww_any {w wr : World} {S n : Nat} {F : Nat → Nat → Int} {a b : Nat} {c : Int} (h : Mst w wr S n F) (hf : Flw (stepT S) a b F c) (ha : a < 8) (hb : b < 8) (hS : S < 2 ^ 64) :
    Calls Tryd.prog 53 #[.int .i64 (a : Int), .int .i64 (b : Int), .func (.func 50) #[] #[.pointer (some ⟨w.heap.size, 0, none⟩), .pointer (some ⟨w.heap.size + 2, 0, none⟩)]] wr fun e w' => Below wr.heap.size wr w' ∧ ∃ l ok, e = .returned (.tuple #[.agg #[.int .i64 (xi l 0), .int .i64 (xi l 1), .int .i64 (xi l 2), .int .i64 (xi l 3), .int .i64 (xi l 4), .int .i64 (xi l 5), .int .i64 (xi l 6), .int .i64 (xi l 7), .int .i64 (l.length : Int)], .bool ok]) ∧ Wr S F a b l ok := by
  have hz := h.sz
  refine (wayWhere_any S w.heap.size (w.heap.size + 2) (w.heap.size + 1) n F a b wr ha hb hS h.set (by omega) h.f (by omega) h.m hf.anti hf.one).mono ?_
  rintro e w' ⟨hb, h⟩
  refine ⟨hb, ?_⟩
  rcases h with ⟨M, p, rfl, h1, h2⟩ | ⟨rfl, M, h1⟩
  · exact ⟨cI p, true, rfl, Or.inl ⟨rfl, M, p, rfl, h1, h2⟩⟩
  · exact ⟨[], false, rfl, Or.inr ⟨rfl, M, h1⟩⟩
theorem list_any9 (p : List Nat) (w : World) (h0 : 0 < p.length) (h8 : p.length ≤ 8) :
    Calls Tryd.prog 54 #[.agg #[.int .i64 (xi (cI p) 0), .int .i64 (xi (cI p) 1), .int .i64 (xi (cI p) 2), .int .i64 (xi (cI p) 3), .int .i64 (xi (cI p) 4), .int .i64 (xi (cI p) 5), .int .i64 (xi (cI p) 6), .int .i64 (xi (cI p) 7), .int .i64 ((cI p).length : Int)]] w fun e w' => ∃ g cap, e = .returned (.slice (some ⟨g, 0, none⟩) p.length cap) ∧ w.heap.size ≤ g ∧ g < w'.heap.size ∧ (∀ i, i < p.length → w'.cell? ⟨g, 0 + i, none⟩ = some (.int .i64 ((p.getD i 0 : Nat) : Int))) ∧ Below w.heap.size w w' := by
  refine (list_any p w h0 h8).mono ?_
  rintro e w' ⟨g, cap, rfl, h1, h2⟩
  rcases h1.2 with ⟨e0, _⟩ | ⟨g2, cap', cur, e2, hg, hh, hc1, hc2, hc3, hc4⟩
  · cases e0
  · injection e2 with e2 _ _
    injection e2 with e2
    injection e2 with e2 _ _
    refine ⟨g, cap, rfl, by omega, by rw [e2]; exact (Array.getElem?_eq_some_iff.1 hh).1, fun i hi => ?_, h2⟩
    rw [Nat.zero_add, h1.cellAt i (by omega), plist_at p i hi]; rfl
set_option maxRecDepth 100000 in
set_option maxHeartbeats 3200000 in
theorem mostWays_any (S a b : Nat) (w : World) (hS : S < 2 ^ 64) (ha : a < 8) (hb : b < 8) (hab : a ≠ b) :
    Calls Tryd.prog 27 #[.int .u64 (S : Int), .int .i64 (a : Int), .int .i64 (b : Int)] w fun e w' => e = .returned (.int .i64 (flowN (stepT S) a b)) ∧ Below w.heap.size w w' := by
  have M0 := hideP (Mst.first w S)
  have hmk : ∀ u : World, (Instr.makeMap 51 none).run Tryd.prog u = .ok (.map (some u.heap.size)) (u.alloc (.map #[] 0)) := fun _ => rfl
  go_enter Tryd.func27, Tryd.ntmps27
  go_wp2_with fail
  refine (ww_any (M0.out _ _) (Flw.void _ a b) ha hb hS).mono ?_
  rintro e w3 ⟨hb3, l, ok, rfl, hr⟩
  have M3 := hideP ((M0.out _ _).next hb3)
  have HR := hideP hr
  have O3 := fun t => hideP (own_path w3 l t)
  have hz3 := M3.out.sz
  clear M0 hb3 hr
  go_wp2
  go_loopg [9, 10, 11] 8 (fun gk cv pv okv wr => ∃ (c n P : Nat) (F : Nat → Nat → Int) (l : List Int) (ok : Bool), cv = .int .i64 (c : Int) ∧ pv = .pointer (some ⟨P, 0, none⟩) ∧ okv = .bool ok ∧ c + gk = 8 ∧ n ≤ 8 * c ∧ Mst w wr S n F ∧ Flw (stepT S) a b F (c : Int) ∧ OwnI wr P 9 (pcell l) ∧ w.heap.size + 3 ≤ P ∧ Wr S F a b l ok)
  case atStart => exact ⟨0, 0, w3.heap.size, _, l, ok, rfl, rfl, rfl, rfl, Nat.le_refl _, M3.out.next (below_one _ _), Flw.void _ a b, (O3 _).out, hz3, HR.out⟩
  case round =>
    clear M3 O3 HR hz3
    obtain ⟨c, n, P, F, l, ok, rfl, rfl, rfl, hgk, hn, hM, hF, hO, hge, hr⟩ := hrel
    have HF := hideP hF
    have HM := hideP hM
    have HO := hideP hO
    have hPlt := hO.2.2
    have hz := hM.sz
    clear hM hF hO
    rcases hr with ⟨rfl, Mk, p, rfl, hw, he⟩ | ⟨rfl, Mk, hq⟩
    · have hl8 := hw.len
      have hl0 := hw.pos
      have HW := hideP hw
      have F2 : Hid (Flw (stepT S) a b (goW F p) ((c : Int) + 1)) := hideP (hw.more (stepT_comm S) HF.out hab he)
      have hc8 := F2.out.few
      have i4 : IntKind.i64.wrap ((c : Int) + 1) = (c : Int) + 1 := by rw [IntKind.wrap_i64]; omega
      have LS := hideP (fun W => list_any9 p W hl0 hl8)
      have FB : Hid (∀ u v, -1 ≤ F u v ∧ F u v ≤ 1) := hideP (fun u v => ⟨by have h1 := HF.out.anti u v; have h2 := HF.out.one v u; omega, HF.out.one u v⟩)
      have CE : Hid (∀ w', Below wr.heap.size wr w' → w'.cell? ⟨w.heap.size + 1 + 1, 0, none⟩ = some (.map (some (w.heap.size + 1))) ∧ w'.cell? ⟨P, 0, none⟩ = some (.int .i64 (xi (cI p) 0)) ∧ w'.cell? ⟨P, 1, none⟩ = some (.int .i64 (xi (cI p) 1)) ∧ w'.cell? ⟨P, 2, none⟩ = some (.int .i64 (xi (cI p) 2)) ∧ w'.cell? ⟨P, 3, none⟩ = some (.int .i64 (xi (cI p) 3)) ∧ w'.cell? ⟨P, 4, none⟩ = some (.int .i64 (xi (cI p) 4)) ∧ w'.cell? ⟨P, 5, none⟩ = some (.int .i64 (xi (cI p) 5)) ∧ w'.cell? ⟨P, 6, none⟩ = some (.int .i64 (xi (cI p) 6)) ∧ w'.cell? ⟨P, 7, none⟩ = some (.int .i64 (xi (cI p) 7)) ∧ w'.cell? ⟨P, 8, none⟩ = some (.int .i64 ((cI p).length : Int))) := hideP (fun w' hb => ⟨(HM.out.next hb).f, own9 (HO.out.below hb hPlt)⟩)
      have CT : Hid (∀ W w', Below wr.heap.size wr W → Turned (w.heap.size + 1) (w.heap.size + 1 + 1) W w' → w'.cell? ⟨w.heap.size + 1 + 1, 0, none⟩ = some (.map (some (w.heap.size + 1))) ∧ w'.cell? ⟨P, 0, none⟩ = some (.int .i64 (xi (cI p) 0)) ∧ w'.cell? ⟨P, 1, none⟩ = some (.int .i64 (xi (cI p) 1)) ∧ w'.cell? ⟨P, 2, none⟩ = some (.int .i64 (xi (cI p) 2)) ∧ w'.cell? ⟨P, 3, none⟩ = some (.int .i64 (xi (cI p) 3)) ∧ w'.cell? ⟨P, 4, none⟩ = some (.int .i64 (xi (cI p) 4)) ∧ w'.cell? ⟨P, 5, none⟩ = some (.int .i64 (xi (cI p) 5)) ∧ w'.cell? ⟨P, 6, none⟩ = some (.int .i64 (xi (cI p) 6)) ∧ w'.cell? ⟨P, 7, none⟩ = some (.int .i64 (xi (cI p) 7)) ∧ w'.cell? ⟨P, 8, none⟩ = some (.int .i64 ((cI p).length : Int))) := hideP (fun W w' hb ht => by
        have hs := hb.size
        have k : Kp (fun b => b = w.heap.size + 1) W w' := ⟨ht.os, ht.tape, ht.output, ht.size, fun i hi hn => ht.block i hi (by omega)⟩
        exact ⟨(k.cell (p := ⟨w.heap.size + 2, 0, none⟩) (by show w.heap.size + 2 < _; omega) (by show ¬ w.heap.size + 2 = w.heap.size + 1; omega)).trans (HM.out.next hb).f, own9 ((HO.out.below hb hPlt).kept k (by omega))⟩)
      have b0 : Hid (Below wr.heap.size wr wr.drew) := hideP (Below.refl _ _).drew
      clear hw he
      go_wp2
      go_region_held3 (fun w' => w'.cell? ⟨w.heap.size + 1 + 1, 0, none⟩ = some (.map (some (w.heap.size + 1))) ∧ w'.cell? ⟨P, 0, none⟩ = some (.int .i64 (xi (cI p) 0)) ∧ w'.cell? ⟨P, 1, none⟩ = some (.int .i64 (xi (cI p) 1)) ∧ w'.cell? ⟨P, 2, none⟩ = some (.int .i64 (xi (cI p) 2)) ∧ w'.cell? ⟨P, 3, none⟩ = some (.int .i64 (xi (cI p) 3)) ∧ w'.cell? ⟨P, 4, none⟩ = some (.int .i64 (xi (cI p) 4)) ∧ w'.cell? ⟨P, 5, none⟩ = some (.int .i64 (xi (cI p) 5)) ∧ w'.cell? ⟨P, 6, none⟩ = some (.int .i64 (xi (cI p) 6)) ∧ w'.cell? ⟨P, 7, none⟩ = some (.int .i64 (xi (cI p) 7)) ∧ w'.cell? ⟨P, 8, none⟩ = some (.int .i64 ((cI p).length : Int))) (first | exact CT.out _ _ b1.out T6.out | exact CE.out _ b1.out | exact CE.out _ b0.out) (first | (go_at_call 54; refine (LS.out _).mono ?_; rintro e w5 ⟨g, cap, rfl, hg1, hg2, hg3, hb5⟩; have b1 : Hid (Below wr.heap.size wr w5) := hideP (b0.out.trans hb5); have HG3 := hideP hg3; have hg0 : wr.heap.size ≤ g := hg1; clear hb5 hg3 hg1) | (go_at_call 24; refine (send_any (w.heap.size + 1) n F g 0 cap p w5 hl8 hl0 (fun z hz => (HW.out.known z hz).1) HW.out.nodup hg2 (by omega) (by omega) FB.out (HM.out.next b1.out).m HG3.out).mono ?_; rintro e w6 ⟨rfl, hf6, ht6⟩; have T6 := hideP ht6; have F6 := hideP hf6; clear ht6 hf6))
      have M6 : Hid (Mst w w6 S (n + p.length) (goW F p)) := hideP (by
        have h5 := HM.out.next b1.out
        have k : Kp (fun b => b = w.heap.size + 1) w5 w6 := ⟨T6.out.os, T6.out.tape, T6.out.output, T6.out.size, fun i hi hn => T6.out.block i hi (by omega)⟩
        have hz5 := h5.sz
        exact ⟨h5.B.trans ((k.mono (bad' := fun b => w.heap.size ≤ b) (fun b _ q => by omega)).below h5.B.size), Nat.le_trans h5.sz k.size, (k.cell (p := ⟨w.heap.size, 0, none⟩) (by show w.heap.size < _; omega) (by show ¬ w.heap.size = w.heap.size + 1; omega)).trans h5.set, (k.cell (p := ⟨w.heap.size + 2, 0, none⟩) (by show w.heap.size + 2 < _; omega) (by show ¬ w.heap.size + 2 = w.heap.size + 1; omega)).trans h5.f, F6.out⟩)
      obtain ⟨q0, q1, q2, q3, q4, q5, q6, q7, q8, q9⟩ := CT.out _ _ b1.out T6.out
      have hz6 := M6.out.sz
      have hP6 : P < w6.heap.size := Nat.lt_of_lt_of_le hPlt (Nat.le_trans b1.out.size T6.out.size)
      clear CE CT LS FB HG3 F6 T6 b0 b1 hg2 HM HO
      go_wp2_with fail
      refine (ww_any (M6.out.next (below_one _ _)) F2.out ha hb hS).mono ?_
      rintro e w7 ⟨hb7, l7, ok7, rfl, hr7⟩
      have M7 := hideP ((M6.out.next (below_one _ _)).next hb7)
      have O7 := hideP ((own_path w6 (cI p) 87).below hb7 (own_path w6 (cI p) 87).2.2)
      have R7 := hideP hr7
      obtain ⟨r1, r2, r3, r4, r5, r6, r7, r8, r9⟩ := own9 O7.out
      have rf := O7.out.2.1
      clear hb7 hr7 q1 q2 q3 q4 q5 q6 q7 q8 q9
      go_wp2
      have MS : Hid (Mst w (putPath w7 w6.heap.size l7) S (n + p.length) (goW F p)) := hideP (by
        have k := putPath_kp w7 w6.heap.size l7
        have h7 := M7.out
        have hz7 := h7.sz
        refine ⟨putPath_below h7.B (by omega), Nat.le_trans h7.sz k.size, (k.cell (p := ⟨w.heap.size, 0, none⟩) (by show w.heap.size < _; omega) (by show ¬ w.heap.size = w6.heap.size; omega)).trans h7.set, (k.cell (p := ⟨w.heap.size + 2, 0, none⟩) (by show w.heap.size + 2 < _; omega) (by show ¬ w.heap.size + 2 = w6.heap.size; omega)).trans h7.f, ?_⟩
        obtain ⟨D, ⟨es, clock, h1, h2⟩, h3⟩ := h7.m
        exact ⟨D, ⟨es, clock, (k.block _ (by omega) (by show ¬ w.heap.size + 1 = w6.heap.size; omega)).trans h1, h2⟩, h3⟩)
      have OS := hideP (putPath_own (l2 := l7) O7.out)
      rw [← putPath_eq w7 w6.heap.size l7]
      obtain ⟨W, hW⟩ : ∃ W, W = putPath w7 w6.heap.size l7 := ⟨_, rfl⟩
      rw [← hW] at MS OS ⊢
      clear hW r1 r2 r3 r4 r5 r6 r7 r8 r9 rf
      go_roundg (gk - 1)
      case measure => omega
      case rel => exact ⟨c + 1, n + p.length, w6.heap.size, _, l7, ok7, by go_num, rfl, rfl, by omega, by omega, MS.out, by simpa using F2.out, OS.out, hz6, R7.out⟩
    · have HA : Hid (flowN (stepT S) a b = (c : Int)) := hideP (flowN_eq (stepT_comm S) ha hab (hq.most HF.out ha))
      have HB := hideP HM.out.B
      clear HM hq
      go_wp2
      go_ret
      exact ⟨by rw [HA.out]; rfl, HB.out⟩

end Go.Proofs.YtljnjpjnadlmhaaDoor

/- Walks of impl.FlowCount, impl.FlowWeak. -/
namespace Go.Proofs.YtljnjpjnadlmhaaDoor
open Go.RowKit
set_option linter.unusedVariables false

theorem stepT_set {K : Int} {ts : List (Int × Int)} (h : okB K ts = true) : stepT (setN K ts) = tieNB ts := by
  funext x y
  show decide (setN K ts &&& pbit (x : Int) (y : Int) ≠ 0) = tieNB ts x y
  rw [has_set K ts x y h]
  unfold hasB tieNB
  rw [h, Bool.true_and]
/-- how many ways there are at most that have no tie twice; -1, if it is not so -/
noncomputable def countI (K : Int) (ts : List (Int × Int)) (a b : Int) : Int := if twoB K ts a b = true then flowV ts a.toNat b.toNat else -1
set_option maxHeartbeats 800000 in
theorem implFlowCount_any (K : Int) (ao : Option Addr) (cap : Nat) (ts : List (Int × Int)) (a b : Int) (w : World) (hn : ts.length ≤ 1099511627776) (ht : TiesIn w w.heap.size ao ts) :
    Calls Tryd.prog 11 #[.agg #[.int .i64 K, .slice ao ts.length cap], .int .i64 a, .int .i64 b] w fun e w' => e = .returned (.int .i64 (countI K ts a b)) ∧ Below w.heap.size w w' := by
  have HT := hideP ht
  clear ht
  have X0 := fun (t : TypeId) => Bx.start w K (.slice ao ts.length cap) t
  have HX0 := hideP X0
  clear X0
  obtain ⟨p, hp⟩ : ∃ p, p = twoB K ts a b := ⟨_, rfl⟩
  have HP := hideP hp
  clear hp
  go_enter Tryd.func11, Tryd.ntmps11
  go_wp2_with fail
  refine (twoKnots_any K ao cap ts a b _ hn ((HT.out.below (HX0.out _).B (Nat.le_refl _)).wide (Nat.le_of_lt (HX0.out _).lt))).mono ?_
  rw [← HP.out]
  rintro e w2 ⟨rfl, hb1⟩
  have HB := hideP ((HX0.out _).next hb1).B
  clear hb1 HX0
  cases p
  · have HR : Hid (countI K ts a b = -1) := hideP (by unfold countI; rw [← HP.out]; rfl)
    go_wp2
    go_ret
    exact ⟨by rw [HR.out]; rfl, HB.out⟩
  · obtain ⟨hok, x, y, rfl, rfl, hx, hy, hxk, hyk, hxy⟩ := knot_nat HP.out.symm
    have HR : Hid (countI K ts (x : Int) (y : Int) = flowN (stepT (setN K ts)) x y) := hideP (by unfold countI; rw [← HP.out, if_pos rfl, stepT_set hok]; rfl)
    have HM := hideP (fun W => mostWays_any (setN K ts) x y W (setN_lt _ _) hx hy hxy)
    clear hok
    go_wp2_with (first | (go_at_call 27; refine (HM.out _).mono ?_; rintro e w3 ⟨rfl, hb3⟩; have HB3 := hideP (HB.out.trans (hb3.mono HB.out.size)); clear hb3))
    go_ret
    exact ⟨by rw [HR.out]; rfl, HB3.out⟩

end Go.Proofs.YtljnjpjnadlmhaaDoor
