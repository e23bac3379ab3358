/- Texts put together: WAllU, WAllT. -/
import Derived.Test.YtloicmngoaccoaaDoorPartWAllI
import Derived.Test.YtloicmngoaccoaaDoorWWayOk2
import Derived.Test.YtloicmngoaccoaaDoorPartWTell
import Derived.Test.YtloicmngoaccoaaDoorPartMathP
import Derived.Deep.RegionHeld3
/- Rows of ways that are read, with the room that they have; impl.WayOk over one of them. -/
namespace Go.Proofs.YtloicmngoaccoaaDoor
open Go.RowKit
set_option linter.unusedVariables false

/-- all ways behind an address, read, with the room that they have -/
structure AllU (W : World) (ao : Option Addr) (ps : List (List Nat)) : Prop where
  at' : ∀ i, i < ps.length → ∃ G off g c, ao = some ⟨G, off, none⟩ ∧ G < W.heap.size ∧ W.cell? ⟨G, off + i, none⟩ = some (.slice (some ⟨g, 0, none⟩) (ps.getD i []).length c) ∧ RowV W W.heap.size (some ⟨g, 0, none⟩) (ps.getD i []).length (pcellN (pn (ps.getD i []))) ∧ (ps.getD i []).length ≤ c
theorem AllU.next {W W' : World} {ao : Option Addr} {ps : List (List Nat)} (h : AllU W ao ps) (hb : Below W.heap.size W W') : AllU W' ao ps := ⟨fun i hi => by
  obtain ⟨G, off, g, c, h1, h2, h3, h4, h5⟩ := h.at' i hi
  exact ⟨G, off, g, c, h1, Nat.lt_of_lt_of_le h2 hb.size, (hb.cell (p := ⟨G, off + i, none⟩) h2).trans h3, (h4.next hb).wide hb.size, h5⟩⟩
theorem AllU.seen {W : World} {ao : Option Addr} {ps : List (List Nat)} (h : AllU W ao ps) : AllV W ao ps := ⟨fun i hi => by
  obtain ⟨G, off, g, c, h1, h2, h3, h4, h5⟩ := h.at' i hi
  exact ⟨G, off, g, c, h1, h2, h3, h4⟩⟩
theorem row_room {w : World} {lo g n c : Nat} {xs : List Value} {e : TypeId} (h : w.ownsRow lo e 1 (.slice (some ⟨g, 0, none⟩) n c) n xs) : n ≤ c := by
  rcases h.2 with ⟨h1, _⟩ | ⟨g', c', cur, h1, _, _, h4, _⟩
  · simp at h1
  · simp only [Value.slice.injEq, true_and] at h1
    omega
theorem AllR.room {W : World} {lo : Nat} {ao : Option Addr} {ps : List (List Nat)} (h : AllR W lo ao ps) (hp : ∀ q, q ∈ ps → 0 < q.length ∧ q.length ≤ 8) : AllU W ao ps := ⟨fun i hi => by
  rcases h with ⟨h1, _⟩ | ⟨G, gs, cs, h1, h2, h3, h4, h5⟩
  · rw [h1] at hi; simp at hi
  have hm : ps.getD i [] ∈ ps := by simp [hi]
  have hc : wayAt ps i = ps.getD i [] := clip_is (hp _ hm).1 (hp _ hm).2
  have hr := h4.row i hi
  unfold rowV at hr
  rw [hc] at hr
  obtain ⟨ow, _, hlt⟩ := row_own hr rfl (hp _ hm).1
  refine ⟨G, 0, gs i, cs i, h1, h3.2.2, ?_, fun j hj => ⟨gs i, 0, rfl, hlt, by rw [Nat.zero_add]; exact ow.1 j hj⟩, row_room hr⟩
  rw [Nat.zero_add, h3.1 i hi]
  unfold rowV
  rw [hc]⟩
theorem implWayOk_q (K : Int) (ao bo : Option Addr) (cap cap2 : Nat) (ts : List (Int × Int)) (q : List Nat) (w : World) (hn : ts.length ≤ 1099511627776) (ht : TiesIn w w.heap.size ao ts) (h8 : q.length ≤ 8) (hcap : q.length ≤ cap2) (hx : RowV w w.heap.size bo q.length (pcellN (pn q))) (h : wayB K ts (q.map fun (x : Nat) => (x : Int)) = true) :
    Calls Tryd.prog 26 #[.agg #[.int .i64 K, .slice ao ts.length cap], .slice bo q.length cap2] w fun e w' => e = .returned (.bool true) ∧ Below w.heap.size w w' := by
  have hl : (q.map fun (x : Nat) => (x : Int)).length = q.length := by simp
  have := implWayOk_any K ao bo cap cap2 ts (q.map fun (x : Nat) => (x : Int)) w hn ht (by omega) (by omega) (fun j hj => by
    obtain ⟨b, off, e, h1, h2⟩ := hx j (by omega)
    exact ⟨b, off, e, h1, by rw [h2, xi_nat]; rfl⟩)
  rw [hl, h] at this
  exact this


end Go.Proofs.YtloicmngoaccoaaDoor

/- laws.loAhead where it answers yes; laws.loRows over two that are the same. -/
namespace Go.Proofs.YtloicmngoaccoaaDoor
open Go.RowKit
set_option linter.unusedVariables false

theorem loRows_same (a1 a2 : Option Addr) (cap1 cap2 : Nat) (ps : List (List Nat)) (w : World) (h20 : ps.length ≤ 20000000) (h8 : ∀ i, i < ps.length → (ps.getD i []).length ≤ 8) (h1 : AllV w a1 ps) (h2 : AllV w a2 ps) :
    Calls Tryd.prog 19 #[.slice a1 ps.length cap1, .slice a2 ps.length cap2] w fun e w' => e = .returned (.bool true) ∧ Below w.heap.size w w' := by
  have H1 := hideP h1
  have H2 := hideP h2
  have H8 := hideP h8
  obtain ⟨n, hn⟩ : ∃ n, n = ps.length := ⟨_, rfl⟩
  have HN := hideP hn
  rw [← hn] at h20 ⊢
  clear h1 h2 h8 hn
  go_enter Tryd.func19, Tryd.ntmps19
  go_wp2
  go_loopw [5] (fun i wr => ∃ k : Nat, k ≤ n ∧ i = .int .i64 k ∧ AllV wr a1 ps ∧ AllV wr a2 ps ∧ Below w.heap.size w wr) (fun i _ => n - (intOf i).toNat)
  case atStart => exact ⟨0, Nat.zero_le _, rfl, H1.out, H2.out, Below.refl _ _⟩
  case round =>
    clear H1 H2
    obtain ⟨k, hk, rfl, hA, hB, hbr⟩ := hrel
    have HA := hideP hA
    have HB := hideP hB
    have HBR := hideP hbr
    clear hA hB hbr
    by_cases hlt : k < n
    · have hk' : k < ps.length := by have := HN.out; omega
      obtain ⟨g1, o1, r1, k1, rfl, l1, d1, e1⟩ := HA.out.at' k hk'
      obtain ⟨g2, o2, r2, k2, rfl, l2, d2, e2⟩ := HB.out.at' k hk'
      obtain ⟨q, hq⟩ : ∃ q, q = ps.getD k [] := ⟨_, rfl⟩
      have hq8 : q.length ≤ 8 := by rw [hq]; exact H8.out k hk'
      rw [← hq] at d1 d2 e1 e2
      have R1 := hideP e1
      have R2 := hideP e2
      have hk0 : (0 : Int) ≤ (k : Int) := by omega
      have hk1 : (k : Int) < (n : Int) := by omega
      clear e1 e2 hk' hq
      have HAd := hideP (HA.out.next (Below.refl _ _).drew)
      have HBd := hideP (HB.out.next (Below.refl _ _).drew)
      have R1d := hideP (R1.out.next (Below.refl _ _).drew)
      have R2d := hideP (R2.out.next (Below.refl _ _).drew)
      have HBRd := hideP HBR.out.drew
      clear HA HB R1 R2 HBR
      go_wp2
      go_region_held3 (fun w' => w'.cell? ⟨g1, o1 + k, none⟩ = some (.slice (some ⟨r1, 0, none⟩) q.length k1) ∧ w'.cell? ⟨g2, o2 + k, none⟩ = some (.slice (some ⟨r2, 0, none⟩) q.length k2)) (first | exact ⟨d16, d26⟩ | exact ⟨d1, d2⟩) (first | (go_at_call 13; refine (loInts_any true _ _ _ _ q q _ (by omega) (by omega) R1d.out R2d.out (by simp)).mono ?_; rintro e w6 ⟨rfl, hb6⟩; have A6 := hideP (HAd.out.next hb6); have B6 := hideP (HBd.out.next hb6); have HB6 := hideP (HBRd.out.trans (hb6.mono HBRd.out.size)); have d16 : w6.cell? ⟨g1, o1 + k, none⟩ = some (.slice (some ⟨r1, 0, none⟩) q.length k1) := ((hb6.cell (p := ⟨g1, o1 + k, none⟩) l1).trans d1); have d26 : w6.cell? ⟨g2, o2 + k, none⟩ = some (.slice (some ⟨r2, 0, none⟩) q.length k2) := ((hb6.cell (p := ⟨g2, o2 + k, none⟩) l2).trans d2); clear hb6))
      go_wp2
      go_roundw
      case rel => exact ⟨k + 1, by omega, by go_num, A6.out, B6.out, HB6.out⟩
      case measure => simp [intOf]; omega
    · obtain rfl : k = n := by omega
      go_wp2
      go_ret
      exact ⟨rfl, HBR.out⟩

end Go.Proofs.YtloicmngoaccoaaDoor
