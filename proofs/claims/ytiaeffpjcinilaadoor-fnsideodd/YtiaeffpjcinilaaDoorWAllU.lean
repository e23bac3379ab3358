/- Rows of ways that are read, with the room that they have; impl.WayOk over one of them. -/
import Derived.Test.YtiaeffpjcinilaaDoorPartWAllI
import Derived.Test.YtiaeffpjcinilaaDoorWWayOk2
import Derived.Test.YtiaeffpjcinilaaDoorPartWTell
namespace Go.Proofs.YtiaeffpjcinilaaDoor
open Go.RowKit
set_option linter.unusedVariables false

/-- all ways behind an address, read, with the room that they have -/
structure AllU (W : World) (ao : Option Addr) (ps : List (List Nat)) : Prop where
  at' : ∀ i, i < ps.length → ∃ G off g c, ao = some ⟨G, off, none⟩ ∧ G < W.heap.size ∧ W.cell? ⟨G, off + i, none⟩ = some (.slice (some ⟨g, 0, none⟩) (ps.getD i []).length c) ∧ RowV W W.heap.size (some ⟨g, 0, none⟩) (ps.getD i []).length (pcellN (pn (ps.getD i []))) ∧ (ps.getD i []).length ≤ c
theorem AllU.next {W W' : World} {ao : Option Addr} {ps : List (List Nat)} (h : AllU W ao ps) (hb : Below W.heap.size W W') : AllU W' ao ps := ⟨fun i hi => by
  obtain ⟨G, off, g, c, h1, h2, h3, h4, h5⟩ := h.at' i hi
  exact ⟨G, off, g, c, h1, Nat.lt_of_lt_of_le h2 hb.size, (hb.cell (p := ⟨G, off + i, none⟩) h2).trans h3, (h4.next hb).wide hb.size, h5⟩⟩
theorem AllU.seen {W : World} {ao : Option Addr} {ps : List (List Nat)} (h : AllU W ao ps) : AllV W ao ps := ⟨fun i hi => by
  obtain ⟨G, off, g, c, h1, h2, h3, h4, h5⟩ := h.at' i hi
  exact ⟨G, off, g, c, h1, h2, h3, h4⟩⟩
theorem row_room {w : World} {lo g n c : Nat} {xs : List Value} {e : TypeId} (h : w.ownsRow lo e 1 (.slice (some ⟨g, 0, none⟩) n c) n xs) : n ≤ c := by
  rcases h.2 with ⟨h1, _⟩ | ⟨g', c', cur, h1, _, _, h4, _⟩
  · simp at h1
  · simp only [Value.slice.injEq, true_and] at h1
    omega
theorem AllR.room {W : World} {lo : Nat} {ao : Option Addr} {ps : List (List Nat)} (h : AllR W lo ao ps) (hp : ∀ q, q ∈ ps → 0 < q.length ∧ q.length ≤ 8) : AllU W ao ps := ⟨fun i hi => by
  rcases h with ⟨h1, _⟩ | ⟨G, gs, cs, h1, h2, h3, h4, h5⟩
  · rw [h1] at hi; simp at hi
  have hm : ps.getD i [] ∈ ps := by simp [hi]
  have hc : wayAt ps i = ps.getD i [] := clip_is (hp _ hm).1 (hp _ hm).2
  have hr := h4.row i hi
  unfold rowV at hr
  rw [hc] at hr
  obtain ⟨ow, _, hlt⟩ := row_own hr rfl (hp _ hm).1
  refine ⟨G, 0, gs i, cs i, h1, h3.2.2, ?_, fun j hj => ⟨gs i, 0, rfl, hlt, by rw [Nat.zero_add]; exact ow.1 j hj⟩, row_room hr⟩
  rw [Nat.zero_add, h3.1 i hi]
  unfold rowV
  rw [hc]⟩
theorem implWayOk_q (K : Int) (ao bo : Option Addr) (cap cap2 : Nat) (ts : List (Int × Int)) (q : List Nat) (w : World) (hn : ts.length ≤ 1099511627776) (ht : TiesIn w w.heap.size ao ts) (h8 : q.length ≤ 8) (hcap : q.length ≤ cap2) (hx : RowV w w.heap.size bo q.length (pcellN (pn q))) (h : wayB K ts (q.map fun (x : Nat) => (x : Int)) = true) :
    Calls Tryd.prog 24 #[.agg #[.int .i64 K, .slice ao ts.length cap], .slice bo q.length cap2] w fun e w' => e = .returned (.bool true) ∧ Below w.heap.size w w' := by
  have hl : (q.map fun (x : Nat) => (x : Int)).length = q.length := by simp
  have := implWayOk_any K ao bo cap cap2 ts (q.map fun (x : Nat) => (x : Int)) w hn ht (by omega) (by omega) (fun j hj => by
    obtain ⟨b, off, e, h1, h2⟩ := hx j (by omega)
    exact ⟨b, off, e, h1, by rw [h2, xi_nat]; rfl⟩)
  rw [hl, h] at this
  exact this


end Go.Proofs.YtiaeffpjcinilaaDoor
