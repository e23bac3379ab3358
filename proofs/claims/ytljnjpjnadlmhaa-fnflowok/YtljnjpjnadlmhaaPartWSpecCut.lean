/- Texts put together: WSpecCut, WAlls, WCapS. -/
import Derived.Test.YtljnjpjnadlmhaaPartWSpecAdd
import Derived.Test.YtljnjpjnadlmhaaMath4
/- Walks of spec.NetCut and spec.NetWithout. -/
namespace Go.Proofs.Ytljnjpjnadlmhaa
open Go.RowKit
set_option linter.unusedVariables false

/-- what a round reads, as it lay when the loop began -/
structure St2 (w5 : World) (O B : Nat) (nv : Value) (bb at_ : Nat) (x y : Int) : Prop where
  b1 : w5.cell? ⟨B, 1, none⟩ = some nv
  c0 : w5.cell? ⟨bb, at_, none⟩ = some (.int .i64 x)
  c1 : w5.cell? ⟨bb, at_ + 1, none⟩ = some (.int .i64 y)
  zB : B < w5.heap.size ∧ B ≠ O
  zb : bb < w5.heap.size ∧ bb ≠ O
theorem St2.at {w5 wr : World} {K : Int} {O : Nat} {v : Value} {L : List (Int × Int)} {B : Nat} {nv : Value} {bb at_ : Nat} {x y : Int} (h : St2 w5 O B nv bb at_ x y) (M : Made w5 wr K O v L) :
    wr.cell? ⟨B, 1, none⟩ = some nv ∧ wr.cell? ⟨bb, at_, none⟩ = some (.int .i64 x) ∧ wr.cell? ⟨bb, at_ + 1, none⟩ = some (.int .i64 y) ∧ O < wr.heap.size ∧ B < wr.heap.size ∧ bb < wr.heap.size := by
  have z := M.gr.size
  have o := M.hO
  exact ⟨(M.old (p := ⟨B, 1, none⟩) h.zB.1 h.zB.2).trans h.b1, (M.old (p := ⟨bb, at_, none⟩) h.zb.1 h.zb.2).trans h.c0, (M.old (p := ⟨bb, at_ + 1, none⟩) h.zb.1 h.zb.2).trans h.c1,
    by omega, by have := h.zB.1; omega, by have := h.zb.1; omega⟩
theorem Made.begin {w3 : World} {K : Int} (t : TypeId) : Made (w3.alloc (.cells #[.int .i64 K, .slice none 0 0] t)) (w3.alloc (.cells #[.int .i64 K, .slice none 0 0] t)) K w3.heap.size (.slice none 0 0) [] :=
  ⟨⟨rfl, rfl, rfl, Nat.le_refl _, fun _ _ _ => rfl⟩, by simp, by simp, by simp, World.ownsRow_nil _ _ _ _, by simp⟩

end Go.Proofs.Ytljnjpjnadlmhaa

/- The answers of NetAdd, NetCut, NetWithout in one form each. -/
namespace Go.Proofs.Ytljnjpjnadlmhaa
open Go.RowKit
set_option linter.unusedVariables false

theorem cutB_no {K : Int} {ts : List (Int × Int)} {a b : Int} (h : cutB K ts a b = false) : hasB K ts a b = false := h
theorem cutB_yes {K : Int} {ts : List (Int × Int)} {a b : Int} (h : cutB K ts a b = true) : hasB K ts a b = true := h
end Go.Proofs.Ytljnjpjnadlmhaa

/- spec.NetCut and spec.NetAdd, with the room that their ties have. -/
namespace Go.Proofs.Ytljnjpjnadlmhaa
open Go.RowKit
set_option linter.unusedVariables false

theorem own_room {w : World} {base n cap sz : Nat} {ao : Option Addr} {e : TypeId} {xs : List Value} (h : w.ownsRow base e sz (.slice ao n cap) n xs) : n ≤ cap := by
  rcases h.2 with ⟨h1, h2⟩ | ⟨g', c', cur, h1, _, _, h4, _⟩
  · omega
  · simp only [Value.slice.injEq, true_and] at h1
    omega
theorem specAdd_cap (K : Int) (ao : Option Addr) (cap : Nat) (ts : List (Int × Int)) (a b : Int) (w : World) (hn : ts.length ≤ 1099511627776) (ht : TiesIn w w.heap.size ao ts) :
    Calls Try.prog 68 #[.agg #[.int .i64 K, .slice ao ts.length cap], .int .i64 a, .int .i64 b] w fun e w' => ∃ ao' cap', e = .returned (.tuple #[.agg #[.int .i64 (addK K ts a b), .slice ao' (addTs K ts a b).length cap'], .bool (addB K ts a b)]) ∧
      OwnN w' w.heap.size w'.heap.size ao' (addTs K ts a b).length (tcell (addTs K ts a b)) ∧ Below w.heap.size w w' ∧ (addTs K ts a b).length ≤ cap' := by
  cases h : addB K ts a b
  · refine (specAdd_no K ao cap ts a b w hn ht h).mono ?_
    rintro e w' ⟨rfl, hb⟩
    exact ⟨none, 0, by simp [addK, addTs, h], Or.inl ⟨by simp [addTs, h], rfl⟩, hb, by simp [addTs, h]⟩
  · refine (specAdd_yes K ao cap ts a b w hn ht h).mono ?_
    rintro e w' ⟨ao', cap', rfl, ho, hb⟩
    have e : addTs K ts a b = ins (tieOf a b) ts := by simp [addTs, h]
    refine ⟨ao', cap', by simp [addK, addTs, h], ?_, hb, ?_⟩
    · rw [e]; exact OwnN.of_row ho
    · rw [e]; exact own_room ho

end Go.Proofs.Ytljnjpjnadlmhaa
