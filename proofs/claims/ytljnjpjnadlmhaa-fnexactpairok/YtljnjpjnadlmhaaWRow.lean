/- Rows of ties that a call owns. -/
import Derived.Test.YtljnjpjnadlmhaaWLaw
import Derived.Test.YtljnjpjnadlmhaaMath3
import Derived.Deep.AppendLies
namespace Go.Proofs.Ytljnjpjnadlmhaa
open Go.RowKit
set_option linter.unusedVariables false

theorem hideP {p : Prop} (h : p) : Hid p := h
/-- the cells of the first k ties -/
def clist (ts : List (Int × Int)) (k : Nat) : List Value := (List.range (k * 2)).map (tcell ts)
theorem clist_succ (ts : List (Int × Int)) (k : Nat) : clist ts (k + 1) = clist ts k ++ [.int .i64 (tA ts k), .int .i64 (tB ts k)] := by
  unfold clist
  rw [show (k + 1) * 2 = k * 2 + 1 + 1 by omega, List.range_succ, List.range_succ]
  simp [tcell0, tcell1]
theorem clist_length (ts : List (Int × Int)) (k : Nat) : (clist ts k).length = k * 2 := by simp [clist]
theorem clist_get (ts : List (Int × Int)) (k j : Nat) (h : j < k * 2) : (clist ts k)[j]? = some (tcell ts j) := by simp [clist, h]
theorem own_ge {w : World} {base : Nat} {e : TypeId} {size : Nat} {v : Value} {n : Nat} {xs : List Value} (h : w.ownsRow base e size v n xs) : ∀ k, v.ownBlock = some k → base ≤ k := by
  intro k hk
  rcases h.2 with ⟨rfl, _⟩ | ⟨g, cap, cur, rfl, hg, _⟩
  · simp [Value.ownBlock] at hk
  · simp [Value.ownBlock] at hk; omega
theorem own_base {w : World} {base base' : Nat} {e : TypeId} {size : Nat} {v : Value} {n : Nat} {xs : List Value} (h : w.ownsRow base e size v n xs) (hb : base' ≤ base) : w.ownsRow base' e size v n xs := by
  refine ⟨h.1, ?_⟩
  rcases h.2 with h1 | ⟨g, cap, cur, h1, h2, h3⟩
  · exact Or.inl h1
  · exact Or.inr ⟨g, cap, cur, h1, Nat.le_trans hb h2, h3⟩
theorem own_slice {w : World} {base : Nat} {e : TypeId} {size : Nat} {v : Value} {n : Nat} {xs : List Value} (h : w.ownsRow base e size v n xs) : ∃ ao cap, v = .slice ao n cap := by
  rcases h.2 with ⟨rfl, rfl⟩ | ⟨g, cap, cur, rfl, _⟩
  · exact ⟨none, 0, rfl⟩
  · exact ⟨_, cap, rfl⟩

end Go.Proofs.Ytljnjpjnadlmhaa
