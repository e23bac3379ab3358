/- Plain mathematics of going through a net by steps that can be taken, way by way. No program stands here. -/
import Derived.Test.YtljnjpjnadlmhaaMathFN
namespace Go.Proofs.Ytljnjpjnadlmhaa
set_option linter.unusedVariables false

/-- where a way ends -/
def endW (p : List Nat) : Nat := p.getLastD 0
/-- a way that begins at a knot, by steps that can be taken, with no knot twice, all of whose knots are known -/
structure WayF (T : Nat → Nat → Bool) (F : Nat → Nat → Int) (a : Nat) (M : Nat → Bool) (p : List Nat) : Prop where
  head : ∃ r, p = a :: r
  nodup : p.Nodup
  can : canW T F p
  known : ∀ z, z ∈ p → z < 8 ∧ M z = true
theorem WayF.one {T : Nat → Nat → Bool} {F : Nat → Nat → Int} {a : Nat} {M : Nat → Bool} (ha : a < 8) (hM : M a = true) : WayF T F a M [a] :=
  ⟨⟨[], rfl⟩, by simp, trivial, fun z hz => by rw [List.mem_singleton.1 hz]; exact ⟨ha, hM⟩⟩
theorem WayF.know {T : Nat → Nat → Bool} {F : Nat → Nat → Int} {a : Nat} {M : Nat → Bool} {p : List Nat} (h : WayF T F a M p) (y : Nat) : WayF T F a (mark M y) p :=
  ⟨h.head, h.nodup, h.can, fun z hz => ⟨(h.known z hz).1, mark_old (h.known z hz).2⟩⟩
theorem WayF.ne {T : Nat → Nat → Bool} {F : Nat → Nat → Int} {a : Nat} {M : Nat → Bool} {p : List Nat} (h : WayF T F a M p) : p ≠ [] := by
  obtain ⟨r, rfl⟩ := h.head; simp
theorem endW_snoc (p : List Nat) (k : Nat) : endW (p ++ [k]) = k := by
  unfold endW; rw [List.getLastD_eq_getLast?, List.getLast?_append]; simp
theorem endW_split {p : List Nat} (h : p ≠ []) : ∃ q, p = q ++ [endW p] := by
  refine ⟨p.dropLast, ?_⟩
  have e : endW p = p.getLast h := by unfold endW; rw [List.getLastD_eq_getLast?, List.getLast?_eq_some_getLast h]; rfl
  rw [e]; exact (List.dropLast_concat_getLast h).symm
theorem endW_mem {p : List Nat} (h : p ≠ []) : endW p ∈ p := by
  obtain ⟨q, e⟩ := endW_split h
  rw [e, endW_snoc]; simp
/-- on to a knot that is not known -/
theorem WayF.on {T : Nat → Nat → Bool} {F : Nat → Nat → Int} {a : Nat} {M : Nat → Bool} {p : List Nat} (h : WayF T F a M p) {k : Nat} (hk : k < 8) (hM : M k = false) (h1 : T (endW p) k = true) (h2 : F (endW p) k < 1) : WayF T F a (mark M k) (p ++ [k]) := by
  obtain ⟨r, hr⟩ := h.head
  have hno : k ∉ p := fun q => by have := (h.known k q).2; rw [hM] at this; cases this
  refine ⟨⟨r ++ [k], by rw [hr]; rfl⟩, ?_, ?_, fun z hz => ?_⟩
  · rw [List.nodup_append]
    exact ⟨h.nodup, by simp, fun x hx y hy e => hno (by rw [List.mem_singleton.1 hy] at e; rw [← e]; exact hx)⟩
  · obtain ⟨q, hq⟩ := endW_split h.ne
    have hc := h.can
    rw [hq] at hc
    rw [hq, List.append_assoc]
    exact canW_app q hc h1 h2
  · rcases List.mem_append.1 hz with q | q
    · exact ⟨(h.known z q).1, mark_old (h.known z q).2⟩
    · rw [List.mem_singleton.1 q]; exact ⟨hk, by simp [mark]⟩

/-- what is known, and the ways that wait; ex: what is under way -/
structure Wq (T : Nat → Nat → Bool) (F : Nat → Nat → Int) (a b : Nat) (M : Nat → Bool) (ws : List (List Nat)) (ex : Nat → Prop) : Prop where
  start : M a = true
  low : ∀ y, M y = true → y < 8
  ways : ∀ p, p ∈ ws → WayF T F a M p
  closed : ∀ y, M y = true → (∃ p, p ∈ ws ∧ endW p = y) ∨ ex y ∨ (y ≠ b ∧ ∀ z, z < 8 → T y z = true → F y z < 1 → M z = true)
theorem Wq.first {T : Nat → Nat → Bool} {F : Nat → Nat → Int} {a b : Nat} (ha : a < 8) : Wq T F a b (mark (fun _ => false) a) [[a]] (fun _ => False) := by
  have h1 : ∀ y, mark (fun _ => false) a y = true → y = a := by intro y h; unfold mark at h; by_cases e : y = a; exact e; simp [e] at h
  refine ⟨by simp [mark], fun y h => by rw [h1 y h]; exact ha, fun p hp => ?_, fun y h => Or.inl ⟨[a], by simp, by rw [h1 y h]; rfl⟩⟩
  rw [List.mem_singleton.1 hp]
  exact WayF.one ha (by simp [mark])
theorem Wq.take {T : Nat → Nat → Bool} {F : Nat → Nat → Int} {a b : Nat} {M : Nat → Bool} {p : List Nat} {ws : List (List Nat)} (h : Wq T F a b M (p :: ws) (fun _ => False)) : WayF T F a M p ∧ Wq T F a b M ws (fun y => y = endW p) := by
  refine ⟨h.ways p (by simp), h.start, h.low, fun q hq => h.ways q (List.mem_cons_of_mem _ hq), fun y hy => ?_⟩
  rcases h.closed y hy with ⟨q, h1, h2⟩ | h1 | h1
  · rcases List.mem_cons.1 h1 with e | e
    · exact Or.inr (Or.inl (by rw [← h2, e]))
    · exact Or.inl ⟨q, e, h2⟩
  · exact h1.elim
  · exact Or.inr (Or.inr h1)
theorem Wq.put {T : Nat → Nat → Bool} {F : Nat → Nat → Int} {a b : Nat} {M : Nat → Bool} {p : List Nat} {ws : List (List Nat)} {ex : Nat → Prop} (h : Wq T F a b M ws ex) (hp : WayF T F a M p) {k : Nat} (hk : k < 8) (hM : M k = false) (h1 : T (endW p) k = true) (h2 : F (endW p) k < 1) : Wq T F a b (mark M k) (ws ++ [p ++ [k]]) ex := by
  refine ⟨mark_old h.start, fun y hy => ?_, fun q hq => ?_, fun y hy => ?_⟩
  · by_cases e : y = k
    · rw [e]; exact hk
    · exact h.low y (by unfold mark at hy; rwa [if_neg e] at hy)
  · rcases List.mem_append.1 hq with e | e
    · exact (h.ways q e).know k
    · rw [List.mem_singleton.1 e]; exact hp.on hk hM h1 h2
  · by_cases e : y = k
    · exact Or.inl ⟨p ++ [k], by simp, by rw [endW_snoc, e]⟩
    · have hy' : M y = true := by unfold mark at hy; rwa [if_neg e] at hy
      rcases h.closed y hy' with ⟨q, q1, q2⟩ | q | ⟨q1, q2⟩
      · exact Or.inl ⟨q, List.mem_append_left _ q1, q2⟩
      · exact Or.inr (Or.inl q)
      · exact Or.inr (Or.inr ⟨q1, fun z hz z1 z2 => mark_old (q2 z hz z1 z2)⟩)
theorem Wq.done {T : Nat → Nat → Bool} {F : Nat → Nat → Int} {a b : Nat} {M : Nat → Bool} {x : Nat} {ws : List (List Nat)} (h : Wq T F a b M ws (fun y => y = x)) (hx : x ≠ b) (hn : ∀ z, z < 8 → T x z = true → F x z < 1 → M z = true) : Wq T F a b M ws (fun _ => False) := by
  refine ⟨h.start, h.low, h.ways, fun y hy => ?_⟩
  rcases h.closed y hy with q | q | q
  · exact Or.inl q
  · rw [q]; exact Or.inr (Or.inr ⟨hx, hn⟩)
  · exact Or.inr (Or.inr q)
/-- where none waits any more, there are no more ways -/
theorem Wq.most {T : Nat → Nat → Bool} {F : Nat → Nat → Int} {a b : Nat} {M : Nat → Bool} {v : Int} (h : Wq T F a b M [] (fun _ => False)) (hf : Flw T a b F v) (ha : a < 8) : MostW T a b v := by
  have hc : ∀ y, M y = true → y ≠ b ∧ ∀ z, z < 8 → T y z = true → F y z < 1 → M z = true := by
    intro y hy
    rcases h.closed y hy with ⟨q, q1, _⟩ | q | q
    · cases q1
    · exact q.elim
    · exact q
  have hb : M b = false := by
    cases e : M b with
    | false => rfl
    | true => exact absurd rfl (hc b e).1
  exact most_of hf ha h.start hb (fun x y hx hy h1 h2 h3 => (hc x h1).2 y hy h2 h3)
/-- a way that was found lets one more go -/
theorem WayF.more {T : Nat → Nat → Bool} {F : Nat → Nat → Int} {a b : Nat} {M : Nat → Bool} {p : List Nat} {v : Int} (h : WayF T F a M p) (hT : ∀ x y, T x y = T y x) (hf : Flw T a b F v) (hab : a ≠ b) (he : endW p = b) : Flw T a b (goW F p) (v + 1) := by
  obtain ⟨r, rfl⟩ := h.head
  refine hf.more hT (fun z hz => (h.known z hz).1) h.nodup ?_ hab h.can
  rw [← he]
  unfold endW
  rw [List.getLastD_eq_getLast?, List.getLast?_eq_some_getLast (by simp)]; rfl

end Go.Proofs.Ytljnjpjnadlmhaa
