/- Texts put together: WCount, WRowV. -/
import Derived.Test.YtljnjpjnadlmhaaPartWReach2
import Derived.Test.YtljnjpjnadlmhaaPartWForest
/- Walks of impl.WayCount, spec.WayCount. -/
namespace Go.Proofs.Ytljnjpjnadlmhaa
open Go.RowKit
set_option linter.unusedVariables false

def cnt (ts : List (Int × Int)) : Nat → Nat
  | 0 => 0
  | n + 1 => cnt ts n + if topN ts n = n then 1 else 0
theorem cnt_yes {ts : List (Int × Int)} {n : Nat} (h : topN ts n = n) : cnt ts (n + 1) = cnt ts n + 1 := by simp [cnt, h]
theorem cnt_no {ts : List (Int × Int)} {n : Nat} (h : ¬ topN ts n = n) : cnt ts (n + 1) = cnt ts n := by simp [cnt, h]
theorem cnt_le (ts : List (Int × Int)) : ∀ n, cnt ts n ≤ n := by
  intro n
  induction n with
  | zero => exact Nat.le_refl _
  | succ n ih => simp only [cnt]; split <;> omega
def countV (K : Int) (ts : List (Int × Int)) : Int := if okB K ts = true then (cnt ts K.toNat : Int) else -1
theorem OwnR.at {w : World} {lo hi n : Nat} {ao : Option Addr} {f : Nat → Value} (h : OwnR w lo hi ao n f) {j : Nat} (hj : j < n) : ∃ g, ao = some ⟨g, 0, none⟩ ∧ w.cell? ⟨g, j, none⟩ = some (f j) := by
  rcases h with ⟨h0, _⟩ | ⟨g, e, _, _, ho⟩
  · omega
  · exact ⟨g, e, ho.1 j hj⟩
theorem reachB_turn (ts : List (Int × Int)) (a b : Nat) : reachB ts a b = reachB ts b a := by
  unfold reachB
  by_cases h : top (forest ts ts.length) b = top (forest ts ts.length) a
  · rw [decide_eq_true h, decide_eq_true h.symm]
  · rw [decide_eq_false h, decide_eq_false (fun e => h e.symm)]
theorem reachB_self (ts : List (Int × Int)) (a : Nat) : reachB ts a a = true := by simp [reachB]
theorem reachB_tie (ts : List (Int × Int)) (k i : Nat) (hi : i < ts.length) : reachB ts k (tA ts i).toNat = reachB ts k (tB ts i).toNat := by
  have h : top (forest ts ts.length) (tA ts i).toNat = top (forest ts ts.length) (tB ts i).toNat := (forest_cn ts ts.length _ _).2 ((Cn.refl _).fwd ⟨i, hi, rfl, rfl⟩)
  unfold reachB; rw [h]
theorem topN_reach (ts : List (Int × Int)) (i k : Nat) : decide (topN ts i = topN ts k) = reachB ts i k := by
  unfold reachB topN
  by_cases h : top (forest ts ts.length) i = top (forest ts ts.length) k
  · rw [decide_eq_true h, decide_eq_true h.symm]
  · rw [decide_eq_false h, decide_eq_false (fun e => h e.symm)]
theorem topN_top (ts : List (Int × Int)) (k : Nat) : topN ts (topN ts k) = topN ts k := top_top (forest_low ts _) k

def cntF (f : Nat → Nat) : Nat → Nat
  | 0 => 0
  | n + 1 => cntF f n + if top f n = n then 1 else 0
theorem cnt_is (ts : List (Int × Int)) : ∀ n, cnt ts n = cntF (forest ts ts.length) n := by
  intro n
  induction n with
  | zero => rfl
  | succ n ih =>
    show cnt ts n + (if topN ts n = n then 1 else 0) = cntF (forest ts ts.length) n + (if top (forest ts ts.length) n = n then 1 else 0)
    rw [ih]; rfl
theorem cntF_congr {f g : Nat → Nat} : ∀ n, (∀ k, k < n → (top f k = k ↔ top g k = k)) → cntF f n = cntF g n := by
  intro n
  induction n with
  | zero => intro _; rfl
  | succ n ih =>
    intro h
    simp only [cntF]
    rw [ih (fun k hk => h k (by omega))]
    have := h n (by omega)
    by_cases e : top f n = n
    · rw [if_pos e, if_pos (this.1 e)]
    · rw [if_neg e, if_neg (fun e2 => e (this.2 e2))]
theorem cntF_less {f g : Nat → Nat} {m : Nat} (hf : top f m = m) (hg : ¬ top g m = m) (h : ∀ k, k ≠ m → (top f k = k ↔ top g k = k)) : ∀ n, m < n → cntF g n + 1 = cntF f n := by
  intro n
  induction n with
  | zero => intro h; omega
  | succ n ih =>
    intro hm
    simp only [cntF]
    by_cases e : n = m
    · subst e
      rw [if_pos hf, if_neg hg, cntF_congr (f := g) (g := f) n (fun k hk => (h k (by omega)).symm)]
    · have h1 := ih (by omega)
      have h2 := h n e
      by_cases e2 : top f n = n
      · rw [if_pos e2, if_pos (h2.1 e2)]; omega
      · rw [if_neg e2, if_neg (fun e3 => e2 (h2.2 e3))]; omega
theorem join_same {f : Nat → Nat} (hl : Low f) {a b : Nat} (h : top f a = top f b) (n : Nat) : cntF (join f a b) n = cntF f n := by
  refine cntF_congr n (fun k _ => ?_)
  rw [join_top hl]
  by_cases e : top f k = max (top f a) (top f b)
  · rw [if_pos e]
    have e2 : min (top f a) (top f b) = top f k := by omega
    rw [e2]
  · rw [if_neg e]
theorem join_less {f : Nat → Nat} (hl : Low f) {a b : Nat} (h : top f a ≠ top f b) {n : Nat} (ha : a < n) (hb : b < n) : cntF (join f a b) n + 1 = cntF f n := by
  have ra := top_top hl a
  have rb := top_top hl b
  have la := top_le hl a
  have lb := top_le hl b
  have hmx : top f (max (top f a) (top f b)) = max (top f a) (top f b) := by
    by_cases hm : top f a ≤ top f b
    · rw [Nat.max_eq_right hm]; exact rb
    · rw [Nat.max_eq_left (by omega)]; exact ra
  have hmn : top f (min (top f a) (top f b)) = min (top f a) (top f b) := by
    by_cases hm : top f a ≤ top f b
    · rw [Nat.min_eq_left hm]; exact ra
    · rw [Nat.min_eq_right (by omega)]; exact rb
  refine cntF_less hmx ?_ ?_ n (by omega)
  · rw [join_top hl, hmx, if_pos rfl]; omega
  · intro k hk
    rw [join_top hl]
    by_cases e : top f k = max (top f a) (top f b)
    · rw [if_pos e]
      constructor
      · intro e2; omega
      · intro e2
        rw [← e2, hmn] at e
        omega
    · rw [if_neg e]

/-- fewer parts by one a tie at most -/
theorem cnt_low {K : Int} {ts : List (Int × Int)} (h : NetOk K ts) : K.toNat ≤ cnt ts K.toNat + ts.length := by
  rw [cnt_is]
  have key : ∀ m, m ≤ ts.length → K.toNat ≤ cntF (forest ts m) K.toNat + m := by
    intro m
    induction m with
    | zero =>
      intro _
      have : ∀ n, cntF (forest ts 0) n = n := by
        intro n
        induction n with
        | zero => rfl
        | succ n ih => simp only [cntF]; rw [ih, if_pos (top_fix rfl)]
      rw [this]; omega
    | succ m ih =>
      intro hm
      have h1 := ih (by omega)
      obtain ⟨q1, q2, q3⟩ := (h.2.2 m (by omega)).1
      show K.toNat ≤ cntF (join (forest ts m) (tA ts m).toNat (tB ts m).toNat) K.toNat + (m + 1)
      by_cases e : top (forest ts m) (tA ts m).toNat = top (forest ts m) (tB ts m).toNat
      · rw [join_same (forest_low ts m) e]; omega
      · have := join_less (forest_low ts m) e (n := K.toNat) (by omega) (by omega)
        omega
  exact key ts.length (Nat.le_refl _)

/-- what is least in its part, by what hangs together -/
theorem top_self_iff (ts : List (Int × Int)) (m k : Nat) : top (forest ts m) k = k ↔ ∀ j, j < k → ¬ Cn (Tied ts m) j k := by
  constructor
  · intro h j hj hc
    have h1 := (forest_cn ts m j k).2 hc
    have h2 := top_le (forest_low ts m) j
    omega
  · intro h
    apply Decidable.byContradiction
    intro hne
    have h1 := top_le (forest_low ts m) k
    exact h (top (forest ts m) k) (by omega) ((forest_cn ts m _ _).1 (top_top (forest_low ts m) k))
theorem forest_same {ts us : List (Int × Int)} : ∀ m, (∀ i, i < m → tA ts i = tA us i ∧ tB ts i = tB us i) → forest ts m = forest us m := by
  intro m
  induction m with
  | zero => intro _; rfl
  | succ m ih =>
    intro h
    show join (forest ts m) _ _ = join (forest us m) _ _
    rw [ih (fun i hi => h i (by omega)), (h m (by omega)).1, (h m (by omega)).2]
theorem Cn.iff {E E' : Nat → Nat → Prop} (h : ∀ x y, E x y ↔ E' x y) (x y : Nat) : Cn E x y ↔ Cn E' x y := ⟨Cn.mono fun a b => (h a b).1, Cn.mono fun a b => (h a b).2⟩

end Go.Proofs.Ytljnjpjnadlmhaa

/- Rows of cells of the call's own, and rows that are only read. -/
namespace Go.Proofs.Ytljnjpjnadlmhaa
open Go.RowKit
set_option linter.unusedVariables false

def bmark (j : Nat) : Value := .bool ((1 + (j : Int)) % 3 == 0)
def imark (j : Nat) : Value := .int .i64 (1 + (j : Int))
def upTo (m f : Nat → Value) (k j : Nat) : Value := if j < k then m j else f j
theorem upTo_step (m f : Nat → Value) (k j : Nat) : (if j = k then m k else upTo m f k j) = upTo m f (k + 1) j := by
  unfold upTo
  by_cases h : j = k
  · subst h; rw [if_pos rfl, if_pos (by omega)]
  · rw [if_neg h]
    by_cases h2 : j < k
    · rw [if_pos h2, if_pos (by omega)]
    · rw [if_neg h2, if_neg (by omega)]
theorem OwnR.congr {w : World} {lo hi n : Nat} {ao : Option Addr} {f f' : Nat → Value} (h : OwnR w lo hi ao n f) (he : ∀ j, j < n → f j = f' j) : OwnR w lo hi ao n f' := by
  rcases h with h | ⟨g, e, h1, h2, h3⟩
  · exact Or.inl h
  · exact Or.inr ⟨g, e, h1, h2, h3.congr he⟩
theorem OwnR.next {w w' : World} {lo hi n : Nat} {ao : Option Addr} {f : Nat → Value} (h : OwnR w lo hi ao n f) (hb : Below w.heap.size w w') : OwnR w' lo hi ao n f := by
  rcases h with h | ⟨g, e, h1, h2, h3⟩
  · exact Or.inl h
  · exact Or.inr ⟨g, e, h1, h2, h3.below hb h3.2.2⟩
theorem OwnR.aside {w w' : World} {lo hi l h n : Nat} {ao : Option Addr} {f : Nat → Value} (ho : OwnR w lo hi ao n f) (ht : Turned l h w w') (hr : hi ≤ l ∨ h ≤ lo) : OwnR w' lo hi ao n f := by
  rcases ho with h' | ⟨g, e, h1, h2, h3⟩
  · exact Or.inl h'
  · exact Or.inr ⟨g, e, h1, h2, h3.turn ht (by omega)⟩
theorem OwnR.up {w : World} {lo hi hi' n : Nat} {ao : Option Addr} {f : Nat → Value} (h : OwnR w lo hi ao n f) (hh : hi ≤ hi') : OwnR w lo hi' ao n f := by
  rcases h with h | ⟨g, e, h1, h2, h3⟩
  · exact Or.inl h
  · exact Or.inr ⟨g, e, h1, by omega, h3⟩
/-- cells that can be read behind an address, below B -/
def RowV (w : World) (B : Nat) (ao : Option Addr) (n : Nat) (f : Nat → Value) : Prop :=
  ∀ j, j < n → ∃ b off, ao = some ⟨b, off, none⟩ ∧ b < B ∧ w.cell? ⟨b, off + j, none⟩ = some (f j)
theorem RowV.next {w w' : World} {B n : Nat} {ao : Option Addr} {f : Nat → Value} (h : RowV w B ao n f) (hb : Below B w w') : RowV w' B ao n f := by
  intro j hj
  obtain ⟨b, off, e, h1, h2⟩ := h j hj
  exact ⟨b, off, e, h1, (hb.cell (p := ⟨b, off + j, none⟩) h1).trans h2⟩
theorem RowV.wide {w : World} {B C n : Nat} {ao : Option Addr} {f : Nat → Value} (h : RowV w B ao n f) (hC : B ≤ C) : RowV w C ao n f := by
  intro j hj
  obtain ⟨b, off, e, h1, h2⟩ := h j hj
  exact ⟨b, off, e, by omega, h2⟩
theorem OwnR.row {w : World} {lo hi n : Nat} {ao : Option Addr} {f : Nat → Value} (h : OwnR w lo hi ao n f) {B : Nat} (hB : hi ≤ B) : RowV w B ao n f := by
  intro j hj
  rcases h with ⟨h0, _⟩ | ⟨g, e, h1, h2, h3⟩
  · omega
  · exact ⟨g, 0, e, by omega, by rw [show 0 + j = j by omega]; exact h3.1 j hj⟩
theorem RowV.ints {w : World} {B n : Nat} {ao : Option Addr} {g : Nat → Nat} (h : RowV w B ao n (pcellN g)) : IntsIn w B ao ((List.range n).map fun j => ((g j : Nat) : Int)) := by
  intro j hj
  have hj' : j < n := by simpa using hj
  obtain ⟨b, off, e, h1, h2⟩ := h j hj'
  exact ⟨b, off, e, h1, by rw [h2]; simp [pcellN, xi, hj']⟩
/-- a row that is read: behind an address from lo to below hi -/
def RowW (w : World) (lo hi : Nat) (ao : Option Addr) (n : Nat) (f : Nat → Value) : Prop :=
  ∀ j, j < n → ∃ b off, ao = some ⟨b, off, none⟩ ∧ lo ≤ b ∧ b < hi ∧ b < w.heap.size ∧ w.cell? ⟨b, off + j, none⟩ = some (f j)
theorem RowW.next {w w' : World} {lo hi n : Nat} {ao : Option Addr} {f : Nat → Value} (h : RowW w lo hi ao n f) (hb : Below w.heap.size w w') : RowW w' lo hi ao n f := by
  intro j hj
  obtain ⟨b, off, e, h1, h2, h3, h4⟩ := h j hj
  exact ⟨b, off, e, h1, h2, Nat.lt_of_lt_of_le h3 hb.size, (hb.cell (p := ⟨b, off + j, none⟩) h3).trans h4⟩
theorem RowW.aside {w w' : World} {lo hi l h n : Nat} {ao : Option Addr} {f : Nat → Value} (hr : RowW w lo hi ao n f) (ht : Turned l h w w') (ho : hi ≤ l ∨ h ≤ lo) : RowW w' lo hi ao n f := by
  intro j hj
  obtain ⟨b, off, e, h1, h2, h3, h4⟩ := hr j hj
  exact ⟨b, off, e, h1, h2, Nat.lt_of_lt_of_le h3 ht.size, (ht.cell (p := ⟨b, off + j, none⟩) h3 (by show b < l ∨ h ≤ b; omega)).trans h4⟩
theorem RowW.row {w : World} {lo hi n : Nat} {ao : Option Addr} {f : Nat → Value} (hr : RowW w lo hi ao n f) : RowV w w.heap.size ao n f := by
  intro j hj
  obtain ⟨b, off, e, h1, h2, h3, h4⟩ := hr j hj
  exact ⟨b, off, e, h3, h4⟩
theorem OwnR.seen {w : World} {lo hi n : Nat} {ao : Option Addr} {f : Nat → Value} (h : OwnR w lo hi ao n f) : RowW w lo hi ao n f := by
  intro j hj
  rcases h with ⟨h0, _⟩ | ⟨g, e, h1, h2, h3⟩
  · omega
  · exact ⟨g, 0, e, h1, h2, h3.2.2, by rw [show 0 + j = j by omega]; exact h3.1 j hj⟩
theorem RowS.seen {w : World} {lo g off cap n : Nat} {t : Nat → Nat} (h : RowS w lo g off cap ((List.range n).map t)) : RowW w lo w.heap.size (some ⟨g, off, none⟩) n (pcellN t) := by
  intro j hj
  refine ⟨g, off, rfl, h.lo, h.lt, h.lt, ?_⟩
  rw [h.cells j (by simpa using hj)]
  simp [ncell, pcellN, hj]
theorem OwnR.inside {w : World} {lo hi n : Nat} {ao : Option Addr} {f : Nat → Value} (h : OwnR w lo hi ao n f) : RowV w w.heap.size ao n f := h.seen.row

end Go.Proofs.Ytljnjpjnadlmhaa
