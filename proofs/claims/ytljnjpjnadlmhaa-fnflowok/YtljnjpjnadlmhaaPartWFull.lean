/- Texts put together: WFull, WSend. -/
import Derived.Test.YtljnjpjnadlmhaaPartMathFL
import Derived.Test.YtljnjpjnadlmhaaPartWOne
import Derived.Test.YtljnjpjnadlmhaaPartWArg
import Derived.Maps.OwnOps
import Derived.Maps.OwnSet
import Derived.Maps.Views
import Derived.DeepKeys4
import Derived.WideKeyPair
import Derived.WideKeyEntry
/- Walks of impl.tieOf, impl.turnOf; the law of a map by ties. -/
namespace Go.Proofs.Ytljnjpjnadlmhaa
open Go.RowKit Go.Maps
set_option linter.unusedVariables false

theorem turnOf_any (x y : Int) (w : World) : Calls Try.prog 54 #[.int .i64 x, .int .i64 y] w fun e w' => e = .returned (.int .i64 (if x < y then 1 else -1)) ∧ w' = w := by
  by_cases h : x < y
  · rw [if_pos h]
    go_enter Try.func54, Try.ntmps54
    go_wp2
    go_ret
    exact ⟨rfl, rfl⟩
  · rw [if_neg h]
    go_enter Try.func54, Try.ntmps54
    go_wp2
    go_ret
    exact ⟨rfl, rfl⟩
theorem tieOf_any (x y : Int) (w : World) : Calls Try.prog 53 #[.int .i64 x, .int .i64 y] w fun e w' => e = .returned (.agg #[.int .i64 (min x y), .int .i64 (max x y)]) ∧ Below w.heap.size w w' := by
  rcases Int.lt_trichotomy x y with h | h | h
  · rw [Int.min_eq_left (by omega), Int.max_eq_right (by omega)]
    have h1 : ¬ y < x := by omega
    go_enter Try.func53, Try.ntmps53
    go_wp2
    all_goals first | omega | exact bodyPost_ret (by simp [results, Try.results53, go_sem]) rfl ⟨rfl, below_one _ _⟩
  · subst h
    rw [Int.min_eq_left (by omega), Int.max_eq_right (by omega)]
    go_enter Try.func53, Try.ntmps53
    go_wp2
    all_goals first | omega | exact bodyPost_ret (by simp [results, Try.results53, go_sem]) rfl ⟨rfl, below_one _ _⟩
  · rw [Int.min_eq_right (by omega), Int.max_eq_left (by omega)]
    have h1 : ¬ x < y := by omega
    go_enter Try.func53, Try.ntmps53
    go_wp2
    all_goals first | omega | exact bodyPost_ret (by simp [results, Try.results53, go_sem]) rfl ⟨rfl, below_one _ _⟩
theorem tie_row : (37 : TypeId) < Try.prog.types.size := of_decide_eq_true (by kernel_rfl)
theorem tie_wide : (match Try.prog.underlying 37 with | some (.array _ _) | some (.struct _) => true | _ => false) = true := by kernel_rfl
set_option maxRecDepth 100000 in
theorem tie_law : WideMaps.KeyLaw Try.prog 37 := deep_law_laid Try.laidOut (m := 2) (by omega) tie_row (by kernel_rfl) tie_wide
theorem tie_keyed : Keyed Try.prog 37 := Keyed.of_law tie_law
/-- what two knots read as, as a key -/
def tkey (x y : Int) : Lit := .string (keyBytes [.int .i64 x, .int .i64 y])
theorem wf8 (x : Int) (hx : 0 ≤ x ∧ x < 8) : (Lit.int .i64 x).wf = true := by
  have h : ∀ k : Fin 8, (Lit.int .i64 (k.val : Int)).wf = true := by decide
  have := h ⟨x.toNat, by omega⟩
  rwa [show (((⟨x.toNat, by omega⟩ : Fin 8).val : Nat) : Int) = x from by show ((x.toNat : Nat) : Int) = x; omega] at this
theorem tie_cells : Try.prog.cellsOf 37 = 2 := by kernel_rfl
theorem int_cells : Try.prog.cellsOf 3 = 1 := by kernel_rfl
set_option maxRecDepth 100000 in
theorem tie_keyT : Try.prog.keyType 37 = true := by kernel_rfl
set_option maxRecDepth 100000 in
theorem tkey_is (x y : Int) (hx : 0 ≤ x ∧ x < 8) (hy : 0 ≤ y ∧ y < 8) : keyOf Try.prog 37 (.agg #[.int .i64 x, .int .i64 y]) = some (tkey x y) := by
  have wx := wf8 x hx
  have wy := wf8 y hy
  obtain ⟨m, hm⟩ : ∃ m, Try.prog.types.size = m + 1 := ⟨Try.prog.types.size - 1, by have h : 37 < Try.prog.types.size := tie_row; omega⟩
  unfold keyOf tkey
  simp only [Try.underlying37]
  rw [if_pos (by rw [tie_keyT]; simp [Value.formed, Try.underlying37, tie_cells]), hm]
  simp [Program.keyLits, Try.underlying37, Try.underlying3, tie_cells, int_cells, wx, wy, Value.cells]

/-- a map by ties, of the call's own: what goes over each of them -/
def Fm (w : World) (B n : Nat) (F : Nat → Nat → Int) : Prop :=
  ∃ D : DataW Unit, w.ownsMap Try.prog 37 (plainElem Try.prog 3) B n D ∧ ∀ x y : Nat, x < y → y < 8 → D.atKey (tkey x y) (.lit (.int .i64 0)) = .lit (.int .i64 (F x y))
theorem zero_int (w : World) : (zeroValue 3).run Try.prog w = .ok (.int .i64 0) w := by kernel_rfl
theorem Fm.below {w w' : World} {B n : Nat} {F : Nat → Nat → Int} {C : Nat} (h : Fm w B n F) (hb : Below C w w') (hC : B < C) : Fm w' B n F := by
  obtain ⟨D, ⟨es, clock, h1, h2⟩, h3⟩ := h
  exact ⟨D, ⟨es, clock, (hb.block B hC).trans h1, h2⟩, h3⟩
theorem Fm.lt {w : World} {B n : Nat} {F : Nat → Nat → Int} (h : Fm w B n F) : B < w.heap.size := by
  obtain ⟨D, h1, h3⟩ := h
  exact h1.lt
set_option maxRecDepth 100000 in
theorem Fm.look {w : World} {B n : Nat} {F : Nat → Nat → Int} (h : Fm w B n F) {x y : Nat} (hx : x < 8) (hy : y < 8) (hxy : x ≠ y) :
    (Instr.lookup 64 (.map (some B)) (.agg #[.int .i64 (min (x : Int) (y : Int)), .int .i64 (max (x : Int) (y : Int))]) false).run Try.prog w = .ok (.int .i64 (F (min x y) (max x y))) w := by
  obtain ⟨D, h1, h3⟩ := h
  obtain ⟨c, hrun, hat, hwc⟩ := h1.lookup_int tie_keyed Try.underlying64 Try.underlying3 (zero_int w) (tkey_is (min (x : Int) (y : Int)) (max (x : Int) (y : Int)) (by omega) (by omega))
  have e := h3 (min x y) (max x y) (by omega) (by omega)
  rw [show ((min x y : Nat) : Int) = min (x : Int) (y : Int) by omega, show ((max x y : Nat) : Int) = max (x : Int) (y : Int) by omega] at e
  rw [hrun]
  rw [hat] at e
  injection e with e
  injection e with _ e
  rw [e]
end Go.Proofs.Ytljnjpjnadlmhaa

/- Walk of impl.flow.send. -/
namespace Go.Proofs.Ytljnjpjnadlmhaa
open Go.RowKit Go.Maps
set_option linter.unusedVariables false

theorem Turned.joined {lo hi : Nat} {a b c : World} (h : Turned lo hi a b) (k : Turned lo hi b c) : Turned lo hi a c :=
  ⟨k.os.trans h.os, k.tape.trans h.tape, k.output.trans h.output, Nat.le_trans h.size k.size, fun i hi ho => (k.block i (Nat.lt_of_lt_of_le hi h.size) ho).trans (h.block i hi ho)⟩
theorem Turned.ofB {lo hi : Nat} {a b : World} (h : Below a.heap.size a b) : Turned lo hi a b := ⟨h.os, h.tape, h.output, h.size, fun k hk _ => h.block k hk⟩
theorem goE_bound {F : Nat → Nat → Int} {b : Int} (h : ∀ u v, -b ≤ F u v ∧ F u v ≤ b) (x y : Nat) : ∀ u v, -(b + 1) ≤ goE F x y u v ∧ goE F x y u v ≤ b + 1 := by
  intro u v
  have := h u v
  unfold goE
  constructor <;> (repeat' split) <;> omega
theorem goW_bound (p : List Nat) : ∀ {F : Nat → Nat → Int} {b : Int} (h : ∀ u v, -b ≤ F u v ∧ F u v ≤ b), ∀ u v, -(b + (p.length : Int)) ≤ goW F p u v ∧ goW F p u v ≤ b + (p.length : Int) := by
  induction p with
  | nil => intro F b h u v; have := h u v; show -(b + 0) ≤ F u v ∧ F u v ≤ b + 0; omega
  | cons x r ih =>
    cases r with
    | nil => intro F b h u v; have := h u v; show -(b + 1) ≤ F u v ∧ F u v ≤ b + 1; omega
    | cons y r =>
      intro F b h u v
      have := ih (goE_bound h x y) u v
      show -(b + ((x :: y :: r).length : Int)) ≤ goW (goE F x y) (y :: r) u v ∧ goW (goE F x y) (y :: r) u v ≤ _
      simp only [List.length_cons] at this ⊢
      omega
theorem goW_anti (p : List Nat) : ∀ {F : Nat → Nat → Int}, (∀ x y, F y x = - F x y) → ∀ x y, goW F p y x = - goW F p x y := by
  induction p with
  | nil => intro F h; exact h
  | cons x r ih =>
    cases r with
    | nil => intro F h; exact h
    | cons y r => intro F h; exact ih (goE_anti h x y)
theorem goW_take (F : Nat → Nat → Int) (p : List Nat) {k : Nat} (h0 : 1 ≤ k) (hk : k < p.length) : goW F (p.take (k + 1)) = goE (goW F (p.take k)) (p.getD (k - 1) 0) (p.getD k 0) := by
  obtain ⟨j, rfl⟩ : ∃ j, k = j + 1 := ⟨k - 1, by omega⟩
  have e1 : p.take (j + 1) = p.take j ++ [p.getD j 0] := by
    rw [List.take_add_one, List.getElem?_eq_getElem (by omega), List.getD_eq_getElem?_getD, List.getElem?_eq_getElem (by omega)]; rfl
  have e2 : p.take (j + 1 + 1) = p.take j ++ [p.getD j 0, p.getD (j + 1) 0] := by
    rw [List.take_add_one, e1, List.getElem?_eq_getElem hk, List.getD_eq_getElem?_getD (i := j + 1), List.getElem?_eq_getElem hk, List.append_assoc]; rfl
  rw [e1, e2, goW_app]; rfl
set_option maxRecDepth 100000 in
theorem tkey_inj {x y u v : Int} (hx : 0 ≤ x ∧ x < 8) (hy : 0 ≤ y ∧ y < 8) (hu : 0 ≤ u ∧ u < 8) (hv : 0 ≤ v ∧ v < 8) (h : tkey x y = tkey u v) : x = u ∧ y = v := by
  have h1 := tkey_is x y hx hy
  rw [h] at h1
  have h2 := tie_keyed.inj h1 (tkey_is u v hu hv)
  simpa using h2
/-- one more, or one less, over one tie -/
theorem Fm.put {w : World} {B n : Nat} {F : Nat → Nat → Int} (h : Fm w B n F) {x y : Nat} (hx : x < 8) (hy : y < 8) (hxy : x ≠ y) (hn : n < maxLen) (hb : ∀ u v, -64 ≤ F u v ∧ F u v ≤ 64) :
    ∃ w', (Instr.mapUpdate 64 (.map (some B)) (.agg #[.int .i64 (min (x : Int) (y : Int)), .int .i64 (max (x : Int) (y : Int))]) (.int .i64 (F (min x y) (max x y) + (if (x : Int) < (y : Int) then 1 else -1)))).run Try.prog w = .ok () w' ∧ Fm w' B (n + 1) (goE F x y) ∧ Turned B (B + 1) w w' := by
  obtain ⟨D, h1, h3⟩ := h
  have hbb := hb (min x y) (max x y)
  have hw : (Lit.int .i64 (F (min x y) (max x y) + (if (x : Int) < (y : Int) then 1 else -1))).wf = true := by
    have key : ∀ z : Int, -65 ≤ z → z ≤ 65 → (Lit.int .i64 z).wf = true := by
      intro z hz1 hz2
      have h : ∀ k : Fin 131, (Lit.int .i64 ((k.val : Int) - 65)).wf = true := by decide +kernel
      have h2 := h ⟨(z + 65).toNat, by omega⟩
      rwa [show (((⟨(z + 65).toNat, by omega⟩ : Fin 131).val : Nat) : Int) - 65 = z from by show (((z + 65).toNat : Nat) : Int) - 65 = z; omega] at h2
    split <;> exact key _ (by omega) (by omega)
  obtain ⟨w', hrun, ho, hg⟩ := h1.update tie_keyed Try.underlying64 hn (tkey_is (min (x : Int) (y : Int)) (max (x : Int) (y : Int)) (by omega) (by omega)) (plainElem_int Try.underlying3 hw)
  refine ⟨w', hrun, ⟨_, ho, fun u v huv hv => ?_⟩, Turned.of_grown hg (Nat.le_refl _) (Nat.lt_succ_self _)⟩
  have hm : IsMap D := h1.isMap
  by_cases q : u = min x y ∧ v = max x y
  · obtain ⟨rfl, rfl⟩ := q
    rw [show (((min x y : Nat) : Int)) = min (x : Int) (y : Int) by omega, show ((max x y : Nat) : Int) = max (x : Int) (y : Int) by omega, atKey_put_same hm (tie_keyed.key (tkey_is (min (x : Int) (y : Int)) (max (x : Int) (y : Int)) (by omega) (by omega)))]
    unfold goE
    rcases Nat.lt_or_ge x y with e | e
    · rw [if_pos (show (x : Int) < (y : Int) by omega), if_pos (show min x y = x ∧ max x y = y by omega), if_neg (show ¬ (min x y = y ∧ max x y = x) by omega)]; simp
    · rw [if_neg (show ¬ (x : Int) < (y : Int) by omega), if_neg (show ¬ (min x y = x ∧ max x y = y) by omega), if_pos (show min x y = y ∧ max x y = x by omega)]; simp; rfl
  · rw [atKey_put_other (fun e => q (by have := tkey_inj (by omega) (by omega) (by omega) (by omega) e; omega)), h3 u v huv hv]
    unfold goE
    rw [if_neg (by omega), if_neg (by omega)]; simp

section
open Go.WideElems Go.ChangeMaps
/-- behind the laying of an entry the map reads there as before -/
theorem entry_look {H : Type} {P : Program} {w : World} {t k e : TypeId} {R : Value → Option (DataW H × List MemPlace)} {b : Nat} {es : Array MapEntry} {clock : Nat} (K : Go.WideMaps.KeyLaw P k) (ht : P.underlying t = some (.map k e)) {z : Value} (hz : ∀ u : World, (zeroValue e).run P u = .ok z u) (hb : w.heap[b]? = some (.map es clock)) (F : Fit P k R es clock)
    {key : Value} {kl : Lit} (hkey : keyOf P k key = some kl) :
    ∃ (v0 : Value) (st : Nat) (w3 : World), (Instr.mapEntry t (.map (some b)) key).run P w = .ok (.tuple #[v0, goInt st]) w3 ∧ (Instr.lookup t (.map (some b)) key false).run P w = .ok v0 w ∧ (Instr.lookup t (.map (some b)) key false).run P w3 = .ok v0 w3 := by
  rcases K.find w hkey es.toList F.keys with ⟨h1, h2⟩ | ⟨j, e0, h1, h2, h3⟩
  · have hb3 : (setBlock w b (.map (es.push ⟨key, z, clock⟩) (clock + 1))).heap[b]? = some (.map (es.push ⟨key, z, clock⟩) (clock + 1)) := heap_setBlock_same hb _
    have hks : ∀ e ∈ (es.push ⟨key, z, clock⟩).toList, ∃ l, keyOf P k e.key = some l := by
      intro e he
      rw [Array.toList_push] at he
      rcases List.mem_append.1 he with q | q
      · exact F.keys e q
      · rw [List.mem_singleton.1 q]; exact ⟨_, hkey⟩
    refine ⟨z, clock, setBlock w b (.map (es.push ⟨key, z, clock⟩) (clock + 1)), ?_, ?_, ?_⟩
    · simp [Instr.mapEntry, run_underlying ht, MapKept.run_getObj_map hb, K.check w false hkey, h1, hz, MapKept.run_setObj_map _ hb, Result.andThen, setBlock]
    · simp [Instr.lookup, run_underlying ht, MapKept.run_getObj_map hb, K.check w _ hkey, h1, hz, Result.andThen]
    · rcases K.find (setBlock w b (.map (es.push ⟨key, z, clock⟩) (clock + 1))) hkey _ hks with ⟨g1, g2⟩ | ⟨j, e0, g1, g2, g3⟩
      · exact absurd rfl (g2 ⟨key, z, clock⟩ (by simp))
      · have hm := List.mem_of_getElem? g2
        rw [Array.toList_push] at hm
        have hv : e0.val = z := by
          rcases List.mem_append.1 hm with q | q
          · exact absurd g3 (h2 e0 q)
          · rw [List.mem_singleton.1 q]
        rw [hv, Array.toList_push] at g1
        simp [Instr.lookup, run_underlying ht, MapKept.run_getObj_map hb3, K.check _ _ hkey, g1, Result.andThen]
  · have hj : es[j]? = some e0 := by simpa using h2
    have hsame : es.modify j (fun e => { e with key := key }) = es := by
      apply Array.ext'
      rw [Array.toList_modify, modify_eq_set _ _ _ _ h2]
      have : ({ e0 with key := key } : MapEntry) = e0 := by rw [← h3]
      rw [this]
      exact set_self _ _ _ h2
    have hw : setBlock w b (.map es clock) = w := by
      have he : w.heap.setIfInBounds b (.map es clock) = w.heap := by
        apply Array.ext_getElem?
        intro i
        by_cases q : b = i
        · subst q
          rw [hb, Array.getElem?_setIfInBounds_self]
          have hlt : b < w.heap.size := (Array.getElem?_eq_some_iff.1 hb).1
          rw [if_pos hlt]
        · rw [Array.getElem?_setIfInBounds_ne q]
      unfold setBlock; rw [he]
    have hl : (Instr.lookup t (.map (some b)) key false).run P w = .ok e0.val w := by simp [Instr.lookup, run_underlying ht, MapKept.run_getObj_map hb, K.check w _ hkey, h1, Result.andThen]
    refine ⟨e0.val, e0.born, w, ?_, hl, hl⟩
    have h9 : (Instr.mapEntry t (.map (some b)) key).run P w = .ok (.tuple #[e0.val, goInt e0.born]) (setBlock w b (.map es clock)) := by
      simp [Instr.mapEntry, run_underlying ht, MapKept.run_getObj_map hb, K.check w false hkey, h1, hj, h3, K.stays w hkey, hsame, MapKept.run_setObj_map _ hb, Result.andThen, setBlock]
    rw [hw] at h9
    exact h9
end
/-- the entry is laid first, then its value -/
theorem Fm.entry {w : World} {B n : Nat} {F : Nat → Nat → Int} (h : Fm w B n F) {x y : Nat} (hx : x < 8) (hy : y < 8) (hxy : x ≠ y) (hn : n < maxLen) (hb : ∀ u v, -64 ≤ F u v ∧ F u v ≤ 64) :
    ∃ v0 st w3 w5, (Instr.mapEntry 64 (.map (some B)) (.agg #[.int .i64 (min (x : Int) (y : Int)), .int .i64 (max (x : Int) (y : Int))])).run Try.prog w = .ok (.tuple #[v0, .int .i64 (st : Int)]) w3 ∧
      (Instr.entryStore 64 (.map (some B)) (.int .i64 (st : Int)) (.int .i64 (F (min x y) (max x y) + (if (x : Int) < (y : Int) then 1 else -1)))).run Try.prog w3 = .ok () w5 ∧ Fm w5 B (n + 1) (goE F x y) ∧ Turned B (B + 1) w w5 ∧ Turned B (B + 1) w w3 ∧
      (Instr.lookup 64 (.map (some B)) (.agg #[.int .i64 (min (x : Int) (y : Int)), .int .i64 (max (x : Int) (y : Int))]) false).run Try.prog w3 = .ok (.int .i64 (F (min x y) (max x y))) w3 := by
  have hlook := h.look hx hy hxy
  obtain ⟨w', hrun, hF, hT⟩ := h.put hx hy hxy hn hb
  obtain ⟨D, ⟨es, clock, h1, h2, _⟩, h3⟩ := h
  obtain ⟨v0, st, es1, clock1, hE, _, hS⟩ := WideElems.entry_then_store tie_law Try.underlying64 zero_int h1 h2 (tkey_is (min (x : Int) (y : Int)) (max (x : Int) (y : Int)) (by omega) (by omega))
  obtain ⟨v0', st', w3', hE', hL, hL'⟩ := entry_look tie_law Try.underlying64 zero_int h1 h2 (tkey_is (min (x : Int) (y : Int)) (max (x : Int) (y : Int)) (by omega) (by omega))
  rw [hE] at hE'
  injection hE' with _ hE'
  rw [hlook] at hL
  injection hL with hL _
  rw [← hL, ← hE'] at hL'
  have hb3 : (ChangeMaps.setBlock w B (.map es1 clock1)).heap[B]? = some (.map es1 clock1) := ChangeMaps.heap_setBlock_same h1 _
  obtain ⟨es', clock', hs1, hs2⟩ := hS _ (.int .i64 (F (min x y) (max x y) + (if (x : Int) < (y : Int) then 1 else -1))) hb3
  rw [hrun] at hs2
  injection hs2 with _ hs2
  refine ⟨v0, st, _, _, hE, hs1, ?_⟩
  have e : ChangeMaps.setBlock (ChangeMaps.setBlock w B (.map es1 clock1)) B (.map es' clock') = ChangeMaps.setBlock w B (.map es' clock') := by simp [ChangeMaps.setBlock]
  rw [e, ← hs2]
  exact ⟨hF, hT, ⟨rfl, rfl, rfl, by simp [ChangeMaps.setBlock], fun k _ hk => ChangeMaps.heap_setBlock_other h1 _ (by omega)⟩, hL'⟩

set_option maxRecDepth 100000 in
set_option maxHeartbeats 1600000 in
theorem send_any (B n : Nat) (F : Nat → Nat → Int) (g off cap : Nat) (p : List Nat) (w : World) (hp8 : p.length ≤ 8) (hp0 : 0 < p.length) (hlt : ∀ z, z ∈ p → z < 8) (hnd : p.Nodup) (hg : g < w.heap.size) (hgB : g ≠ B) (hn : n ≤ 1048576)
    (hb : ∀ u v, -1 ≤ F u v ∧ F u v ≤ 1) (hf : Fm w B n F) (hc : ∀ i, i < p.length → w.cell? ⟨g, off + i, none⟩ = some (.int .i64 ((p.getD i 0 : Nat) : Int))) :
    Calls Try.prog 31 #[.map (some B), .slice (some ⟨g, off, none⟩) p.length cap] w fun e w' => e = .returned (.tuple #[]) ∧ Fm w' B (n + p.length) (goW F p) ∧ Turned B (B + 1) w w' := by
  have HC := hideP hc
  have HLT := hideP hlt
  have HND := hideP hnd
  have HB := hideP hb
  have H0 : Hid (Fm w B (n + 1) (goW F (p.take 1))) := by
    obtain ⟨D, h1, h3⟩ := hf
    have e : goW F (p.take 1) = F := by cases p <;> rfl
    rw [e]; exact ⟨D, h1.mono (Nat.le_succ _), h3⟩
  have hB := hf.lt
  clear hf hc hlt hnd hb
  go_enter Try.func31, Try.ntmps31
  go_wp2
  go_loopw [4] (fun i wr => ∃ k : Nat, 1 ≤ k ∧ k ≤ p.length ∧ i = .int .i64 (k : Int) ∧ Fm wr B (n + k) (goW F (p.take k)) ∧ Turned B (B + 1) w wr)
    (fun i _ => p.length - (intOf i).toNat)
  case atStart => exact ⟨1, Nat.le_refl _, hp0, rfl, H0.out, Turned.refl _ _ _⟩
  case round =>
    obtain ⟨k, hk1, hk, rfl, hF, hT⟩ := hrel
    have HF := hideP hF
    have HT := hideP hT
    clear hF hT
    by_cases hlt : k < p.length
    · obtain ⟨x, hx⟩ : ∃ x, x = p.getD (k - 1) 0 := ⟨_, rfl⟩
      obtain ⟨y, hy⟩ : ∃ y, y = p.getD k 0 := ⟨_, rfl⟩
      obtain ⟨j, hj⟩ : ∃ j, j = k - 1 := ⟨k - 1, rfl⟩
      rw [← hj] at hx
      have hjk : k = j + 1 := by omega
      obtain ⟨G, hG⟩ : ∃ G, G = goW F (p.take k) := ⟨_, rfl⟩
      have e0 : wr.cell? ⟨g, off + j, none⟩ = some (.int .i64 (x : Int)) := by rw [hx, HT.out.cell hg (by show g < B ∨ B + 1 ≤ g; omega)]; exact HC.out j (by omega)
      have e1 : wr.cell? ⟨g, off + k, none⟩ = some (.int .i64 (y : Int)) := by rw [hy, HT.out.cell hg (by show g < B ∨ B + 1 ≤ g; omega)]; exact HC.out k hlt
      have hgr : g < wr.heap.size := Nat.lt_of_lt_of_le hg HT.out.size
      have hBr : B < wr.heap.size := Nat.lt_of_lt_of_le hB HT.out.size
      have hx8 : x < 8 := by rw [hx, List.getD_eq_getElem?_getD, List.getElem?_eq_getElem (by omega)]; exact HLT.out _ (List.getElem_mem _)
      have hy8 : y < 8 := by rw [hy, List.getD_eq_getElem?_getD, List.getElem?_eq_getElem hlt]; exact HLT.out _ (List.getElem_mem _)
      have hxy : x ≠ y := by
        rw [hx, hy, List.getD_eq_getElem?_getD, List.getD_eq_getElem?_getD, List.getElem?_eq_getElem (show j < p.length by omega), List.getElem?_eq_getElem hlt]
        exact List.pairwise_iff_getElem.1 HND.out j k (by omega) hlt (by omega)
      have hGb : Hid (∀ u v, -64 ≤ G u v ∧ G u v ≤ 64) := hideP (fun u v => by
        have h1 := goW_bound (p.take k) (b := 1) HB.out u v
        rw [← hG] at h1
        have h2 : (p.take k).length ≤ 8 := by simp; omega
        omega)
      have HG2 : Hid (goW F (p.take (k + 1)) = goE G x y) := hideP (by rw [goW_take F p (by omega) hlt, ← hG, hx, hy, hj])
      rw [← hG] at HF
      obtain ⟨c, hcc⟩ : ∃ c, c = G (min x y) (max x y) := ⟨_, rfl⟩
      obtain ⟨d, hd⟩ : ∃ d : Int, d = if (x : Int) < (y : Int) then 1 else -1 := ⟨_, rfl⟩
      have hcb : -64 ≤ c ∧ c ≤ 64 := by rw [hcc]; exact hGb.out _ _
      have hdb : -1 ≤ d ∧ d ≤ 1 := by rw [hd]; split <;> omega
      have L0 := hideP (fun W (hb : Below wr.heap.size wr W) => (HF.out.below hb hBr).look hx8 hy8 hxy)
      have U0 := hideP (fun W (hb : Below wr.heap.size wr W) => (HF.out.below hb hBr).entry hx8 hy8 hxy (by unfold maxLen; omega) hGb.out)
      have TU := hideP (fun W => turnOf_any (x : Int) (y : Int) W)
      rw [← hcc] at L0 U0
      rw [← hd] at U0 TU
      have i0 : (0 : Int) ≤ (j : Int) := by omega
      have i1 : (j : Int) < (p.length : Int) := by omega
      have i2 : (0 : Int) ≤ (k : Int) := by omega
      have i3 : (k : Int) < (p.length : Int) := by omega
      have i4 : IntKind.i64.wrap ((k : Int) - 1) = (j : Int) := by
        rw [show (k : Int) - 1 = (j : Int) by omega]
        rw [IntKind.wrap_i64]; omega
      have i5 : IntKind.i64.wrap (c + d) = c + d := by rw [IntKind.wrap_i64]; omega
      have b0 : Below wr.heap.size wr wr.drew := (Below.refl _ _).drew
      have CE : Hid (∀ W, Below wr.heap.size wr W → W.cell? ⟨g, off + j, none⟩ = some (.int .i64 (x : Int)) ∧ W.cell? ⟨g, off + k, none⟩ = some (.int .i64 (y : Int))) := hideP (fun W hb => ⟨(hb.cell (p := ⟨g, off + j, none⟩) hgr).trans e0, (hb.cell (p := ⟨g, off + k, none⟩) hgr).trans e1⟩)
      have CT : Hid (∀ W W', Below wr.heap.size wr W → Turned B (B + 1) W W' → W'.cell? ⟨g, off + j, none⟩ = some (.int .i64 (x : Int)) ∧ W'.cell? ⟨g, off + k, none⟩ = some (.int .i64 (y : Int))) := hideP (fun W W' hb ht => ⟨(ht.cell (p := ⟨g, off + j, none⟩) (Nat.lt_of_lt_of_le hgr hb.size) (by show g < B ∨ B + 1 ≤ g; omega)).trans (CE.out W hb).1, (ht.cell (p := ⟨g, off + k, none⟩) (Nat.lt_of_lt_of_le hgr hb.size) (by show g < B ∨ B + 1 ≤ g; omega)).trans (CE.out W hb).2⟩)
      clear hx hy hG hcc hd hj hjk e0 e1 HLT HND HB HC H0
      go_wp2
      go_region_held3 (fun w' => w'.cell? ⟨g, off + j, none⟩ = some (.int .i64 (x : Int)) ∧ w'.cell? ⟨g, off + k, none⟩ = some (.int .i64 (y : Int))) (first | exact CT.out _ _ b1 hT5 | exact CT.out _ _ b1 hT3 | exact CE.out _ b1 | exact CE.out _ b0) (first | (go_at_call 53; refine (tieOf_any _ _ _).mono ?_; rintro e w1 ⟨rfl, bz⟩; have b1 : Below wr.heap.size wr w1 := b0.trans bz; have hL := L0.out _ b1; obtain ⟨v0, st, w3, w5, hE, hS, hF5, hT5, hT3, hL3⟩ := U0.out _ b1) | (go_at_call 54; refine (TU.out _).mono ?_; rintro e w2 ⟨rfl, rfl⟩; go_simp) | fail)
      all_goals
        have T5 := hideP ((HT.out.joined (Turned.ofB b1)).joined hT5)
        have F5 : Hid (Fm w5 B (n + (k + 1)) (goW F (p.take (k + 1)))) := hideP (by rw [HG2.out]; exact hF5)
        clear hE hS hF5 hT5 hT3 hL3 hL b1
        go_wp2
        go_roundw
        case measure => (simp [intOf] <;> omega)
        case rel => exact ⟨k + 1, by omega, by omega, by go_num, F5.out, T5.out⟩
    · obtain rfl : k = p.length := by omega
      rw [List.take_length] at HF
      go_wp2
      go_end0
      exact ⟨rfl, HF.out, HT.out⟩

end Go.Proofs.Ytljnjpjnadlmhaa
