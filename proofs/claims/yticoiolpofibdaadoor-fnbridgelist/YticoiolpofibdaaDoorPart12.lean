/- Texts put together: WDive3, WBridge, WBridgeI, WAdd. -/
import Derived.Test.YticoiolpofibdaaDoorPart11
import Derived.Test.YticoiolpofibdaaDoorPart6
import Derived.Test.YticoiolpofibdaaDoorPart8
import Derived.Test.YticoiolpofibdaaDoorPart9
import Derived.Test.YticoiolpofibdaaDoorPart3
/- Walk of impl.dive.move. -/
namespace Go.Proofs.YticoiolpofibdaaDoor
open Go.RowKit
set_option linter.unusedVariables false

theorem own_kept {w w' : World} {base : Nat} {e : TypeId} {size : Nat} {v : Value} {n : Nat} {xs : List Value} (h : w.ownsRow base e size v n xs) (hb : ∀ g, g < w.heap.size → w'.heap[g]? = w.heap[g]?) : w'.ownsRow base e size v n xs := by
  refine ⟨h.1, ?_⟩
  rcases h.2 with h1 | ⟨g, cap, cur, h1, h2, h3, h4⟩
  · exact Or.inl h1
  · exact Or.inr ⟨g, cap, cur, h1, h2, (hb g (Array.getElem?_eq_some_iff.1 h3).1).trans h3, h4⟩
theorem Dm.below {w w' : World} {A s mB : Nat} {d : Dv} {v : Value} (h : Dm w A s mB d v) (hb : Below w.heap.size w w') : Dm w' A s mB d v :=
  ⟨h.I.below hb h.lt, own_kept h.own (fun g hgl => hb.block g hgl)⟩
/-- one step of going down: what holds goes on to hold, and there is less to come -/
def Went (E : Nat → Nat → Prop) (A s : Nat) (d : Dv) (w : World) (e : Ending) (w' : World) : Prop :=
  e = .returned (.tuple #[]) ∧ ∃ d' mB' v', Dm w' A s mB' d' v' ∧ mB' < 2 ^ 64 ∧ BrBits mB' d'.br ∧ Inv E d' ∧ Aux d' ∧ mu d' < mu d ∧ (∀ x, 0 < d.tu x → 0 < d'.tu x) ∧ Below A w w'
theorem leave_bits {mB : Nat} {d : Dv} {i : Nat} (hb : BrBits mB d.br) (hf : d.fr (i + 1) < 8) (hk : d.kn (i + 1) < 8) (hne : d.fr (i + 1) ≠ d.kn (i + 1)) : BrBits (if d.le (i + 1) = d.tu (d.kn (i + 1)) then mB ||| pbit (d.fr (i + 1) : Int) (d.kn (i + 1) : Int) else mB) (d.leave i).br := by
  by_cases h : d.le (i + 1) = d.tu (d.kn (i + 1))
  · rw [if_pos h]
    refine (hb.with hf hk hne).same (fun x y => ?_)
    exact ⟨fun q => q.elim Or.inl (fun q => Or.inr ⟨h, q⟩), fun q => q.elim Or.inl (fun q => Or.inr q.2)⟩
  · rw [if_neg h]
    refine hb.same (fun x y => ?_)
    exact ⟨Or.inl, fun q => q.elim id (fun q => absurd q.1 h)⟩
theorem leave_small {mB : Nat} {d : Dv} {i : Nat} (h : mB < 2 ^ 64) : (if d.le (i + 1) = d.tu (d.kn (i + 1)) then mB ||| pbit (d.fr (i + 1) : Int) (d.kn (i + 1) : Int) else mB) < 2 ^ 64 := by
  split
  · exact or_lt _ _ h (pbit_lt _ _)
  · exact h

set_option maxHeartbeats 1600000 in
theorem move_left (E : Nat → Nat → Prop) (G : Gr E) (A s mB : Nat) (d : Dv) (v : Value) (w : World) (hD : Dm w A s mB d v) (hmB : mB < 2 ^ 64) (hb : BrBits mB d.br) (hI : Inv E d) (hX : Aux d) (i : Nat) (hi : d.m = i + 1) (hn : d.nx i = 8) :
    Calls Tryd.prog 92 #[.pointer (some ⟨A, 0, none⟩)] w (Went E A s d w) := by
  have hm8 : d.m ≤ 8 := by have := hX.mcn; have := hX.sum; omega
  obtain ⟨g, cap, rfl, _, _⟩ := hD.own.form (by omega)
  rw [hi] at hD
  have him : i < d.m := by omega
  obtain ⟨k0, k1, k2, k3, kf, hg, hgz⟩ := hD.st hi him
  rw [hn] at k2
  have k2' : w.cell? ⟨g, i * 4 + 2, none⟩ = some (.int .i64 8) := k2
  have HD := hideP hD
  clear hD k2
  have HTU : Hid (∀ x, 0 < d.tu x → 0 < d.tu x) := fun x h => h
  by_cases h0 : i = 0
  · subst h0
    have HALL : Hid (∀ w2, Dm w2 A s mB { d with m := 0 } (.slice (some ⟨g, 0, none⟩) 0 cap) → Below A w w2 → Went E A s d w (.returned (.tuple #[])) w2) := fun w2 h1 h2 =>
      ⟨rfl, { d with m := 0 }, mB, _, h1, hmB, hb, hI.leaveRoot G hi hn, hX.root, mu_root (d := d) hi hn, fun x h => h, h2⟩
    clear hI hX hb G k0 k1 k3 kf hmB hn
    go_enter Tryd.func92, Tryd.ntmps92
    go_wp2_with fail
    refine (top_any A s mB d g cap 0 _ HD.out hi (by omega)).mono ?_
    rintro e w1 ⟨rfl, rfl⟩
    go_wp2_with fail
    refine (leave_root A s mB d g cap _ HD.out.drew hi).mono ?_
    rintro e w2 ⟨rfl, h2, b2⟩
    have F := hideP (HALL.out w2 h2 ((Below.refl _ _).drew.trans b2))
    clear HALL h2 b2 HD
    go_wp2
    exact bodyPost_ret (v := .tuple #[]) (results_none rfl _ _ _) rfl F.out
  · obtain ⟨j, rfl⟩ : ∃ j, i = j + 1 := ⟨i - 1, by omega⟩
    have c := hI.chain j (by omega)
    have p := hI.knk j (by omega)
    have q := hI.knk (j + 1) (by omega)
    have hne : d.fr (j + 1) ≠ d.kn (j + 1) := fun e => G.irr (d.kn j) (by have := c.2.1; rw [← e, c.1] at this; exact this)
    have hk1 : d.kn (j + 1) < 8 := q.1
    have HALL : Hid (∀ w2 mB', (mB' = if d.le (j + 1) = d.tu (d.kn (j + 1)) then mB ||| pbit (d.fr (j + 1) : Int) (d.kn (j + 1) : Int) else mB) → Dm w2 A s mB' (d.leave j) (.slice (some ⟨g, 0, none⟩) (j + 1) cap) → Below A w w2 → Went E A s d w (.returned (.tuple #[])) w2) := fun w2 mB' e h1 h2 =>
      ⟨rfl, d.leave j, mB', _, h1, e ▸ leave_small hmB, e ▸ leave_bits hb (by rw [c.1]; exact p.1) hk1 hne, hI.leaveTo G (by omega) hn, hX.leave (by omega), mu_leave (by omega) hn, fun x h => h, h2⟩
    have HK := hideP hk1
    clear hI hX hb G k0 k1 k3 kf hn c p q hne hk1
    go_enter Tryd.func92, Tryd.ntmps92
    go_wp2_with fail
    refine (top_any A s mB d g cap (j + 1) _ HD.out hi (by omega)).mono ?_
    rintro e w1 ⟨rfl, rfl⟩
    go_wp2_with fail
    refine (leave_more A s mB d g cap j _ HD.out.drew hi (by omega) hmB HK.out).mono ?_
    rintro e w2 ⟨rfl, ⟨mB', e2, h2⟩, b2⟩
    have F := hideP (HALL.out w2 mB' e2 h2 ((Below.refl _ _).drew.trans b2))
    clear HALL h2 b2 HD e2
    go_wp2
    exact bodyPost_ret (v := .tuple #[]) (results_none rfl _ _ _) rfl F.out

theorem has_v (v : Bool) (p : Nat) (a b : Int) (w : World) (hp : p < 2 ^ 64) (h : decide (p &&& pbit a b ≠ 0) = v) :
    Calls Tryd.prog 64 #[.int .u64 (p : Int), .int .i64 a, .int .i64 b] w fun e w' => e = .returned (.bool v) ∧ w' = w := by
  rw [← h]; exact has_any p a b w hp
set_option maxHeartbeats 1600000 in
theorem move_on (E : Nat → Nat → Prop) (G : Gr E) (A s mB : Nat) (d : Dv) (v : Value) (w : World) (hD : Dm w A s mB d v) (hmB : mB < 2 ^ 64) (hs : s < 2 ^ 64) (hE : ∀ x y : Nat, decide (s &&& pbit (x : Int) (y : Int) ≠ 0) = true ↔ E x y) (hb : BrBits mB d.br) (hI : Inv E d) (hX : Aux d) (i : Nat) (hi : d.m = i + 1) (x : Nat) (hn : d.nx i = x) (hx : x < 8) :
    Calls Tryd.prog 92 #[.pointer (some ⟨A, 0, none⟩)] w (Went E A s d w) := by
  have hm8 : d.m ≤ 8 := by have := hX.mcn; have := hX.sum; omega
  have hc8 : d.cn ≤ 8 := by have := hX.sum; omega
  obtain ⟨g, cap, rfl, _, _⟩ := hD.own.form (by omega)
  rw [hi] at hD
  have him : i < d.m := by omega
  obtain ⟨k0, k1, k2, k3, kf, hg, hgz⟩ := hD.st hi him
  rw [hn] at k2
  have k2' : w.cell? ⟨g, i * 4 + 2, none⟩ = some (.int .i64 (x : Int)) := k2
  obtain ⟨q1, q2, q3, q4, q5, q6⟩ := hI.knk i him
  have hA := hD.lt
  -- the world with the next one to look at
  have D1 : Hid (Dm (w.setCell ⟨g, i * 4 + 2, none⟩ (.int .i64 ((x : Int) + 1))) A s mB (d.skip i x) (.slice (some ⟨g, 0, none⟩) (i + 1) cap)) := by
    have h1 := hD.next hi hg (x + 1)
    have e : ((x + 1 : Nat) : Int) = (x : Int) + 1 := by omega
    rw [e] at h1
    exact ⟨h1.I, h1.own⟩
  have B1 : Hid (Below A w (w.setCell ⟨g, i * 4 + 2, none⟩ (.int .i64 ((x : Int) + 1)))) := (Below.refl _ _).setCell (p := ⟨g, i * 4 + 2, none⟩) (by show A ≤ g; omega) _
  have HD := hideP hD
  have hne8 : ((x : Int) == 8) = false := by simp; omega
  have hx9 : (x : Int) < 8 := by omega
  clear hD k2
  have HSK : Hid ((¬ E (d.kn i) x ∨ x = d.fr i) → ∀ w2, Dm w2 A s mB (d.skip i x) (.slice (some ⟨g, 0, none⟩) (i + 1) cap) → Below A w w2 → Went E A s d w (.returned (.tuple #[])) w2) := fun hc w2 h1 h2 =>
    ⟨rfl, d.skip i x, mB, _, h1, hmB, hb, hI.skipTo G (by omega) hn hx hc, hX.skip i x, mu_skip (by omega) hn hx, fun x h => h, h2⟩
  go_enter Tryd.func92, Tryd.ntmps92
  go_wp2_with fail
  refine (top_any A s mB d g cap i _ HD.out hi (by omega)).mono ?_
  rintro e w1 ⟨rfl, rfl⟩
  go_wp2
  obtain ⟨w2, hw2⟩ : ∃ w2, w2 = w.setCell ⟨g, i * 4 + 2, none⟩ (.int .i64 ((x : Int) + 1)) := ⟨_, rfl⟩
  rw [← hw2] at D1 B1 ⊢
  clear hw2 k0 k1 k3 kf k2' HD hne8
  obtain ⟨k0, k1, _, k3, kf, _, hgz2⟩ := D1.out.st hi him
  have k0' : w2.cell? ⟨g, i * 4, none⟩ = some (.int .i64 (d.kn i : Int)) := k0
  have k1' : w2.cell? ⟨g, i * 4 + 1, none⟩ = some (.int .i64 (d.fr i : Int)) := k1
  have k3' : w2.cell? ⟨g, i * 4 + 3, none⟩ = some (.int .i64 (d.le i : Int)) := k3
  have c0 := D1.out.c0
  have ct : w2.cell? ⟨A, 2 + x, none⟩ = some (.int .i64 (d.tu x : Int)) := D1.out.ct hx
  clear k0 k1 k3
  by_cases hEx : E (d.kn i) x
  · have HV : Hid (decide (s &&& pbit (d.kn i : Int) (x : Int) ≠ 0) = true) := (hE _ _).2 hEx
    by_cases hf : x = d.fr i
    · have F := hideP (HSK.out (Or.inr hf))
      rw [← hf] at k1'
      clear hI hX hb hE G HSK q1 q2 q3 q4 q5 q6 hEx hf
      have hne9 : Nonempty (Cls (Below w2.heap.size w2)) := ⟨⟨w2, Below.refl _ _⟩⟩
      have p0 : ∀ u : Cls (Below w2.heap.size w2), u.w.cell? ⟨g, i * 4, none⟩ = some (.int .i64 (d.kn i : Int)) := fun u => (u.ok.cell (p := ⟨g, i * 4, none⟩) hgz2).trans k0'
      have p1 : ∀ u : Cls (Below w2.heap.size w2), u.w.cell? ⟨g, i * 4 + 1, none⟩ = some (.int .i64 (x : Int)) := fun u => (u.ok.cell (p := ⟨g, i * 4 + 1, none⟩) hgz2).trans k1'
      have p2 : ∀ u : Cls (Below w2.heap.size w2), u.w.cell? ⟨A, 0, none⟩ = some (.int .u64 (s : Int)) := fun u => (u.ok.cell (p := ⟨A, 0, none⟩) D1.out.lt).trans c0
      have CH : Hid (∀ u : Cls (Below w2.heap.size w2), Calls Tryd.prog 64 #[.int .u64 (s : Int), .int .i64 (d.kn i : Int), .int .i64 (x : Int)] u.w fun e w'' => e = .returned (.bool true) ∧ ∃ u2 : Cls (Below w2.heap.size w2), w'' = u2.w) := fun u =>
        Calls.cls (D := Below w2.heap.size w2) ((has_v true s (d.kn i : Int) (x : Int) u.w hs HV.out).mono fun e w3 ⟨he, hb3⟩ => ⟨he, hb3 ▸ u.ok⟩)
      refine wp_region_cls (Below w2.heap.size w2) (by kernel_rfl) (by kernel_rfl) (Below.refl _ _).drew.drew ?_
      repeat (go_big_quiet_step (first | (go_at_call 64; refine CH.out _)))
      refine wpQuiet_nil ?_
      intro wz hw'
      have hz : Below w2.heap.size w2 wz := by obtain ⟨u, e⟩ := hw'; rw [e]; exact u.ok
      clear hw' p0 p1 p2 CH hne9
      have DZ := hideP (D1.out.below hz)
      have BZ := hideP (B1.out.trans (hz.mono (Nat.le_of_lt D1.out.lt)))
      have kz3 := (hz.cell (p := ⟨g, i * 4 + 3, none⟩) hgz2).trans k3'
      have kz0 := (hz.cell (p := ⟨g, i * 4, none⟩) hgz2).trans k0'
      have kzt := (hz.cell (p := ⟨A, 2 + x, none⟩) D1.out.lt).trans ct
      have kzf := fun j => (hz.frozen (p := ⟨g, j, none⟩) hgz2).trans (kf j)
      clear hz D1 B1 k0' k1' k3' ct kf c0
      go_wp2
      exact bodyPost_ret (v := .tuple #[]) (results_none rfl _ _ _) rfl (F.out _ (by repeat (first | exact DZ.out | apply Dm.drew)) (by repeat (first | exact BZ.out | apply Below.drew)))
    · have hne : ((x : Int) == (d.fr i : Int)) = false := by simp; omega
      by_cases htz : d.tu x = 0
      · have F : Hid (∀ w2 v', Dm w2 A s mB ((d.skip i x).push x (d.kn i)) v' → Below A w w2 → Went E A s d w (.returned (.tuple #[])) w2) := fun w2 v' h1 h2 =>
          ⟨rfl, (d.skip i x).push x (d.kn i), mB, v', h1, hmB, hb, hI.pushChild G (by omega) hEx htz hn, (hX.skip i x).push hx htz, mu_push (by omega) hn hx htz, fun y hy => (by
            show 0 < upd d.tu x (d.cn + 1) y
            by_cases e : y = x
            · subst e; rw [upd_at]; omega
            · rw [upd_no _ _ e]; exact hy), h2⟩
        have HN := fun w3 (h : Dm w3 A s mB (d.skip i x) (.slice (some ⟨g, 0, none⟩) (i + 1) cap)) => enter_any A s mB (d.skip i x) _ x (d.kn i) w3 h hx q1 hm8 hc8
        have HEN := hideP HN
        rw [htz] at ct
        clear hI hX hb hE G HSK q1 q2 q3 q4 q5 q6 hEx hf HN
        have hne9 : Nonempty (Cls (Below w2.heap.size w2)) := ⟨⟨w2, Below.refl _ _⟩⟩
        have p0 : ∀ u : Cls (Below w2.heap.size w2), u.w.cell? ⟨g, i * 4, none⟩ = some (.int .i64 (d.kn i : Int)) := fun u => (u.ok.cell (p := ⟨g, i * 4, none⟩) hgz2).trans k0'
        have p1 : ∀ u : Cls (Below w2.heap.size w2), u.w.cell? ⟨g, i * 4 + 1, none⟩ = some (.int .i64 (d.fr i : Int)) := fun u => (u.ok.cell (p := ⟨g, i * 4 + 1, none⟩) hgz2).trans k1'
        have p2 : ∀ u : Cls (Below w2.heap.size w2), u.w.cell? ⟨A, 0, none⟩ = some (.int .u64 (s : Int)) := fun u => (u.ok.cell (p := ⟨A, 0, none⟩) D1.out.lt).trans c0
        have CH : Hid (∀ u : Cls (Below w2.heap.size w2), Calls Tryd.prog 64 #[.int .u64 (s : Int), .int .i64 (d.kn i : Int), .int .i64 (x : Int)] u.w fun e w'' => e = .returned (.bool true) ∧ ∃ u2 : Cls (Below w2.heap.size w2), w'' = u2.w) := fun u =>
          Calls.cls (D := Below w2.heap.size w2) ((has_v true s (d.kn i : Int) (x : Int) u.w hs HV.out).mono fun e w3 ⟨he, hb3⟩ => ⟨he, hb3 ▸ u.ok⟩)
        refine wp_region_cls (Below w2.heap.size w2) (by kernel_rfl) (by kernel_rfl) (Below.refl _ _).drew.drew ?_
        repeat (go_big_quiet_step (first | (go_at_call 64; refine CH.out _)))
        refine wpQuiet_nil ?_
        intro wz hw'
        have hz : Below w2.heap.size w2 wz := by obtain ⟨u, e⟩ := hw'; rw [e]; exact u.ok
        clear hw' p0 p1 p2 CH hne9
        have DZ := hideP (D1.out.below hz)
        have BZ := hideP (B1.out.trans (hz.mono (Nat.le_of_lt D1.out.lt)))
        have kz3 := (hz.cell (p := ⟨g, i * 4 + 3, none⟩) hgz2).trans k3'
        have kz0 := (hz.cell (p := ⟨g, i * 4, none⟩) hgz2).trans k0'
        have kzt := (hz.cell (p := ⟨A, 2 + x, none⟩) D1.out.lt).trans ct
        have kzf := fun j => (hz.frozen (p := ⟨g, j, none⟩) hgz2).trans (kf j)
        clear hz D1 B1 k0' k1' k3' ct kf c0
        have kzt' : wz.cell? ⟨A, 2 + x, none⟩ = some (.int .i64 0) := kzt
        clear hne kzt
        go_wp2_with fail
        refine (HEN.out _ (by repeat (first | exact DZ.out | apply Dm.drew))).mono ?_
        rintro e w5 ⟨rfl, v5, h5, b5⟩
        have BZ5 : Hid (Below A w w5) := BZ.out.trans (by first | exact b5 | exact (Below.refl _ _).drew.trans b5 | exact (Below.refl _ _).drew.drew.trans b5)
        have F5 := hideP (F.out w5 v5 h5 BZ5.out)
        clear F h5 b5 BZ BZ5 HEN DZ
        go_wp2
        exact bodyPost_ret (v := .tuple #[]) (results_none rfl _ _ _) rfl F5.out
      · have hpos : 0 < d.tu x := by omega
        have F : Hid (∀ w2, Dm w2 A s mB (d.look i x) (.slice (some ⟨g, 0, none⟩) (i + 1) cap) → Below A w w2 → Went E A s d w (.returned (.tuple #[])) w2) := fun w2 h1 h2 =>
          ⟨rfl, d.look i x, mB, _, h1, hmB, hb, hI.lookAt G (by omega) hn hx hEx hf hpos, hX.look i x, mu_look (by omega) hn hx, fun x h => h, h2⟩
        have hne0 : ((d.tu x : Int) == 0) = false := by simp; omega
        clear hI hX hb hE G HSK q1 q2 q3 q4 q5 q6 hEx hf hpos htz
        have hne9 : Nonempty (Cls (Below w2.heap.size w2)) := ⟨⟨w2, Below.refl _ _⟩⟩
        have p0 : ∀ u : Cls (Below w2.heap.size w2), u.w.cell? ⟨g, i * 4, none⟩ = some (.int .i64 (d.kn i : Int)) := fun u => (u.ok.cell (p := ⟨g, i * 4, none⟩) hgz2).trans k0'
        have p1 : ∀ u : Cls (Below w2.heap.size w2), u.w.cell? ⟨g, i * 4 + 1, none⟩ = some (.int .i64 (d.fr i : Int)) := fun u => (u.ok.cell (p := ⟨g, i * 4 + 1, none⟩) hgz2).trans k1'
        have p2 : ∀ u : Cls (Below w2.heap.size w2), u.w.cell? ⟨A, 0, none⟩ = some (.int .u64 (s : Int)) := fun u => (u.ok.cell (p := ⟨A, 0, none⟩) D1.out.lt).trans c0
        have CH : Hid (∀ u : Cls (Below w2.heap.size w2), Calls Tryd.prog 64 #[.int .u64 (s : Int), .int .i64 (d.kn i : Int), .int .i64 (x : Int)] u.w fun e w'' => e = .returned (.bool true) ∧ ∃ u2 : Cls (Below w2.heap.size w2), w'' = u2.w) := fun u =>
          Calls.cls (D := Below w2.heap.size w2) ((has_v true s (d.kn i : Int) (x : Int) u.w hs HV.out).mono fun e w3 ⟨he, hb3⟩ => ⟨he, hb3 ▸ u.ok⟩)
        refine wp_region_cls (Below w2.heap.size w2) (by kernel_rfl) (by kernel_rfl) (Below.refl _ _).drew.drew ?_
        repeat (go_big_quiet_step (first | (go_at_call 64; refine CH.out _)))
        refine wpQuiet_nil ?_
        intro wz hw'
        have hz : Below w2.heap.size w2 wz := by obtain ⟨u, e⟩ := hw'; rw [e]; exact u.ok
        clear hw' p0 p1 p2 CH hne9
        have DZ := hideP (D1.out.below hz)
        have BZ := hideP (B1.out.trans (hz.mono (Nat.le_of_lt D1.out.lt)))
        have kz3 := (hz.cell (p := ⟨g, i * 4 + 3, none⟩) hgz2).trans k3'
        have kz0 := (hz.cell (p := ⟨g, i * 4, none⟩) hgz2).trans k0'
        have kzt := (hz.cell (p := ⟨A, 2 + x, none⟩) D1.out.lt).trans ct
        have kzf := fun j => (hz.frozen (p := ⟨g, j, none⟩) hgz2).trans (kf j)
        clear hz D1 B1 k0' k1' k3' ct kf c0
        have DF : Hid (Dm (wz.setCell ⟨g, i * 4 + 3, none⟩ (.int .i64 ((min (d.le i) (d.tu x) : Nat) : Int))) A s mB (d.look i x) (.slice (some ⟨g, 0, none⟩) (i + 1) cap)) := by
          have h1 := DZ.out.least (i := i) hi hg (min (d.le i) (d.tu x))
          exact ⟨h1.I, h1.own⟩
        have BF : Hid (Below A w (wz.setCell ⟨g, i * 4 + 3, none⟩ (.int .i64 ((min (d.le i) (d.tu x) : Nat) : Int)))) := BZ.out.setCell (p := ⟨g, i * 4 + 3, none⟩) (by show A ≤ g; omega) _
        clear hne
        by_cases hmn : d.tu x < d.le i
        · have em : min (d.le i) (d.tu x) = d.tu x := by omega
          rw [em] at DF BF
          clear em
          go_wp2
          go_region
          go_wp2
          all_goals first | (exfalso; omega) | exact bodyPost_end (v := .tuple #[]) (results_none rfl _ _ _) rfl (F.out _ (by repeat (first | exact DF.out | apply Dm.drew)) (by repeat (first | exact BF.out | apply Below.drew)))
        · have em : min (d.le i) (d.tu x) = d.le i := by omega
          rw [em] at DF BF
          clear em
          go_wp2
          go_region
          go_wp2
          all_goals first | (exfalso; omega) | exact bodyPost_end (v := .tuple #[]) (results_none rfl _ _ _) rfl (F.out _ (by repeat (first | exact DF.out | apply Dm.drew)) (by repeat (first | exact BF.out | apply Below.drew)))
  · have HV : Hid (decide (s &&& pbit (d.kn i : Int) (x : Int) ≠ 0) = false) := by
      show decide (s &&& pbit (d.kn i : Int) (x : Int) ≠ 0) = false
      rw [← Bool.not_eq_true]; exact fun h => hEx ((hE _ _).1 h)
    have F := hideP (HSK.out (Or.inl hEx))
    clear hI hX hb hE G HSK q1 q2 q3 q4 q5 q6 hEx
    have hne9 : Nonempty (Cls (Below w2.heap.size w2)) := ⟨⟨w2, Below.refl _ _⟩⟩
    have p0 : ∀ u : Cls (Below w2.heap.size w2), u.w.cell? ⟨g, i * 4, none⟩ = some (.int .i64 (d.kn i : Int)) := fun u => (u.ok.cell (p := ⟨g, i * 4, none⟩) hgz2).trans k0'
    have p1 : ∀ u : Cls (Below w2.heap.size w2), u.w.cell? ⟨g, i * 4 + 1, none⟩ = some (.int .i64 (d.fr i : Int)) := fun u => (u.ok.cell (p := ⟨g, i * 4 + 1, none⟩) hgz2).trans k1'
    have p2 : ∀ u : Cls (Below w2.heap.size w2), u.w.cell? ⟨A, 0, none⟩ = some (.int .u64 (s : Int)) := fun u => (u.ok.cell (p := ⟨A, 0, none⟩) D1.out.lt).trans c0
    have CH : Hid (∀ u : Cls (Below w2.heap.size w2), Calls Tryd.prog 64 #[.int .u64 (s : Int), .int .i64 (d.kn i : Int), .int .i64 (x : Int)] u.w fun e w'' => e = .returned (.bool false) ∧ ∃ u2 : Cls (Below w2.heap.size w2), w'' = u2.w) := fun u =>
      Calls.cls (D := Below w2.heap.size w2) ((has_v false s (d.kn i : Int) (x : Int) u.w hs HV.out).mono fun e w3 ⟨he, hb3⟩ => ⟨he, hb3 ▸ u.ok⟩)
    refine wp_region_cls (Below w2.heap.size w2) (by kernel_rfl) (by kernel_rfl) (Below.refl _ _).drew.drew ?_
    repeat (go_big_quiet_step (first | (go_at_call 64; refine CH.out _)))
    refine wpQuiet_nil ?_
    intro wz hw'
    have hz : Below w2.heap.size w2 wz := by obtain ⟨u, e⟩ := hw'; rw [e]; exact u.ok
    clear hw' p0 p1 p2 CH hne9
    have DZ := hideP (D1.out.below hz)
    have BZ := hideP (B1.out.trans (hz.mono (Nat.le_of_lt D1.out.lt)))
    have kz3 := (hz.cell (p := ⟨g, i * 4 + 3, none⟩) hgz2).trans k3'
    have kz0 := (hz.cell (p := ⟨g, i * 4, none⟩) hgz2).trans k0'
    have kzt := (hz.cell (p := ⟨A, 2 + x, none⟩) D1.out.lt).trans ct
    have kzf := fun j => (hz.frozen (p := ⟨g, j, none⟩) hgz2).trans (kf j)
    clear hz D1 B1 k0' k1' k3' ct kf c0
    go_wp2
    exact bodyPost_ret (v := .tuple #[]) (results_none rfl _ _ _) rfl (F.out _ (by repeat (first | exact DZ.out | apply Dm.drew)) (by repeat (first | exact BZ.out | apply Below.drew)))

end Go.Proofs.YticoiolpofibdaaDoor

/- Walk of impl.bridgesOf: it is all bridges of a net. -/
namespace Go.Proofs.YticoiolpofibdaaDoor
open Go.RowKit
set_option linter.unusedVariables false

/-- a dive under way that began in w -/
structure Dst (E : Nat → Nat → Prop) (w wr : World) (A s : Nat) (d : Dv) (mB : Nat) (v : Value) : Prop where
  M : Dm wr A s mB d v
  lt : mB < 2 ^ 64
  B : BrBits mB d.br
  I : Inv E d
  X : Aux d
  bel : Below w.heap.size w wr
theorem BitsOf.is {m : Nat} {us : List (Int × Int)} (h : BitsOf m us) : m = maskN us us.length := by
  apply Nat.eq_of_testBit_eq
  intro j
  rw [Bool.eq_iff_iff, h j, mask_bitsOf us j]
theorem Dst.answer {K : Int} {ts : List (Int × Int)} (hok : okB K ts = true) {w wr : World} {A s : Nat} {d : Dv} {mB : Nat} {v : Value} (h : Dst (EE ts) w wr A s d mB v) (hm : d.m = 0) (hall : ∀ x, x < 8 → 0 < d.tu x) : mB = setN K (brTs K ts) := by
  rw [setN_yes (brTs_ok hok)]
  exact (br_bits hok h.B (h.I.answer (EE.gr (okB_iff.1 hok)) hm hall)).is

def noDv : Dv := ⟨0, fun _ => 0, fun _ => 0, fun _ => 0, fun _ => 0, fun _ => 0, 0, fun _ _ => False, fun _ => 0⟩
theorem Dst.begin (E : Nat → Nat → Prop) (w : World) (s : Nat) : Dst E w (w.alloc (.cells #[.int .u64 (s : Int), .slice none 0 0, .int .i64 0, .int .i64 0, .int .i64 0, .int .i64 0, .int .i64 0, .int .i64 0, .int .i64 0, .int .i64 0, .int .i64 0, .int .u64 0] 97)) w.heap.size s noDv 0 (.slice none 0 0) := by
  refine ⟨⟨⟨fun j hj => ?_, fun j => by simp, by simp⟩, World.ownsRow_nil _ _ _ _⟩, by omega, BrBits.none, inv_begin _ (fun _ => rfl) _ _ _ _ _, Aux.begin _ (fun _ => rfl) _ _ _ _ _, below_one _ _⟩
  rw [World.cell?_alloc_at _ _ _ _ rfl]
  have : j = 0 ∨ j = 1 ∨ j = 2 ∨ j = 3 ∨ j = 4 ∨ j = 5 ∨ j = 6 ∨ j = 7 ∨ j = 8 ∨ j = 9 ∨ j = 10 ∨ j = 11 := by omega
  rcases this with rfl | rfl | rfl | rfl | rfl | rfl | rfl | rfl | rfl | rfl | rfl | rfl <;> rfl

theorem move_any (E : Nat → Nat → Prop) (G : Gr E) (A s mB : Nat) (d : Dv) (v : Value) (w : World) (hD : Dm w A s mB d v) (hmB : mB < 2 ^ 64) (hs : s < 2 ^ 64) (hE : ∀ x y : Nat, decide (s &&& pbit (x : Int) (y : Int) ≠ 0) = true ↔ E x y) (hb : BrBits mB d.br) (hI : Inv E d) (hX : Aux d) (hm : 0 < d.m) :
    Calls Tryd.prog 92 #[.pointer (some ⟨A, 0, none⟩)] w (Went E A s d w) := by
  obtain ⟨i, hi⟩ : ∃ i, d.m = i + 1 := ⟨d.m - 1, by omega⟩
  have hn8 := (hI.knk i (by omega)).2.2.2.1
  by_cases hn : d.nx i = 8
  · exact move_left E G A s mB d v w hD hmB hb hI hX i hi hn
  · exact move_on E G A s mB d v w hD hmB hs hE hb hI hX i hi (d.nx i) rfl (by omega)
theorem sm_le (nx : Nat → Nat) : ∀ m, sm nx m ≤ 9 * m := by
  intro m
  induction m with
  | zero => exact Nat.le_refl _
  | succ m ih => simp only [sm]; omega
theorem mu_le {d : Dv} (h : Aux d) : mu d ≤ 1000 := by
  have h1 := sm_le d.nx d.m
  have h2 := unm_le (vis d.tu) 8
  have h3 := h.mcn
  have h4 := h.sum
  unfold mu; omega
/-- going down from one knot -/
def Going (ts : List (Int × Int)) (w wr : World) (A s k gk : Nat) : Prop := ∃ d mB v, mu d ≤ gk ∧ Dst (EE ts) w wr A s d mB v ∧ ∀ x, x < k → 0 < d.tu x

set_option maxHeartbeats 1600000 in
theorem bridgesOf_any (K : Int) (ts : List (Int × Int)) (w : World) (hok : okB K ts = true) :
    Calls Tryd.prog 63 #[.int .u64 ((setN K ts : Nat) : Int)] w fun e w' => e = .returned (.int .u64 ((setN K (brTs K ts) : Nat) : Int)) ∧ Below w.heap.size w w' := by
  have HG := hideP (EE.gr (okB_iff.1 hok))
  have HE : Hid (∀ x y : Nat, decide (setN K ts &&& pbit (x : Int) (y : Int) ≠ 0) = true ↔ EE ts x y) := fun x y => by rw [has_set K ts _ _ hok, hasB_ok hok]; rfl
  have HS := hideP (setN_lt K ts)
  have HA := hideP (fun (wr : World) (A s : Nat) (d : Dv) (mB : Nat) (v : Value) (h : Dst (EE ts) w wr A s d mB v) => h.answer hok)
  obtain ⟨s, hs⟩ : ∃ s, s = setN K ts := ⟨_, rfl⟩
  obtain ⟨m', hm'⟩ : ∃ m', m' = setN K (brTs K ts) := ⟨_, rfl⟩
  rw [← hs] at HE HS ⊢
  rw [← hm'] at HA ⊢
  clear hs hm' hok
  go_enter Tryd.func63, Tryd.ntmps63
  have S0 := hideP (Dst.begin (EE ts) w s)
  go_wp2
  obtain ⟨A, hA⟩ : ∃ A, A = w.heap.size := ⟨_, rfl⟩
  rw [← hA] at S0 ⊢
  have hAw : w.heap.size ≤ A := by omega
  clear hA
  go_loopw [7] (fun i wr => ∃ k : Nat, k ≤ 8 ∧ i = .int .i64 k ∧ ∃ d mB v, Dst (EE ts) w wr A s d mB v ∧ d.m = 0 ∧ ∀ x, x < k → 0 < d.tu x)
    (fun i _ => 8 - (intOf i).toNat)
  case atStart => exact ⟨0, Nat.zero_le _, rfl, noDv, 0, _, S0.out, rfl, fun x hx => by omega⟩
  case round =>
    clear S0
    obtain ⟨k, hk, rfl, d, mB, v, hS, hm, hall⟩ := hrel
    by_cases hlt : k < 8
    · have hk8 : (k : Int) < 8 := by omega
      have hk0 : (0 : Int) ≤ (k : Int) := by omega
      have ct := hS.M.ct hlt
      have HST := hideP hS
      have HALL := hideP hall
      have hAz := hS.M.lt
      have hc8 : d.cn ≤ 8 := by have := hS.X.sum; omega
      clear hS hall
      by_cases htz : d.tu k = 0
      · rw [htz] at ct
        have ct' : wr.cell? ⟨A, 2 + k, none⟩ = some (.int .i64 0) := ct
        clear ct
        go_wp2_with fail
        refine (enter_any A s mB d v k k _ HST.out.M hlt hlt (by omega) hc8).mono ?_
        rintro e w1 ⟨rfl, v1, M1, b1⟩
        have D1 : Hid (Going ts w w1 A s (k + 1) 1000) := by
          refine ⟨d.push k k, mB, v1, mu_le (HST.out.X.push hlt htz), ⟨M1, HST.out.lt, HST.out.B, HST.out.I.pushRoot HG.out hm hlt htz, HST.out.X.push hlt htz, HST.out.bel.trans (b1.mono hAw)⟩, fun x hx => ?_⟩
          show 0 < upd d.tu k (d.cn + 1) x
          by_cases e : x = k
          · subst e; rw [upd_at]; omega
          · rw [upd_no _ _ e]; exact HALL.out x (by omega)
        clear M1 b1 HST HALL hc8 htz hm
        go_wp2
        go_loopg [] 1000 (fun gk wr => Going ts w wr A s (k + 1) gk)
        case atStart => exact D1.out
        case round =>
          clear D1
          obtain ⟨d, mB, v, hmu, hS, hall⟩ := hrel
          have hlen := hS.X.mcn
          have hsum := hS.X.sum
          have HST := hideP hS
          have HALL := hideP hall
          have c1 := hS.M.c1
          have hown := hS.M.own
          by_cases hm0 : d.m = 0
          · have F : Hid (∃ d mB v, Dst (EE ts) w wr A s d mB v ∧ d.m = 0 ∧ ∀ x, x < k + 1 → 0 < d.tu x) := ⟨d, mB, v, hS, hm0, hall⟩
            rw [hm0] at hown
            obtain ⟨so, cap, rfl⟩ := own_slice hown
            clear hS hall hown hsum hlen HST HALL hmu hm0
            go_wp2
            exact ⟨⟨k + 1, by omega, by go_num, F.out⟩, by simp [intOf]; omega⟩
          · have hmp : 0 < d.m := by omega
            obtain ⟨g, cap, rfl, _, _⟩ := hown.form hmp
            have hmi : (0 : Int) < (d.m : Int) := by omega
            have MV := hideP (move_any (EE ts) HG.out A s mB d _ wr hS.M hS.lt HS.out HE.out hS.B hS.I hS.X hmp)
            have hb := hS.bel
            clear hS hall hown
            go_wp2_with fail
            refine MV.out.mono ?_
            rintro e w2 ⟨rfl, d', mB', v', M', l', B', I', X', mu', t', b'⟩
            have F : Hid (Going ts w w2 A s (k + 1) (gk - 1)) := ⟨d', mB', v', by omega, ⟨M', l', B', I', X', hb.trans (b'.mono hAw)⟩, fun x hx => t' x (HALL.out x hx)⟩
            have hgk : 0 < gk := by omega
            clear M' l' B' I' X' t' b' mu' HST HALL MV c1 hb
            go_wp2
            go_roundg (gk - 1)
            case measure => omega
            case rel => exact F.out
      · have hne : ((d.tu k : Int) == 0) = false := by simp; omega
        have D1 : Hid (Going ts w wr A s (k + 1) 1000) := by
          refine ⟨d, mB, v, mu_le HST.out.X, HST.out, fun x hx => ?_⟩
          by_cases e : x = k
          · subst e; omega
          · exact HALL.out x (by omega)
        clear HST HALL hc8 htz hm
        go_wp2
        go_loopg [] 1000 (fun gk wr => Going ts w wr A s (k + 1) gk)
        case atStart => exact D1.out
        case round =>
          clear D1
          obtain ⟨d, mB, v, hmu, hS, hall⟩ := hrel
          have hlen := hS.X.mcn
          have hsum := hS.X.sum
          have HST := hideP hS
          have HALL := hideP hall
          have c1 := hS.M.c1
          have hown := hS.M.own
          by_cases hm0 : d.m = 0
          · have F : Hid (∃ d mB v, Dst (EE ts) w wr A s d mB v ∧ d.m = 0 ∧ ∀ x, x < k + 1 → 0 < d.tu x) := ⟨d, mB, v, hS, hm0, hall⟩
            rw [hm0] at hown
            obtain ⟨so, cap, rfl⟩ := own_slice hown
            clear hS hall hown hsum hlen HST HALL hmu hm0
            go_wp2
            exact ⟨⟨k + 1, by omega, by go_num, F.out⟩, by simp [intOf]; omega⟩
          · have hmp : 0 < d.m := by omega
            obtain ⟨g, cap, rfl, _, _⟩ := hown.form hmp
            have hmi : (0 : Int) < (d.m : Int) := by omega
            have MV := hideP (move_any (EE ts) HG.out A s mB d _ wr hS.M hS.lt HS.out HE.out hS.B hS.I hS.X hmp)
            have hb := hS.bel
            clear hS hall hown
            go_wp2_with fail
            refine MV.out.mono ?_
            rintro e w2 ⟨rfl, d', mB', v', M', l', B', I', X', mu', t', b'⟩
            have F : Hid (Going ts w w2 A s (k + 1) (gk - 1)) := ⟨d', mB', v', by omega, ⟨M', l', B', I', X', hb.trans (b'.mono hAw)⟩, fun x hx => t' x (HALL.out x hx)⟩
            have hgk : 0 < gk := by omega
            clear M' l' B' I' X' t' b' mu' HST HALL MV c1 hb
            go_wp2
            go_roundg (gk - 1)
            case measure => omega
            case rel => exact F.out
    · obtain rfl : k = 8 := by omega
      have HF : Hid (mB = m') := HA.out wr A s d mB v hS hm hall
      have HB := hideP hS.bel
      have cb := hS.M.cb
      clear hS hall hlt HA
      go_wp2
      go_ret
      exact ⟨by rw [← HF.out]; rfl, HB.out⟩

end Go.Proofs.YticoiolpofibdaaDoor

/- Walks of impl.BridgeList, impl.BridgeIs. -/
namespace Go.Proofs.YticoiolpofibdaaDoor
open Go.RowKit
set_option linter.unusedVariables false

/-- the net that is gone down through: this one, or, if it is not ok, one without ties -/
def okK (K : Int) (ts : List (Int × Int)) : Int := if okB K ts = true then K else 8
def okTs (K : Int) (ts : List (Int × Int)) : List (Int × Int) := if okB K ts = true then ts else []
theorem okK_no {K : Int} {ts : List (Int × Int)} (h : okB K ts = false) : okK K ts = 8 := if_neg (by simp [h])
theorem okTs_no {K : Int} {ts : List (Int × Int)} (h : okB K ts = false) : okTs K ts = [] := if_neg (by simp [h])
theorem okK_yes {K : Int} {ts : List (Int × Int)} (h : okB K ts = true) : okK K ts = K := if_pos h
theorem okTs_yes {K : Int} {ts : List (Int × Int)} (h : okB K ts = true) : okTs K ts = ts := if_pos h
theorem okTs_ok (K : Int) (ts : List (Int × Int)) : okB (okK K ts) (okTs K ts) = true := by
  cases h : okB K ts
  · rw [okK_no h, okTs_no h]; decide
  · rw [okK_yes h, okTs_yes h]; exact h
theorem okTs_set (K : Int) (ts : List (Int × Int)) : setN (okK K ts) (okTs K ts) = setN K ts := by
  cases h : okB K ts
  · rw [setN_no h, okK_no h, okTs_no h]; decide
  · rw [okK_yes h, okTs_yes h]
theorem okTs_br (K : Int) (ts : List (Int × Int)) : brTs (okK K ts) (okTs K ts) = brTs K ts := by
  cases h : okB K ts
  · rw [show brTs K ts = [] by simp [brTs, h], okK_no h, okTs_no h]; decide
  · rw [okK_yes h, okTs_yes h]
theorem bridgesOf_all (K : Int) (ts : List (Int × Int)) (w : World) :
    Calls Tryd.prog 63 #[.int .u64 ((setN K ts : Nat) : Int)] w fun e w' => e = .returned (.int .u64 ((setN (okK K ts) (brTs K ts) : Nat) : Int)) ∧ Below w.heap.size w w' := by
  have := bridgesOf_any (okK K ts) (okTs K ts) w (okTs_ok K ts)
  rw [okTs_set, okTs_br] at this
  exact this
theorem brTs_okK (K : Int) (ts : List (Int × Int)) : okB (okK K ts) (brTs K ts) = true := by
  rw [← okTs_br]; exact brTs_ok (okTs_ok K ts)
theorem br_has (K : Int) (ts : List (Int × Int)) (a b : Int) : decide (setN (okK K ts) (brTs K ts) &&& pbit a b ≠ 0) = bridgeB K ts a b := by
  rw [has_set _ _ _ _ (brTs_okK K ts)]
  cases h : okB K ts
  · rw [show brTs K ts = [] by simp [brTs, h], show bridgeB K ts a b = false by simp [bridgeB, hasB_no h]]
    rw [okK_no h, hasB_ok (by decide)]; rfl
  · rw [okK_yes h]; exact brTs_has h a b

set_option maxHeartbeats 800000 in
theorem implBridges_any (K : Int) (ao : Option Addr) (cap : Nat) (ts : List (Int × Int)) (w : World) (hn : ts.length ≤ 1099511627776) (ht : TiesIn w w.heap.size ao ts) (hT : Tab w) :
    Calls Tryd.prog 37 #[.agg #[.int .i64 K, .slice ao ts.length cap]] w fun e w' => ∃ ao' cap', e = .returned (.slice ao' (brTs K ts).length cap') ∧ OwnN w' w.heap.size w'.heap.size ao' (brTs K ts).length (tcell (brTs K ts)) ∧ Below w.heap.size w w' := by
  have X0 := fun (t : TypeId) => Bx.start w K (.slice ao ts.length cap) t
  have HX0 := hideP X0
  have HT := hideP ht
  have HTab := hideP hT
  clear X0 ht hT
  go_enter Tryd.func37, Tryd.ntmps37
  go_wp2_with fail
  refine (pairsOf_any K ao cap ts _ hn ((HT.out.below (HX0.out _).B (Nat.le_refl _)).wide (Nat.le_of_lt (HX0.out _).lt))).mono ?_
  rintro e w2 ⟨rfl, hb1⟩
  have X2 := hideP ((HX0.out _).next hb1)
  clear hb1
  have T2 := hideP (HTab.out.below X2.out.B HTab.out.2)
  have HU := hideP (brTs_okK K ts)
  go_wp2_with fail
  refine (bridgesOf_all K ts _).mono ?_
  rintro e w3 ⟨rfl, hb3⟩
  have X3 := hideP (X2.out.next hb3)
  have T3 := hideP (T2.out.below hb3 T2.out.2)
  obtain ⟨us, hus⟩ : ∃ us, us = brTs K ts := ⟨_, rfl⟩
  obtain ⟨K8, hK8⟩ : ∃ k, k = okK K ts := ⟨_, rfl⟩
  have HUS := hideP hus
  rw [← hus, ← hK8] at HU ⊢
  clear hb3 T2 hus hK8
  go_wp2_with fail
  refine (ties_two' K8 us (setN K8 us) _ T3.out (okB_iff.1 HU.out).2.1 (okB_iff.1 HU.out).2.2 (ok_short (okB_iff.1 HU.out)) (set_bits HU.out) (setN_lt K8 us)).mono ?_
  rintro e w4 ⟨ao', cap', rfl, ho, hb4⟩
  have X4 := hideP (X3.out.next hb4)
  have hO : Hid (OwnN w4 w.heap.size w4.heap.size ao' us.length (tcell us)) := by
    rcases ho with h | ⟨g, e, h1, h2, h3⟩
    · exact Or.inl h
    · exact Or.inr ⟨g, e, Nat.le_trans X3.out.B.size h1, h2, h3⟩
  clear ho hb4 T3
  go_wp2
  go_ret
  rw [← HUS.out]
  exact ⟨ao', cap', rfl, hO.out, X4.out.B⟩

set_option maxHeartbeats 800000 in
theorem implBridge_any (K : Int) (ao : Option Addr) (cap : Nat) (ts : List (Int × Int)) (a b : Int) (w : World) (hn : ts.length ≤ 1099511627776) (ht : TiesIn w w.heap.size ao ts) :
    Calls Tryd.prog 21 #[.agg #[.int .i64 K, .slice ao ts.length cap], .int .i64 a, .int .i64 b] w fun e w' => e = .returned (.bool (bridgeB K ts a b)) ∧ Below w.heap.size w w' := by
  have X0 := fun (t : TypeId) => Bx.start w K (.slice ao ts.length cap) t
  have HX0 := hideP X0
  have HT := hideP ht
  have HV := hideP (br_has K ts a b)
  have HL := hideP (setN_lt (okK K ts) (brTs K ts))
  obtain ⟨r, hr⟩ : ∃ r, r = bridgeB K ts a b := ⟨_, rfl⟩
  rw [← hr] at HV ⊢
  clear X0 ht hr
  go_enter Tryd.func21, Tryd.ntmps21
  go_wp2_with fail
  refine (pairsOf_any K ao cap ts _ hn ((HT.out.below (HX0.out _).B (Nat.le_refl _)).wide (Nat.le_of_lt (HX0.out _).lt))).mono ?_
  rintro e w2 ⟨rfl, hb1⟩
  have X2 := hideP ((HX0.out _).next hb1)
  clear hb1
  go_wp2_with fail
  refine (bridgesOf_all K ts _).mono ?_
  rintro e w3 ⟨rfl, hb3⟩
  have X3 := hideP (X2.out.next hb3)
  obtain ⟨mm, hmm⟩ : ∃ m, m = setN (okK K ts) (brTs K ts) := ⟨_, rfl⟩
  rw [← hmm] at HV HL ⊢
  clear hb3 hmm
  go_wp2_with fail
  refine (has_v r mm a b _ HL.out HV.out).mono ?_
  rintro e w4 ⟨rfl, rfl⟩
  go_wp2
  go_ret
  exact ⟨rfl, X3.out.B⟩

end Go.Proofs.YticoiolpofibdaaDoor

/- Walk of impl.NetAdd. -/
namespace Go.Proofs.YticoiolpofibdaaDoor
open Go.RowKit
set_option linter.unusedVariables false

set_option maxHeartbeats 800000 in
theorem netAdd_no (K : Int) (ao : Option Addr) (cap : Nat) (ts : List (Int × Int)) (a b : Int) (w : World) (hn : ts.length ≤ 1099511627776) (ht : TiesIn w w.heap.size ao ts) (hadd : addB K ts a b = false) :
    Calls Tryd.prog 31 #[.agg #[.int .i64 K, .slice ao ts.length cap], .int .i64 a, .int .i64 b] w fun e w' => e = .returned (.tuple #[.agg #[.int .i64 0, .slice none 0 0], .bool false]) ∧ Below w.heap.size w w' := by
  have hall := addB_no hadd
  clear hadd
  have ht1 := fun o p => (ht.below (below_two w o p) (Nat.le_refl _)).wide (C := w.heap.size + 1 + 1) (by omega)
  go_enter Tryd.func31, Tryd.ntmps31
  go_wp2_with fail
  refine (pairsOf_any K ao cap ts _ hn (by simpa using ht1 _ _)).mono ?_
  rintro e w1 ⟨rfl, hb⟩
  have B1 : Boxes w w1 K (.slice ao ts.length cap) := Boxes.start hb
  clear hb ht ht1
  rcases hall with hok | ⟨hok, hrest⟩
  · rw [hok]
    obtain ⟨c0, c1, r0, r1, f0, f1, hz, hbb⟩ := B1
    go_wp2
    refine bodyPost_ret (v := .tuple #[.agg #[.int .i64 0, .slice none 0 0], .bool false]) ?_ rfl ⟨rfl, ?_⟩
    · simp [results, Tryd.results31, go_sem, r0, r1]
    · exact (hbb.setCell (by simp) _).setCell (by simp) _
  · rw [hok]
    rcases hrest with ha | ⟨ha0, ha1, hrest⟩
    · clear hok
      have B1' := B1
      obtain ⟨c0, c1, r0, r1, f0, f1, hz, hbb⟩ := B1'
      have hk := knot_no ha
      clear ha
      go_wp2_with fail
      refine (hasKnot_b false K _ a _ hk).mono ?_
      rintro e w2 ⟨rfl, hb2⟩
      clear c0 c1 r0 r1 f0 f1 hz hbb
      obtain ⟨c0, c1, r0, r1, f0, f1, hz, hbb⟩ := (B1.next hb2)
      clear hb2 B1
      go_wp2
      refine bodyPost_ret (v := .tuple #[.agg #[.int .i64 0, .slice none 0 0], .bool false]) ?_ rfl ⟨rfl, ?_⟩
      · simp [results, Tryd.results31, go_sem, r0, r1]
      · exact (hbb.setCell (by simp) _).setCell (by simp) _
    · have hk := knot_yes ha0 ha1
      have B1' := B1
      obtain ⟨c0, c1, r0, r1, f0, f1, hz, hbb⟩ := B1'
      clear ha0 ha1
      go_wp2_with fail
      refine (hasKnot_b true K _ a _ hk).mono ?_
      rintro e w2 ⟨rfl, hb2⟩
      clear c0 c1 r0 r1 f0 f1 hz hbb
      have B2 := B1.next hb2
      have B2' := B2
      obtain ⟨c0, c1, r0, r1, f0, f1, hz, hbb⟩ := B2'
      clear hb2 B1 hk
      rcases hrest with hbk | ⟨hb0, hb1, hrest⟩
      · clear hok
        have hk2 := knot_no hbk
        clear hbk
        go_wp2_with fail
        refine (hasKnot_b false K _ b _ hk2).mono ?_
        rintro e w3 ⟨rfl, hb3⟩
        clear c0 c1 r0 r1 f0 f1 hz hbb
        obtain ⟨c0, c1, r0, r1, f0, f1, hz, hbb⟩ := (B2.next hb3)
        clear hb3 B2
        go_wp2
        refine bodyPost_ret (v := .tuple #[.agg #[.int .i64 0, .slice none 0 0], .bool false]) ?_ rfl ⟨rfl, ?_⟩
        · simp [results, Tryd.results31, go_sem, r0, r1]
        · exact (hbb.setCell (by simp) _).setCell (by simp) _
      · have hk2 := knot_yes hb0 hb1
        clear hb0 hb1
        go_wp2_with fail
        refine (hasKnot_b true K _ b _ hk2).mono ?_
        rintro e w3 ⟨rfl, hb3⟩
        clear c0 c1 r0 r1 f0 f1 hz hbb
        obtain ⟨c0, c1, r0, r1, f0, f1, hz, hbb⟩ := (B2.next hb3)
        clear hb3 B2 hk2
        rcases hrest with hab | ⟨hab, hhas⟩
        · have heq : (a == b) = true := by simp [hab]
          clear hok hab
          go_wp2
          refine bodyPost_ret (v := .tuple #[.agg #[.int .i64 0, .slice none 0 0], .bool false]) ?_ rfl ⟨rfl, ?_⟩
          · simp [results, Tryd.results31, go_sem, r0, r1]
          · exact (hbb.setCell (by simp) _).setCell (by simp) _
        · have heq : (a == b) = false := by simp [hab]
          have HOK : Hid (okB K ts = true) := hok
          have HH : Hid (hasB K ts a b = true) := hhas
          clear hok hhas hab
          go_wp2_with fail
          refine (has_is true K ts a b _ HOK.out HH.out).mono ?_
          rintro e w4 ⟨rfl, rfl⟩
          go_wp2
          refine bodyPost_ret (v := .tuple #[.agg #[.int .i64 0, .slice none 0 0], .bool false]) ?_ rfl ⟨rfl, ?_⟩
          · simp [results, Tryd.results31, go_sem, r0, r1]
          · exact (hbb.setCell (by simp) _).setCell (by simp) _
theorem ties_two (K : Int) (ts : List (Int × Int)) (m : Nat) (w : World) (hT : Tab w) (hK : K ≤ 8) (hg : GoodTo K ts ts.length) (hn : ts.length ≤ 64) (hb : BitsFrom m ts 0) (hm : m < 2 ^ 64) :
    Calls Tryd.prog 65 #[.int .u64 (m : Int)] w fun e w' => ∃ ao cap, e = .returned (.slice ao ts.length cap) ∧ w'.ownsRow w.heap.size 35 2 (.slice ao ts.length cap) ts.length (clist ts ts.length) ∧ Below w.heap.size w w' := by
  refine (ties_any K ts m w hT hK hg hn hb hm).mono ?_
  rintro e w' ⟨v, rfl, ho, hb⟩
  obtain ⟨ao, cap, rfl⟩ := own_slice ho
  exact ⟨ao, cap, rfl, ho, hb⟩
theorem bitsFrom_of {m : Nat} {ts : List (Int × Int)} (h : BitsOf m ts) : BitsFrom m ts 0 := by
  intro j
  rw [h j, ← mem_get]
  exact ⟨fun ⟨i, h1, h2⟩ => ⟨i, Nat.zero_le _, h1, h2⟩, fun ⟨i, _, h1, h2⟩ => ⟨i, h1, h2⟩⟩
set_option maxHeartbeats 800000 in
theorem netAdd_yes (K : Int) (ao : Option Addr) (cap : Nat) (ts : List (Int × Int)) (a b : Int) (w : World) (hn : ts.length ≤ 1099511627776) (ht : TiesIn w w.heap.size ao ts) (hT : Tab w) (hadd : addB K ts a b = true) :
    Calls Tryd.prog 31 #[.agg #[.int .i64 K, .slice ao ts.length cap], .int .i64 a, .int .i64 b] w fun e w' => ∃ ao' cap', e = .returned (.tuple #[.agg #[.int .i64 K, .slice ao' (ins (tieOf a b) ts).length cap'], .bool true]) ∧
      w'.ownsRow w.heap.size 35 2 (.slice ao' (ins (tieOf a b) ts).length cap') (ins (tieOf a b) ts).length (clist (ins (tieOf a b) ts) (ins (tieOf a b) ts).length) ∧ Below w.heap.size w w' := by
  obtain ⟨hsrt, hK8, hbits⟩ := add_good hadd
  obtain ⟨hok, a0, a1, b0, b1, hab, hno⟩ := addB_yes hadd
  have hlen := ok_short (okB_iff.1 hok)
  have HG : Hid (GoodTo K (ins (tieOf a b) ts) (ins (tieOf a b) ts).length) := hsrt.good hK8
  have HL : Hid ((ins (tieOf a b) ts).length ≤ 64) := ok_short ⟨by omega, hK8, HG.out⟩
  have HB : Hid (BitsFrom (setN K ts ||| pbit a b) (ins (tieOf a b) ts) 0) := bitsFrom_of hbits
  have HM : Hid (setN K ts ||| pbit a b < 2 ^ 64) := or_lt _ _ (setN_lt K ts) (pbit_lt a b)
  have HOK : Hid (okB K ts = true) := hok
  have HNO : Hid (hasB K ts a b = false) := hno
  have hka := knot_yes a0 a1
  have hkb := knot_yes b0 b1
  have heq : (a == b) = false := by simp [hab]
  clear hadd hsrt hbits hok hno a0 a1 b0 b1 hab hlen
  generalize ins (tieOf a b) ts = us at *
  generalize hsp : setN K ts ||| pbit a b = sp at *
  have HSP : Hid (setN K ts ||| pbit a b = sp) := hsp
  clear hsp
  have ht1 := fun o p => (ht.below (below_two w o p) (Nat.le_refl _)).wide (C := w.heap.size + 1 + 1) (by omega)
  go_enter Tryd.func31, Tryd.ntmps31
  go_wp2_with fail
  refine (pairsOf_any K ao cap ts _ hn (by simpa using ht1 _ _)).mono ?_
  rintro e w1 ⟨rfl, hb⟩
  rw [HOK.out]
  have B1 : Boxes w w1 K (.slice ao ts.length cap) := Boxes.start hb
  have B1' := B1
  obtain ⟨c0, c1, r0, r1, f0, f1, hz, hbb⟩ := B1'
  clear hb ht ht1
  go_wp2_with fail
  refine (hasKnot_b true K _ a _ hka).mono ?_
  rintro e w2 ⟨rfl, hb2⟩
  clear c0 c1 r0 r1 f0 f1 hz hbb
  have B2 := B1.next hb2
  have B2' := B2
  obtain ⟨c0, c1, r0, r1, f0, f1, hz, hbb⟩ := B2'
  clear hb2 B1 hka
  go_wp2_with fail
  refine (hasKnot_b true K _ b _ hkb).mono ?_
  rintro e w3 ⟨rfl, hb3⟩
  clear c0 c1 r0 r1 f0 f1 hz hbb
  have B3 := B2.next hb3
  clear hb3 B2 hkb
  go_wp2_with fail
  refine (has_is false K ts a b _ HOK.out HNO.out).mono ?_
  rintro e w4 ⟨rfl, rfl⟩
  have B3d : Boxes w w4.drew K (.slice ao ts.length cap) := B3.next (Below.refl _ _).drew
  have hT4 : Tab w4.drew := hT.below B3d.bel hT.2
  have c0 := B3d.c0
  have HB3 := hideP B3
  clear B3 hT
  go_wp2
  go_region_held3 (fun w' => w'.cell? ⟨w.heap.size, 0, none⟩ = some (.int .i64 K)) (first | exact c0 | exact c05 | (go_keep; done)) (first | (go_at_call 74; refine (with_any (setN K ts) a b _ (setN_lt K ts)).mono ?_; rw [HSP.out]; rintro e w' ⟨rfl, rfl⟩) | (go_at_call 65; refine (ties_two K us sp _ hT4 hK8 HG.out HL.out HB.out HM.out).mono ?_; rintro e w5 ⟨ao', cap', rfl, ho5, hb5⟩; obtain ⟨c05, c15, r05, r15, f05, f15, hz5, hbb5⟩ := B3d.next hb5))
  have hz6 : w.heap.size + 1 < w4.heap.size := HB3.out.hz
  have ho6 : Hid (((w5.setCell ⟨w.heap.size + 1, 0, none⟩ (.int .i64 K)).setCell ⟨w.heap.size + 1, 1, none⟩ (.slice ao' us.length cap')).ownsRow w.heap.size 35 2 (.slice ao' us.length cap') us.length (clist us us.length)) :=
    own_base (ownsRow_setCell_below (ownsRow_setCell_below ho5 (a := ⟨w.heap.size + 1, 0, none⟩) hz6 _) (a := ⟨w.heap.size + 1, 1, none⟩) hz6 _) (by show w.heap.size ≤ w4.heap.size; omega)
  clear ho5 HB3 B3d
  go_wp2
  refine bodyPost_ret (v := .tuple #[.agg #[.int .i64 K, .slice ao' us.length cap'], .bool true]) ?_ rfl ⟨ao', cap', rfl, ?_, ?_⟩
  · simp [results, Tryd.results31, go_sem, r05, r15]
  · exact ho6.out
  · exact (hbb5.setCell (by simp) _).setCell (by simp) _

end Go.Proofs.YticoiolpofibdaaDoor
