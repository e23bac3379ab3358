/- Walk of impl.dive.move. -/
import Derived.Test.YtadcfinjmialnaaDoorWDive2
import Derived.Test.YtadcfinjmialnaaDoorWQuiet
namespace Go.Proofs.YtadcfinjmialnaaDoor
open Go.RowKit
set_option linter.unusedVariables false

theorem own_kept {w w' : World} {base : Nat} {e : TypeId} {size : Nat} {v : Value} {n : Nat} {xs : List Value} (h : w.ownsRow base e size v n xs) (hb : ∀ g, g < w.heap.size → w'.heap[g]? = w.heap[g]?) : w'.ownsRow base e size v n xs := by
  refine ⟨h.1, ?_⟩
  rcases h.2 with h1 | ⟨g, cap, cur, h1, h2, h3, h4⟩
  · exact Or.inl h1
  · exact Or.inr ⟨g, cap, cur, h1, h2, (hb g (Array.getElem?_eq_some_iff.1 h3).1).trans h3, h4⟩
theorem Dm.below {w w' : World} {A s mB : Nat} {d : Dv} {v : Value} (h : Dm w A s mB d v) (hb : Below w.heap.size w w') : Dm w' A s mB d v :=
  ⟨h.I.below hb h.lt, own_kept h.own (fun g hgl => hb.block g hgl)⟩
/-- one step of going down: what holds goes on to hold, and there is less to come -/
def Went (E : Nat → Nat → Prop) (A s : Nat) (d : Dv) (w : World) (e : Ending) (w' : World) : Prop :=
  e = .returned (.tuple #[]) ∧ ∃ d' mB' v', Dm w' A s mB' d' v' ∧ mB' < 2 ^ 64 ∧ BrBits mB' d'.br ∧ Inv E d' ∧ Aux d' ∧ mu d' < mu d ∧ (∀ x, 0 < d.tu x → 0 < d'.tu x) ∧ Below A w w'
theorem leave_bits {mB : Nat} {d : Dv} {i : Nat} (hb : BrBits mB d.br) (hf : d.fr (i + 1) < 8) (hk : d.kn (i + 1) < 8) (hne : d.fr (i + 1) ≠ d.kn (i + 1)) : BrBits (if d.le (i + 1) = d.tu (d.kn (i + 1)) then mB ||| pbit (d.fr (i + 1) : Int) (d.kn (i + 1) : Int) else mB) (d.leave i).br := by
  by_cases h : d.le (i + 1) = d.tu (d.kn (i + 1))
  · rw [if_pos h]
    refine (hb.with hf hk hne).same (fun x y => ?_)
    exact ⟨fun q => q.elim Or.inl (fun q => Or.inr ⟨h, q⟩), fun q => q.elim Or.inl (fun q => Or.inr q.2)⟩
  · rw [if_neg h]
    refine hb.same (fun x y => ?_)
    exact ⟨Or.inl, fun q => q.elim id (fun q => absurd q.1 h)⟩
theorem leave_small {mB : Nat} {d : Dv} {i : Nat} (h : mB < 2 ^ 64) : (if d.le (i + 1) = d.tu (d.kn (i + 1)) then mB ||| pbit (d.fr (i + 1) : Int) (d.kn (i + 1) : Int) else mB) < 2 ^ 64 := by
  split
  · exact or_lt _ _ h (pbit_lt _ _)
  · exact h

set_option maxHeartbeats 1600000 in
theorem move_left (E : Nat → Nat → Prop) (G : Gr E) (A s mB : Nat) (d : Dv) (v : Value) (w : World) (hD : Dm w A s mB d v) (hmB : mB < 2 ^ 64) (hb : BrBits mB d.br) (hI : Inv E d) (hX : Aux d) (i : Nat) (hi : d.m = i + 1) (hn : d.nx i = 8) :
    Calls Tryd.prog 59 #[.pointer (some ⟨A, 0, none⟩)] w (Went E A s d w) := by
  have hm8 : d.m ≤ 8 := by have := hX.mcn; have := hX.sum; omega
  obtain ⟨g, cap, rfl, _, _⟩ := hD.own.form (by omega)
  rw [hi] at hD
  have him : i < d.m := by omega
  obtain ⟨k0, k1, k2, k3, kf, hg, hgz⟩ := hD.st hi him
  rw [hn] at k2
  have k2' : w.cell? ⟨g, i * 4 + 2, none⟩ = some (.int .i64 8) := k2
  have HD := hideP hD
  clear hD k2
  have HTU : Hid (∀ x, 0 < d.tu x → 0 < d.tu x) := fun x h => h
  by_cases h0 : i = 0
  · subst h0
    have HALL : Hid (∀ w2, Dm w2 A s mB { d with m := 0 } (.slice (some ⟨g, 0, none⟩) 0 cap) → Below A w w2 → Went E A s d w (.returned (.tuple #[])) w2) := fun w2 h1 h2 =>
      ⟨rfl, { d with m := 0 }, mB, _, h1, hmB, hb, hI.leaveRoot G hi hn, hX.root, mu_root (d := d) hi hn, fun x h => h, h2⟩
    clear hI hX hb G k0 k1 k3 kf hmB hn
    go_enter Tryd.func59, Tryd.ntmps59
    go_wp2_with fail
    refine (top_any A s mB d g cap 0 _ HD.out hi (by omega)).mono ?_
    rintro e w1 ⟨rfl, rfl⟩
    go_wp2_with fail
    refine (leave_root A s mB d g cap _ HD.out.drew hi).mono ?_
    rintro e w2 ⟨rfl, h2, b2⟩
    have F := hideP (HALL.out w2 h2 ((Below.refl _ _).drew.trans b2))
    clear HALL h2 b2 HD
    go_wp2
    exact bodyPost_ret (v := .tuple #[]) (results_none rfl _ _ _) rfl F.out
  · obtain ⟨j, rfl⟩ : ∃ j, i = j + 1 := ⟨i - 1, by omega⟩
    have c := hI.chain j (by omega)
    have p := hI.knk j (by omega)
    have q := hI.knk (j + 1) (by omega)
    have hne : d.fr (j + 1) ≠ d.kn (j + 1) := fun e => G.irr (d.kn j) (by have := c.2.1; rw [← e, c.1] at this; exact this)
    have hk1 : d.kn (j + 1) < 8 := q.1
    have HALL : Hid (∀ w2 mB', (mB' = if d.le (j + 1) = d.tu (d.kn (j + 1)) then mB ||| pbit (d.fr (j + 1) : Int) (d.kn (j + 1) : Int) else mB) → Dm w2 A s mB' (d.leave j) (.slice (some ⟨g, 0, none⟩) (j + 1) cap) → Below A w w2 → Went E A s d w (.returned (.tuple #[])) w2) := fun w2 mB' e h1 h2 =>
      ⟨rfl, d.leave j, mB', _, h1, e ▸ leave_small hmB, e ▸ leave_bits hb (by rw [c.1]; exact p.1) hk1 hne, hI.leaveTo G (by omega) hn, hX.leave (by omega), mu_leave (by omega) hn, fun x h => h, h2⟩
    have HK := hideP hk1
    clear hI hX hb G k0 k1 k3 kf hn c p q hne hk1
    go_enter Tryd.func59, Tryd.ntmps59
    go_wp2_with fail
    refine (top_any A s mB d g cap (j + 1) _ HD.out hi (by omega)).mono ?_
    rintro e w1 ⟨rfl, rfl⟩
    go_wp2_with fail
    refine (leave_more A s mB d g cap j _ HD.out.drew hi (by omega) hmB HK.out).mono ?_
    rintro e w2 ⟨rfl, ⟨mB', e2, h2⟩, b2⟩
    have F := hideP (HALL.out w2 mB' e2 h2 ((Below.refl _ _).drew.trans b2))
    clear HALL h2 b2 HD e2
    go_wp2
    exact bodyPost_ret (v := .tuple #[]) (results_none rfl _ _ _) rfl F.out

theorem has_v (v : Bool) (p : Nat) (a b : Int) (w : World) (hp : p < 2 ^ 64) (h : decide (p &&& pbit a b ≠ 0) = v) :
    Calls Tryd.prog 78 #[.int .u64 (p : Int), .int .i64 a, .int .i64 b] w fun e w' => e = .returned (.bool v) ∧ w' = w := by
  rw [← h]; exact has_any p a b w hp
set_option maxHeartbeats 1600000 in
theorem move_on (E : Nat → Nat → Prop) (G : Gr E) (A s mB : Nat) (d : Dv) (v : Value) (w : World) (hD : Dm w A s mB d v) (hmB : mB < 2 ^ 64) (hs : s < 2 ^ 64) (hE : ∀ x y : Nat, decide (s &&& pbit (x : Int) (y : Int) ≠ 0) = true ↔ E x y) (hb : BrBits mB d.br) (hI : Inv E d) (hX : Aux d) (i : Nat) (hi : d.m = i + 1) (x : Nat) (hn : d.nx i = x) (hx : x < 8) :
    Calls Tryd.prog 59 #[.pointer (some ⟨A, 0, none⟩)] w (Went E A s d w) := by
  have hm8 : d.m ≤ 8 := by have := hX.mcn; have := hX.sum; omega
  have hc8 : d.cn ≤ 8 := by have := hX.sum; omega
  obtain ⟨g, cap, rfl, _, _⟩ := hD.own.form (by omega)
  rw [hi] at hD
  have him : i < d.m := by omega
  obtain ⟨k0, k1, k2, k3, kf, hg, hgz⟩ := hD.st hi him
  rw [hn] at k2
  have k2' : w.cell? ⟨g, i * 4 + 2, none⟩ = some (.int .i64 (x : Int)) := k2
  obtain ⟨q1, q2, q3, q4, q5, q6⟩ := hI.knk i him
  have hA := hD.lt
  -- the world with the next one to look at
  have D1 : Hid (Dm (w.setCell ⟨g, i * 4 + 2, none⟩ (.int .i64 ((x : Int) + 1))) A s mB (d.skip i x) (.slice (some ⟨g, 0, none⟩) (i + 1) cap)) := by
    have h1 := hD.next hi hg (x + 1)
    have e : ((x + 1 : Nat) : Int) = (x : Int) + 1 := by omega
    rw [e] at h1
    exact ⟨h1.I, h1.own⟩
  have B1 : Hid (Below A w (w.setCell ⟨g, i * 4 + 2, none⟩ (.int .i64 ((x : Int) + 1)))) := (Below.refl _ _).setCell (p := ⟨g, i * 4 + 2, none⟩) (by show A ≤ g; omega) _
  have HD := hideP hD
  have hne8 : ((x : Int) == 8) = false := by simp; omega
  have hx9 : (x : Int) < 8 := by omega
  clear hD k2
  have HSK : Hid ((¬ E (d.kn i) x ∨ x = d.fr i) → ∀ w2, Dm w2 A s mB (d.skip i x) (.slice (some ⟨g, 0, none⟩) (i + 1) cap) → Below A w w2 → Went E A s d w (.returned (.tuple #[])) w2) := fun hc w2 h1 h2 =>
    ⟨rfl, d.skip i x, mB, _, h1, hmB, hb, hI.skipTo G (by omega) hn hx hc, hX.skip i x, mu_skip (by omega) hn hx, fun x h => h, h2⟩
  go_enter Tryd.func59, Tryd.ntmps59
  go_wp2_with fail
  refine (top_any A s mB d g cap i _ HD.out hi (by omega)).mono ?_
  rintro e w1 ⟨rfl, rfl⟩
  go_wp2
  obtain ⟨w2, hw2⟩ : ∃ w2, w2 = w.setCell ⟨g, i * 4 + 2, none⟩ (.int .i64 ((x : Int) + 1)) := ⟨_, rfl⟩
  rw [← hw2] at D1 B1 ⊢
  clear hw2 k0 k1 k3 kf k2' HD hne8
  obtain ⟨k0, k1, _, k3, kf, _, hgz2⟩ := D1.out.st hi him
  have k0' : w2.cell? ⟨g, i * 4, none⟩ = some (.int .i64 (d.kn i : Int)) := k0
  have k1' : w2.cell? ⟨g, i * 4 + 1, none⟩ = some (.int .i64 (d.fr i : Int)) := k1
  have k3' : w2.cell? ⟨g, i * 4 + 3, none⟩ = some (.int .i64 (d.le i : Int)) := k3
  have c0 := D1.out.c0
  have ct : w2.cell? ⟨A, 2 + x, none⟩ = some (.int .i64 (d.tu x : Int)) := D1.out.ct hx
  clear k0 k1 k3
  by_cases hEx : E (d.kn i) x
  · have HV : Hid (decide (s &&& pbit (d.kn i : Int) (x : Int) ≠ 0) = true) := (hE _ _).2 hEx
    by_cases hf : x = d.fr i
    · have F := hideP (HSK.out (Or.inr hf))
      rw [← hf] at k1'
      clear hI hX hb hE G HSK q1 q2 q3 q4 q5 q6 hEx hf
      have hne9 : Nonempty (Cls (Below w2.heap.size w2)) := ⟨⟨w2, Below.refl _ _⟩⟩
      have p0 : ∀ u : Cls (Below w2.heap.size w2), u.w.cell? ⟨g, i * 4, none⟩ = some (.int .i64 (d.kn i : Int)) := fun u => (u.ok.cell (p := ⟨g, i * 4, none⟩) hgz2).trans k0'
      have p1 : ∀ u : Cls (Below w2.heap.size w2), u.w.cell? ⟨g, i * 4 + 1, none⟩ = some (.int .i64 (x : Int)) := fun u => (u.ok.cell (p := ⟨g, i * 4 + 1, none⟩) hgz2).trans k1'
      have p2 : ∀ u : Cls (Below w2.heap.size w2), u.w.cell? ⟨A, 0, none⟩ = some (.int .u64 (s : Int)) := fun u => (u.ok.cell (p := ⟨A, 0, none⟩) D1.out.lt).trans c0
      have CH : Hid (∀ u : Cls (Below w2.heap.size w2), Calls Tryd.prog 78 #[.int .u64 (s : Int), .int .i64 (d.kn i : Int), .int .i64 (x : Int)] u.w fun e w'' => e = .returned (.bool true) ∧ ∃ u2 : Cls (Below w2.heap.size w2), w'' = u2.w) := fun u =>
        Calls.cls (D := Below w2.heap.size w2) ((has_v true s (d.kn i : Int) (x : Int) u.w hs HV.out).mono fun e w3 ⟨he, hb3⟩ => ⟨he, hb3 ▸ u.ok⟩)
      refine wp_region_cls (Below w2.heap.size w2) (by kernel_rfl) (by kernel_rfl) (Below.refl _ _).drew.drew ?_
      repeat (go_big_quiet_step (first | (go_at_call 78; refine CH.out _)))
      refine wpQuiet_nil ?_
      intro wz hw'
      have hz : Below w2.heap.size w2 wz := by obtain ⟨u, e⟩ := hw'; rw [e]; exact u.ok
      clear hw' p0 p1 p2 CH hne9
      have DZ := hideP (D1.out.below hz)
      have BZ := hideP (B1.out.trans (hz.mono (Nat.le_of_lt D1.out.lt)))
      have kz3 := (hz.cell (p := ⟨g, i * 4 + 3, none⟩) hgz2).trans k3'
      have kz0 := (hz.cell (p := ⟨g, i * 4, none⟩) hgz2).trans k0'
      have kzt := (hz.cell (p := ⟨A, 2 + x, none⟩) D1.out.lt).trans ct
      have kzf := fun j => (hz.frozen (p := ⟨g, j, none⟩) hgz2).trans (kf j)
      clear hz D1 B1 k0' k1' k3' ct kf c0
      go_wp2
      exact bodyPost_ret (v := .tuple #[]) (results_none rfl _ _ _) rfl (F.out _ (by repeat (first | exact DZ.out | apply Dm.drew)) (by repeat (first | exact BZ.out | apply Below.drew)))
    · have hne : ((x : Int) == (d.fr i : Int)) = false := by simp; omega
      by_cases htz : d.tu x = 0
      · have F : Hid (∀ w2 v', Dm w2 A s mB ((d.skip i x).push x (d.kn i)) v' → Below A w w2 → Went E A s d w (.returned (.tuple #[])) w2) := fun w2 v' h1 h2 =>
          ⟨rfl, (d.skip i x).push x (d.kn i), mB, v', h1, hmB, hb, hI.pushChild G (by omega) hEx htz hn, (hX.skip i x).push hx htz, mu_push (by omega) hn hx htz, fun y hy => (by
            show 0 < upd d.tu x (d.cn + 1) y
            by_cases e : y = x
            · subst e; rw [upd_at]; omega
            · rw [upd_no _ _ e]; exact hy), h2⟩
        have HN := fun w3 (h : Dm w3 A s mB (d.skip i x) (.slice (some ⟨g, 0, none⟩) (i + 1) cap)) => enter_any A s mB (d.skip i x) _ x (d.kn i) w3 h hx q1 hm8 hc8
        have HEN := hideP HN
        rw [htz] at ct
        clear hI hX hb hE G HSK q1 q2 q3 q4 q5 q6 hEx hf HN
        have hne9 : Nonempty (Cls (Below w2.heap.size w2)) := ⟨⟨w2, Below.refl _ _⟩⟩
        have p0 : ∀ u : Cls (Below w2.heap.size w2), u.w.cell? ⟨g, i * 4, none⟩ = some (.int .i64 (d.kn i : Int)) := fun u => (u.ok.cell (p := ⟨g, i * 4, none⟩) hgz2).trans k0'
        have p1 : ∀ u : Cls (Below w2.heap.size w2), u.w.cell? ⟨g, i * 4 + 1, none⟩ = some (.int .i64 (d.fr i : Int)) := fun u => (u.ok.cell (p := ⟨g, i * 4 + 1, none⟩) hgz2).trans k1'
        have p2 : ∀ u : Cls (Below w2.heap.size w2), u.w.cell? ⟨A, 0, none⟩ = some (.int .u64 (s : Int)) := fun u => (u.ok.cell (p := ⟨A, 0, none⟩) D1.out.lt).trans c0
        have CH : Hid (∀ u : Cls (Below w2.heap.size w2), Calls Tryd.prog 78 #[.int .u64 (s : Int), .int .i64 (d.kn i : Int), .int .i64 (x : Int)] u.w fun e w'' => e = .returned (.bool true) ∧ ∃ u2 : Cls (Below w2.heap.size w2), w'' = u2.w) := fun u =>
          Calls.cls (D := Below w2.heap.size w2) ((has_v true s (d.kn i : Int) (x : Int) u.w hs HV.out).mono fun e w3 ⟨he, hb3⟩ => ⟨he, hb3 ▸ u.ok⟩)
        refine wp_region_cls (Below w2.heap.size w2) (by kernel_rfl) (by kernel_rfl) (Below.refl _ _).drew.drew ?_
        repeat (go_big_quiet_step (first | (go_at_call 78; refine CH.out _)))
        refine wpQuiet_nil ?_
        intro wz hw'
        have hz : Below w2.heap.size w2 wz := by obtain ⟨u, e⟩ := hw'; rw [e]; exact u.ok
        clear hw' p0 p1 p2 CH hne9
        have DZ := hideP (D1.out.below hz)
        have BZ := hideP (B1.out.trans (hz.mono (Nat.le_of_lt D1.out.lt)))
        have kz3 := (hz.cell (p := ⟨g, i * 4 + 3, none⟩) hgz2).trans k3'
        have kz0 := (hz.cell (p := ⟨g, i * 4, none⟩) hgz2).trans k0'
        have kzt := (hz.cell (p := ⟨A, 2 + x, none⟩) D1.out.lt).trans ct
        have kzf := fun j => (hz.frozen (p := ⟨g, j, none⟩) hgz2).trans (kf j)
        clear hz D1 B1 k0' k1' k3' ct kf c0
        have kzt' : wz.cell? ⟨A, 2 + x, none⟩ = some (.int .i64 0) := kzt
        clear hne kzt
        go_wp2_with fail
        refine (HEN.out _ (by repeat (first | exact DZ.out | apply Dm.drew))).mono ?_
        rintro e w5 ⟨rfl, v5, h5, b5⟩
        have BZ5 : Hid (Below A w w5) := BZ.out.trans (by first | exact b5 | exact (Below.refl _ _).drew.trans b5 | exact (Below.refl _ _).drew.drew.trans b5)
        have F5 := hideP (F.out w5 v5 h5 BZ5.out)
        clear F h5 b5 BZ BZ5 HEN DZ
        go_wp2
        exact bodyPost_ret (v := .tuple #[]) (results_none rfl _ _ _) rfl F5.out
      · have hpos : 0 < d.tu x := by omega
        have F : Hid (∀ w2, Dm w2 A s mB (d.look i x) (.slice (some ⟨g, 0, none⟩) (i + 1) cap) → Below A w w2 → Went E A s d w (.returned (.tuple #[])) w2) := fun w2 h1 h2 =>
          ⟨rfl, d.look i x, mB, _, h1, hmB, hb, hI.lookAt G (by omega) hn hx hEx hf hpos, hX.look i x, mu_look (by omega) hn hx, fun x h => h, h2⟩
        have hne0 : ((d.tu x : Int) == 0) = false := by simp; omega
        clear hI hX hb hE G HSK q1 q2 q3 q4 q5 q6 hEx hf hpos htz
        have hne9 : Nonempty (Cls (Below w2.heap.size w2)) := ⟨⟨w2, Below.refl _ _⟩⟩
        have p0 : ∀ u : Cls (Below w2.heap.size w2), u.w.cell? ⟨g, i * 4, none⟩ = some (.int .i64 (d.kn i : Int)) := fun u => (u.ok.cell (p := ⟨g, i * 4, none⟩) hgz2).trans k0'
        have p1 : ∀ u : Cls (Below w2.heap.size w2), u.w.cell? ⟨g, i * 4 + 1, none⟩ = some (.int .i64 (d.fr i : Int)) := fun u => (u.ok.cell (p := ⟨g, i * 4 + 1, none⟩) hgz2).trans k1'
        have p2 : ∀ u : Cls (Below w2.heap.size w2), u.w.cell? ⟨A, 0, none⟩ = some (.int .u64 (s : Int)) := fun u => (u.ok.cell (p := ⟨A, 0, none⟩) D1.out.lt).trans c0
        have CH : Hid (∀ u : Cls (Below w2.heap.size w2), Calls Tryd.prog 78 #[.int .u64 (s : Int), .int .i64 (d.kn i : Int), .int .i64 (x : Int)] u.w fun e w'' => e = .returned (.bool true) ∧ ∃ u2 : Cls (Below w2.heap.size w2), w'' = u2.w) := fun u =>
          Calls.cls (D := Below w2.heap.size w2) ((has_v true s (d.kn i : Int) (x : Int) u.w hs HV.out).mono fun e w3 ⟨he, hb3⟩ => ⟨he, hb3 ▸ u.ok⟩)
        refine wp_region_cls (Below w2.heap.size w2) (by kernel_rfl) (by kernel_rfl) (Below.refl _ _).drew.drew ?_
        repeat (go_big_quiet_step (first | (go_at_call 78; refine CH.out _)))
        refine wpQuiet_nil ?_
        intro wz hw'
        have hz : Below w2.heap.size w2 wz := by obtain ⟨u, e⟩ := hw'; rw [e]; exact u.ok
        clear hw' p0 p1 p2 CH hne9
        have DZ := hideP (D1.out.below hz)
        have BZ := hideP (B1.out.trans (hz.mono (Nat.le_of_lt D1.out.lt)))
        have kz3 := (hz.cell (p := ⟨g, i * 4 + 3, none⟩) hgz2).trans k3'
        have kz0 := (hz.cell (p := ⟨g, i * 4, none⟩) hgz2).trans k0'
        have kzt := (hz.cell (p := ⟨A, 2 + x, none⟩) D1.out.lt).trans ct
        have kzf := fun j => (hz.frozen (p := ⟨g, j, none⟩) hgz2).trans (kf j)
        clear hz D1 B1 k0' k1' k3' ct kf c0
        have DF : Hid (Dm (wz.setCell ⟨g, i * 4 + 3, none⟩ (.int .i64 ((min (d.le i) (d.tu x) : Nat) : Int))) A s mB (d.look i x) (.slice (some ⟨g, 0, none⟩) (i + 1) cap)) := by
          have h1 := DZ.out.least (i := i) hi hg (min (d.le i) (d.tu x))
          exact ⟨h1.I, h1.own⟩
        have BF : Hid (Below A w (wz.setCell ⟨g, i * 4 + 3, none⟩ (.int .i64 ((min (d.le i) (d.tu x) : Nat) : Int)))) := BZ.out.setCell (p := ⟨g, i * 4 + 3, none⟩) (by show A ≤ g; omega) _
        clear hne
        by_cases hmn : d.tu x < d.le i
        · have em : min (d.le i) (d.tu x) = d.tu x := by omega
          rw [em] at DF BF
          clear em
          go_wp2
          go_region
          go_wp2
          all_goals first | (exfalso; omega) | exact bodyPost_end (v := .tuple #[]) (results_none rfl _ _ _) rfl (F.out _ (by repeat (first | exact DF.out | apply Dm.drew)) (by repeat (first | exact BF.out | apply Below.drew)))
        · have em : min (d.le i) (d.tu x) = d.le i := by omega
          rw [em] at DF BF
          clear em
          go_wp2
          go_region
          go_wp2
          all_goals first | (exfalso; omega) | exact bodyPost_end (v := .tuple #[]) (results_none rfl _ _ _) rfl (F.out _ (by repeat (first | exact DF.out | apply Dm.drew)) (by repeat (first | exact BF.out | apply Below.drew)))
  · have HV : Hid (decide (s &&& pbit (d.kn i : Int) (x : Int) ≠ 0) = false) := by
      show decide (s &&& pbit (d.kn i : Int) (x : Int) ≠ 0) = false
      rw [← Bool.not_eq_true]; exact fun h => hEx ((hE _ _).1 h)
    have F := hideP (HSK.out (Or.inl hEx))
    clear hI hX hb hE G HSK q1 q2 q3 q4 q5 q6 hEx
    have hne9 : Nonempty (Cls (Below w2.heap.size w2)) := ⟨⟨w2, Below.refl _ _⟩⟩
    have p0 : ∀ u : Cls (Below w2.heap.size w2), u.w.cell? ⟨g, i * 4, none⟩ = some (.int .i64 (d.kn i : Int)) := fun u => (u.ok.cell (p := ⟨g, i * 4, none⟩) hgz2).trans k0'
    have p1 : ∀ u : Cls (Below w2.heap.size w2), u.w.cell? ⟨g, i * 4 + 1, none⟩ = some (.int .i64 (d.fr i : Int)) := fun u => (u.ok.cell (p := ⟨g, i * 4 + 1, none⟩) hgz2).trans k1'
    have p2 : ∀ u : Cls (Below w2.heap.size w2), u.w.cell? ⟨A, 0, none⟩ = some (.int .u64 (s : Int)) := fun u => (u.ok.cell (p := ⟨A, 0, none⟩) D1.out.lt).trans c0
    have CH : Hid (∀ u : Cls (Below w2.heap.size w2), Calls Tryd.prog 78 #[.int .u64 (s : Int), .int .i64 (d.kn i : Int), .int .i64 (x : Int)] u.w fun e w'' => e = .returned (.bool false) ∧ ∃ u2 : Cls (Below w2.heap.size w2), w'' = u2.w) := fun u =>
      Calls.cls (D := Below w2.heap.size w2) ((has_v false s (d.kn i : Int) (x : Int) u.w hs HV.out).mono fun e w3 ⟨he, hb3⟩ => ⟨he, hb3 ▸ u.ok⟩)
    refine wp_region_cls (Below w2.heap.size w2) (by kernel_rfl) (by kernel_rfl) (Below.refl _ _).drew.drew ?_
    repeat (go_big_quiet_step (first | (go_at_call 78; refine CH.out _)))
    refine wpQuiet_nil ?_
    intro wz hw'
    have hz : Below w2.heap.size w2 wz := by obtain ⟨u, e⟩ := hw'; rw [e]; exact u.ok
    clear hw' p0 p1 p2 CH hne9
    have DZ := hideP (D1.out.below hz)
    have BZ := hideP (B1.out.trans (hz.mono (Nat.le_of_lt D1.out.lt)))
    have kz3 := (hz.cell (p := ⟨g, i * 4 + 3, none⟩) hgz2).trans k3'
    have kz0 := (hz.cell (p := ⟨g, i * 4, none⟩) hgz2).trans k0'
    have kzt := (hz.cell (p := ⟨A, 2 + x, none⟩) D1.out.lt).trans ct
    have kzf := fun j => (hz.frozen (p := ⟨g, j, none⟩) hgz2).trans (kf j)
    clear hz D1 B1 k0' k1' k3' ct kf c0
    go_wp2
    exact bodyPost_ret (v := .tuple #[]) (results_none rfl _ _ _) rfl (F.out _ (by repeat (first | exact DZ.out | apply Dm.drew)) (by repeat (first | exact BZ.out | apply Below.drew)))

end Go.Proofs.YtadcfinjmialnaaDoor
