/- Texts put together: WFar, WFindS. -/
import Derived.Test.YtiaeffpjcinilaaDoorPartMathP
import Derived.Test.YtiaeffpjcinilaaDoorPartWRows
import Derived.Test.YtiaeffpjcinilaaDoorPartWSpecOk
import Derived.RangeFuncBox
import Derived.Deep.LoopGhost
import Derived.BigRegion
/- Walk of spec.l2Far: how far it is to a knot, of each one. -/
namespace Go.Proofs.YtiaeffpjcinilaaDoor
open Go.RowKit
set_option linter.unusedVariables false

def farC (F : Nat → Int) (j : Nat) : Value := .int .i64 (F j)
def come (F : Nat → Int) (j : Nat) : Bool := decide (0 ≤ F j)
theorem come_upd (F : Nat → Int) (y : Nat) (v : Int) (hv : 0 ≤ v) : come (updI F y v) = mark (come F) y := by
  funext j
  unfold come mark updI
  by_cases e : j = y
  · rw [if_pos e, if_pos e]; simpa using hv
  · rw [if_neg e, if_neg e]
theorem farC_upd (F : Nat → Int) (y : Nat) (v : Int) (j : Nat) : (if j = y then Value.int .i64 v else farC F j) = farC (updI F y v) j := by
  unfold farC updI
  by_cases e : j = y
  · rw [if_pos e, if_pos e]
  · rw [if_neg e, if_neg e]
theorem OwnI.neg {w : World} {g n cap base : Nat} (h : w.ownsRow base 3 1 (.slice (some ⟨g, 0, none⟩) n cap) n (List.replicate n (Value.int .i64 (-1)))) (h0 : 0 < n) : OwnI w g n (farC fun _ => -1) ∧ base ≤ g := by
  obtain ⟨g', cap', e, h1, h2⟩ := h.form h0
  simp only [Value.slice.injEq, Option.some.injEq, Addr.mk.injEq, and_true, true_and] at e
  obtain ⟨rfl, _⟩ := e
  exact ⟨⟨fun j hj => by rw [h.cellAt j (by omega)]; simp [hj, farC], fun j => h.frozenAt j, h2⟩, h1⟩
theorem Bx.low {w wr w' : World} {K : Int} {v : Value} (h : Bx w wr K v) (hb : Below (w.heap.size + 1) wr w') : Bx w w' K v :=
  ⟨(hb.cell (p := ⟨w.heap.size, 0, none⟩) (by show w.heap.size < w.heap.size + 1; omega)).trans h.c0, (hb.cell (p := ⟨w.heap.size, 1, none⟩) (by show w.heap.size < w.heap.size + 1; omega)).trans h.c1, Nat.lt_of_lt_of_le h.lt hb.size, h.B.trans (hb.mono (by omega))⟩
theorem push_small {F : Nat → Int} {n y : Nat} {v : Int} (h : ∀ u, F u + (unm (come F) n : Int) < (n : Int)) (hy : y < n) (hn : F y < 0) {z : Nat} (hv : v = F z + 1) (hz : 0 ≤ F z) : ∀ u, updI F y v u + (unm (come (updI F y v)) n : Int) < (n : Int) := by
  intro u
  rw [come_upd F y v (by omega)]
  have h1 := unm_mark (come F) (y := y) (by simp [come]; omega) n hy
  by_cases e : u = y
  · subst e; rw [updI_at]; have := h z; omega
  · rw [updI_no _ _ e]; have := h u; omega
theorem first_small {b n : Nat} (hb : b < n) : ∀ u, updI (fun _ => -1) b 0 u + (unm (come (updI (fun _ => -1) b 0)) n : Int) < (n : Int) := by
  intro u
  rw [come_upd _ b 0 (Int.le_refl _)]
  have h1 := unm_mark (come fun _ => -1) (y := b) (by simp [come]) n hb
  have h2 := unm_le (come fun _ => -1) n
  by_cases e : u = b
  · subst e; rw [updI_at]; omega
  · rw [updI_no _ _ e]; omega
/-- what stands while a net is gone through with how far it is: the box, the numbers at O, the row that waits -/
structure FarSt (w wr : World) (Kn : Nat) (nv : Value) (O : Nat) (ts : List (Int × Int)) (b : Nat) (F : Nat → Int) (row : List Nat) (g off cap : Nat) (ex : Nat → Prop) : Prop where
  X : Bx w wr (Kn : Int) nv
  I : OwnI wr O Kn (farC F)
  R : RowS wr (O + 1) g off cap row
  G : BfF (tieNB ts) Kn b F row ex
  hO : w.heap.size < O
  S : ∀ y, F y + (unm (come F) Kn : Int) < (Kn : Int)
theorem FarSt.next {w wr w' : World} {Kn : Nat} {nv : Value} {O : Nat} {ts : List (Int × Int)} {b : Nat} {F : Nat → Int} {row : List Nat} {g off cap : Nat} {ex : Nat → Prop} (h : FarSt w wr Kn nv O ts b F row g off cap ex) (hb : Below wr.heap.size wr w') : FarSt w w' Kn nv O ts b F row g off cap ex :=
  ⟨h.X.next hb, h.I.below hb h.I.2.2, h.R.next hb, h.G, h.hO, h.S⟩
/-- of the knot that is gone on from -/
structure Fat (F : Nat → Int) (row : List Nat) (z : Nat) : Prop where
  pos : 0 ≤ F z
  top : ∀ y, F y ≤ F z + 1
  low : ∀ y, y ∈ row → F z ≤ F y
theorem FarSt.pop {w wr : World} {Kn : Nat} {nv : Value} {O : Nat} {ts : List (Int × Int)} {b : Nat} {F : Nat → Int} {z : Nat} {row : List Nat} {g off c : Nat} (h : FarSt w wr Kn nv O ts b F (z :: row) g off (c + 1) (fun _ => False)) : FarSt w wr Kn nv O ts b F row g (off + 1) c (fun y => y = z) ∧ Fat F row z :=
  ⟨⟨h.X, h.I, h.R.tail, h.G.pop.1, h.hO, h.S⟩, h.G.pop.2.1, h.G.pop.2.2.1, h.G.pop.2.2.2⟩
/-- one is reckoned -/
theorem FarSt.set {w wr : World} {Kn : Nat} {nv : Value} {O : Nat} {ts : List (Int × Int)} {b : Nat} {F : Nat → Int} {row : List Nat} {g off cap : Nat} {ex : Nat → Prop} (h : FarSt w wr Kn nv O ts b F row g off cap ex) {y : Nat} (hy : y < Kn) (v : Int) :
    Bx w (wr.setCell ⟨O, y, none⟩ (.int .i64 v)) (Kn : Int) nv ∧ OwnI (wr.setCell ⟨O, y, none⟩ (.int .i64 v)) O Kn (farC (updI F y v)) ∧ RowS (wr.setCell ⟨O, y, none⟩ (.int .i64 v)) (O + 1) g off cap row := by
  have ht : Turned O (O + 1) wr (wr.setCell ⟨O, y, none⟩ (.int .i64 v)) := ⟨rfl, rfl, rfl, by simp [World.setCell], fun k _ hk => Below.heap_setCell _ _ _ _ (by show k ≠ O; omega)⟩
  exact ⟨h.X.turn ht h.hO, (h.I.set hy _).congr (fun j _ => farC_upd F y v j), h.R.turn ht (Or.inr h.R.lo)⟩

set_option maxHeartbeats 1600000 in
theorem l2Far_any (Kn : Nat) (ao : Option Addr) (cap : Nat) (ts : List (Int × Int)) (b : Nat) (w : World) (hn : ts.length ≤ 1099511627776) (ht : TiesIn w w.heap.size ao ts) (hok : okB (Kn : Int) ts = true) (hbK : b < Kn) :
    Calls Tryd.prog 91 #[.agg #[.int .i64 (Kn : Int), .slice ao ts.length cap], .int .i64 (b : Int)] w fun e w' => ∃ O cap' F, e = .returned (.slice (some ⟨O, 0, none⟩) Kn cap') ∧ OwnI w' O Kn (farC F) ∧ w.heap.size ≤ O ∧ Fr (tieNB ts) b F ∧ (∀ y, F y ≤ 8 ∧ -1 ≤ F y) ∧ Below w.heap.size w w' := by
  have hnet : NetOk (Kn : Int) ts := okB_iff.1 hok
  have hK8 : Kn ≤ 8 := by have := hnet.2.1; omega
  have HNT := hideP hnet
  have HEK : Hid (∀ x y, tieNB ts x y = true → y < Kn) := fun x y h => by have := tieNB_lt hnet h; simpa using this
  have HSY : Hid (∀ x y, tieNB ts x y = true → tieNB ts y x = true) := fun x y h => tieNB_sym h
  obtain ⟨i1, hj, hy0, hy1, hy2⟩ := info_parts Tryd.infoInt
  have HI1 : Hid (Tryd.prog.info? 3 = some i1 ∧ i1.zero = some (.int .i64 0) ∧ i1.size = 1 ∧ i1.bytes = 8) := ⟨hj, hy0, hy1, hy2⟩
  have X0 := fun (t u : TypeId) => (Bx.start w (Kn : Int) (.slice ao ts.length cap) t).next (below_one _ (.cells #[] u))
  have HX0 := hideP X0
  have R0 : ∀ t : TypeId, ((w.alloc (.cells #[.int .i64 (Kn : Int), .slice ao ts.length cap] t)).alloc (.cells #[] 3)).ownsRow (w.heap.size + 1) 3 1 (.slice (some ⟨w.heap.size + 1, 0, none⟩) 0 0) 0 [] := fun t => by
    simpa using World.ownsRow_lit (w.alloc (.cells #[.int .i64 (Kn : Int), .slice ao ts.length cap] t)) #[] 0 (base := w.heap.size + 1) (e := 3) (size := 1) (by simp) (by simp) rfl
  have HR0 := hideP R0
  have HT := hideP ht
  clear hj hy0 hy1 hy2 hok hnet X0 R0 ht
  go_enter Tryd.func91, Tryd.ntmps91
  go_wp2
  go_loopw [5, 6] (fun v i wr => ∃ k g cap' : Nat, k ≤ Kn ∧ i = .int .i64 k ∧ v = .slice (some ⟨g, 0, none⟩) k cap' ∧ wr.ownsRow (w.heap.size + 1) 3 1 (.slice (some ⟨g, 0, none⟩) k cap') k (List.replicate k (Value.int .i64 (-1))) ∧ Bx w wr (Kn : Int) (.slice ao ts.length cap))
    (fun _ i _ => Kn - (intOf i).toNat)
  case atStart => exact ⟨0, w.heap.size + 1, 0, Nat.zero_le _, rfl, rfl, HR0.out _, HX0.out _ _⟩
  case round =>
    obtain ⟨k, g, cap', hk, rfl, rfl, hR, hX⟩ := hrel
    have c0 := hX.c0
    by_cases hlt : k < Kn
    · have hk1 : (k : Int) < (Kn : Int) := by omega
      have HX := hideP hX
      have HR := hideP hR
      clear hX hR
      go_wp2_with (at_builtin; refine wpList_append_own _ rfl _ _ 27 rfl (w.heap.size + 1) 3 i1 _ 1 8 Tryd.underlying27 HI1.out.1 HI1.out.2.1 HI1.out.2.2.1 HI1.out.2.2.2 rfl (by omega) (.slice (some ⟨g, 0, none⟩) k cap') k (List.replicate k (Value.int .i64 (-1))) rfl (HR.out.alloc _) ⟨wr.heap.size, 0, none⟩ 1 1 [.int .i64 (-1)] rfl rfl ?_ (by simp [Value.oneCell']) ?_ ?_ ?_ ?_)
      · exact World.news_of_block (cs := #[.int .i64 (-1)]) (t := 3) (fr := (0, 0)) (heap_alloc_new wr _)
      · unfold maxLen; omega
      · omega
      · have := HX.out.lt; simp; omega
      intro v' w2 hown hgrow _
      obtain ⟨g', cap2, rfl⟩ := ownsRow_succ hown
      have X2 : Hid (Bx w w2 (Kn : Int) (.slice ao ts.length cap)) := HX.out.low (((Below.refl _ _).alloc (by have := HX.out.lt; omega) _).grown hgrow (by have := HX.out.lt; simp; omega) (fun j e => own_ge (HR.out) j e))
      have R2 : Hid (w2.ownsRow (w.heap.size + 1) 3 1 (.slice (some ⟨g', 0, none⟩) (k + 1) cap2) (k + 1) (List.replicate (k + 1) (Value.int .i64 (-1)))) := hideP (by rw [List.replicate_succ']; exact hown)
      clear hown hgrow HX HR c0
      go_wp2
      go_roundw
      case rel => exact ⟨k + 1, g', cap2, by omega, by go_num, rfl, R2.out, X2.out⟩
      case measure => simp [intOf]; omega
    · obtain rfl : k = Kn := by omega
      obtain ⟨I0, hge⟩ := OwnI.neg hR (by omega)
      have HI0 := hideP I0
      have HX := hideP hX
      have d0 := I0.1 b hbK
      have e0 := I0.2.1 b
      have hgl := I0.2.2
      have hb0 : (0 : Int) ≤ (b : Int) := by omega
      have hb1 : (b : Int) < (k : Int) := by omega
      clear hR hX I0 HR0 HX0 hlt
      have d0' : wr.cell? ⟨g, b, none⟩ = some (.int .i64 (-1)) := d0
      clear d0
      go_wp2
      have tu2 : Turned g (g + 1) wr (wr.setCell ⟨g, b, none⟩ (.int .i64 0)) := ⟨rfl, rfl, rfl, by simp [World.setCell], fun j _ hj => Below.heap_setCell _ _ _ _ (by show j ≠ g; omega)⟩
      have S3 : Hid (∀ t, FarSt w ((wr.setCell ⟨g, b, none⟩ (.int .i64 0)).alloc (.cells #[.int .i64 (b : Int)] t)) k (.slice ao ts.length cap) g ts b (updI (fun _ => -1) b 0) [b] wr.heap.size 0 1 (fun _ => False)) := fun t =>
        ⟨(HX.out.turn tu2 (by omega)).next (below_one _ _), ((HI0.out.set hbK _).congr (fun j _ => farC_upd _ b 0 j)).below (below_one _ _) (by simpa using hgl), by
          have h := RowS.one (wr.setCell ⟨g, b, none⟩ (.int .i64 0)) b t
          have e : (wr.setCell ⟨g, b, none⟩ (.int .i64 0)).heap.size = wr.heap.size := by simp [World.setCell]
          rw [e] at h
          exact h.down hgl, BfF.first hbK, by omega, first_small hbK⟩
      have HU : Hid (2 * unm (come (updI (fun _ => -1) b 0)) k + [b].length ≤ 17) := by
        have := unm_le (come (updI (fun _ => -1) b 0)) k
        show 2 * unm (come (updI (fun _ => -1) b 0)) k + 1 ≤ 17
        omega
      clear d0' e0 tu2 HI0 HX
      obtain ⟨O, hOO⟩ : ∃ O, O = g := ⟨_, rfl⟩
      rw [← hOO] at S3 hge ⊢
      clear hOO hgl
      go_loopg [7] 17 (fun gk v wr => ∃ F row g off cap', 2 * unm (come F) k + row.length ≤ gk ∧ gk ≤ 17 ∧ v = .slice (some ⟨g, off, none⟩) row.length cap' ∧ FarSt w wr k (.slice ao ts.length cap) O ts b F row g off cap' (fun _ => False))
      case atStart => exact ⟨_, [b], wr.heap.size, 0, 1, HU.out, Nat.le_refl _, rfl, S3.out _⟩
      case round =>
        obtain ⟨F, row, g, off, cap', hgk, hg17, rfl, hS⟩ := hrel
        clear S3 HU
        cases row with
        | nil =>
          have HA := hideP hS.I
          have HF := hideP (hS.G.answer HSY.out)
          have HB := hideP hS.X.B
          have HG : Hid (∀ y, F y ≤ 8 ∧ -1 ≤ F y) := fun y => by
            have h1 := hS.G.neg y
            have h2 := hS.S y
            omega
          have hOw := hS.hO
          clear hS
          go_wp2
          go_ret
          exact ⟨O, _, F, rfl, HA.out, by omega, HF.out, HG.out, HB.out⟩
        | cons z rest =>
          obtain ⟨c, rfl⟩ : ∃ c, cap' = c + 1 := ⟨cap' - 1, by have := hS.R.len; simp at this; omega⟩
          have hzF := hS.G.rowm z (by simp)
          have hzK : z < k := (hS.G.far z hzF).2
          have n0 := hS.X.c0
          have n1 := hS.X.c1
          have r0 : wr.cell? ⟨g, off, none⟩ = some (.int .i64 (z : Int)) := by have := hS.R.cells 0 (by simp); simpa [ncell] using this
          have TR := hideP ((HT.out.below hS.X.B (Nat.le_refl _)).wide (Nat.le_of_lt hS.X.lt))
          have HS := hideP hS
          have hrl : (0 : Int) < ((z :: rest).length : Int) := Int.natCast_pos.2 (Nat.succ_pos _)
          have hrlen : (z :: rest).length = rest.length + 1 := by simp
          rw [hrlen] at hrl ⊢
          have HGK : Hid (2 * unm (come F) k + rest.length < gk) := by show 2 * unm (come F) k + rest.length < gk; simp at hgk; omega
          have hrc : rest.length ≤ c := by have := hS.R.len; simp at this; omega
          have hrc' : (rest.length : Int) ≤ (c : Int) := by omega
          have hz0 : (0 : Int) ≤ (z : Int) := by omega
          have hz1 : (z : Int) < (k : Int) := by omega
          clear hS hgk hrlen hzF
          go_wp2_with fail
          refine (l2Next_any k ao cap ts z _ hn TR.out hK8).mono ?_
          rintro e w3 ⟨g2, off2, cap2, rfl, hL3, hb3⟩
          have S3' := hideP (HS.out.next hb3)
          obtain ⟨L, hL⟩ : ∃ L, L = nbrs ts z k := ⟨_, rfl⟩
          have HLL := hideP hL
          have hL8 : L.length ≤ 8 := by rw [hL]; exact Nat.le_trans (nbrs_len ts z k) hK8
          rw [← hL] at hL3 ⊢
          obtain ⟨lo2, hlo2⟩ : ∃ lo2, lo2 = wr.heap.size := ⟨_, rfl⟩
          rw [← hlo2] at hL3
          have L3 := hideP hL3
          have hge2 : lo2 ≤ g2 := hL3.lo
          have HNE : Hid (g ≠ g2 ∧ O < g2) := ⟨by have := HS.out.R.lt; omega, by have := HS.out.I.2.2; omega⟩
          clear hb3 hL3 hL hlo2 n0 n1 r0 TR HS
          by_cases hc0 : c = 0
          · obtain rfl : rest = [] := by cases rest with | nil => rfl | cons _ _ => simp at hrc; omega
            subst hc0
            have S4 : Hid (FarSt w w3 k (.slice ao ts.length cap) O ts b F [] g off 0 (fun y => y = z)) := ⟨S3'.out.X, S3'.out.I, S3'.out.R.void off, S3'.out.G.pop.1, S3'.out.hO, S3'.out.S⟩
            have A4 : Hid (Fat F [] z) := ⟨S3'.out.G.pop.2.1, S3'.out.G.pop.2.2.1, S3'.out.G.pop.2.2.2⟩
            clear hrl hrc hrc' S3'
            simp only [List.length_nil, Nat.zero_add]
            go_wp2
            go_loopw [7, 10] (fun v i wr => ∃ (jj : Nat) (F' : Nat → Int) (row' : List Nat) (g' off' cap'' : Nat), jj ≤ L.length ∧ i = .int .i64 jj ∧ v = .slice (some ⟨g', off', none⟩) row'.length cap'' ∧ 2 * unm (come F') k + row'.length < gk ∧ FarSt w wr k (.slice ao ts.length cap) O ts b F' row' g' off' cap'' (fun y => y = z) ∧ (∀ t, t < jj → 0 ≤ F' (L.getD t 0)) ∧ Fat F' row' z ∧ RowS wr lo2 g2 off2 cap2 L ∧ g' ≠ g2 ∧ O < g2)
              (fun _ i _ => L.length - (intOf i).toNat)
            case atStart => exact ⟨0, F, [], g, off, 0, Nat.zero_le _, rfl, rfl, HGK.out, S4.out, fun t ht => absurd ht (by omega), A4.out, L3.out, HNE.out.1, HNE.out.2⟩
            case round =>
              clear S4 A4 L3 HNE HGK
              obtain ⟨jj, F', row', g', off', cap'', hjj, rfl, rfl, hgk', hS', hall, hA, hL', hgne, hOg⟩ := hrel
              by_cases hlt : jj < L.length
              · obtain ⟨y, hy⟩ : ∃ y, y = L.getD jj 0 := ⟨_, rfl⟩
                have hmem : y ∈ L := by rw [hy, List.getD_eq_getElem?_getD, List.getElem?_eq_getElem hlt]; exact List.getElem_mem hlt
                have hyn := mem_nbrs.1 (HLL.out ▸ hmem)
                have hyK := hyn.1
                have HYT := hideP hyn.2
                have cy : wr.cell? ⟨g2, off2 + jj, none⟩ = some (.int .i64 (y : Int)) := by rw [hy]; exact hL'.cells jj hlt
                have co : wr.cell? ⟨O, y, none⟩ = some (.int .i64 (F' y)) := hS'.I.1 y hyK
                have cz : wr.cell? ⟨O, z, none⟩ = some (.int .i64 (F' z)) := hS'.I.1 z hzK
                have fo := hS'.I.2.1 y
                have hj0 : (0 : Int) ≤ (jj : Int) := by omega
                have hj1 : (jj : Int) < (L.length : Int) := by omega
                have hy0 : (0 : Int) ≤ (y : Int) := by omega
                have hy1 : (y : Int) < (k : Int) := by omega
                have HY := hideP hy
                have HS' := hideP hS'
                have HL' := hideP hL'
                have HALL := hideP hall
                have HA' := hideP hA
                clear hyn hmem hy hS' hL' hall hA
                by_cases hMy : F' y < 0
                · have hFz : F' z ≤ 8 := by have := HS'.out.S z; omega
                  have hFz0 := HA'.out.pos
                  have hv0 : (0 : Int) ≤ F' z + 1 := by omega
                  have SE := hideP (HS'.out.set hyK (F' z + 1))
                  have HMK := hideP (come_upd F' y (F' z + 1) hv0)
                  have HUN := hideP (unm_mark (come F') (y := y) (by simp [come]; omega) k hyK)
                  have HFP := hideP (HS'.out.G.push HEK.out HSY.out hFz0 HA'.out.top HA'.out.low HYT.out hMy)
                  have hgO : O ≠ g2 := by omega
                  go_wp2
                  go_region
                  obtain ⟨v, hv⟩ : ∃ v, v = F' z + 1 := ⟨_, rfl⟩
                  rw [← hv] at SE HMK HFP hv0
                  try rw [← hv]
                  obtain ⟨wB, hwB⟩ : ∃ wB, wB = wr.setCell ⟨O, y, none⟩ (.int .i64 v) := ⟨_, rfl⟩
                  have tuO : Turned O (O + 1) wr (wr.setCell ⟨O, y, none⟩ (.int .i64 v)) := ⟨rfl, rfl, rfl, by simp [World.setCell], fun j _ hj => Below.heap_setCell _ _ _ _ (by show j ≠ O; omega)⟩
                  have eW : (wr.setCell ⟨O, y, none⟩ (.int .i64 v)).heap.size = wr.heap.size := by simp [World.setCell]
                  have LA := hideP (HL'.out.turn tuO (Or.inr hOg))
                  rw [← hwB] at SE LA eW
                  try rw [← hwB]
                  have HSZ := hideP eW
                  have cyA : wB.cell? ⟨g2, off2 + jj, none⟩ = some (.int .i64 (y : Int)) := (LA.out.cells jj hlt).trans (by rw [← HY.out]; rfl)
                  have bo := (below_one wB (.cells #[.int .i64 (y : Int)] 3)).drew
                  have XB := hideP (SE.out.1.next bo)
                  have IB := hideP (SE.out.2.1.below bo SE.out.2.1.2.2)
                  have RB := hideP (SE.out.2.2.next bo)
                  have LB := hideP (LA.out.next bo)
                  have hsh : row'.length ≤ 1000 := by omega
                  obtain ⟨m, hm⟩ : ∃ m, m = row'.length := ⟨_, rfl⟩
                  have HM := hideP hm
                  rw [← hm] at hsh hgk' ⊢
                  have hSO := hideP HS'.out.hO
                  have HV := hideP hv
                  clear tuO bo hm hwB co cz fo cy eW hv
                  go_wp2_with (at_builtin; refine wpList_append_rowS _ rfl _ _ 27 rfl (O + 1) 3 i1 Tryd.underlying27 HI1.out.1 HI1.out.2.1 HI1.out.2.2.1 HI1.out.2.2.2 g' off' cap'' row' m HM.out.symm rfl RB.out wB.heap.size y rfl ?_ ?_ ?_ ?_)
                  · exact World.cell?_alloc_at _ _ _ _ rfl
                  · rw [← HM.out]; exact hsh
                  · exact IB.out.2.2
                  intro g4 off4 cap4 w4 hR4 hg4 ht4
                  have hOg' : O + 1 ≤ g' := RB.out.lo
                  have X4 := hideP (XB.out.turn ht4 (Nat.lt_of_lt_of_le hSO.out (by omega)))
                  have I4 := hideP (IB.out.turn ht4 (Or.inl (by omega)))
                  have L4 := hideP (LB.out.turn ht4 (by omega))
                  have HNE4 : Hid (g4 ≠ g2) := by
                    have hlt2 : g2 < wB.heap.size + 1 := by have := LB.out.lt; have e : ((wB.alloc (.cells #[.int .i64 (y : Int)] 3)).drew).heap.size = wB.heap.size + 1 := by show (wB.alloc _).heap.size = _; simp
                                                            omega
                    rcases hg4 with e | e
                    · rw [e]; exact hgne
                    · have e2 : ((wB.alloc (.cells #[.int .i64 (y : Int)] 3)).drew).heap.size = wB.heap.size + 1 := by show (wB.alloc _).heap.size = _; simp
                      show g4 ≠ g2
                      omega
                  have S5 : Hid (FarSt w w4 k (.slice ao ts.length cap) O ts b (updI F' y v) (row' ++ [y]) g4 off4 cap4 (fun y => y = z)) := ⟨X4.out, I4.out, hR4, HFP.out.1, hSO.out, push_small HS'.out.S hyK hMy HV.out hFz0⟩
                  have A5 : Hid (Fat (updI F' y v) (row' ++ [y]) z) := ⟨HFP.out.2.1, HFP.out.2.2.1, HFP.out.2.2.2⟩
                  have HALL4 : Hid (∀ t, t < jj + 1 → 0 ≤ updI F' y v (L.getD t 0)) := by
                    intro t ht
                    by_cases e : t = jj
                    · subst e; rw [← HY.out, updI_at]; exact hv0
                    · have h1 := HALL.out t (by omega)
                      by_cases e2 : L.getD t 0 = y
                      · rw [e2, updI_at]; exact hv0
                      · rw [updI_no _ _ e2]; exact h1
                  have HLN : Hid ((row' ++ [y]).length = m + 1) := by show (row' ++ [y]).length = m + 1; rw [HM.out]; simp
                  have HUN4 : Hid (2 * unm (come (updI F' y v)) k + (row' ++ [y]).length < gk) := by
                    have h1 := HUN.out
                    have h2 := HLN.out
                    have h3 := HMK.out
                    show 2 * unm (come (updI F' y v)) k + (row' ++ [y]).length < gk
                    rw [h3]
                    omega
                  clear hR4 ht4 hg4 cyA
                  go_wp2
                  refine ⟨?_, ?measure⟩
                  (repeat apply Exists.intro)
                  refine ⟨?rel, rfl⟩
                  case rel => exact ⟨jj + 1, updI F' y v, row' ++ [y], g4, off4, cap4, by omega, by go_num, by rw [HLN.out], HUN4.out, S5.out, HALL4.out, A5.out, L4.out, HNE4.out, hOg⟩
                  case measure => simp [intOf]; omega
                · have hMn : ¬ F' y < 0 := hMy
                  have HR : Hid (∀ t, t < jj + 1 → 0 ≤ F' (L.getD t 0)) := by
                    intro t ht
                    by_cases e : t = jj
                    · subst e; rw [← HY.out]; omega
                    · exact HALL.out t (by omega)
                  go_wp2
                  go_roundw
                  case rel => exact ⟨jj + 1, F', row', g', off', cap'', by omega, by go_num, rfl, hgk', HS'.out, HR.out, HA'.out, HL'.out, hgne, hOg⟩
                  case measure => simp [intOf]; omega
              · obtain rfl : jj = L.length := by omega
                have SD : Hid (FarSt w wr k (.slice ao ts.length cap) O ts b F' row' g' off' cap'' (fun _ => False)) :=
                  ⟨hS'.X, hS'.I, hS'.R, hS'.G.done hA.top (fun u hzu => by
                    have hm : u ∈ L := HLL.out ▸ mem_nbrs.2 ⟨HEK.out _ _ hzu, hzu⟩
                    obtain ⟨t, ht, e⟩ := List.mem_iff_getElem.1 hm
                    have := hall t ht
                    rw [List.getD_eq_getElem?_getD, List.getElem?_eq_getElem ht, Option.getD_some, e] at this
                    exact this), hS'.hO, hS'.S⟩
                clear hS' hL' hall hA
                go_wp2
                go_roundg (2 * unm (come F') k + row'.length)
                case measure => exact hgk'
                case rel => exact ⟨F', row', g', off', cap'', Nat.le_refl _, by omega, rfl, SD.out⟩
          · have S4 := hideP S3'.out.pop.1
            have A4 := hideP S3'.out.pop.2
            clear S3'
            go_wp2
            go_loopw [7, 10] (fun v i wr => ∃ (jj : Nat) (F' : Nat → Int) (row' : List Nat) (g' off' cap'' : Nat), jj ≤ L.length ∧ i = .int .i64 jj ∧ v = .slice (some ⟨g', off', none⟩) row'.length cap'' ∧ 2 * unm (come F') k + row'.length < gk ∧ FarSt w wr k (.slice ao ts.length cap) O ts b F' row' g' off' cap'' (fun y => y = z) ∧ (∀ t, t < jj → 0 ≤ F' (L.getD t 0)) ∧ Fat F' row' z ∧ RowS wr lo2 g2 off2 cap2 L ∧ g' ≠ g2 ∧ O < g2)
              (fun _ i _ => L.length - (intOf i).toNat)
            case atStart => exact ⟨0, F, rest, g, off + 1, c, Nat.zero_le _, rfl, rfl, HGK.out, S4.out, fun t ht => absurd ht (by omega), A4.out, L3.out, HNE.out.1, HNE.out.2⟩
            case round =>
              clear S4 A4 L3 HNE HGK
              obtain ⟨jj, F', row', g', off', cap'', hjj, rfl, rfl, hgk', hS', hall, hA, hL', hgne, hOg⟩ := hrel
              by_cases hlt : jj < L.length
              · obtain ⟨y, hy⟩ : ∃ y, y = L.getD jj 0 := ⟨_, rfl⟩
                have hmem : y ∈ L := by rw [hy, List.getD_eq_getElem?_getD, List.getElem?_eq_getElem hlt]; exact List.getElem_mem hlt
                have hyn := mem_nbrs.1 (HLL.out ▸ hmem)
                have hyK := hyn.1
                have HYT := hideP hyn.2
                have cy : wr.cell? ⟨g2, off2 + jj, none⟩ = some (.int .i64 (y : Int)) := by rw [hy]; exact hL'.cells jj hlt
                have co : wr.cell? ⟨O, y, none⟩ = some (.int .i64 (F' y)) := hS'.I.1 y hyK
                have cz : wr.cell? ⟨O, z, none⟩ = some (.int .i64 (F' z)) := hS'.I.1 z hzK
                have fo := hS'.I.2.1 y
                have hj0 : (0 : Int) ≤ (jj : Int) := by omega
                have hj1 : (jj : Int) < (L.length : Int) := by omega
                have hy0 : (0 : Int) ≤ (y : Int) := by omega
                have hy1 : (y : Int) < (k : Int) := by omega
                have HY := hideP hy
                have HS' := hideP hS'
                have HL' := hideP hL'
                have HALL := hideP hall
                have HA' := hideP hA
                clear hyn hmem hy hS' hL' hall hA
                by_cases hMy : F' y < 0
                · have hFz : F' z ≤ 8 := by have := HS'.out.S z; omega
                  have hFz0 := HA'.out.pos
                  have hv0 : (0 : Int) ≤ F' z + 1 := by omega
                  have SE := hideP (HS'.out.set hyK (F' z + 1))
                  have HMK := hideP (come_upd F' y (F' z + 1) hv0)
                  have HUN := hideP (unm_mark (come F') (y := y) (by simp [come]; omega) k hyK)
                  have HFP := hideP (HS'.out.G.push HEK.out HSY.out hFz0 HA'.out.top HA'.out.low HYT.out hMy)
                  have hgO : O ≠ g2 := by omega
                  go_wp2
                  go_region
                  obtain ⟨v, hv⟩ : ∃ v, v = F' z + 1 := ⟨_, rfl⟩
                  rw [← hv] at SE HMK HFP hv0
                  try rw [← hv]
                  obtain ⟨wB, hwB⟩ : ∃ wB, wB = wr.setCell ⟨O, y, none⟩ (.int .i64 v) := ⟨_, rfl⟩
                  have tuO : Turned O (O + 1) wr (wr.setCell ⟨O, y, none⟩ (.int .i64 v)) := ⟨rfl, rfl, rfl, by simp [World.setCell], fun j _ hj => Below.heap_setCell _ _ _ _ (by show j ≠ O; omega)⟩
                  have eW : (wr.setCell ⟨O, y, none⟩ (.int .i64 v)).heap.size = wr.heap.size := by simp [World.setCell]
                  have LA := hideP (HL'.out.turn tuO (Or.inr hOg))
                  rw [← hwB] at SE LA eW
                  try rw [← hwB]
                  have HSZ := hideP eW
                  have cyA : wB.cell? ⟨g2, off2 + jj, none⟩ = some (.int .i64 (y : Int)) := (LA.out.cells jj hlt).trans (by rw [← HY.out]; rfl)
                  have bo := (below_one wB (.cells #[.int .i64 (y : Int)] 3)).drew
                  have XB := hideP (SE.out.1.next bo)
                  have IB := hideP (SE.out.2.1.below bo SE.out.2.1.2.2)
                  have RB := hideP (SE.out.2.2.next bo)
                  have LB := hideP (LA.out.next bo)
                  have hsh : row'.length ≤ 1000 := by omega
                  obtain ⟨m, hm⟩ : ∃ m, m = row'.length := ⟨_, rfl⟩
                  have HM := hideP hm
                  rw [← hm] at hsh hgk' ⊢
                  have hSO := hideP HS'.out.hO
                  have HV := hideP hv
                  clear tuO bo hm hwB co cz fo cy eW hv
                  go_wp2_with (at_builtin; refine wpList_append_rowS _ rfl _ _ 27 rfl (O + 1) 3 i1 Tryd.underlying27 HI1.out.1 HI1.out.2.1 HI1.out.2.2.1 HI1.out.2.2.2 g' off' cap'' row' m HM.out.symm rfl RB.out wB.heap.size y rfl ?_ ?_ ?_ ?_)
                  · exact World.cell?_alloc_at _ _ _ _ rfl
                  · rw [← HM.out]; exact hsh
                  · exact IB.out.2.2
                  intro g4 off4 cap4 w4 hR4 hg4 ht4
                  have hOg' : O + 1 ≤ g' := RB.out.lo
                  have X4 := hideP (XB.out.turn ht4 (Nat.lt_of_lt_of_le hSO.out (by omega)))
                  have I4 := hideP (IB.out.turn ht4 (Or.inl (by omega)))
                  have L4 := hideP (LB.out.turn ht4 (by omega))
                  have HNE4 : Hid (g4 ≠ g2) := by
                    have hlt2 : g2 < wB.heap.size + 1 := by have := LB.out.lt; have e : ((wB.alloc (.cells #[.int .i64 (y : Int)] 3)).drew).heap.size = wB.heap.size + 1 := by show (wB.alloc _).heap.size = _; simp
                                                            omega
                    rcases hg4 with e | e
                    · rw [e]; exact hgne
                    · have e2 : ((wB.alloc (.cells #[.int .i64 (y : Int)] 3)).drew).heap.size = wB.heap.size + 1 := by show (wB.alloc _).heap.size = _; simp
                      show g4 ≠ g2
                      omega
                  have S5 : Hid (FarSt w w4 k (.slice ao ts.length cap) O ts b (updI F' y v) (row' ++ [y]) g4 off4 cap4 (fun y => y = z)) := ⟨X4.out, I4.out, hR4, HFP.out.1, hSO.out, push_small HS'.out.S hyK hMy HV.out hFz0⟩
                  have A5 : Hid (Fat (updI F' y v) (row' ++ [y]) z) := ⟨HFP.out.2.1, HFP.out.2.2.1, HFP.out.2.2.2⟩
                  have HALL4 : Hid (∀ t, t < jj + 1 → 0 ≤ updI F' y v (L.getD t 0)) := by
                    intro t ht
                    by_cases e : t = jj
                    · subst e; rw [← HY.out, updI_at]; exact hv0
                    · have h1 := HALL.out t (by omega)
                      by_cases e2 : L.getD t 0 = y
                      · rw [e2, updI_at]; exact hv0
                      · rw [updI_no _ _ e2]; exact h1
                  have HLN : Hid ((row' ++ [y]).length = m + 1) := by show (row' ++ [y]).length = m + 1; rw [HM.out]; simp
                  have HUN4 : Hid (2 * unm (come (updI F' y v)) k + (row' ++ [y]).length < gk) := by
                    have h1 := HUN.out
                    have h2 := HLN.out
                    have h3 := HMK.out
                    show 2 * unm (come (updI F' y v)) k + (row' ++ [y]).length < gk
                    rw [h3]
                    omega
                  clear hR4 ht4 hg4 cyA
                  go_wp2
                  go_roundw
                  case rel => exact ⟨jj + 1, updI F' y v, row' ++ [y], g4, off4, cap4, by omega, by go_num, by rw [HLN.out], HUN4.out, S5.out, HALL4.out, A5.out, L4.out, HNE4.out, hOg⟩
                  case measure => simp [intOf]; omega
                · have hMn : ¬ F' y < 0 := hMy
                  have HR : Hid (∀ t, t < jj + 1 → 0 ≤ F' (L.getD t 0)) := by
                    intro t ht
                    by_cases e : t = jj
                    · subst e; rw [← HY.out]; omega
                    · exact HALL.out t (by omega)
                  go_wp2
                  go_roundw
                  case rel => exact ⟨jj + 1, F', row', g', off', cap'', by omega, by go_num, rfl, hgk', HS'.out, HR.out, HA'.out, HL'.out, hgne, hOg⟩
                  case measure => simp [intOf]; omega
              · obtain rfl : jj = L.length := by omega
                have SD : Hid (FarSt w wr k (.slice ao ts.length cap) O ts b F' row' g' off' cap'' (fun _ => False)) :=
                  ⟨hS'.X, hS'.I, hS'.R, hS'.G.done hA.top (fun u hzu => by
                    have hm : u ∈ L := HLL.out ▸ mem_nbrs.2 ⟨HEK.out _ _ hzu, hzu⟩
                    obtain ⟨t, ht, e⟩ := List.mem_iff_getElem.1 hm
                    have := hall t ht
                    rw [List.getD_eq_getElem?_getD, List.getElem?_eq_getElem ht, Option.getD_some, e] at this
                    exact this), hS'.hO, hS'.S⟩
                clear hS' hL' hall hA
                go_wp2
                go_roundg (2 * unm (come F') k + row'.length)
                case measure => exact hgk'
                case rel => exact ⟨F', row', g', off', cap'', Nat.le_refl _, by omega, rfl, SD.out⟩

end Go.Proofs.YtiaeffpjcinilaaDoor

/- Walk of spec.WayFind: it is the first of all ways, too. -/
namespace Go.Proofs.YtiaeffpjcinilaaDoor
open Go.RowKit
set_option linter.unusedVariables false

theorem nbrs_up (ts : List (Int × Int)) (x m : Nat) : (nbrs ts x m).Pairwise (· < ·) := by
  unfold nbrs; exact List.Pairwise.filter _ List.pairwise_lt_range
/-- the first of the neighbours from which one tie less lacks -/
theorem near_first {ts : List (Int × Int)} {Kn x d jj : Nat} {F : Nat → Int} {b : Nat} (hok : NetOk (Kn : Int) ts) (h : Fr (tieNB ts) b F) (hx : F x = (d : Int) + 1) (hj : jj < (nbrs ts x Kn).length) (hy : F ((nbrs ts x Kn).getD jj 0) = F x - 1) (hb : ∀ t, t < jj → F ((nbrs ts x Kn).getD t 0) ≠ F x - 1) : (nbrs ts x Kn).getD jj 0 = near (tieNB ts) F x := by
  obtain ⟨n1, n2, n3, n4⟩ := near_is (E := tieNB ts) (fun _ _ h => tieNB_8 hok h) h (fun _ _ h => tieNB_sym h) hx
  have hmem : near (tieNB ts) F x ∈ nbrs ts x Kn := mem_nbrs.2 ⟨by have := tieNB_lt hok n1; simpa using this, n1⟩
  obtain ⟨t, ht, e⟩ := List.mem_iff_getElem.1 hmem
  have gj : (nbrs ts x Kn).getD jj 0 = (nbrs ts x Kn)[jj] := by simp [hj]
  have gt : (nbrs ts x Kn).getD t 0 = (nbrs ts x Kn)[t] := by simp [ht]
  have hjt : jj ≤ t := by
    apply Nat.le_of_not_lt
    intro hlt
    exact hb t hlt (by rw [gt, e, n2]; omega)
  have hye : tieNB ts x (nbrs ts x Kn)[jj] = true := (mem_nbrs.1 (List.getElem_mem hj)).2
  have h1 : near (tieNB ts) F x ≤ (nbrs ts x Kn)[jj] := by
    apply Nat.le_of_not_lt
    intro hlt
    have := n4 _ hlt
    unfold nearB at this
    rw [hye, ← gj, hy] at this
    simp at this
  rw [gj]
  by_cases e2 : jj = t
  · subst e2; exact e
  · have := List.pairwise_iff_getElem.1 (nbrs_up ts x Kn) jj t hj ht (by omega)
    rw [e] at this; omega
theorem near_some {ts : List (Int × Int)} {Kn x d : Nat} {F : Nat → Int} {b : Nat} (hok : NetOk (Kn : Int) ts) (h : Fr (tieNB ts) b F) (hx : F x = (d : Int) + 1) : ∃ t, t < (nbrs ts x Kn).length ∧ F ((nbrs ts x Kn).getD t 0) = F x - 1 := by
  obtain ⟨n1, n2, n3, n4⟩ := near_is (E := tieNB ts) (fun _ _ h => tieNB_8 hok h) h (fun _ _ h => tieNB_sym h) hx
  have hmem : near (tieNB ts) F x ∈ nbrs ts x Kn := mem_nbrs.2 ⟨by have := tieNB_lt hok n1; simpa using this, n1⟩
  obtain ⟨t, ht, e⟩ := List.mem_iff_getElem.1 hmem
  refine ⟨t, ht, ?_⟩
  have gt : (nbrs ts x Kn).getD t 0 = (nbrs ts x Kn)[t] := by simp [ht]
  rw [gt, e, n2]; omega
/-- what stands while a way is found step by step: the box, how far it is at O, the way so far -/
structure Wst (w wr : World) (Kn : Nat) (nv : Value) (O : Nat) (F : Nat → Int) (q : List Nat) (g off cap : Nat) : Prop where
  X : Bx w wr (Kn : Int) nv
  I : OwnI wr O Kn (farC F)
  R : RowS wr (w.heap.size + 1) g off cap q
  hO : w.heap.size < O
  ne : g ≠ O
theorem Wst.next {w wr w' : World} {Kn : Nat} {nv : Value} {O : Nat} {F : Nat → Int} {q : List Nat} {g off cap : Nat} (h : Wst w wr Kn nv O F q g off cap) (hb : Below wr.heap.size wr w') : Wst w w' Kn nv O F q g off cap :=
  ⟨h.X.next hb, h.I.below hb h.I.2.2, h.R.next hb, h.hO, h.ne⟩
theorem Wst.pushed {w wr w' : World} {Kn : Nat} {nv : Value} {O : Nat} {F : Nat → Int} {q q' : List Nat} {g off cap g' off' cap' : Nat} (h : Wst w wr Kn nv O F q g off cap) (ht : Turned g (g + 1) wr w') (hR : RowS w' (w.heap.size + 1) g' off' cap' q') (hg : g' = g ∨ wr.heap.size ≤ g') : Wst w w' Kn nv O F q' g' off' cap' :=
  ⟨h.X.turn ht h.R.lo, h.I.turn ht (by have := h.ne; omega), hR, h.hO, by have := h.ne; have := h.I.2.2; omega⟩

theorem foundB_no {K : Int} {ts : List (Int × Int)} {a b : Int} (h : waysB K ts a b = []) : findB K ts a b = [] ∧ foundB K ts a b = false := by
  unfold findB foundB; rw [h]; exact ⟨rfl, rfl⟩
theorem foundB_yes {K : Int} {ts : List (Int × Int)} {a b : Int} {p : List Nat} (h : (waysB K ts a b).head? = some p) : findB K ts a b = p ∧ foundB K ts a b = true := by
  unfold findB foundB; rw [h]; exact ⟨rfl, rfl⟩

set_option maxHeartbeats 1600000 in
theorem specFind_no (K : Int) (ao : Option Addr) (cap : Nat) (ts : List (Int × Int)) (a b : Int) (w : World) (hn : ts.length ≤ 1099511627776) (ht : TiesIn w w.heap.size ao ts) (hno : (okB K ts && knotB a K && knotB b K) = false) :
    Calls Tryd.prog 61 #[.agg #[.int .i64 K, .slice ao ts.length cap], .int .i64 a, .int .i64 b] w fun e w' => ∃ g off cap', e = .returned (.tuple #[.slice (some ⟨g, off, none⟩) 0 cap', .bool false]) ∧ RowS w' w.heap.size g off cap' [] ∧ Below w.heap.size w w' := by
  have X0 := fun (t u : TypeId) => (Bx.start w K (.slice ao ts.length cap) t).next (below_one _ (.cells #[] u))
  have R0 : ∀ t u : TypeId, RowS ((w.alloc (.cells #[.int .i64 K, .slice ao ts.length cap] t)).alloc (.cells #[] u)) (w.heap.size + 1) (w.heap.size + 1) 0 0 [] := fun t u => by
    have h := RowS.new (w.alloc (.cells #[.int .i64 K, .slice ao ts.length cap] t)) u
    have e : (w.alloc (.cells #[.int .i64 K, .slice ao ts.length cap] t)).heap.size = w.heap.size + 1 := by simp
    rw [e] at h
    exact h
  have HX0 := hideP X0
  have HR0 := hideP R0
  have HT := hideP ht
  clear X0 R0 ht
  cases h1 : (okB K ts && knotB a K)
  · have HV := hideP h1
    clear h1 hno
    go_enter Tryd.func61, Tryd.ntmps61
    go_wp2_with fail
    refine (l1Knot_v false K ao cap ts a _ hn ((HT.out.below (HX0.out _ _).B (Nat.le_refl _)).wide (Nat.le_of_lt (HX0.out _ _).lt)) HV.out).mono ?_
    rintro e w1 ⟨rfl, hb1⟩
    have X1 := hideP ((HX0.out _ _).next hb1)
    have R1 := hideP ((HR0.out _ _).next hb1)
    clear hb1
    go_wp2
    exact bodyPost_ret (v := .tuple #[.slice (some ⟨w.heap.size + 1, 0, none⟩) 0 0, .bool false]) (by simp [results, Tryd.results61, go_sem]) rfl ⟨_, _, _, rfl, R1.out.down (by omega), X1.out.B⟩
  · have HV := hideP h1
    have h2 : (okB K ts && knotB b K) = false := by
      rw [h1] at hno
      simp only [Bool.and_eq_true] at h1
      rw [h1.1]; simpa using hno
    have HV2 := hideP h2
    clear h1 hno h2
    go_enter Tryd.func61, Tryd.ntmps61
    go_wp2_with fail
    refine (l1Knot_v true K ao cap ts a _ hn ((HT.out.below (HX0.out _ _).B (Nat.le_refl _)).wide (Nat.le_of_lt (HX0.out _ _).lt)) HV.out).mono ?_
    rintro e w1 ⟨rfl, hb1⟩
    have X1 := hideP ((HX0.out _ _).next hb1)
    have R1 := hideP ((HR0.out _ _).next hb1)
    clear hb1
    have c0 := X1.out.c0
    have c1 := X1.out.c1
    go_wp2_with fail
    refine (l1Knot_v false K ao cap ts b _ hn ((HT.out.below X1.out.B (Nat.le_refl _)).wide (Nat.le_of_lt X1.out.lt)) HV2.out).mono ?_
    rintro e w2 ⟨rfl, hb2⟩
    have X2 := hideP (X1.out.next hb2)
    have R2 := hideP (R1.out.next hb2)
    clear hb2 c0 c1 X1 R1
    go_wp2
    exact bodyPost_ret (v := .tuple #[.slice (some ⟨w.heap.size + 1, 0, none⟩) 0 0, .bool false]) (by simp [results, Tryd.results61, go_sem]) rfl ⟨_, _, _, rfl, R2.out.down (by omega), X2.out.B⟩

set_option maxHeartbeats 1600000 in
theorem specFind_ok (Kn : Nat) (ao : Option Addr) (cap : Nat) (ts : List (Int × Int)) (a b : Nat) (w : World) (hn : ts.length ≤ 1099511627776) (ht : TiesIn w w.heap.size ao ts) (hok : okB (Kn : Int) ts = true) (haK : a < Kn) (hbK : b < Kn) :
    Calls Tryd.prog 61 #[.agg #[.int .i64 (Kn : Int), .slice ao ts.length cap], .int .i64 (a : Int), .int .i64 (b : Int)] w fun e w' => ∃ g off cap' p v, e = .returned (.tuple #[.slice (some ⟨g, off, none⟩) p.length cap', .bool v]) ∧ RowS w' w.heap.size g off cap' p ∧ Below w.heap.size w w' ∧ ((allTo (tieNB ts) a b Kn = [] ∧ p = [] ∧ v = false) ∨ ((allTo (tieNB ts) a b Kn).head? = some p ∧ v = true)) := by
  have hnet : NetOk (Kn : Int) ts := okB_iff.1 hok
  have hK8 : Kn ≤ 8 := by have := hnet.2.1; omega
  have HNT := hideP hnet
  have h1 : (okB (Kn : Int) ts && knotB (a : Int) (Kn : Int)) = true := by rw [hok]; simp [knotB]; omega
  have h2 : (okB (Kn : Int) ts && knotB (b : Int) (Kn : Int)) = true := by rw [hok]; simp [knotB]; omega
  have HV := hideP h1
  have HV2 := hideP h2
  obtain ⟨i1, hj, hy0, hy1, hy2⟩ := info_parts Tryd.infoInt
  have HI1 : Hid (Tryd.prog.info? 3 = some i1 ∧ i1.zero = some (.int .i64 0) ∧ i1.size = 1 ∧ i1.bytes = 8) := ⟨hj, hy0, hy1, hy2⟩
  have X0 := fun (t u : TypeId) => (Bx.start w (Kn : Int) (.slice ao ts.length cap) t).next (below_one _ (.cells #[] u))
  have R0 : ∀ t u : TypeId, RowS ((w.alloc (.cells #[.int .i64 (Kn : Int), .slice ao ts.length cap] t)).alloc (.cells #[] u)) (w.heap.size + 1) (w.heap.size + 1) 0 0 [] := fun t u => by
    have h := RowS.new (w.alloc (.cells #[.int .i64 (Kn : Int), .slice ao ts.length cap] t)) u
    have e : (w.alloc (.cells #[.int .i64 (Kn : Int), .slice ao ts.length cap] t)).heap.size = w.heap.size + 1 := by simp
    rw [e] at h
    exact h
  have HX0 := hideP X0
  have HR0 := hideP R0
  have HT := hideP ht
  have HFAR := hideP (fun w' h => l2Far_any Kn ao cap ts b w' hn h hok hbK)
  clear X0 R0 ht h1 h2 hj hy0 hy1 hy2 hnet hok
  go_enter Tryd.func61, Tryd.ntmps61
  go_wp2_with fail
  refine (l1Knot_v true _ ao cap ts _ _ hn ((HT.out.below (HX0.out _ _).B (Nat.le_refl _)).wide (Nat.le_of_lt (HX0.out _ _).lt)) HV.out).mono ?_
  rintro e w1 ⟨rfl, hb1⟩
  have X1 := hideP ((HX0.out _ _).next hb1)
  have R1 := hideP ((HR0.out _ _).next hb1)
  clear hb1 HX0 HR0
  have c0 := X1.out.c0
  have c1 := X1.out.c1
  go_wp2_with fail
  refine (l1Knot_v true _ ao cap ts _ _ hn ((HT.out.below X1.out.B (Nat.le_refl _)).wide (Nat.le_of_lt X1.out.lt)) HV2.out).mono ?_
  rintro e w2 ⟨rfl, hb2⟩
  have X2 := hideP (X1.out.next hb2)
  have R2 := hideP (R1.out.next hb2)
  clear hb2 c0 c1 X1 R1
  have c0 := X2.out.c0
  have c1 := X2.out.c1
  go_wp2_with fail
  refine (HFAR.out _ ((HT.out.below X2.out.B (Nat.le_refl _)).wide (Nat.le_of_lt X2.out.lt))).mono ?_
  rintro e w3 ⟨O, capF, F, rfl, hI3, hO3, hF3, hG3, hb3⟩
  have S3 : Hid (Wst w w3 Kn (.slice ao ts.length cap) O F [] (w.heap.size + 1) 0 0) := ⟨X2.out.next hb3, hI3, R2.out.next hb3, by have := X2.out.lt; omega, by have := R2.out.lt; omega⟩
  have HF := hideP hF3
  have HG := hideP hG3
  have d0 : w3.cell? ⟨O, a, none⟩ = some (.int .i64 (F a)) := hI3.1 a haK
  have ha0 : (0 : Int) ≤ (a : Int) := by omega
  have ha1 : (a : Int) < (Kn : Int) := by omega
  clear hb3 hI3 hF3 hG3 hO3 c0 c1 X2 R2 HFAR
  by_cases hneg : F a < 0
  · have HN : Hid (allTo (tieNB ts) a b Kn = []) := find_no HF.out hneg
    have HR := hideP S3.out.R
    have HB := hideP S3.out.X.B
    clear S3
    go_wp2
    exact bodyPost_ret (v := .tuple #[.slice (some ⟨w.heap.size + 1, 0, none⟩) 0 0, .bool false]) (by simp [results, Tryd.results61, go_sem]) rfl ⟨_, _, _, [], false, rfl, HR.out.down (by omega), HB.out, Or.inl ⟨HN.out, rfl, rfl⟩⟩
  · have hneg' : ¬ F a < 0 := hneg
    obtain ⟨D, hD⟩ : ∃ D : Nat, F a = (D : Int) := ⟨(F a).toNat, by omega⟩
    have HH : Hid ((allTo (tieNB ts) a b Kn).head? = some (a :: geo (tieNB ts) F D a)) := find_is (fun _ _ h => tieNB_8 HNT.out h) (fun _ _ h => by have := tieNB_lt HNT.out h; simpa using this) (fun _ _ h => tieNB_sym h) HF.out haK hD
    have hD8 : D ≤ 8 := by have := (HG.out a).1; omega
    have HD := hideP hD
    have bo := below_one w3 (.cells #[.int .i64 (a : Int)] 3)
    have SB := hideP (S3.out.next bo)
    clear hD bo
    go_wp2_with (at_builtin; refine wpList_append_rowS _ rfl _ _ 27 rfl (w.heap.size + 1) 3 i1 Tryd.underlying27 HI1.out.1 HI1.out.2.1 HI1.out.2.2.1 HI1.out.2.2.2 (w.heap.size + 1) 0 0 [] 0 rfl rfl SB.out.R w3.heap.size a rfl ?_ ?_ ?_ ?_)
    · rw [World.cell?_alloc_at _ _ _ _ rfl]; rfl
    · simp
    · have := S3.out.X.lt; simp; omega
    intro g4 off4 cap4 w4 hR4 hg4 ht4
    have S4 : Hid (Wst w w4 Kn (.slice ao ts.length cap) O F [a] g4 off4 cap4) := SB.out.pushed ht4 hR4 (by simpa using hg4)
    clear hR4 hg4 ht4 SB S3 d0
    obtain ⟨T, hT⟩ : ∃ T, T = a :: geo (tieNB ts) F D a := ⟨_, rfl⟩
    have HT0 : Hid ([a] ++ geo (tieNB ts) F D a = T) := hideP hT.symm
    rw [← hT] at HH
    clear hT
    go_wp2
    go_loopg [8, 10] 9 (fun gk v at' wr => ∃ (d x : Nat) (q : List Nat) (g off cap' : Nat), v = .slice (some ⟨g, off, none⟩) q.length cap' ∧ at' = .int .i64 x ∧ F x = (d : Int) ∧ d ≤ gk ∧ gk ≤ 9 ∧ x < Kn ∧ q ++ geo (tieNB ts) F d x = T ∧ q.length + d ≤ 9 ∧ Wst w wr Kn (.slice ao ts.length cap) O F q g off cap')
    case atStart => exact ⟨D, a, [a], g4, off4, cap4, rfl, rfl, HD.out, by omega, by omega, haK, HT0.out, by simp; omega, S4.out⟩
    case round =>
      clear S4 HT0 HD
      obtain ⟨d, x, q, g, off, cap', rfl, rfl, hFx, hdg, hg9, hxK, hq, hql, hS⟩ := hrel
      by_cases hxb : x = b
      · subst hxb
        have hd0 : d = 0 := by have := HF.out.at; omega
        subst hd0
        have hqT : q = T := by simpa [geo] using hq
        have HQ := hideP hqT
        have HR := hideP hS.R
        have HB := hideP hS.X.B
        clear hS hq hqT
        go_wp2
        exact bodyPost_ret (v := .tuple #[.slice (some ⟨g, off, none⟩) q.length cap', .bool true]) (by simp [results, Tryd.results61, go_sem]) rfl ⟨_, _, _, q, true, rfl, HR.out.down (by omega), HB.out, Or.inr ⟨by rw [HQ.out]; exact HH.out, rfl⟩⟩
      · have hne : ((x : Int) == (b : Int)) = false := by simp; omega
        obtain ⟨d', rfl⟩ : ∃ d', d = d' + 1 := ⟨d - 1, by
          have : d ≠ 0 := fun e => hxb (HF.out.zero (by rw [hFx, e]; rfl))
          omega⟩
        have hFx1 : F x = (d' : Int) + 1 := by rw [hFx]; omega
        have HNF := hideP (fun jj h1 h2 h3 => near_first (jj := jj) (Kn := Kn) HNT.out HF.out hFx1 h1 h2 h3)
        have HNS := hideP (near_some (Kn := Kn) HNT.out HF.out hFx1)
        have HGE : Hid (geo (tieNB ts) F (d' + 1) x = near (tieNB ts) F x :: geo (tieNB ts) F d' (near (tieNB ts) F x)) := rfl
        have HNI := hideP (near_is (E := tieNB ts) (fun _ _ h => tieNB_8 HNT.out h) HF.out (fun _ _ h => tieNB_sym h) hFx1)
        have c0 := hS.X.c0
        have c1 := hS.X.c1
        have HS := hideP hS
        have TR := hideP ((HT.out.below hS.X.B (Nat.le_refl _)).wide (Nat.le_of_lt hS.X.lt))
        have HQ := hideP hq
        have HFX := hideP hFx1
        clear hS hq hFx hFx1
        go_wp2_with fail
        refine (l2Next_any Kn ao cap ts x _ hn TR.out hK8).mono ?_
        rintro e w5 ⟨g2, off2, cap2, rfl, hL5, hb5⟩
        have S5 := hideP (HS.out.next hb5)
        obtain ⟨L, hL⟩ : ∃ L, L = nbrs ts x Kn := ⟨_, rfl⟩
        have HLL := hideP hL
        have hL8 : L.length ≤ 8 := by rw [hL]; exact Nat.le_trans (nbrs_len ts x Kn) hK8
        rw [← hL] at hL5 HNF HNS ⊢
        have L5 := hideP hL5
        clear hb5 hL5 hL c0 c1 TR HS
        have hx0 : (0 : Int) ≤ (x : Int) := by omega
        have hx1 : (x : Int) < (Kn : Int) := by omega
        go_wp2
        go_loopw [10, 12] (fun at' i wr => ∃ (jj : Nat), jj ≤ L.length ∧ i = .int .i64 jj ∧ at' = .int .i64 x ∧ (∀ t, t < jj → F (L.getD t 0) ≠ F x - 1) ∧ Below w5.heap.size w5 wr)
          (fun _ i _ => L.length - (intOf i).toNat)
        case atStart => exact ⟨0, Nat.zero_le _, rfl, rfl, fun t ht => absurd ht (by omega), Below.refl _ _⟩
        case round =>
          obtain ⟨jj, hjj, rfl, rfl, hall, hbr⟩ := hrel
          by_cases hlt : jj < L.length
          · obtain ⟨y, hy⟩ : ∃ y, y = L.getD jj 0 := ⟨_, rfl⟩
            have hmem : y ∈ L := by rw [hy, List.getD_eq_getElem?_getD, List.getElem?_eq_getElem hlt]; exact List.getElem_mem hlt
            have hyn := mem_nbrs.1 (HLL.out ▸ hmem)
            have hyK := hyn.1
            have S6 := hideP (S5.out.next hbr)
            have L6 := L5.out.next hbr
            have cy : wr.cell? ⟨g2, off2 + jj, none⟩ = some (.int .i64 (y : Int)) := by rw [hy]; exact L6.cells jj hlt
            have co : wr.cell? ⟨O, y, none⟩ = some (.int .i64 (F y)) := S6.out.I.1 y hyK
            have cz : wr.cell? ⟨O, x, none⟩ = some (.int .i64 (F x)) := S6.out.I.1 x hxK
            have hj0 : (0 : Int) ≤ (jj : Int) := by omega
            have hj1 : (jj : Int) < (L.length : Int) := by omega
            have hy0 : (0 : Int) ≤ (y : Int) := by omega
            have hy1 : (y : Int) < (Kn : Int) := by omega
            have hFx8 := (HG.out x).1
            have hFx9 := (HG.out x).2
            have HALL := hideP hall
            have HBR := hideP hbr
            have HY := hideP hy
            clear hyn hmem hy hall hbr L6
            by_cases hF : F y = F x - 1
            · have hFe : (F y == F x - 1) = true := by simp [hF]
              have HYN : Hid (y = near (tieNB ts) F x) := by rw [HY.out]; exact hideP (HNF.out jj hlt (by rw [← HY.out]; exact hF) HALL.out)
              have HQ2 : Hid ((q ++ [y]) ++ geo (tieNB ts) F d' y = T) := hideP (by rw [List.append_assoc, ← HQ.out, HGE.out, ← HYN.out]; rfl)
              have HFY : Hid (F y = (d' : Int)) := hideP (by rw [HYN.out]; exact HNI.out.2.1)
              have S8 := hideP ((S6.out.next (Below.refl _ _).drew).next (below_one wr.drew (.cells #[.int .i64 (y : Int)] 3)))
              have HBW := hideP S6.out.X.lt
              have ES : Hid (((wr.drew).alloc (.cells #[.int .i64 (y : Int)] 3)).heap.size = wr.heap.size + 1) := World.size_alloc wr.drew _
              obtain ⟨m, hm⟩ : ∃ m, m = q.length := ⟨_, rfl⟩
              have HM := hideP hm
              rw [← hm] at hql ⊢
              clear hF hm
              go_wp2
              go_region
              go_wp2_with (at_builtin; refine wpList_append_rowS _ rfl _ _ 27 rfl (w.heap.size + 1) 3 i1 Tryd.underlying27 HI1.out.1 HI1.out.2.1 HI1.out.2.2.1 HI1.out.2.2.2 g off cap' q m HM.out.symm rfl S8.out.R wr.heap.size y rfl ?_ ?_ ?_ ?_)
              · exact World.cell?_alloc_at _ _ _ _ rfl
              · rw [← HM.out]; omega
              · have h3 : wr.heap.size ≤ ((wr.drew).alloc (.cells #[.int .i64 (y : Int)] 3)).heap.size := by rw [ES.out]; omega
                exact Nat.le_trans HBW.out h3
              intro g7 off7 cap7 w7 hR7 hg7 ht7
              have S7 : Hid (Wst w w7 Kn (.slice ao ts.length cap) O F (q ++ [y]) g7 off7 cap7) := S8.out.pushed ht7 hR7 (by have h2 := ES.out; omega)
              have HLN : Hid ((q ++ [y]).length = m + 1) := by show (q ++ [y]).length = m + 1; rw [HM.out]; simp
              clear hR7 hg7 ht7 S8 S6 co cz cy
              go_wp2
              go_roundg (gk - 1)
              case measure => omega
              case rel => exact ⟨d', y, q ++ [y], g7, off7, cap7, by rw [HLN.out], rfl, HFY.out, by omega, by omega, hyK, HQ2.out, by rw [HLN.out]; omega, S7.out⟩
            · have hFe : (F y == F x - 1) = false := by simp [hF]
              have HR : Hid (∀ t, t < jj + 1 → F (L.getD t 0) ≠ F x - 1) := by
                intro t ht
                by_cases e : t = jj
                · subst e; rw [← HY.out]; exact hF
                · exact HALL.out t (by omega)
              clear hF
              go_wp2
              go_region
              go_wp2
              go_roundw
              case rel => exact ⟨jj + 1, by omega, by go_num, rfl, HR.out, HBR.out.trans (by first | exact (Below.refl _ _).drew | exact Below.refl _ _)⟩
              case measure => simp [intOf]; omega
          · exfalso
            obtain ⟨t, ht, e⟩ := HNS.out
            exact hall t (by omega) e

/-- spec.WayFind is the first of all ways -/
theorem specFind_any (K : Int) (ao : Option Addr) (cap : Nat) (ts : List (Int × Int)) (a b : Int) (w : World) (hn : ts.length ≤ 1099511627776) (ht : TiesIn w w.heap.size ao ts) :
    Calls Tryd.prog 61 #[.agg #[.int .i64 K, .slice ao ts.length cap], .int .i64 a, .int .i64 b] w fun e w' => ∃ g off cap', e = .returned (.tuple #[.slice (some ⟨g, off, none⟩) (findB K ts a b).length cap', .bool (foundB K ts a b)]) ∧ RowS w' w.heap.size g off cap' (findB K ts a b) ∧ Below w.heap.size w w' := by
  cases hc : (okB K ts && knotB a K && knotB b K)
  · obtain ⟨e1, e2⟩ := foundB_no (waysB_no hc)
    rw [e1, e2]
    exact specFind_no K ao cap ts a b w hn ht hc
  · have hc' := hc
    simp only [Bool.and_eq_true] at hc'
    obtain ⟨⟨h1, h2⟩, h3⟩ := hc'
    have hK := (okB_iff.1 h1)
    have ha : 0 ≤ a ∧ a < K := by simpa [knotB] using h2
    have hb : 0 ≤ b ∧ b < K := by simpa [knotB] using h3
    obtain ⟨Kn, rfl⟩ : ∃ n : Nat, K = (n : Int) := ⟨K.toNat, by omega⟩
    obtain ⟨x, rfl⟩ : ∃ n : Nat, a = (n : Int) := ⟨a.toNat, by omega⟩
    obtain ⟨y, rfl⟩ : ∃ n : Nat, b = (n : Int) := ⟨b.toNat, by omega⟩
    have e := waysB_yes hc
    simp only [Int.toNat_natCast] at e
    refine (specFind_ok Kn ao cap ts x y w hn ht h1 (by omega) (by omega)).mono ?_
    rintro e0 w' ⟨g, off, cap', p, v, rfl, hR, hB, hp⟩
    rcases hp with ⟨p1, rfl, rfl⟩ | ⟨p1, rfl⟩
    · obtain ⟨e1, e2⟩ := foundB_no (e.trans p1)
      rw [e1, e2]; exact ⟨g, off, cap', rfl, hR, hB⟩
    · rw [← e] at p1
      obtain ⟨e1, e2⟩ := foundB_yes p1
      rw [e1, e2]; exact ⟨g, off, cap', rfl, hR, hB⟩

end Go.Proofs.YtiaeffpjcinilaaDoor
