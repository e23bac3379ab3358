/- Texts put together: WMoreS, WMore. -/
import Derived.Test.YtljnjpjnadlmhaaDoorPartMathFN
import Derived.Test.YtljnjpjnadlmhaaDoorPartWMost
import Derived.Test.YtljnjpjnadlmhaaDoorPartWWayOk2
import Derived.Test.YtljnjpjnadlmhaaDoorPartWRows
import Derived.Deep.LoopGhost
import Derived.Deep.RegionLaw
/- What stands while spec.l21Flow.more goes: the flow's rows, from where one came, who waits. -/
namespace Go.Proofs.YtljnjpjnadlmhaaDoor
open Go.RowKit
set_option linter.unusedVariables false

def zcellF (f : Nat → Int) (j : Nat) : Value := .int .i64 (f j)
/-- from where one came to each knot -/
structure Frm (w : World) (lo H o Kn : Nat) (fr : Nat → Int) : Prop where
  cells : ∀ j, j < Kn → w.cell? ⟨H, o + j, none⟩ = some (.int .i64 (fr j))
  fz : ∀ i, w.frozen? ⟨H, i, none⟩ = false
  lo : lo ≤ H
  lt : H < w.heap.size
theorem Frm.same {w w' : World} {lo H o Kn : Nat} {fr : Nat → Int} (h : Frm w lo H o Kn fr) (e : w'.heap[H]? = w.heap[H]?) (hs : w.heap.size ≤ w'.heap.size) : Frm w' lo H o Kn fr :=
  ⟨fun j hj => (World.cell?_of_block (a := ⟨H, o + j, none⟩) e).trans (h.cells j hj), fun i => (World.frozen?_of_block (a := ⟨H, i, none⟩) e).trans (h.fz i), h.lo, Nat.lt_of_lt_of_le h.lt hs⟩
theorem Frm.next {w w' : World} {lo H o Kn : Nat} {fr : Nat → Int} (h : Frm w lo H o Kn fr) (hb : Below w.heap.size w w') : Frm w' lo H o Kn fr := h.same (hb.block H h.lt) hb.size
theorem Frm.kept {w w' : World} {lo H o Kn : Nat} {fr : Nat → Int} {bad : Nat → Prop} (h : Frm w lo H o Kn fr) (k : Kp bad w w') (hb : ¬ bad H) : Frm w' lo H o Kn fr := h.same (k.block H h.lt hb) k.size
theorem Frm.set {w : World} {lo H o Kn : Nat} {fr : Nat → Int} (h : Frm w lo H o Kn fr) {k x : Nat} (hk : k < Kn) : Frm (w.setCell ⟨H, o + k, none⟩ (.int .i64 (x : Int))) lo H o Kn (setF fr k x) := by
  refine ⟨fun j hj => ?_, fun i => by rw [World.frozen?_setCell]; exact h.fz i, h.lo, by simpa using h.lt⟩
  unfold setF
  by_cases e : j = k
  · rw [if_pos e, e, World.cell?_setCell_same w ⟨H, o + k, none⟩ _ (h.cells k hk)]
  · rw [if_neg e, World.cell?_setCell_other _ _ _ _ (by simp; try omega)]; exact h.cells j hj
theorem Frm.ofZ {w : World} {lo H o cap Kn : Nat} {fr : Nat → Int} {xs : List Int} (h : RowZ w lo H o cap xs) (hl : xs.length = Kn) (he : ∀ j, j < Kn → xs.getD j 0 = fr j) : Frm w lo H o Kn fr :=
  ⟨fun j hj => (h.cells j (by omega)).trans (by rw [he j hj]; rfl), h.fr, h.lo, h.lt⟩

/-- the flow's rows -/
structure Gsr (w : World) (lo G Kn : Nat) (gs : Nat → Nat) (F : Nat → Nat → Int) : Prop where
  out : ∀ i, i < Kn → w.cell? ⟨G, i, none⟩ = some (.slice (some ⟨gs i, 0, none⟩) Kn Kn)
  row : ∀ i, i < Kn → OwnI w (gs i) Kn (zcellF (F i))
  ne : ∀ i j, i < Kn → j < Kn → i ≠ j → gs i ≠ gs j
  neG : ∀ i, i < Kn → gs i ≠ G
  los : ∀ i, i < Kn → lo ≤ gs i
  loG : lo ≤ G
  ltG : G < w.heap.size
theorem Gsr.kept {w w' : World} {lo G Kn : Nat} {gs : Nat → Nat} {F : Nat → Nat → Int} {bad : Nat → Prop} (h : Gsr w lo G Kn gs F) (k : Kp bad w w') (hG : ¬ bad G) (hr : ∀ i, i < Kn → ¬ bad (gs i)) : Gsr w' lo G Kn gs F :=
  ⟨fun i hi => (k.cell (p := ⟨G, i, none⟩) h.ltG hG).trans (h.out i hi), fun i hi => (h.row i hi).kept k (hr i hi), h.ne, h.neG, h.los, h.loG, Nat.lt_of_lt_of_le h.ltG k.size⟩
theorem Gsr.next {w w' : World} {lo G Kn : Nat} {gs : Nat → Nat} {F : Nat → Nat → Int} (h : Gsr w lo G Kn gs F) (hb : Below w.heap.size w w') : Gsr w' lo G Kn gs F :=
  h.kept (bad := fun _ => False) (Kp.ofB hb) (fun q => q) (fun _ _ q => q)
theorem Gsr.congr {w : World} {lo G Kn : Nat} {gs : Nat → Nat} {F F' : Nat → Nat → Int} (h : Gsr w lo G Kn gs F) (he : ∀ i j, i < Kn → j < Kn → F i j = F' i j) : Gsr w lo G Kn gs F' :=
  ⟨h.out, fun i hi => (h.row i hi).congr (fun j hj => by unfold zcellF; rw [he i j hi hj]), h.ne, h.neG, h.los, h.loG, h.ltG⟩
/-- one cell is written anew -/
theorem Gsr.put {w : World} {lo G Kn : Nat} {gs : Nat → Nat} {F : Nat → Nat → Int} (h : Gsr w lo G Kn gs F) {x y : Nat} (hx : x < Kn) (hy : y < Kn) (c : Int) : Gsr (w.setCell ⟨gs x, y, none⟩ (.int .i64 c)) lo G Kn gs (fun u v => if u = x ∧ v = y then c else F u v) := by
  have k : Kp (fun b => b = gs x) w (w.setCell ⟨gs x, y, none⟩ (.int .i64 c)) := Kp.set _ _ rfl
  refine ⟨fun i hi => (k.cell (p := ⟨G, i, none⟩) h.ltG (fun q => h.neG x hx q.symm)).trans (h.out i hi), fun i hi => ?_, h.ne, h.neG, h.los, h.loG, Nat.lt_of_lt_of_le h.ltG k.size⟩
  by_cases e : i = x
  · subst e
    refine ((h.row i hi).set hy (.int .i64 c)).congr (fun j hj => ?_)
    show (if j = y then Value.int .i64 c else zcellF (F i) j) = Value.int .i64 (if i = i ∧ j = y then c else F i j)
    by_cases e2 : j = y
    · rw [if_pos e2, if_pos ⟨rfl, e2⟩]
    · rw [if_neg e2, if_neg (fun q => e2 q.2)]; rfl
  · refine ((h.row i hi).kept k (h.ne i x hi hx e)).congr (fun j hj => ?_)
    show Value.int .i64 (F i j) = Value.int .i64 (if i = x ∧ j = y then c else F i j)
    rw [if_neg (fun q => e q.1)]

/-- what stands while one goes: from where one came, who waits -/
structure Mor (w wr : World) (Kn : Nat) (fr : Nat → Int) (H o : Nat) (row : List Nat) (g off cap : Nat) : Prop where
  B : Below w.heap.size w wr
  I : Frm wr w.heap.size H o Kn fr
  R : RowS wr (H + 1) g off cap row
theorem Mor.next {w wr w' : World} {Kn : Nat} {fr : Nat → Int} {H o : Nat} {row : List Nat} {g off cap : Nat} (h : Mor w wr Kn fr H o row g off cap) (hb : Below wr.heap.size wr w') : Mor w w' Kn fr H o row g off cap :=
  ⟨h.B.trans (hb.mono h.B.size), h.I.next hb, h.R.next hb⟩
theorem Mor.set {w wr : World} {Kn : Nat} {fr : Nat → Int} {H o : Nat} {row : List Nat} {g off cap : Nat} (h : Mor w wr Kn fr H o row g off cap) {k x : Nat} (hk : k < Kn) : Mor w (wr.setCell ⟨H, o + k, none⟩ (.int .i64 (x : Int))) Kn (setF fr k x) H o row g off cap :=
  have hlo := h.R.lo
  ⟨h.B.setCell (p := ⟨H, o + k, none⟩) h.I.lo _, h.I.set hk, h.R.same (Below.heap_setCell _ _ _ _ (by show g ≠ H; omega)) (by simp)⟩
def postV (Q : Exit → Act → World → Prop) (aa : Act) (J : World → Prop) : Exit → Act → World → Prop
  | .normal, a', w' => a' = aa ∧ J w'
  | e, a', w' => Q e a' w'
theorem wp_weakV {P : Program} {c : Code} {Q : Exit → Act → World → Prop} {a : Act} {w : World} {aa : Act} (J : World → Prop) (h : c.wp P (postV Q aa J) a w) (hk : ∀ w', J w' → Q .normal aa w') : c.wp P Q a w :=
  Code.wp_mono (fun e a' w' h => by
    cases e with
    | normal => obtain ⟨rfl, hj⟩ := h; exact hk _ hj
    | _ => exact h) h
theorem repl_snoc (k : Nat) (x : Int) : List.replicate (k + 1) x = List.replicate k x ++ [x] := List.replicate_succ'

end Go.Proofs.YtljnjpjnadlmhaaDoor

/- Walk of spec.l21Flow.more: one way more, found by those from which one came. -/
namespace Go.Proofs.YtljnjpjnadlmhaaDoor
open Go.RowKit
set_option linter.unusedVariables false
set_option linter.unusedSimpArgs false

def kno (fr : Nat → Int) (y : Nat) : Bool := decide (0 ≤ fr y)
theorem kno_set (fr : Nat → Int) (k x : Nat) : kno (setF fr k x) = mark (kno fr) k := by
  funext y
  unfold kno setF mark
  by_cases e : y = k
  · rw [if_pos e, if_pos e]; simp
  · rw [if_neg e, if_neg e]
set_option maxRecDepth 100000 in
set_option maxHeartbeats 3200000 in
theorem more_any (R G Kn lo : Nat) (gs : Nat → Nat) (F : Nat → Nat → Int) (ao : Option Addr) (cap C : Nat) (ts : List (Int × Int)) (a b : Nat) (v : Int) (w : World) (hK : Kn ≤ 8) (ha : a < Kn) (hb : b < Kn) (hab : a ≠ b) (hn : ts.length ≤ 1099511627776) (ht : TiesIn w w.heap.size ao ts) (hR : R < w.heap.size) (hRG : R < lo)
    (c0 : w.cell? ⟨R, 0, none⟩ = some (.int .i64 (Kn : Int))) (c1 : w.cell? ⟨R, 1, none⟩ = some (.slice ao ts.length cap)) (c2 : w.cell? ⟨R, 2, none⟩ = some (.slice (some ⟨G, 0, none⟩) Kn C))
    (hG : Gsr w lo G Kn gs F) (hF : Flw (tieNB ts) a b F v) (h8 : ∀ x y, tieNB ts x y = true → y < Kn) :
    Calls Tryd.prog 56 #[.pointer (some ⟨R, 0, none⟩), .int .i64 (a : Int), .int .i64 (b : Int)] w fun e w' => (e = .returned (.bool false) ∧ MostW (tieNB ts) a b v ∧ Below w.heap.size w w') ∨ (e = .returned (.bool true) ∧ ∃ F', Flw (tieNB ts) a b F' (v + 1) ∧ Gsr w' lo G Kn gs F' ∧ Kp (fun q => ∃ i, i < Kn ∧ q = gs i) w w') := by
  obtain ⟨i1, hj, hy0, hy1, hy2⟩ := info_parts Tryd.infoInt
  have HI1 : Hid (Tryd.prog.info? 3 = some i1 ∧ i1.zero = some (.int .i64 0) ∧ i1.size = 1 ∧ i1.bytes = 8) := ⟨hj, hy0, hy1, hy2⟩
  clear hj hy0 hy1 hy2
  have HT := hideP ht
  have HG := hideP hG
  have HF := hideP hF
  have H8 := hideP h8
  have CR : Hid (∀ W, Below w.heap.size w W → W.cell? ⟨R, 0, none⟩ = some (.int .i64 (Kn : Int)) ∧ W.cell? ⟨R, 1, none⟩ = some (.slice ao ts.length cap) ∧ W.cell? ⟨R, 2, none⟩ = some (.slice (some ⟨G, 0, none⟩) Kn C)) := hideP (fun W hb => ⟨(hb.cell (p := ⟨R, 0, none⟩) hR).trans c0, (hb.cell (p := ⟨R, 1, none⟩) hR).trans c1, (hb.cell (p := ⟨R, 2, none⟩) hR).trans c2⟩)
  have R0 : Hid (∀ u : TypeId, RowZ (w.alloc (.cells #[] u)) w.heap.size w.heap.size 0 0 []) := hideP (fun u => RowZ.new w u)
  have B0 : Hid (∀ u : TypeId, Below w.heap.size w (w.alloc (.cells #[] u))) := hideP (fun u => below_one _ _)
  clear ht hG hF h8 c0 c1 c2
  go_enter Tryd.func56, Tryd.ntmps56
  go_wp2
  go_loopw [7, 8] (fun v i wr => ∃ k g off cap' : Nat, k ≤ Kn ∧ i = .int .i64 (k : Int) ∧ v = .slice (some ⟨g, off, none⟩) k cap' ∧ RowZ wr w.heap.size g off cap' (List.replicate k (-1)) ∧ Below w.heap.size w wr)
    (fun _ i _ => Kn - (intOf i).toNat)
  case atStart => exact ⟨0, w.heap.size, 0, 0, Nat.zero_le _, rfl, rfl, R0.out _, B0.out _⟩
  case round =>
    clear R0 B0
    obtain ⟨k, g, off, cap', hk, rfl, rfl, hR1, hB1⟩ := hrel
    obtain ⟨c0, c1, c2⟩ := CR.out wr hB1
    by_cases hlt : k < Kn
    · have bo1 := below_one wr (.cells #[.int .i64 (-1)] 3)
      have R1 := hideP (hR1.next bo1)
      have B1 := hideP (hB1.trans (bo1.mono hB1.size))
      have HLN : Hid ((List.replicate k (-1 : Int)).length = k) := hideP (by simp)
      have hkk : (k : Int) < (Kn : Int) := by omega
      clear bo1 hR1 hB1
      go_wp2_with (at_builtin; refine wpList_append_rowZ _ rfl _ _ 44 rfl w.heap.size 3 i1 Tryd.underlying44 HI1.out.1 HI1.out.2.1 HI1.out.2.2.1 HI1.out.2.2.2 g off cap' _ k HLN.out rfl R1.out wr.heap.size (-1) rfl ?c1 ?c2 ?c3 ?c4)
      · rw [World.cell?_alloc_at _ _ _ _ rfl]; rfl
      · rw [HLN.out]; omega
      · exact B1.out.size
      intro g' off' cap'' w2 hR2 hg2 ht2
      have R2 := hideP hR2
      have B2 := hideP (B1.out.trans (ht2.under R1.out.lo B1.out.size))
      clear hR2 ht2 hg2
      go_wp2
      go_roundw
      case rel => exact ⟨k + 1, g', off', cap'', by omega, by go_num, rfl, by rw [repl_snoc]; exact R2.out, B2.out⟩
      case measure => simp [intOf]; omega
    · obtain rfl : k = Kn := by omega
      have hae : ∀ j, j < k → (List.replicate k (-1 : Int)).getD j 0 = (fun _ => -1 : Nat → Int) j := fun j hj => by simp [hj]
      have F0 := hideP (Frm.ofZ (Kn := k) (fr := fun _ => -1) hR1 (by simp) hae)
      have B1 := hideP hB1
      have fa : wr.cell? ⟨g, off + a, none⟩ = some (.int .i64 (-1)) := F0.out.cells a ha
      have fz := F0.out.fz
      have a0 : (0 : Int) ≤ (a : Int) := by omega
      have a1 : (a : Int) < (k : Int) := by omega
      clear hR1 hB1 hae
      have wf : w.heap.size ≤ g := F0.out.lo
      have M0 : ∀ t, Hid (Mor w ((wr.setCell ⟨g, off + a, none⟩ (.int .i64 (a : Int))).alloc (.cells #[.int .i64 (a : Int)] t)) k (setF (fun _ => -1) a a) g off [a] wr.heap.size 0 1) := fun t => hideP (by
        have hs : (wr.setCell ⟨g, off + a, none⟩ (.int .i64 (a : Int))).heap.size = wr.heap.size := by simp
        have R1 := RowS.one (wr.setCell ⟨g, off + a, none⟩ (.int .i64 (a : Int))) a t
        rw [hs] at R1
        have hgl := F0.out.lt
        exact ⟨(B1.out.setCell (p := ⟨g, off + a, none⟩) wf _).alloc (by rw [hs]; exact B1.out.size) _, (F0.out.set ha).next (below_one _ _), R1.down (by omega)⟩)
      clear F0 B1
      go_wp2
      go_loopg [9] 17 (fun gk rv wr => ∃ fr row g2 off2 cap2, 2 * unm (kno fr) k + row.length ≤ gk ∧ gk ≤ 17 ∧ rv = .slice (some ⟨g2, off2, none⟩) row.length cap2 ∧ Mor w wr k fr g off row g2 off2 cap2 ∧ Bp (tieNB ts) F a k fr row (fun _ => False) ∧ (0 ≤ fr b → row ≠ []))
      case atStart =>
        refine ⟨setF (fun _ => -1) a a, [a], wr.heap.size, 0, 1, ?_, Nat.le_refl _, rfl, (M0 _).out, Bp.first ha, fun _ => by simp⟩
        have := unm_le (kno (setF (fun _ => -1) a a)) k
        show 2 * unm (kno (setF (fun _ => -1) a a)) k + 1 ≤ 17
        omega
      case round =>
        clear M0
        obtain ⟨fr, row, g2, off2, cap2, hgk, hg17, rfl, hM, hBP, hbr⟩ := hrel
        have HM := hideP hM
        have HBP := hideP hBP
        have fb : wr.cell? ⟨g, off + b, none⟩ = some (.int .i64 (fr b)) := hM.I.cells b hb
        have b0 : (0 : Int) ≤ (b : Int) := by omega
        have b1 : (b : Int) < (k : Int) := by omega
        cases row with
        | nil =>
          have hfb : fr b < 0 := by
            rcases Int.lt_or_le (fr b) 0 with h | h
            · exact h
            · exact absurd rfl (hbr h)
          have HMW := hideP (hBP.most HF.out (by omega) H8.out hfb)
          clear hM hBP
          go_wp2
          go_ret
          exact Or.inl ⟨rfl, HMW.out, HM.out.B⟩
        | cons x rest =>
          obtain ⟨c, rfl⟩ : ∃ c, cap2 = c + 1 := ⟨cap2 - 1, by have := hM.R.len; simp at this; omega⟩
          have hrl : (0 : Int) < ((x :: rest).length : Int) := Int.natCast_pos.2 (Nat.succ_pos _)
          have hrlen : (x :: rest).length = rest.length + 1 := by simp
          rw [hrlen] at hrl ⊢
          by_cases hfb : fr b < 0
          · have hxf := hBP.pop
            have BP := hideP hxf.2
            have HXK := hideP hxf.1
            have hxk : x < k := hBP.low x hxf.1
            have x0 : (0 : Int) ≤ (x : Int) := by omega
            have x1 : (x : Int) < (k : Int) := by omega
            have r0 : wr.cell? ⟨g2, off2, none⟩ = some (.int .i64 (x : Int)) := by have := hM.R.cells 0 (by simp); simpa [ncell] using this
            have HGK : Hid (2 * unm (kno fr) k + rest.length < gk) := hideP (by simp at hgk; omega)
            have hrc : rest.length ≤ c := by have := hM.R.len; simp at this; omega
            have hrc' : (rest.length : Int) ≤ (c : Int) := by omega
            clear hgk hrlen hxf
            by_cases hc0 : c = 0
            · obtain rfl : rest = [] := by cases rest with | nil => rfl | cons _ _ => simp at hrc; omega
              subst hc0
              have M4 : Hid (Mor w wr k fr g off [] g2 off2 0) := hideP ⟨hM.B, hM.I, hM.R.void off2⟩
              clear hrl hrc hrc' hM hBP
              simp only [List.length_nil, Nat.zero_add]
              go_wp2
              go_loopw [9, 11] (fun rv kv wr => ∃ (j : Nat) (fr' : Nat → Int) (row' : List Nat) (g' off' cap'' : Nat), j ≤ k ∧ kv = .int .i64 (j : Int) ∧ rv = .slice (some ⟨g', off', none⟩) row'.length cap'' ∧ 2 * unm (kno fr') k + row'.length < gk ∧ Mor w wr k fr' g off row' g' off' cap'' ∧ Bp (tieNB ts) F a k fr' row' (fun y => y = x) ∧ 0 ≤ fr' x ∧ (∀ z, z < j → tieNB ts x z = true → F x z < 1 → 0 ≤ fr' z) ∧ (0 ≤ fr' b → row' ≠ []))
                (fun _ i _ => k - (intOf i).toNat)
              case atStart => exact ⟨0, fr, [], g2, off2, 0, Nat.zero_le _, rfl, rfl, HGK.out, M4.out, BP.out, HXK.out, fun z hz => absurd hz (by omega), fun h => absurd h (by have := hfb; omega)⟩
              case round =>
                clear HGK M4
                obtain ⟨j, fr', row', g', off', cap'', hj, rfl, rfl, hgk', hM', hBP', hxk', hall, hbr'⟩ := hrel
                have HM' := hideP hM'
                have HBP' := hideP hBP'
                have HALL := hideP hall
                obtain ⟨c0, c1, c2⟩ := CR.out wr hM'.B
                by_cases hlt : j < k
                · have cf : wr.cell? ⟨g, off + j, none⟩ = some (.int .i64 (fr' j)) := hM'.I.cells j hlt
                  have fz := hM'.I.fz
                  have jp0 : (0 : Int) ≤ (j : Int) := by omega
                  have jp1 : (j : Int) < (k : Int) := by omega
                  have hfj := hBP'.bnd j
                  by_cases hfj0 : fr' j < 0
                  · have eT : tiedB ts (min (x : Int) (j : Int)) (max (x : Int) (j : Int)) = tieNB ts x j := rfl
                    have LH := hideP (fun W (hb : Below wr.heap.size wr W) => l1Has_any (k : Int) ao cap ts (x : Int) (j : Int) W hn (((HT.out.below HM'.out.B (Nat.le_refl _)).wide HM'.out.B.size).below hb (Nat.le_refl _) |>.wide hb.size))
                    rw [eT] at LH
                    obtain ⟨t, ht⟩ : ∃ t, t = tieNB ts x j := ⟨_, rfl⟩
                    rw [← ht] at LH
                    have HTT := hideP ht
                    have hhl : HM'.out.B.size = HM'.out.B.size := rfl
                    clear eT ht hM' hBP' hall hhl
                    cases t
                    · have HR : Hid (∀ z, z < j + 1 → tieNB ts x z = true → F x z < 1 → 0 ≤ fr' z) := hideP (fun z hz h1 h2 => by
                        by_cases e : z = j
                        · rw [e, ← HTT.out] at h1; cases h1
                        · exact HALL.out z (by omega) h1 h2)
                      go_wp2_with (first | (go_at_call 68; refine (LH.out _ (Below.refl _ _)).mono ?_; rintro e w5 ⟨rfl, hb5⟩; have M5 := hideP (HM'.out.next hb5); clear hb5))
                      go_roundw
                      case rel => exact ⟨j + 1, fr', row', g', off', cap'', by omega, by go_num, rfl, hgk', M5.out, HBP'.out, hxk', HR.out, hbr'⟩
                      case measure => simp [intOf]; omega
                    · by_cases hF1 : F x j < 1
                      · have HR : Hid (∀ z, z < j + 1 → tieNB ts x z = true → F x z < 1 → 0 ≤ setF fr' j x z) := hideP (fun z hz h1 h2 => by
                          by_cases e : z = j
                          · rw [e, setF_at]; omega
                          · exact setF_known hfj0 (HALL.out z (by omega) h1 h2))
                        have HFP := hideP (HBP'.out.push hxk' hlt hfj0 HTT.out.symm hF1)
                        have HU : Hid (2 * unm (kno (setF fr' j x)) k + (row' ++ [j]).length < gk) := hideP (by
                          rw [kno_set]
                          have := unm_mark (kno fr') (show kno fr' j = false from by unfold kno; simp; omega) k hlt
                          rw [List.length_append]
                          show 2 * unm (mark (kno fr') j) k + (row'.length + 1) < gk
                          omega)
                        have HF1 := hideP hF1
                        go_wp2_with (first | (go_at_call 68; refine (LH.out _ (Below.refl _ _)).mono ?_; rintro e w5 ⟨rfl, hb5⟩; have M5 := hideP (HM'.out.next hb5); obtain ⟨d0, d1, d2⟩ := CR.out w5 M5.out.B; have G5 := hideP (HG.out.next M5.out.B); have e1 := G5.out.out x hxk; have e2 : w5.cell? ⟨gs x, j, none⟩ = some (.int .i64 (F x j)) := (G5.out.row x hxk).1 j hlt; have cf5 : w5.cell? ⟨g, off + j, none⟩ = some (.int .i64 (fr' j)) := M5.out.I.cells j hlt; have fz5 := M5.out.I.fz; have eW : (w5.setCell ⟨g, off + j, none⟩ (.int .i64 (x : Int))).heap.size = w5.heap.size := (by simp); have MS := hideP (M5.out.set (x := x) hlt); have MB := hideP (MS.out.next (below_one _ (.cells #[.int .i64 (j : Int)] 3))); clear hb5) | (at_builtin; refine wpList_append_rowS _ rfl _ _ 44 rfl (g + 1) 3 i1 Tryd.underlying44 HI1.out.1 HI1.out.2.1 HI1.out.2.2.1 HI1.out.2.2.2 g' off' cap'' row' row'.length rfl rfl MB.out.R w5.heap.size j rfl ?da1 ?da2 ?da3 ?da4))
                        · rw [World.cell?_alloc_at _ _ _ _ eW.symm]; rfl
                        · omega
                        · have := MB.out.I.lt; omega
                        intro g4 off4 cap4 w4 hR4 hg4 ht4
                        have hlo4 := MB.out.R.lo
                        have M6 : Hid (Mor w w4 k (setF fr' j x) g off (row' ++ [j]) g4 off4 cap4) := hideP ⟨MB.out.B.trans (ht4.under (by have := MB.out.I.lo; omega) MB.out.B.size), MB.out.I.same (ht4.block g MB.out.I.lt (Or.inl (by omega))) ht4.size, hR4⟩
                        have HLN : Hid ((row' ++ [j]).length = row'.length + 1) := hideP (by simp)
                        clear hR4 hg4 ht4 cf5 fz5 e1 e2 d0 d1 d2 cf fz
                        go_wp2
                        go_roundw
                        case rel => exact ⟨j + 1, setF fr' j x, row' ++ [j], g4, off4, cap4, by omega, by go_num, by rw [HLN.out], HU.out, M6.out, HFP.out, setF_known hfj0 hxk', HR.out, fun _ => by simp⟩
                        case measure => simp [intOf]; omega
                      · have HR : Hid (∀ z, z < j + 1 → tieNB ts x z = true → F x z < 1 → 0 ≤ fr' z) := hideP (fun z hz h1 h2 => by
                          by_cases e : z = j
                          · rw [e] at h2; exact absurd h2 hF1
                          · exact HALL.out z (by omega) h1 h2)
                        go_wp2_with (first | (go_at_call 68; refine (LH.out _ (Below.refl _ _)).mono ?_; rintro e w5 ⟨rfl, hb5⟩; have M5 := hideP (HM'.out.next hb5); obtain ⟨d0, d1, d2⟩ := CR.out w5 M5.out.B; have G5 := hideP (HG.out.next M5.out.B); have e1 := G5.out.out x hxk; have e2 : w5.cell? ⟨gs x, j, none⟩ = some (.int .i64 (F x j)) := (G5.out.row x hxk).1 j hlt; clear hb5))
                        go_roundw
                        case rel => exact ⟨j + 1, fr', row', g', off', cap'', by omega, by go_num, rfl, hgk', M5.out, HBP'.out, hxk', HR.out, hbr'⟩
                        case measure => simp [intOf]; omega
                  · have HR : Hid (∀ z, z < j + 1 → tieNB ts x z = true → F x z < 1 → 0 ≤ fr' z) := hideP (fun z hz h1 h2 => by
                      by_cases e : z = j
                      · rw [e]; omega
                      · exact HALL.out z (by omega) h1 h2)
                    clear hM' hBP' hall
                    go_wp2
                    go_roundw
                    case rel => exact ⟨j + 1, fr', row', g', off', cap'', by omega, by go_num, rfl, hgk', HM'.out, HBP'.out, hxk', HR.out, hbr'⟩
                    case measure => simp [intOf]; omega
                · obtain rfl : j = k := by omega
                  have BD := hideP (hBP'.done (fun z hz h1 h2 => hall z hz h1 h2))
                  clear hM' hBP' hall
                  go_wp2
                  go_roundg (2 * unm (kno fr') j + row'.length)
                  case measure => exact hgk'
                  case rel => exact ⟨fr', row', g', off', cap'', Nat.le_refl _, by omega, rfl, HM'.out, BD.out, hbr'⟩
            · have M4 : Hid (Mor w wr k fr g off rest g2 (off2 + 1) c) := hideP ⟨hM.B, hM.I, hM.R.tail⟩
              clear hM hBP
              go_wp2
              go_loopw [9, 11] (fun rv kv wr => ∃ (j : Nat) (fr' : Nat → Int) (row' : List Nat) (g' off' cap'' : Nat), j ≤ k ∧ kv = .int .i64 (j : Int) ∧ rv = .slice (some ⟨g', off', none⟩) row'.length cap'' ∧ 2 * unm (kno fr') k + row'.length < gk ∧ Mor w wr k fr' g off row' g' off' cap'' ∧ Bp (tieNB ts) F a k fr' row' (fun y => y = x) ∧ 0 ≤ fr' x ∧ (∀ z, z < j → tieNB ts x z = true → F x z < 1 → 0 ≤ fr' z) ∧ (0 ≤ fr' b → row' ≠ []))
                (fun _ i _ => k - (intOf i).toNat)
              case atStart => exact ⟨0, fr, rest, g2, off2 + 1, c, Nat.zero_le _, rfl, rfl, HGK.out, M4.out, BP.out, HXK.out, fun z hz => absurd hz (by omega), fun h => absurd h (by have := hfb; omega)⟩
              case round =>
                clear HGK M4
                obtain ⟨j, fr', row', g', off', cap'', hj, rfl, rfl, hgk', hM', hBP', hxk', hall, hbr'⟩ := hrel
                have HM' := hideP hM'
                have HBP' := hideP hBP'
                have HALL := hideP hall
                obtain ⟨c0, c1, c2⟩ := CR.out wr hM'.B
                by_cases hlt : j < k
                · have cf : wr.cell? ⟨g, off + j, none⟩ = some (.int .i64 (fr' j)) := hM'.I.cells j hlt
                  have fz := hM'.I.fz
                  have jp0 : (0 : Int) ≤ (j : Int) := by omega
                  have jp1 : (j : Int) < (k : Int) := by omega
                  have hfj := hBP'.bnd j
                  by_cases hfj0 : fr' j < 0
                  · have eT : tiedB ts (min (x : Int) (j : Int)) (max (x : Int) (j : Int)) = tieNB ts x j := rfl
                    have LH := hideP (fun W (hb : Below wr.heap.size wr W) => l1Has_any (k : Int) ao cap ts (x : Int) (j : Int) W hn (((HT.out.below HM'.out.B (Nat.le_refl _)).wide HM'.out.B.size).below hb (Nat.le_refl _) |>.wide hb.size))
                    rw [eT] at LH
                    obtain ⟨t, ht⟩ : ∃ t, t = tieNB ts x j := ⟨_, rfl⟩
                    rw [← ht] at LH
                    have HTT := hideP ht
                    have hhl : HM'.out.B.size = HM'.out.B.size := rfl
                    clear eT ht hM' hBP' hall hhl
                    cases t
                    · have HR : Hid (∀ z, z < j + 1 → tieNB ts x z = true → F x z < 1 → 0 ≤ fr' z) := hideP (fun z hz h1 h2 => by
                        by_cases e : z = j
                        · rw [e, ← HTT.out] at h1; cases h1
                        · exact HALL.out z (by omega) h1 h2)
                      go_wp2_with (first | (go_at_call 68; refine (LH.out _ (Below.refl _ _)).mono ?_; rintro e w5 ⟨rfl, hb5⟩; have M5 := hideP (HM'.out.next hb5); clear hb5))
                      go_roundw
                      case rel => exact ⟨j + 1, fr', row', g', off', cap'', by omega, by go_num, rfl, hgk', M5.out, HBP'.out, hxk', HR.out, hbr'⟩
                      case measure => simp [intOf]; omega
                    · by_cases hF1 : F x j < 1
                      · have HR : Hid (∀ z, z < j + 1 → tieNB ts x z = true → F x z < 1 → 0 ≤ setF fr' j x z) := hideP (fun z hz h1 h2 => by
                          by_cases e : z = j
                          · rw [e, setF_at]; omega
                          · exact setF_known hfj0 (HALL.out z (by omega) h1 h2))
                        have HFP := hideP (HBP'.out.push hxk' hlt hfj0 HTT.out.symm hF1)
                        have HU : Hid (2 * unm (kno (setF fr' j x)) k + (row' ++ [j]).length < gk) := hideP (by
                          rw [kno_set]
                          have := unm_mark (kno fr') (show kno fr' j = false from by unfold kno; simp; omega) k hlt
                          rw [List.length_append]
                          show 2 * unm (mark (kno fr') j) k + (row'.length + 1) < gk
                          omega)
                        have HF1 := hideP hF1
                        go_wp2_with (first | (go_at_call 68; refine (LH.out _ (Below.refl _ _)).mono ?_; rintro e w5 ⟨rfl, hb5⟩; have M5 := hideP (HM'.out.next hb5); obtain ⟨d0, d1, d2⟩ := CR.out w5 M5.out.B; have G5 := hideP (HG.out.next M5.out.B); have e1 := G5.out.out x hxk; have e2 : w5.cell? ⟨gs x, j, none⟩ = some (.int .i64 (F x j)) := (G5.out.row x hxk).1 j hlt; have cf5 : w5.cell? ⟨g, off + j, none⟩ = some (.int .i64 (fr' j)) := M5.out.I.cells j hlt; have fz5 := M5.out.I.fz; have eW : (w5.setCell ⟨g, off + j, none⟩ (.int .i64 (x : Int))).heap.size = w5.heap.size := (by simp); have MS := hideP (M5.out.set (x := x) hlt); have MB := hideP (MS.out.next (below_one _ (.cells #[.int .i64 (j : Int)] 3))); clear hb5) | (at_builtin; refine wpList_append_rowS _ rfl _ _ 44 rfl (g + 1) 3 i1 Tryd.underlying44 HI1.out.1 HI1.out.2.1 HI1.out.2.2.1 HI1.out.2.2.2 g' off' cap'' row' row'.length rfl rfl MB.out.R w5.heap.size j rfl ?db1 ?db2 ?db3 ?db4))
                        · rw [World.cell?_alloc_at _ _ _ _ eW.symm]; rfl
                        · omega
                        · have := MB.out.I.lt; omega
                        intro g4 off4 cap4 w4 hR4 hg4 ht4
                        have hlo4 := MB.out.R.lo
                        have M6 : Hid (Mor w w4 k (setF fr' j x) g off (row' ++ [j]) g4 off4 cap4) := hideP ⟨MB.out.B.trans (ht4.under (by have := MB.out.I.lo; omega) MB.out.B.size), MB.out.I.same (ht4.block g MB.out.I.lt (Or.inl (by omega))) ht4.size, hR4⟩
                        have HLN : Hid ((row' ++ [j]).length = row'.length + 1) := hideP (by simp)
                        clear hR4 hg4 ht4 cf5 fz5 e1 e2 d0 d1 d2 cf fz
                        go_wp2
                        go_roundw
                        case rel => exact ⟨j + 1, setF fr' j x, row' ++ [j], g4, off4, cap4, by omega, by go_num, by rw [HLN.out], HU.out, M6.out, HFP.out, setF_known hfj0 hxk', HR.out, fun _ => by simp⟩
                        case measure => simp [intOf]; omega
                      · have HR : Hid (∀ z, z < j + 1 → tieNB ts x z = true → F x z < 1 → 0 ≤ fr' z) := hideP (fun z hz h1 h2 => by
                          by_cases e : z = j
                          · rw [e] at h2; exact absurd h2 hF1
                          · exact HALL.out z (by omega) h1 h2)
                        go_wp2_with (first | (go_at_call 68; refine (LH.out _ (Below.refl _ _)).mono ?_; rintro e w5 ⟨rfl, hb5⟩; have M5 := hideP (HM'.out.next hb5); obtain ⟨d0, d1, d2⟩ := CR.out w5 M5.out.B; have G5 := hideP (HG.out.next M5.out.B); have e1 := G5.out.out x hxk; have e2 : w5.cell? ⟨gs x, j, none⟩ = some (.int .i64 (F x j)) := (G5.out.row x hxk).1 j hlt; clear hb5))
                        go_roundw
                        case rel => exact ⟨j + 1, fr', row', g', off', cap'', by omega, by go_num, rfl, hgk', M5.out, HBP'.out, hxk', HR.out, hbr'⟩
                        case measure => simp [intOf]; omega
                  · have HR : Hid (∀ z, z < j + 1 → tieNB ts x z = true → F x z < 1 → 0 ≤ fr' z) := hideP (fun z hz h1 h2 => by
                      by_cases e : z = j
                      · rw [e]; omega
                      · exact HALL.out z (by omega) h1 h2)
                    clear hM' hBP' hall
                    go_wp2
                    go_roundw
                    case rel => exact ⟨j + 1, fr', row', g', off', cap'', by omega, by go_num, rfl, hgk', HM'.out, HBP'.out, hxk', HR.out, hbr'⟩
                    case measure => simp [intOf]; omega
                · obtain rfl : j = k := by omega
                  have BD := hideP (hBP'.done (fun z hz h1 h2 => hall z hz h1 h2))
                  clear hM' hBP' hall
                  go_wp2
                  go_roundg (2 * unm (kno fr') j + row'.length)
                  case measure => exact hgk'
                  case rel => exact ⟨fr', row', g', off', cap'', Nat.le_refl _, by omega, rfl, HM'.out, BD.out, hbr'⟩
          · obtain ⟨q, hq1, hqn, hq2, hq3⟩ := hBP.back HF.out (tieNB_turn ts) hK hab (by omega)
            have HQ1 := hideP hq1
            have HQN := hideP hqn
            have HQ2 := hideP hq2
            have HQ3 := hideP hq3
            have GW := hideP (HG.out.next HM.out.B)
            have FW := hideP HM.out.I
            have GLT : Hid (∀ i, i < k → gs i < w.heap.size) := hideP (fun i hi => (HG.out.row i hi).2.2)
            have FBD : Hid (∀ u v, -1 ≤ F u v ∧ F u v ≤ 1) := hideP (fun u v => ⟨by have h1 := HF.out.anti u v; have h2 := HF.out.one v u; omega, HF.out.one u v⟩)
            have hql : (b :: q).length ≤ 8 := Nat.le_trans (nodup_len (n := k) hqn hq2) hK
            obtain ⟨L, hL⟩ : ∃ L, L = b :: q := ⟨_, rfl⟩
            rw [← hL] at HQ1 HQN HQ2 HQ3 hql
            have hL0 : L.getD 0 0 = b := by rw [hL]; rfl
            have hLp : 0 < L.length := by rw [hL]; simp
            have HL1 : Hid (goB F (L.take 1) = F) := hideP (by rw [hL]; rfl)
            have HB := hideP HM.out.B
            clear hq1 hqn hq2 hq3 hM hBP hL
            go_wp2
            obtain ⟨wo, hwo⟩ : ∃ wo, wo = wr := ⟨_, rfl⟩
            rw [← hwo] at GW FW HB
            have HWO := hideP hwo
            clear hwo
            go_loopg [12] (L.length - 1) (fun gn kv wb => ∃ i, i + 1 + gn = L.length ∧ kv = .int .i64 ((L.getD i 0 : Nat) : Int) ∧ Gsr wb lo G k gs (goB F (L.take (i + 1))) ∧ Kp (fun z => ∃ i, i < k ∧ z = gs i) wo wb)
            case atStart => exact ⟨0, by omega, by rw [hL0], by show Gsr _ _ _ _ _ (goB F (L.take 1)); rw [HL1.out, ← HWO.out]; exact GW.out, by rw [← HWO.out]; exact Kp.refl _ _⟩
            case round =>
              obtain ⟨i, hi, rfl, hGb, hKb⟩ := hrel
              have HGb := hideP hGb
              have HKb := hideP hKb
              clear hGb hKb
              rcases HQ1.out.at i (by omega) with ⟨h1, h2⟩ | ⟨h1, h2, h3⟩
              · have HE : Hid (Flw (tieNB ts) a b (goB F (L.take (i + 1))) (v + 1)) := hideP (by rw [h1, List.take_length]; exact HQ3.out)
                rw [h2]
                clear h1 h2
                go_wp2
                go_ret
                exact Or.inr ⟨rfl, _, HE.out, HGb.out, (Kp.ofB (HB.out)).trans HKb.out⟩
              · obtain ⟨y, hy⟩ : ∃ y, y = L.getD i 0 := ⟨_, rfl⟩
                obtain ⟨x, hx⟩ : ∃ x, x = L.getD (i + 1) 0 := ⟨_, rfl⟩
                obtain ⟨F1, hF1⟩ : ∃ F1, F1 = goB F (L.take (i + 1)) := ⟨_, rfl⟩
                have HXN := hideP hx
                have F2 : Hid (goB F (L.take (i + 2)) = goE F1 x y) := hideP (by rw [goB_take F L i h1, ← hF1, ← hx, ← hy])
                have hyk : y < k := HQ2.out y (by rw [hy, List.getD_eq_getElem?_getD, List.getElem?_eq_getElem (by omega)]; exact List.getElem_mem _)
                have hxk : x < k := HQ2.out x (by rw [hx, List.getD_eq_getElem?_getD, List.getElem?_eq_getElem h1]; exact List.getElem_mem _)
                have hxy : x ≠ y := by
                  rw [hx, hy, List.getD_eq_getElem?_getD, List.getD_eq_getElem?_getD, List.getElem?_eq_getElem h1, List.getElem?_eq_getElem (show i < L.length by omega)]
                  exact Ne.symm (List.pairwise_iff_getElem.1 HQN.out i (i + 1) (by omega) h1 (by omega))
                have bd1 := goB_bound (L.take (i + 1)) FBD.out x y
                have bd2 := goB_bound (L.take (i + 1)) FBD.out y x
                rw [← hF1] at bd1 bd2
                have htl0 : (L.take (i + 1)).length ≤ L.length := by rw [List.length_take]; omega
                have htl : ((L.take (i + 1)).length : Int) ≤ 8 := by omega
                rw [← hF1] at HGb
                rw [← hy] at h2 h3 ⊢
                rw [← hx] at h3
                have i4 : IntKind.i64.wrap (F1 x y + 1) = F1 x y + 1 := by rw [IntKind.wrap_i64]; omega
                have i5 : IntKind.i64.wrap (F1 y x - 1) = F1 y x - 1 := by rw [IntKind.wrap_i64]; omega
                have y0 : (0 : Int) ≤ (y : Int) := by omega
                have y1 : (y : Int) < (k : Int) := by omega
                have x0 : (0 : Int) ≤ (x : Int) := by omega
                have x1 : (x : Int) < (k : Int) := by omega
                have hya : ((y : Int) != (a : Int)) = true := by rw [bne_iff_ne]; omega
                have hlow := FW.out.lo
                have nR : ¬ ∃ i, i < k ∧ R = gs i := by rintro ⟨i, hi, e⟩; have := HG.out.los i hi; omega
                have nH : ¬ ∃ i, i < k ∧ g = gs i := by rintro ⟨i, hi, e⟩; have := GLT.out i hi; omega
                have hRw : R < wo.heap.size := Nat.lt_of_lt_of_le hR HB.out.size
                have fy : wr.cell? ⟨g, off + y, none⟩ = some (.int .i64 (x : Int)) := (HKb.out.cell (p := ⟨g, off + y, none⟩) FW.out.lt nH).trans ((FW.out.cells y hyk).trans (by rw [h3]))
                have r2 : wr.cell? ⟨R, 2, none⟩ = some (.slice (some ⟨G, 0, none⟩) k C) := (HKb.out.cell (p := ⟨R, 2, none⟩) hRw nR).trans (CR.out wo HB.out).2.2
                have gx := HGb.out.out x hxk
                have cxy : wr.cell? ⟨gs x, y, none⟩ = some (.int .i64 (F1 x y)) := (HGb.out.row x hxk).1 y hyk
                have fxy := (HGb.out.row x hxk).2.1 y
                have GP := hideP (HGb.out.put hxk hyk (F1 x y + 1))
                have k1 : Hid (Kp (fun z => ∃ i, i < k ∧ z = gs i) wr (wr.setCell ⟨gs x, y, none⟩ (.int .i64 (F1 x y + 1)))) := hideP (Kp.set _ _ ⟨x, hxk, rfl⟩)
                clear h2 h3 hy hx hF1 bd1 bd2 htl
                go_wp2
                have HA1 : Hid ((wr.setCell ⟨gs x, y, none⟩ (.int .i64 (F1 x y + 1))).cell? ⟨R, 2, none⟩ = some (.slice (some ⟨G, 0, none⟩) k C) ∧ (wr.setCell ⟨gs x, y, none⟩ (.int .i64 (F1 x y + 1))).cell? ⟨g, off + y, none⟩ = some (.int .i64 (x : Int)) ∧ (wr.setCell ⟨gs x, y, none⟩ (.int .i64 (F1 x y + 1))).cell? ⟨G, x, none⟩ = some (.slice (some ⟨gs x, 0, none⟩) k k)) := hideP ⟨(k1.out.cell (p := ⟨R, 2, none⟩) (Nat.lt_of_lt_of_le hRw HKb.out.size) nR).trans r2, (k1.out.cell (p := ⟨g, off + y, none⟩) (Nat.lt_of_lt_of_le FW.out.lt HKb.out.size) nH).trans fy, GP.out.out x hxk⟩
                refine wp_region_held_drew (S := fun w' => w'.cell? ⟨R, 2, none⟩ = some (.slice (some ⟨G, 0, none⟩) k C) ∧ w'.cell? ⟨g, off + y, none⟩ = some (.int .i64 (x : Int)) ∧ w'.cell? ⟨G, x, none⟩ = some (.slice (some ⟨gs x, 0, none⟩) k k)) (by kernel_rfl) ⟨r2, fy, gx⟩ (fun hHeld => ?_)
                refine wpAnyH_take (i := 0) (v := ?vp0) rfl (by kernel_rfl) (by kernel_rfl) (by kernel_rfl) (fun _ _ _ h => h) (Or.inl ⟨by rfl, ?hp0⟩) (by assumption) ?_
                case hp0 => (intro w hSw; (try dsimp only at hSw); go_simp; (try with_reducible rfl))
                simp only [Act.put, List.setIfInBounds_toArray, List.set_cons_zero, List.set_cons_succ]
                refine wpAnyH_take (i := 1) (v := ?vp1) rfl (by kernel_rfl) (by kernel_rfl) (by kernel_rfl) (fun _ _ _ h => h) (Or.inl ⟨by rfl, ?hp1⟩) (by assumption) ?_
                case hp1 => (intro w hSw; (try dsimp only at hSw); go_simp; (try with_reducible rfl))
                simp only [Act.put, List.setIfInBounds_toArray, List.set_cons_zero, List.set_cons_succ]
                refine wpAnyH_take (i := 2) (v := ?vp2) rfl (by kernel_rfl) (by kernel_rfl) (by kernel_rfl) (fun _ _ _ h => h) (Or.inl ⟨by rfl, ?hp2⟩) (by assumption) ?_
                case hp2 => (intro w hSw; (try dsimp only at hSw); go_simp; (try with_reducible rfl))
                simp only [Act.put, List.setIfInBounds_toArray, List.set_cons_zero, List.set_cons_succ]
                refine wpAnyH_take (i := 3) (v := ?vp3) rfl (by kernel_rfl) (by kernel_rfl) (by kernel_rfl) (fun _ _ _ h => h) (Or.inl ⟨by rfl, ?hp3⟩) (by assumption) ?_
                case hp3 => (intro w hSw; (try dsimp only at hSw); go_simp; (try with_reducible rfl))
                simp only [Act.put, List.setIfInBounds_toArray, List.set_cons_zero, List.set_cons_succ]
                refine wpAnyH_take (i := 4) (v := ?vp4) rfl (by kernel_rfl) (by kernel_rfl) (by kernel_rfl) (fun _ _ _ h => h) (Or.inl ⟨by rfl, ?hp4⟩) (by assumption) ?_
                case hp4 => (intro w hSw; (try dsimp only at hSw); go_simp; (try with_reducible rfl))
                simp only [Act.put, List.setIfInBounds_toArray, List.set_cons_zero, List.set_cons_succ]
                refine wpAnyH_take (i := 5) (v := ?vp5) rfl (by kernel_rfl) (by kernel_rfl) (by kernel_rfl) (fun _ _ _ h => h) (Or.inl ⟨by rfl, ?hp5⟩) (by assumption) ?_
                case hp5 => (intro w hSw; (try dsimp only at hSw); go_simp; (try with_reducible rfl))
                simp only [Act.put, List.setIfInBounds_toArray, List.set_cons_zero, List.set_cons_succ]
                refine wpAnyH_take (i := 6) (v := ?vp6) rfl (by kernel_rfl) (by kernel_rfl) (by kernel_rfl) (fun _ _ _ h => h) (Or.inl ⟨by rfl, ?hp6⟩) (by assumption) ?_
                case hp6 => (intro w hSw; (try dsimp only at hSw); go_simp; (try with_reducible rfl))
                simp only [Act.put, List.setIfInBounds_toArray, List.set_cons_zero, List.set_cons_succ]
                refine wpAnyH_take (i := 7) (v := ?vp7) rfl (by kernel_rfl) (by kernel_rfl) (by kernel_rfl) (fun _ _ _ h => h) (Or.inl ⟨by rfl, ?hp7⟩) (by assumption) ?_
                case hp7 => (intro w hSw; (try dsimp only at hSw); go_simp; (try with_reducible rfl))
                simp only [Act.put, List.setIfInBounds_toArray, List.set_cons_zero, List.set_cons_succ]
                refine wpAnyH_take (i := 8) (v := ?vp8) rfl (by kernel_rfl) (by kernel_rfl) (by kernel_rfl) (fun _ _ _ h => h) (Or.inl ⟨by rfl, ?hp8⟩) (by assumption) ?_
                case hp8 => (intro w hSw; (try dsimp only at hSw); go_simp; (try with_reducible rfl))
                simp only [Act.put, List.setIfInBounds_toArray, List.set_cons_zero, List.set_cons_succ]
                refine wpAnyH_take (i := 9) (v := ?vp9) rfl (by kernel_rfl) (by kernel_rfl) (by kernel_rfl) (fun _ _ _ h => h) (Or.inl ⟨by rfl, ?hp9⟩) (by assumption) ?_
                case hp9 => (intro w hSw; (try dsimp only at hSw); go_simp; (try with_reducible rfl))
                simp only [Act.put, List.setIfInBounds_toArray, List.set_cons_zero, List.set_cons_succ]
                refine wpAnyH_take (i := 10) (v := ?vp10) rfl (by kernel_rfl) (by kernel_rfl) (by kernel_rfl) (fun _ _ _ h => h) (Or.inl ⟨by rfl, ?hp10⟩) (by assumption) ?_
                case hp10 => (intro w hSw; (try dsimp only at hSw); go_simp; (try with_reducible rfl))
                simp only [Act.put, List.setIfInBounds_toArray, List.set_cons_zero, List.set_cons_succ]
                refine wpAnyH_take (i := 11) (v := ?vp11) rfl (by kernel_rfl) (by kernel_rfl) (by kernel_rfl) (fun _ _ _ h => h) (Or.inl ⟨by rfl, ?hp11⟩) (by assumption) ?_
                case hp11 => (intro w hSw; (try dsimp only at hSw); go_simp; (try with_reducible rfl))
                simp only [Act.put, List.setIfInBounds_toArray, List.set_cons_zero, List.set_cons_succ]
                refine wpAnyH_take (i := 12) (v := ?vp12) rfl (by kernel_rfl) (by kernel_rfl) (by kernel_rfl) (fun _ _ _ h => h) (Or.inl ⟨by rfl, ?hp12⟩) (by assumption) ?_
                case hp12 => (intro w hSw; (try dsimp only at hSw); go_simp; (try with_reducible rfl))
                simp only [Act.put, List.setIfInBounds_toArray, List.set_cons_zero, List.set_cons_succ]
                refine wpAnyH_take (i := 13) (v := ?vp13) rfl (by kernel_rfl) (by kernel_rfl) (by kernel_rfl) (fun _ _ _ h => h) (Or.inl ⟨by rfl, ?hp13⟩) (by assumption) ?_
                case hp13 => (intro w hSw; (try dsimp only at hSw); go_simp; (try with_reducible rfl))
                simp only [Act.put, List.setIfInBounds_toArray, List.set_cons_zero, List.set_cons_succ]
                refine wpAnyH_take (i := 14) (v := ?vp14) rfl (by kernel_rfl) (by kernel_rfl) (by kernel_rfl) (fun _ _ _ h => h) (Or.inl ⟨by rfl, ?hp14⟩) (by assumption) ?_
                case hp14 => (intro w hSw; (try dsimp only at hSw); go_simp; (try with_reducible rfl))
                simp only [Act.put, List.setIfInBounds_toArray, List.set_cons_zero, List.set_cons_succ]
                refine wpAnyH_take (i := 15) (v := ?vp15) rfl (by kernel_rfl) (by kernel_rfl) (by kernel_rfl) (fun _ _ _ h => h) (Or.inl ⟨by rfl, ?hp15⟩) (by assumption) ?_
                case hp15 => (intro w hSw; (try dsimp only at hSw); go_simp; (try with_reducible rfl))
                simp only [Act.put, List.setIfInBounds_toArray, List.set_cons_zero, List.set_cons_succ]
                refine wpAnyH_take (i := 16) (v := ?vp16) rfl (by kernel_rfl) (by kernel_rfl) (by kernel_rfl) (fun _ _ _ h => h) (Or.inl ⟨by rfl, ?hp16⟩) (by assumption) ?_
                case hp16 => (intro w hSw; (try dsimp only at hSw); go_simp; (try with_reducible rfl))
                simp only [Act.put, List.setIfInBounds_toArray, List.set_cons_zero, List.set_cons_succ]
                refine wpAnyH_take (i := 17) (v := ?vp17) rfl (by kernel_rfl) (by kernel_rfl) (by kernel_rfl) (fun _ _ _ h => h) (Or.inl ⟨by rfl, ?hp17⟩) (by assumption) ?_
                case hp17 => (intro w hSw; (try dsimp only at hSw); go_simp; (try with_reducible rfl))
                simp only [Act.put, List.setIfInBounds_toArray, List.set_cons_zero, List.set_cons_succ]
                refine wpAnyH_take (i := 18) (v := ?vp18) rfl (by kernel_rfl) (by kernel_rfl) (by kernel_rfl) (fun _ _ _ h => h) (Or.inl ⟨by rfl, ?hp18⟩) (by assumption) ?_
                case hp18 => (intro w hSw; (try dsimp only at hSw); go_simp; (try with_reducible rfl))
                simp only [Act.put, List.setIfInBounds_toArray, List.set_cons_zero, List.set_cons_succ]
                refine wpAnyH_take (i := 19) (v := ?vp19) rfl (by kernel_rfl) (by kernel_rfl) (by kernel_rfl) (fun _ _ _ h => h) (Or.inl ⟨by rfl, ?hp19⟩) (by assumption) ?_
                case hp19 => (intro w hSw; (try dsimp only at hSw); go_simp; (try with_reducible rfl))
                simp only [Act.put, List.setIfInBounds_toArray, List.set_cons_zero, List.set_cons_succ]
                refine wpAnyH_take (i := 20) (v := ?vp20) rfl (by kernel_rfl) (by kernel_rfl) (by kernel_rfl) (fun _ _ _ h => h) (Or.inl ⟨by rfl, ?hp20⟩) (by assumption) ?_
                case hp20 => (intro w hSw; (try dsimp only at hSw); go_simp; (try with_reducible rfl))
                simp only [Act.put, List.setIfInBounds_toArray, List.set_cons_zero, List.set_cons_succ]
                refine wpAnyH_take (i := 21) (v := ?vp21) rfl (by kernel_rfl) (by kernel_rfl) (by kernel_rfl) (fun _ _ _ h => h) (Or.inl ⟨by rfl, ?hp21⟩) (by assumption) ?_
                case hp21 => (intro w hSw; (try dsimp only at hSw); go_simp; (try with_reducible rfl))
                simp only [Act.put, List.setIfInBounds_toArray, List.set_cons_zero, List.set_cons_succ]
                refine wpAnyH_take (i := 22) (v := ?vp22) rfl (by kernel_rfl) (by kernel_rfl) (by kernel_rfl) (fun _ _ _ h => h) (Or.inl ⟨by rfl, ?hp22⟩) (by assumption) ?_
                case hp22 => (intro w hSw; (try dsimp only at hSw); go_simp; (try with_reducible rfl))
                simp only [Act.put, List.setIfInBounds_toArray, List.set_cons_zero, List.set_cons_succ]
                refine wpAnyH_ready (rs := [23]) (by kernel_rfl) (by simp) ?_
                refine AllReadyH.cons rfl (fun K hK => ?_) AllReadyH.nil
                go_simp
                refine hK.out _ _ ⟨r2, fy, gx⟩ (fun hHeld => ?_)
                clear hK K
                refine wpAnyH_take (i := 24) (v := ?vp24) rfl (by kernel_rfl) (by kernel_rfl) (by kernel_rfl) (fun _ _ _ h => h) (Or.inl ⟨by rfl, ?hp24⟩) (by assumption) ?_
                case hp24 => (intro w hSw; (try dsimp only at hSw); go_simp; (try with_reducible rfl))
                simp only [Act.put, List.setIfInBounds_toArray, List.set_cons_zero, List.set_cons_succ]
                refine wpAnyH_take (i := 25) (v := ?vvpb) rfl (by kernel_rfl) (by kernel_rfl) (by kernel_rfl) (fun _ _ _ h => h) (Or.inl ⟨by rfl, ?hhpb⟩) (by assumption) ?_
                case hhpb => (intro w hSw; (try dsimp only at hSw); go_simp; (try with_reducible rfl))
                simp only [Act.put, List.setIfInBounds_toArray, List.set_cons_zero, List.set_cons_succ]
                refine wpAnyH_ready (rs := [26]) (by kernel_rfl) (by simp) ?_
                refine AllReadyH.cons rfl (fun K hK => ?_) AllReadyH.nil
                go_simp
                refine hK.out _ _ HA1.out (fun hHeld => ?_)
                clear hK K
                refine wpAnyH_done (by kernel_rfl) ?_ _
                obtain ⟨w6, hw6⟩ : ∃ w6, w6 = (wr.setCell ⟨gs x, y, none⟩ (.int .i64 (F1 x y + 1))).drew := ⟨_, rfl⟩
                have G6 : Hid (Gsr w6 lo G k gs (fun u v => if u = x ∧ v = y then F1 x y + 1 else F1 u v)) := hideP (by rw [hw6]; exact GP.out.next (Below.refl _ _).drew)
                have K6 : Hid (Kp (fun z => ∃ i, i < k ∧ z = gs i) wr w6) := hideP (by rw [hw6]; exact k1.out.trans (Kp.ofB (Below.refl _ _).drew))
                have s2 : w6.cell? ⟨R, 2, none⟩ = some (.slice (some ⟨G, 0, none⟩) k C) := by rw [hw6]; exact HA1.out.1
                have sy : w6.cell? ⟨g, off + y, none⟩ = some (.int .i64 (x : Int)) := by rw [hw6]; exact HA1.out.2.1
                have gy := G6.out.out y hyk
                have cyx : w6.cell? ⟨gs y, x, none⟩ = some (.int .i64 (F1 y x)) := by
                  have this : w6.cell? ⟨gs y, x, none⟩ = some (.int .i64 (if y = x ∧ x = y then F1 x y + 1 else F1 y x)) := (G6.out.row y hyk).1 x hxk
                  rw [if_neg (by rintro ⟨e, _⟩; exact hxy e.symm)] at this
                  exact this
                have fyx := (G6.out.row y hyk).2.1 x
                have GQ := hideP (G6.out.put hyk hxk (F1 y x - 1))
                have k2 : Hid (Kp (fun z => ∃ i, i < k ∧ z = gs i) w6 (w6.setCell ⟨gs y, x, none⟩ (.int .i64 (F1 y x - 1)))) := hideP (Kp.set _ _ ⟨y, hyk, rfl⟩)
                have hR6 : R < w6.heap.size := Nat.lt_of_lt_of_le (Nat.lt_of_lt_of_le hRw HKb.out.size) K6.out.size
                have hg6 : g < w6.heap.size := Nat.lt_of_lt_of_le (Nat.lt_of_lt_of_le FW.out.lt HKb.out.size) K6.out.size
                have HA2 : Hid ((w6.setCell ⟨gs y, x, none⟩ (.int .i64 (F1 y x - 1))).cell? ⟨R, 2, none⟩ = some (.slice (some ⟨G, 0, none⟩) k C) ∧ (w6.setCell ⟨gs y, x, none⟩ (.int .i64 (F1 y x - 1))).cell? ⟨g, off + y, none⟩ = some (.int .i64 (x : Int)) ∧ (w6.setCell ⟨gs y, x, none⟩ (.int .i64 (F1 y x - 1))).cell? ⟨G, y, none⟩ = some (.slice (some ⟨gs y, 0, none⟩) k k)) := hideP ⟨(k2.out.cell (p := ⟨R, 2, none⟩) hR6 nR).trans s2, (k2.out.cell (p := ⟨g, off + y, none⟩) hg6 nH).trans sy, GQ.out.out y hyk⟩
                rw [← hw6]
                clear hw6 GP k1 r2 fy gx cxy fxy HA1
                go_wp2
                refine wp_region_held_drew (S := fun w' => w'.cell? ⟨R, 2, none⟩ = some (.slice (some ⟨G, 0, none⟩) k C) ∧ w'.cell? ⟨g, off + y, none⟩ = some (.int .i64 (x : Int)) ∧ w'.cell? ⟨G, y, none⟩ = some (.slice (some ⟨gs y, 0, none⟩) k k)) (by kernel_rfl) ⟨s2, sy, gy⟩ (fun hHeld => ?_)
                refine wpAnyH_take (i := 0) (v := ?vq0) rfl (by kernel_rfl) (by kernel_rfl) (by kernel_rfl) (fun _ _ _ h => h) (Or.inl ⟨by rfl, ?hq0⟩) (by assumption) ?_
                case hq0 => (intro w hSw; (try dsimp only at hSw); go_simp; (try with_reducible rfl))
                simp only [Act.put, List.setIfInBounds_toArray, List.set_cons_zero, List.set_cons_succ]
                refine wpAnyH_take (i := 1) (v := ?vq1) rfl (by kernel_rfl) (by kernel_rfl) (by kernel_rfl) (fun _ _ _ h => h) (Or.inl ⟨by rfl, ?hq1⟩) (by assumption) ?_
                case hq1 => (intro w hSw; (try dsimp only at hSw); go_simp; (try with_reducible rfl))
                simp only [Act.put, List.setIfInBounds_toArray, List.set_cons_zero, List.set_cons_succ]
                refine wpAnyH_take (i := 2) (v := ?vq2) rfl (by kernel_rfl) (by kernel_rfl) (by kernel_rfl) (fun _ _ _ h => h) (Or.inl ⟨by rfl, ?hq2⟩) (by assumption) ?_
                case hq2 => (intro w hSw; (try dsimp only at hSw); go_simp; (try with_reducible rfl))
                simp only [Act.put, List.setIfInBounds_toArray, List.set_cons_zero, List.set_cons_succ]
                refine wpAnyH_take (i := 3) (v := ?vq3) rfl (by kernel_rfl) (by kernel_rfl) (by kernel_rfl) (fun _ _ _ h => h) (Or.inl ⟨by rfl, ?hq3⟩) (by assumption) ?_
                case hq3 => (intro w hSw; (try dsimp only at hSw); go_simp; (try with_reducible rfl))
                simp only [Act.put, List.setIfInBounds_toArray, List.set_cons_zero, List.set_cons_succ]
                refine wpAnyH_take (i := 4) (v := ?vq4) rfl (by kernel_rfl) (by kernel_rfl) (by kernel_rfl) (fun _ _ _ h => h) (Or.inl ⟨by rfl, ?hq4⟩) (by assumption) ?_
                case hq4 => (intro w hSw; (try dsimp only at hSw); go_simp; (try with_reducible rfl))
                simp only [Act.put, List.setIfInBounds_toArray, List.set_cons_zero, List.set_cons_succ]
                refine wpAnyH_take (i := 5) (v := ?vq5) rfl (by kernel_rfl) (by kernel_rfl) (by kernel_rfl) (fun _ _ _ h => h) (Or.inl ⟨by rfl, ?hq5⟩) (by assumption) ?_
                case hq5 => (intro w hSw; (try dsimp only at hSw); go_simp; (try with_reducible rfl))
                simp only [Act.put, List.setIfInBounds_toArray, List.set_cons_zero, List.set_cons_succ]
                refine wpAnyH_take (i := 6) (v := ?vq6) rfl (by kernel_rfl) (by kernel_rfl) (by kernel_rfl) (fun _ _ _ h => h) (Or.inl ⟨by rfl, ?hq6⟩) (by assumption) ?_
                case hq6 => (intro w hSw; (try dsimp only at hSw); go_simp; (try with_reducible rfl))
                simp only [Act.put, List.setIfInBounds_toArray, List.set_cons_zero, List.set_cons_succ]
                refine wpAnyH_take (i := 7) (v := ?vq7) rfl (by kernel_rfl) (by kernel_rfl) (by kernel_rfl) (fun _ _ _ h => h) (Or.inl ⟨by rfl, ?hq7⟩) (by assumption) ?_
                case hq7 => (intro w hSw; (try dsimp only at hSw); go_simp; (try with_reducible rfl))
                simp only [Act.put, List.setIfInBounds_toArray, List.set_cons_zero, List.set_cons_succ]
                refine wpAnyH_take (i := 8) (v := ?vq8) rfl (by kernel_rfl) (by kernel_rfl) (by kernel_rfl) (fun _ _ _ h => h) (Or.inl ⟨by rfl, ?hq8⟩) (by assumption) ?_
                case hq8 => (intro w hSw; (try dsimp only at hSw); go_simp; (try with_reducible rfl))
                simp only [Act.put, List.setIfInBounds_toArray, List.set_cons_zero, List.set_cons_succ]
                refine wpAnyH_take (i := 9) (v := ?vq9) rfl (by kernel_rfl) (by kernel_rfl) (by kernel_rfl) (fun _ _ _ h => h) (Or.inl ⟨by rfl, ?hq9⟩) (by assumption) ?_
                case hq9 => (intro w hSw; (try dsimp only at hSw); go_simp; (try with_reducible rfl))
                simp only [Act.put, List.setIfInBounds_toArray, List.set_cons_zero, List.set_cons_succ]
                refine wpAnyH_take (i := 10) (v := ?vq10) rfl (by kernel_rfl) (by kernel_rfl) (by kernel_rfl) (fun _ _ _ h => h) (Or.inl ⟨by rfl, ?hq10⟩) (by assumption) ?_
                case hq10 => (intro w hSw; (try dsimp only at hSw); go_simp; (try with_reducible rfl))
                simp only [Act.put, List.setIfInBounds_toArray, List.set_cons_zero, List.set_cons_succ]
                refine wpAnyH_take (i := 11) (v := ?vq11) rfl (by kernel_rfl) (by kernel_rfl) (by kernel_rfl) (fun _ _ _ h => h) (Or.inl ⟨by rfl, ?hq11⟩) (by assumption) ?_
                case hq11 => (intro w hSw; (try dsimp only at hSw); go_simp; (try with_reducible rfl))
                simp only [Act.put, List.setIfInBounds_toArray, List.set_cons_zero, List.set_cons_succ]
                refine wpAnyH_take (i := 12) (v := ?vq12) rfl (by kernel_rfl) (by kernel_rfl) (by kernel_rfl) (fun _ _ _ h => h) (Or.inl ⟨by rfl, ?hq12⟩) (by assumption) ?_
                case hq12 => (intro w hSw; (try dsimp only at hSw); go_simp; (try with_reducible rfl))
                simp only [Act.put, List.setIfInBounds_toArray, List.set_cons_zero, List.set_cons_succ]
                refine wpAnyH_take (i := 13) (v := ?vq13) rfl (by kernel_rfl) (by kernel_rfl) (by kernel_rfl) (fun _ _ _ h => h) (Or.inl ⟨by rfl, ?hq13⟩) (by assumption) ?_
                case hq13 => (intro w hSw; (try dsimp only at hSw); go_simp; (try with_reducible rfl))
                simp only [Act.put, List.setIfInBounds_toArray, List.set_cons_zero, List.set_cons_succ]
                refine wpAnyH_take (i := 14) (v := ?vq14) rfl (by kernel_rfl) (by kernel_rfl) (by kernel_rfl) (fun _ _ _ h => h) (Or.inl ⟨by rfl, ?hq14⟩) (by assumption) ?_
                case hq14 => (intro w hSw; (try dsimp only at hSw); go_simp; (try with_reducible rfl))
                simp only [Act.put, List.setIfInBounds_toArray, List.set_cons_zero, List.set_cons_succ]
                refine wpAnyH_take (i := 15) (v := ?vq15) rfl (by kernel_rfl) (by kernel_rfl) (by kernel_rfl) (fun _ _ _ h => h) (Or.inl ⟨by rfl, ?hq15⟩) (by assumption) ?_
                case hq15 => (intro w hSw; (try dsimp only at hSw); go_simp; (try with_reducible rfl))
                simp only [Act.put, List.setIfInBounds_toArray, List.set_cons_zero, List.set_cons_succ]
                refine wpAnyH_take (i := 16) (v := ?vq16) rfl (by kernel_rfl) (by kernel_rfl) (by kernel_rfl) (fun _ _ _ h => h) (Or.inl ⟨by rfl, ?hq16⟩) (by assumption) ?_
                case hq16 => (intro w hSw; (try dsimp only at hSw); go_simp; (try with_reducible rfl))
                simp only [Act.put, List.setIfInBounds_toArray, List.set_cons_zero, List.set_cons_succ]
                refine wpAnyH_take (i := 17) (v := ?vq17) rfl (by kernel_rfl) (by kernel_rfl) (by kernel_rfl) (fun _ _ _ h => h) (Or.inl ⟨by rfl, ?hq17⟩) (by assumption) ?_
                case hq17 => (intro w hSw; (try dsimp only at hSw); go_simp; (try with_reducible rfl))
                simp only [Act.put, List.setIfInBounds_toArray, List.set_cons_zero, List.set_cons_succ]
                refine wpAnyH_take (i := 18) (v := ?vq18) rfl (by kernel_rfl) (by kernel_rfl) (by kernel_rfl) (fun _ _ _ h => h) (Or.inl ⟨by rfl, ?hq18⟩) (by assumption) ?_
                case hq18 => (intro w hSw; (try dsimp only at hSw); go_simp; (try with_reducible rfl))
                simp only [Act.put, List.setIfInBounds_toArray, List.set_cons_zero, List.set_cons_succ]
                refine wpAnyH_take (i := 19) (v := ?vq19) rfl (by kernel_rfl) (by kernel_rfl) (by kernel_rfl) (fun _ _ _ h => h) (Or.inl ⟨by rfl, ?hq19⟩) (by assumption) ?_
                case hq19 => (intro w hSw; (try dsimp only at hSw); go_simp; (try with_reducible rfl))
                simp only [Act.put, List.setIfInBounds_toArray, List.set_cons_zero, List.set_cons_succ]
                refine wpAnyH_take (i := 20) (v := ?vq20) rfl (by kernel_rfl) (by kernel_rfl) (by kernel_rfl) (fun _ _ _ h => h) (Or.inl ⟨by rfl, ?hq20⟩) (by assumption) ?_
                case hq20 => (intro w hSw; (try dsimp only at hSw); go_simp; (try with_reducible rfl))
                simp only [Act.put, List.setIfInBounds_toArray, List.set_cons_zero, List.set_cons_succ]
                refine wpAnyH_take (i := 21) (v := ?vq21) rfl (by kernel_rfl) (by kernel_rfl) (by kernel_rfl) (fun _ _ _ h => h) (Or.inl ⟨by rfl, ?hq21⟩) (by assumption) ?_
                case hq21 => (intro w hSw; (try dsimp only at hSw); go_simp; (try with_reducible rfl))
                simp only [Act.put, List.setIfInBounds_toArray, List.set_cons_zero, List.set_cons_succ]
                refine wpAnyH_take (i := 22) (v := ?vq22) rfl (by kernel_rfl) (by kernel_rfl) (by kernel_rfl) (fun _ _ _ h => h) (Or.inl ⟨by rfl, ?hq22⟩) (by assumption) ?_
                case hq22 => (intro w hSw; (try dsimp only at hSw); go_simp; (try with_reducible rfl))
                simp only [Act.put, List.setIfInBounds_toArray, List.set_cons_zero, List.set_cons_succ]
                refine wpAnyH_ready (rs := [23]) (by kernel_rfl) (by simp) ?_
                refine AllReadyH.cons rfl (fun K hK => ?_) AllReadyH.nil
                go_simp
                refine hK.out _ _ ⟨s2, sy, gy⟩ (fun hHeld => ?_)
                clear hK K
                refine wpAnyH_take (i := 24) (v := ?vq24) rfl (by kernel_rfl) (by kernel_rfl) (by kernel_rfl) (fun _ _ _ h => h) (Or.inl ⟨by rfl, ?hq24⟩) (by assumption) ?_
                case hq24 => (intro w hSw; (try dsimp only at hSw); go_simp; (try with_reducible rfl))
                simp only [Act.put, List.setIfInBounds_toArray, List.set_cons_zero, List.set_cons_succ]
                refine wpAnyH_take (i := 25) (v := ?vvqb) rfl (by kernel_rfl) (by kernel_rfl) (by kernel_rfl) (fun _ _ _ h => h) (Or.inl ⟨by rfl, ?hhqb⟩) (by assumption) ?_
                case hhqb => (intro w hSw; (try dsimp only at hSw); go_simp; (try with_reducible rfl))
                simp only [Act.put, List.setIfInBounds_toArray, List.set_cons_zero, List.set_cons_succ]
                refine wpAnyH_ready (rs := [26]) (by kernel_rfl) (by simp) ?_
                refine AllReadyH.cons rfl (fun K hK => ?_) AllReadyH.nil
                go_simp
                refine hK.out _ _ HA2.out (fun hHeld => ?_)
                clear hK K
                refine wpAnyH_done (by kernel_rfl) ?_ _
                have G7 : Hid (Gsr (w6.setCell ⟨gs y, x, none⟩ (.int .i64 (F1 y x - 1))).drew lo G k gs (goB F (L.take (i + 1 + 1)))) := hideP (by
                  refine (GQ.out.next (Below.refl _ _).drew).congr (fun u v _ _ => ?_)
                  rw [F2.out]
                  unfold goE
                  by_cases e1 : u = y ∧ v = x
                  · rw [if_pos e1, if_pos e1, if_neg (by rintro ⟨e, _⟩; exact hxy (e.symm.trans e1.1)), e1.1, e1.2]; omega
                  · rw [if_neg e1, if_neg e1]
                    by_cases e2 : u = x ∧ v = y
                    · rw [if_pos e2, if_pos e2, e2.1, e2.2]; omega
                    · rw [if_neg e2, if_neg e2]; omega)
                have K7 : Hid (Kp (fun z => ∃ i, i < k ∧ z = gs i) wo (w6.setCell ⟨gs y, x, none⟩ (.int .i64 (F1 y x - 1))).drew) := hideP ((HKb.out.trans (K6.out.trans k2.out)).trans (Kp.ofB (Below.refl _ _).drew))
                have t2 := HA2.out.2.1
                clear GQ k2 s2 sy gy cyx fyx HA2 G6 K6 hHeld
                go_wp2
                go_roundg (gk - 1)
                case measure => omega
                case rel => exact ⟨i + 1, by omega, by rw [← HXN.out], G7.out, K7.out⟩

end Go.Proofs.YtljnjpjnadlmhaaDoor
