/- Walk of spec.BridgeParts. -/
import Derived.Test.YtmkbeiiifikbgaaDoorPartMathE
import Derived.Test.YtmkbeiiifikbgaaDoorPartWBridgeS
import Derived.Test.YtmkbeiiifikbgaaDoorPartWCopy
import Derived.Test.YtmkbeiiifikbgaaDoorPartWReach2
import Derived.Deep.RegionWith
namespace Go.Proofs.YtmkbeiiifikbgaaDoor
open Go.RowKit
set_option linter.unusedVariables false

/-- a net in a variable X of this call, its ties in a later block -/
structure XN (wr : World) (X : Nat) (K : Int) (ao : Option Addr) (cap : Nat) (us : List (Int × Int)) : Prop where
  c0 : wr.cell? ⟨X, 0, none⟩ = some (.int .i64 K)
  c1 : wr.cell? ⟨X, 1, none⟩ = some (.slice ao us.length cap)
  f0 : wr.frozen? ⟨X, 0, none⟩ = false
  f1 : wr.frozen? ⟨X, 1, none⟩ = false
  lt : X < wr.heap.size
  ties : TiesIn wr wr.heap.size ao us
theorem XN.next {w w' : World} {X : Nat} {K : Int} {ao : Option Addr} {cap : Nat} {us : List (Int × Int)} (h : XN w X K ao cap us) (hb : Below w.heap.size w w') : XN w' X K ao cap us :=
  ⟨(hb.cell (p := ⟨X, 0, none⟩) h.lt).trans h.c0, (hb.cell (p := ⟨X, 1, none⟩) h.lt).trans h.c1, (hb.frozen (p := ⟨X, 0, none⟩) h.lt).trans h.f0, (hb.frozen (p := ⟨X, 1, none⟩) h.lt).trans h.f1, Nat.lt_of_lt_of_le h.lt hb.size, (h.ties.below hb (Nat.le_refl _)).wide hb.size⟩
theorem turned_set (X : Nat) (w : World) (K : Int) (v : Value) : Turned X (X + 1) w ((w.setCell ⟨X, 0, none⟩ (.int .i64 K)).setCell ⟨X, 1, none⟩ v) :=
  ⟨rfl, rfl, rfl, by simp [World.setCell], fun k _ ho => (Below.heap_setCell _ _ _ _ (by show k ≠ X; omega)).trans (Below.heap_setCell _ _ _ _ (by show k ≠ X; omega))⟩
/-- another net goes into the variable -/
theorem XN.put {w : World} {X : Nat} {K K' : Int} {ao ao' : Option Addr} {cap cap' lo hi : Nat} {us us' : List (Int × Int)} (h : XN w X K ao cap us) (ho : OwnN w lo hi ao' us'.length (tcell us')) (hl : X + 1 ≤ lo) (hh : hi ≤ w.heap.size) :
    XN ((w.setCell ⟨X, 0, none⟩ (.int .i64 K')).setCell ⟨X, 1, none⟩ (.slice ao' us'.length cap')) X K' ao' cap' us' := by
  have ht := turned_set X w K' (.slice ao' us'.length cap')
  refine ⟨(World.cell?_setCell_other _ _ _ _ (by simp)).trans (World.cell?_setCell_same _ _ _ h.c0), World.cell?_setCell_same _ _ _ ((World.cell?_setCell_other _ _ _ _ (by simp)).trans h.c1), by rw [World.frozen?_setCell, World.frozen?_setCell]; exact h.f0, by rw [World.frozen?_setCell, World.frozen?_setCell]; exact h.f1, Nat.lt_of_lt_of_le h.lt ht.size, ?_⟩
  exact (ho.aside ht (Or.inr hl)).ties (Nat.le_trans hh ht.size)

set_option maxHeartbeats 1600000 in
theorem specBParts_any (lo hi : Nat) (K : Int) (ao : Option Addr) (cap : Nat) (ts : List (Int × Int)) (w : World) (hn : ts.length ≤ 1099511627776) (ho : OwnN w lo hi ao ts.length (tcell ts)) (hhi : hi ≤ w.heap.size) :
    Calls Tryd.prog 16 #[.agg #[.int .i64 K, .slice ao ts.length cap]] w fun e w' => ∃ g off cap', e = .returned (.slice (some ⟨g, off, none⟩) (partN (nbK K ts) (nbTs K ts)) cap') ∧ RowS w' w.heap.size g off cap' ((List.range (partN (nbK K ts) (nbTs K ts))).map (topN (nbTs K ts))) ∧ Below w.heap.size w w' := by
  have X0 := fun (t : TypeId) => Bx.start w K (.slice ao ts.length cap) t
  have HX0 := hideP X0
  have HO := hideP ho
  have HT := hideP (ho.ties hhi)
  clear X0 ho
  cases hok : okB K ts
  · have HN : Hid (partN (nbK K ts) (nbTs K ts) = 0) := by show partN (nbK K ts) (nbTs K ts) = 0; rw [nbK_no hok, nbTs_no hok]; unfold partN; split <;> rfl
    have HOK := hideP hok
    clear hok
    go_enter Tryd.func16, Tryd.ntmps16
    go_wp2_with fail
    refine (specOk_is false K ao cap ts _ hn ((HT.out.below (HX0.out _).B (Nat.le_refl _)).wide (Nat.le_of_lt (HX0.out _).lt)) HOK.out).mono ?_
    rintro e w1 ⟨rfl, hb1⟩
    have X1 := hideP ((HX0.out _).next hb1)
    clear hb1
    have R1 : ∀ t, Hid (RowS (w1.alloc (.cells #[] t)) w1.heap.size w1.heap.size 0 0 []) := fun t => RowS.new w1 t
    have B1 : ∀ t, Hid (Below w.heap.size w (w1.alloc (.cells #[] t))) := fun t => X1.out.B.trans ((below_one w1 _).mono X1.out.B.size)
    have hle := X1.out.B.size
    go_wp2
    go_ret
    refine ⟨w1.heap.size, 0, 0, by rw [HN.out]; rfl, ?_, (B1 _).out⟩
    rw [HN.out]
    exact (R1 _).out.down hle
  have HOK := hideP hok
  have hlen := ok_short (okB_iff.1 hok)
  have hK := (okB_iff.1 hok).1
  have HKK : Hid (nbK K ts = K) := nbK_yes hok
  have HEND := hideP (cutAll_end hok)
  have HSTEP := hideP (fun i hi => cutAll_step hok (i := i) hi)
  have hbl := brTs_len K ts
  obtain ⟨bs, hbs⟩ : ∃ bs, bs = brTs K ts := ⟨_, rfl⟩
  have HBS := hideP hbs
  rw [← hbs] at HEND HSTEP hbl
  clear hok hbs
  go_enter Tryd.func16, Tryd.ntmps16
  go_wp2_with fail
  refine (specOk_is true K ao cap ts _ hn ((HT.out.below (HX0.out _).B (Nat.le_refl _)).wide (Nat.le_of_lt (HX0.out _).lt)) HOK.out).mono ?_
  rintro e w1 ⟨rfl, hb1⟩
  have X1 := hideP ((HX0.out _).next hb1)
  have O1 : Hid (OwnN w1 lo hi ao ts.length (tcell ts)) := by
    rcases HO.out with h | ⟨g, e, h1, h2, h3⟩
    · exact Or.inl h
    · exact Or.inr ⟨g, e, h1, h2, h3.below X1.out.B (by omega)⟩
  clear hb1 HX0
  have c0 := X1.out.c0
  have c1 := X1.out.c1
  go_wp2_with fail
  refine (l1Copy_any lo hi K ao cap ts _ (by omega) O1.out).mono ?_
  rintro e w2 ⟨aoX, capX, rfl, ho2, hb2⟩
  have X2' := X1.out.next hb2
  have bx := below_one w2 (.cells #[.int .i64 K, .slice aoX ts.length capX] 25)
  have X2 := hideP (X2'.next bx)
  have NT : Hid (TiesIn (w2.alloc (.cells #[.int .i64 K, .slice aoX ts.length capX] 25)) (w2.alloc (.cells #[.int .i64 K, .slice aoX ts.length capX] 25)).heap.size ao ts) := (HT.out.below X2.out.B (Nat.le_refl _)).wide (Nat.le_of_lt X2.out.lt)
  have V2 : Hid (XN (w2.alloc (.cells #[.int .i64 K, .slice aoX ts.length capX] 25)) w2.heap.size K aoX capX ts) :=
    ⟨by simp, by simp, by simp, by simp, by simp, (((OwnN.of_row ho2).ties (Nat.le_refl _)).below bx (Nat.le_refl _)).wide bx.size⟩
  have d0 := X2'.c0
  have d1 := X2'.c1
  have dl := X2'.lt
  clear c0 c1 X1 O1 HO HT hb2 ho2 X2' bx
  go_wp2_with fail
  refine (specBridges_any K ao cap ts _ hn NT.out).mono ?_
  rw [← HBS.out]
  rintro e w3 ⟨aoL, capL, rfl, ho3, hb3⟩
  have X3 := hideP (X2.out.next hb3)
  have V3 := hideP (V2.out.next hb3)
  obtain ⟨X, hX⟩ : ∃ x, x = w2.heap.size := ⟨_, rfl⟩
  have L3 : Hid (OwnN w3 (X + 1) w3.heap.size aoL bs.length (tcell bs)) := by show OwnN w3 (X + 1) w3.heap.size aoL bs.length (tcell bs); rw [hX]; simpa using ho3
  have HXw : Hid (w.heap.size < X) := by rw [hX]; exact dl
  rw [← hX] at V3 ⊢
  have HB3 := hideP X3.out.B
  obtain ⟨hL, hhL⟩ : ∃ x, x = w3.heap.size := ⟨_, rfl⟩
  rw [← hhL] at L3
  have hLle : hL ≤ w3.heap.size := by omega
  clear d0 d1 dl hX hhL NT X2 V2 X3 hb3 ho3
  go_wp2
  go_loopw [5] (fun i wr => ∃ k aoX capX, k ≤ bs.length ∧ i = .int .i64 (k : Nat) ∧ XN wr X K aoX capX (cutAll K ts k) ∧ OwnN wr (X + 1) hL aoL bs.length (tcell bs) ∧ hL ≤ wr.heap.size ∧ Below w.heap.size w wr)
    (fun i _ => bs.length - (intOf i).toNat)
  case atStart => exact ⟨0, aoX, capX, Nat.zero_le _, rfl, by rw [cutAll_zero]; exact V3.out, L3.out, hLle, HB3.out⟩
  case round =>
    obtain ⟨k, aoY, capY, hk, rfl, hV, hLL, hhi', hBB⟩ := hrel
    have v0 := hV.c0
    have v1 := hV.c1
    have f0 := hV.f0
    have f1 := hV.f1
    have hXl := hV.lt
    have hcl : (cutAll K ts k).length ≤ 1099511627776 := by have := List.length_filter_le (fun t => !decide (t ∈ (brTs K ts).take k)) ts; unfold cutAll; omega
    by_cases hlt : k < bs.length
    · obtain ⟨hs1, hs2⟩ := HSTEP.out k hlt
      have hk0 : (0 : Int) ≤ (k : Int) := by omega
      have hk1 : (k : Int) < (bs.length : Int) := by omega
      have TL := hLL.ties hhi'
      obtain ⟨g, off, rfl, hgw, e0, e1⟩ := TL k hlt
      obtain ⟨a, ha⟩ : ∃ a, a = tA bs k := ⟨_, rfl⟩
      obtain ⟨b, hb'⟩ : ∃ b, b = tB bs k := ⟨_, rfl⟩
      rw [← ha] at e0 hs1 hs2
      rw [← hb'] at e1 hs1 hs2
      have HS : Hid (cutK K (cutAll K ts k) a b = K ∧ cutTs K (cutAll K ts k) a b = cutAll K ts (k + 1) ∧ cutB K (cutAll K ts k) a b = true) := ⟨cutK_yes hs1, hs2, hs1⟩
      obtain ⟨xs, hxs⟩ : ∃ xs, xs = cutAll K ts k := ⟨_, rfl⟩
      obtain ⟨ys, hys⟩ : ∃ ys, ys = cutAll K ts (k + 1) := ⟨_, rfl⟩
      have HYS := hideP hys
      rw [← hxs] at HS hV v1 hcl
      rw [← hys] at HS
      have Vd := hideP (hV.next (Below.refl _ _).drew)
      have Ld := hideP (hLL.next (Below.refl _ _).drew)
      have HBd := hideP hBB.drew
      clear hs1 hs2 ha hb' hxs hys hV hLL hBB TL
      go_wp2
      go_region_with (go_at_call 54; refine (specCut_all K aoY capY xs a b _ hcl Vd.out.ties).mono ?_; rw [HS.out.1, HS.out.2.1, HS.out.2.2]; rintro e w5 ⟨ao5, cap5, rfl, ho5, hb5⟩; have V5 := hideP (Vd.out.next hb5); have L5 := hideP (Ld.out.next hb5); have HB5 := hideP (HBd.out.trans (hb5.mono HBd.out.size)); have O5 := hideP ho5; have s5 := hb5.size; have w0 := V5.out.c0; have w1 := V5.out.c1; have z0 := V5.out.f0; have z1 := V5.out.f1; clear hb5 ho5)
      all_goals
        have V6 : Hid (XN ((w5.setCell ⟨X, 0, none⟩ (.int .i64 K)).setCell ⟨X, 1, none⟩ (.slice ao5 ys.length cap5)) X K ao5 cap5 ys) := V5.out.put O5.out hXl (Nat.le_refl _)
        have L6 : Hid (OwnN ((w5.setCell ⟨X, 0, none⟩ (.int .i64 K)).setCell ⟨X, 1, none⟩ (.slice ao5 ys.length cap5)) (X + 1) hL (some ⟨g, off, none⟩) bs.length (tcell bs)) := L5.out.aside (turned_set X w5 K _) (Or.inr (Nat.le_refl _))
        have HB6 : Hid (Below w.heap.size w ((w5.setCell ⟨X, 0, none⟩ (.int .i64 K)).setCell ⟨X, 1, none⟩ (.slice ao5 ys.length cap5))) := (HB5.out.setCell (p := ⟨X, 0, none⟩) (Nat.le_of_lt HXw.out) _).setCell (p := ⟨X, 1, none⟩) (Nat.le_of_lt HXw.out) _
        have hz6 : hL ≤ ((w5.setCell ⟨X, 0, none⟩ (.int .i64 K)).setCell ⟨X, 1, none⟩ (.slice ao5 ys.length cap5)).heap.size := by have : wr.heap.size ≤ w5.heap.size := s5; simp [World.setCell]; omega
        obtain ⟨w6, hw6⟩ : ∃ w6, w6 = (w5.setCell ⟨X, 0, none⟩ (.int .i64 K)).setCell ⟨X, 1, none⟩ (.slice ao5 ys.length cap5) := ⟨_, rfl⟩
        rw [← hw6] at V6 L6 HB6 hz6 ⊢
        clear hw6 w0 w1 z0 z1 V5 L5 HB5 O5
        go_wp2
        go_roundw
        case rel => exact ⟨k + 1, ao5, cap5, by omega, by go_num, by rw [← HYS.out]; exact V6.out, L6.out, hz6, HB6.out⟩
        case measure => simp [intOf]; omega
    · obtain rfl : k = bs.length := by omega
      rw [HEND.out] at hV v1 hcl
      obtain ⟨zs, hzs⟩ : ∃ zs, zs = nbTs K ts := ⟨_, rfl⟩
      have HZS := hideP hzs
      rw [← hzs] at hV v1 hcl
      have HV := hideP hV
      have HB := hideP hBB
      clear hzs hV hBB hLL f0 f1
      go_wp2_with fail
      refine (specParts_any K aoY capY zs _ hcl HV.out.ties).mono ?_
      rintro e w5 ⟨g5, off5, cap5, rfl, hR5, hb5⟩
      have HB5 := hideP (HB.out.trans (hb5.mono HB.out.size))
      have R5 := hideP (hR5.down HB.out.size)
      clear hb5 hR5
      go_wp2
      go_ret
      rw [HKK.out, ← HZS.out]
      exact ⟨g5, off5, cap5, rfl, R5.out, HB5.out⟩

end Go.Proofs.YtmkbeiiifikbgaaDoor
