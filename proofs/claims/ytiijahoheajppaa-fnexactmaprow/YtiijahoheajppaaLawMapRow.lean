/- For all names that come, every table and all values the landed MapRow answers as the given one does, leaves them as they were, and its answer owns its memory: 'FnExactMapRow' returns true at every argument, with no condition; its arguments read afterwards as they read before. -/
import Derived.Test.YtiijahoheajppaaMrx
import Derived.Test.YtiijahoheajppaaMry
import Derived.Test.YtiijahoheajppaaOpenV
import Derived.Test.YtiijahoheajppaaCn
import Derived.Test.YtiijahoheajppaaOrd
import Derived.Test.YtiijahoheajppaaOpenV
import Derived.Test.YtiijahoheajppaaOpenV
import Derived.Deep.DeepCutAuto
namespace Go.Proofs.Ytiijahoheajppaa.lawMapRow
open Go.ChangeShapes Go.WideShapes Go.ChangeAt Go.RowKit

theorem restOf_nil (t : Tc) : restOf t [] = defs t := by
  unfold restOf
  split
  · rename_i h
    simp at h
    simp [defs, List.length_eq_zero_iff.1 h.symm]
  · rfl
theorem turnL {w w' : World} {b : Nat} {x : Array Value} (h : Loc w b x) {S : Nat → Prop} (k : Turns S w w') (hb : ¬ S b) : Loc w' b x := fun j hj => k.cell (p := ⟨b, j, none⟩) hb (h j hj)
/-- Values lie in another block than a row's variable. -/
theorem Got.past {w : World} {B : Nat} {v : Value} {xs : List (Array Value)} {X : Nat} {y : Array Value} (h : Got w B 58 3 v xs) (hX : Own w X 41 y) (u : Value) : Got (w.setCell ⟨X, 0, none⟩ u) B 58 3 v xs :=
  h.turned ((Turns.refl (· = X) w).set (p := ⟨X, 0, none⟩) rfl u) fun c hc hs => by
    obtain ⟨cur, e⟩ := h.tag hc
    have hs : c = X := hs
    subst hs
    have e' : w.heap[c]? = some (.cells y 41) := hX
    rw [e] at e'
    cases e'
theorem Got.notX {w : World} {B : Nat} {v : Value} {xs : List (Array Value)} {X : Nat} {y : Array Value} (h : Got w B 58 3 v xs) (hX : Own w X 41 y) : v.ownBlock ≠ some X := fun hc => by
  obtain ⟨cur, e⟩ := h.tag hc
  have e' : w.heap[X]? = some (.cells y 41) := hX
  rw [e] at e'
  cases e'
theorem markVals_own {w : World} {B : Nat} {T : TypeId} {v : Value} {xs : List (Array Value)} (h : Got w B T 3 v xs) (hl : xs.length ≤ 1048576) (k : Nat) (hk : k ≤ 8000000000000000000) :
    Calls Try.prog 22 #[v, .int .i64 k] w fun e w' => e = .returned (.int .i64 ((k + xs.length * 3 : Nat) : Int)) ∧ Turns (fun c => v.ownBlock = some c) w w' ∧ Held w' v k xs.length := by
  obtain ⟨h0, h1, h2⟩ := h
  rcases h2 with ⟨rfl, hn⟩ | ⟨g, cap, cur, rfl, hb, hg, hc1, hc2, hs, ht⟩
  · refine (markValS_nil k w).mono fun e w' ⟨he, hb⟩ => ⟨?_, Turns.below (Turns.refl _ _) hb, Or.inl ⟨rfl, hn⟩⟩
    rw [he, hn]; simp
  · have hr : w.rowIs g T (cap * 3) (fun i => cur.getD i default) := ⟨cur, hg, hs, fun i hi => by simp [Array.getD, hs, hi]⟩
    refine (markValS_any g xs.length cap (cap * 3) T _ k w hr (Nat.mul_le_mul_right _ hc1) hl hk).mono fun e w' ⟨he, hT, hR⟩ => ⟨he, hT.mono fun c hc => by have hc : c = g := hc; subst hc; rfl, Or.inr ⟨g, cap, cap * 3, T, _, rfl, hR, Nat.mul_le_mul_right _ hc1, fun i hi => by simp [hi]⟩⟩
set_option maxRecDepth 100000 in
set_option maxHeartbeats 1000000 in
/-- laws.markRow -/
theorem markRow_got {w : World} {B : Nat} {v : Value} {xs : List (Array Value)} (h : Got w B 58 3 v xs) (hl : xs.length ≤ 1048576) :
    Calls Try.prog 23 #[.agg #[v], .int .i64 1] w fun e w' => e = .returned (.int .i64 ((1 + xs.length * 3 : Nat) : Int)) ∧ Turns (fun c => v.ownBlock = some c) w w' ∧ Held w' v 1 xs.length := by
  obtain ⟨a, n, c, rfl, h⟩ := h.lit2
  have hb : Below w.heap.size w (w.alloc (.cells #[.slice a n c] 41)) := ch_alloc (Below.refl _ _) _
  have HM : Hid (Calls Try.prog 22 #[.slice a n c, .int .i64 1] (w.alloc (.cells #[.slice a n c] 41)) fun e w' => e = .returned (.int .i64 ((1 + xs.length * 3 : Nat) : Int)) ∧ Turns (fun g => (Value.slice a n c).ownBlock = some g) (w.alloc (.cells #[.slice a n c] 41)) w' ∧ Held w' (.slice a n c) 1 xs.length) := markVals_own (h.on hb) hl 1 (by omega)
  have HT0 : Hid (Turns (fun g => (Value.slice a n c).ownBlock = some g) w (w.alloc (.cells #[.slice a n c] 41))) := (Turns.refl _ _).below hb
  clear h
  generalize 1 + xs.length * 3 = K at HM ⊢
  go_enter Try.func23, Try.ntmps23
  go_wp2_with fail
  refine HM.out.mono ?_
  rintro e w1 ⟨rfl, ht, hh⟩
  have HT : Hid (Turns (fun g => (Value.slice a n c).ownBlock = some g) w w1 ∧ Held w1 (.slice a n c) 1 xs.length) := ⟨HT0.out.trans ht, hh⟩
  clear ht hh HM
  go_wp2
  go_ret
  exact ⟨rfl, HT.out.1, HT.out.2⟩
set_option maxRecDepth 100000 in
set_option maxHeartbeats 1000000 in
/-- laws.heldRow -/
theorem heldRow_got {w : World} {v : Value} {n : Nat} (h : Held w v 1 n) (hl : n ≤ 1048576) (hv : ∃ a m c, v = .slice a m c) :
    Calls Try.prog 24 #[.agg #[v], .int .i64 1] w fun e w' => e = .returned (.int .i64 ((1 + n * 3 : Nat) : Int)) ∧ Below w.heap.size w w' := by
  obtain ⟨a, m, c, rfl⟩ := hv
  have hb : Below w.heap.size w (w.alloc (.cells #[.slice a m c] 41)) := ch_alloc (Below.refl _ _) _
  have HM : Hid (Calls Try.prog 27 #[.slice a m c, .int .i64 1] (w.alloc (.cells #[.slice a m c] 41)) fun e w' => e = .returned (.int .i64 ((1 + n * 3 : Nat) : Int)) ∧ Below (w.alloc (.cells #[.slice a m c] 41)).heap.size (w.alloc (.cells #[.slice a m c] 41)) w') := heldValS_held (k := 1) (h.on hb) hl (by omega)
  have hK : decide (((1 + n * 3 : Nat) : Int) < 0) = false := by simp; omega
  clear h
  generalize 1 + n * 3 = K at HM hK ⊢
  go_enter Try.func24, Try.ntmps24
  go_wp2_with fail
  refine HM.out.mono ?_
  rintro e w1 ⟨rfl, hm⟩
  have HK : Hid (Below w.heap.size w w1) := ch_trans hb hm
  clear hm HM
  go_wp2
  go_ret
  exact ⟨rfl, HK.out⟩

set_option maxRecDepth 100000 in
set_option maxHeartbeats 4000000 in
theorem walk (x : Array Value) (l y : Value) (cols : List ByteArray) (t : Tc) (vs : List Vc) (w : World) (hl : StrsV w l cols) (hx : TabV w x t) (hy : ValsV w y vs) (hfl : ∀ s ∈ cols, s.size ≤ maxLen) (hfs : t.fit) (hft : vfit vs) :
    Calls Try.prog 4 #[l, .agg x, y] w fun e w' => e = .returned (.bool true) ∧ Below w.heap.size w w' := by
  obtain ⟨a, p, o, z, rfl, hx, _, _⟩ := hx.lit
  obtain ⟨bl, ql, rfl, hql, hqm, hlr⟩ := hl
  obtain ⟨b, q, rfl, hq, hqm', hyr⟩ := hy
  have HX : Hid (TabV w #[.string t.name, .slice a t.cols.length p, .slice o t.keys.length z] t) := hx
  have HR : Hid (StrsV w (.slice bl cols.length ql) cols) := ⟨bl, ql, rfl, hql, hqm, hlr⟩
  have HY : Hid (ValsV w (.slice b vs.length q) vs) := ⟨b, q, rfl, hq, hqm', hyr⟩
  have HF : Hid (t.fit ∧ (∀ s ∈ cols, s.size ≤ maxLen) ∧ vfit vs) := ⟨hfs, hfl, hft⟩
  have HL := Loc.new w #[.string t.name, .slice a t.cols.length p, .slice o t.keys.length z] 25
  have hbv : Below w.heap.size w (w.alloc (.cells #[.string t.name, .slice a t.cols.length p, .slice o t.keys.length z] 25)) := (by repeat (first | with_reducible exact Below.refl _ _ | with_reducible assumption | with_reducible refine ch_alloc ?_ _ | with_reducible refine Below.drew ?_ | with_reducible refine below_draws _ ?_ | (with_reducible refine Below.setCell ?_ ?_ _; rotate_left; focus (first | with_reducible exact Nat.le_refl _ | (simp; done) | (simp; omega) | (simp at *; omega))) | with_reducible refine ch_trans ?_ (by with_reducible assumption)))
  clear hx hlr hyr hfs hft hfl hqm hqm' hql hq
  go_enter Try.func4, Try.ntmps4
  go_wp2_with fail
  refine (szStringS_any _ cols _ _ (HR.out.on hbv) HF.out.2.1 (by omega) (by omega)).mono ?_
  rintro e w1 ⟨r, rfl, b1, hr⟩
  have HL1 := HL.on b1
  have hb1 := ch_trans hbv b1
  clear b1 hbv HL
  obtain ⟨c0, c1, c2⟩ := HL1.three
  rcases hr with rfl | ⟨r0, r1, fewk⟩
  · go_wp2
    go_ret
    exact ⟨rfl, hb1⟩
  go_wp2_with fail
  refine (szTable_any _ t r _ (HX.out.on hb1) HF.out.1 (by omega) (by omega)).mono ?_
  rintro e w1' ⟨s, rfl, b1, hr⟩
  have HL1' := HL1.on b1
  have hb1' := ch_trans hb1 b1
  clear b1 hb1 HL1 c0 c1 c2
  obtain ⟨c0, c1, c2⟩ := HL1'.three
  rcases hr with rfl | ⟨s0, s1, fewt⟩
  · go_wp2
    go_ret
    exact ⟨rfl, hb1'⟩
  go_wp2_with fail
  refine (szValS_any _ vs s _ (HY.out.on hb1') HF.out.2.2 (by omega) (by omega)).mono ?_
  rintro e w2 ⟨r', rfl, b2, hr'⟩
  have HL2 := HL1'.on b2
  have hb2 := ch_trans hb1' b2
  clear c0 c1 c2 b2 hb1' HL1'
  obtain ⟨c0, c1, c2⟩ := HL2.three
  rcases hr' with rfl | ⟨r0', r1', fewv⟩
  · go_wp2
    go_ret
    exact ⟨rfl, hb2⟩
  have FT : Hid t.few := fewt
  have HTC : Hid (∀ u : World, Below w.heap.size w u → Calls Try.prog 9 #[.slice bl cols.length ql] u fun e w' => ∃ v, e = .returned v ∧ Below u.heap.size u w' ∧ StrsV w' v cols ∧ New StrsS u.heap.size w' v) := fun u hu => toStringS_shp _ cols u (HR.out.on hu) fewk
  have HTT : Hid (∀ u : World, Below w.heap.size w u → Calls Try.prog 10 #[.agg #[.string t.name, .slice a t.cols.length p, .slice o t.keys.length z]] u fun e w' => ∃ cv kv, e = .returned (.agg #[.string t.name, cv, kv]) ∧ Below u.heap.size u w' ∧ TabV w' #[.string t.name, cv, kv] t ∧ New ColsS u.heap.size w' cv ∧ New StrsS u.heap.size w' kv) := fun u hu => toTable_shp _ t u (HX.out.on hu) FT.out
  have HTV : Hid (∀ u : World, Below w.heap.size w u → Calls Try.prog 16 #[.slice b vs.length q] u fun e w' => ∃ y, e = .returned y ∧ Below u.heap.size u w' ∧ ValsV w' y vs ∧ New ValsS u.heap.size w' y) := fun u hu => toValS_shp _ vs u (HY.out.on hu) fewv
  clear fewt fewk fewv
  go_wp2_with fail
  go_cut [8, 9] (fun v c wx => ∃ (X : Nat) (a0 : Option Addr) (n0 e0 : Nat) (r0 : Int) (ks : List Vc), v = .pointer (some ⟨X, 0, none⟩) ∧ c = .int .i64 r0 ∧ Hid (isMapRow cols t vs (defs t) ks r0) ∧ Hid (Below w2.heap.size w2 wx) ∧ (w2.heap.size ≤ X ∧ X < wx.heap.size) ∧ Hid (Own wx X 41 #[.slice a0 n0 e0]) ∧ Hid (Got wx w2.heap.size 58 3 (.slice a0 n0 e0) (ks.map Vc.cells)))
  case first =>
    have hlt2 : w.heap.size < w2.heap.size := cell_lt c0
    refine region_fork (Below w2.heap.size) 13 (by kernel_rfl) rfl ?_
    have hgd := Grows.drawn w2
    generalize { w2 with drawn := w2.drawn + 1 } = wd at hgd ⊢
    have hbd := ch_trans hb2 hgd
    have hzd : w2.heap.size ≤ wd.heap.size := hgd.size
    have c0 := cell_on c0 hgd
    have c1 := cell_on c1 hgd
    have c2 := cell_on c2 hgd
    have hg0 : Below w2.heap.size w2 wd := hgd
    clear hgd
    refine gAny_fork (fuel := 9) (Below.rel _) (by kernel_rfl) [0, 2, 4] [1, 10] (by simp only [pick, List.getElem?_toArray, List.getElem?_cons_succ, List.getElem?_cons_zero]; rfl) (by kernel_rfl) (by kernel_rfl) rfl ?_
    repeat (go_big_quiet_step ((intro hu; have j0 := (hu.cell (p := ⟨w.heap.size, 0, none⟩) hlt2).trans c0; have j1 := (hu.cell (p := ⟨w.heap.size, 1, none⟩) hlt2).trans c1; have j2 := (hu.cell (p := ⟨w.heap.size, 2, none⟩) hlt2).trans c2; go_simp; (try exact rfl))))
    refine wpQuiet_nil ?_
    intro i hi
    rcases List.mem_cons.1 hi with rfl | hi
    · refine plan_call rfl rfl (fun K hK => ?_)
      go_simp
      go_at_call 9
      refine (HTC.out _ hbd).mono ?_
      rintro e up1 ⟨va, rfl, bx, hvx, _⟩
      refine ⟨_, rfl, hK _ _ ⟨bx.mono hzd, ?_⟩⟩
      have H1_up1 : Hid (StrsV up1 va cols) := hvx
      have hb_up1 := ch_trans hbd bx
      have h2_up1 := hg0.trans (bx.mono hzd)
      have hz_up1 : w2.heap.size ≤ up1.heap.size := Nat.le_trans hzd bx.size
      clear hvx hK K bx
      refine gAny_fork (fuel := 8) (Below.rel _) (by kernel_rfl) [] [3, 10] rfl (by kernel_rfl) (by kernel_rfl) rfl ?_
      refine wpQuiet_nil ?_
      intro i hi
      rcases List.mem_cons.1 hi with rfl | hi
      · refine plan_call rfl rfl (fun K hK => ?_)
        go_simp
        go_at_call 10
        refine (HTT.out _ hb_up1).mono ?_
        rintro e up2 ⟨cvb, kvb, rfl, bx, hvx, _, _⟩
        refine ⟨_, rfl, hK _ _ ⟨bx.mono hz_up1, ?_⟩⟩
        have H3_up2 : Hid (TabV up2 #[.string t.name, cvb, kvb] t) := hvx
        have hb_up2 := ch_trans hb_up1 bx
        have h2_up2 := h2_up1.trans (bx.mono hz_up1)
        have hz_up2 : w2.heap.size ≤ up2.heap.size := Nat.le_trans hz_up1 bx.size
        have H1_up2 : Hid (StrsV up2 va cols) := H1_up1.out.on bx
        clear hvx hK K bx
        refine gAny_fork (fuel := 7) (Below.rel _) (by kernel_rfl) [] [5, 10] rfl (by kernel_rfl) (by kernel_rfl) rfl ?_
        refine wpQuiet_nil ?_
        intro i hi
        rcases List.mem_cons.1 hi with rfl | hi
        · refine plan_call rfl rfl (fun K hK => ?_)
          go_simp
          go_at_call 16
          refine (HTV.out _ hb_up2).mono ?_
          rintro e up3 ⟨vb, rfl, bx, hvx, _⟩
          refine ⟨_, rfl, hK _ _ ⟨bx.mono hz_up2, ?_⟩⟩
          have H5_up3 : Hid (ValsV up3 vb vs) := hvx
          have hb_up3 := ch_trans hb_up2 bx
          have h2_up3 := h2_up2.trans (bx.mono hz_up2)
          have hz_up3 : w2.heap.size ≤ up3.heap.size := Nat.le_trans hz_up2 bx.size
          have H1_up3 : Hid (StrsV up3 va cols) := H1_up2.out.on bx
          have H3_up3 : Hid (TabV up3 #[.string t.name, cvb, kvb] t) := H3_up2.out.on bx
          clear hvx hK K bx
          refine gAny_fork (fuel := 6) (Below.rel _) (by kernel_rfl) [] [6, 10] rfl (by kernel_rfl) (by kernel_rfl) rfl ?_
          refine wpQuiet_nil ?_
          intro i hi
          rcases List.mem_cons.1 hi with rfl | hi
          · refine plan_call rfl rfl (fun K hK => ?_)
            go_simp
            go_at_call 15
            refine (mapRow_spec _ va vb cols t vs _ H3_up3.out H1_up3.out H5_up3.out HF.out.1 FT.out.1).mono ?_
            rintro e up4 ⟨v0, ks, r0, rfl, hi, bx, hgx⟩
            obtain ⟨a0, n0, e0, rfl, hgx⟩ := hgx.lit2
            rw [restOf_nil] at hi
            have HI : Hid (isMapRow cols t vs (defs t) ks r0) := hi
            have HR_up4 : Hid (Got up4 w2.heap.size 58 3 (.slice a0 n0 e0) (ks.map Vc.cells)) := hgx.mono hz_up3
            clear hi hgx
            refine ⟨_, rfl, hK _ _ ⟨bx.mono hz_up3, ?_⟩⟩
            have h2_up4 := h2_up3.trans (bx.mono hz_up3)
            have hz_up4 : w2.heap.size ≤ up4.heap.size := Nat.le_trans hz_up3 bx.size
            clear hK K bx
            refine gAny_fork (fuel := 2) (Below.rel _) (by kernel_rfl) [7, 8, 9] [10] (by simp only [pick, List.getElem?_toArray, List.getElem?_cons_succ, List.getElem?_cons_zero]; rfl) (by kernel_rfl) (by kernel_rfl) rfl ?_
            repeat (go_big_quiet_step ((intro hu; go_simp; (try exact rfl))))
            refine wpQuiet_nil ?_
            intro i hi
            obtain rfl : i = 10 := by simpa using hi
            refine plan_call rfl rfl (fun K hK => ?_)
            go_simp
            have bx : Below up4.heap.size up4 (up4.alloc (.cells #[.slice none 0 0] 41)) := ch_alloc (Below.refl _ _) _
            refine hK _ _ ⟨bx.mono hz_up4, ?_⟩
            have HX_up5 := Own.new up4 41 #[.slice none 0 0]
            have hX : w2.heap.size ≤ up4.heap.size := hz_up4
            have h2_up5 := h2_up4.trans (bx.mono hz_up4)
            have hz_up5 : w2.heap.size ≤ (up4.alloc (.cells #[.slice none 0 0] 41)).heap.size := Nat.le_trans hz_up4 bx.size
            have HR_up5 : Hid (Got (up4.alloc (.cells #[.slice none 0 0] 41)) w2.heap.size 58 3 (.slice a0 n0 e0) (ks.map Vc.cells)) := HR_up4.out.on bx
            clear hK K bx
            generalize up4.alloc (.cells #[.slice none 0 0] 41) = up5 at HX_up5 h2_up5 hz_up5 HR_up5 ⊢
            refine gAny_fork (fuel := 1) (Below.rel _) (by kernel_rfl) [] [11] rfl (by kernel_rfl) (by kernel_rfl) rfl ?_
            refine wpQuiet_nil ?_
            intro i hi
            obtain rfl : i = 11 := by simpa using hi
            refine plan_call rfl rfl (fun K hK => ?_)
            have g0 := HX_up5.loc.one
            have i0 := HX_up5.frozen 0
            have hT := (Turns.refl (· = up4.heap.size) up5).set (p := ⟨up4.heap.size, 0, none⟩) rfl (.slice a0 n0 e0)
            have HXs : Hid (Own (up5.setCell ⟨up4.heap.size, 0, none⟩ (.slice a0 n0 e0)) up4.heap.size 41 #[.slice a0 n0 e0]) := HX_up5.set 0 _
            have h2s : Hid (Below w2.heap.size w2 (up5.setCell ⟨up4.heap.size, 0, none⟩ (.slice a0 n0 e0))) := h2_up5.setCell (p := ⟨up4.heap.size, 0, none⟩) hX _
            have HVs : Hid (Got (up5.setCell ⟨up4.heap.size, 0, none⟩ (.slice a0 n0 e0)) w2.heap.size 58 3 (.slice a0 n0 e0) (ks.map Vc.cells)) := Got.past HR_up5.out HX_up5 (.slice a0 n0 e0)
            go_simp
            refine hK _ _ ⟨Below.setCell (Below.refl _ _) (p := ⟨up4.heap.size, 0, none⟩) hX _, ?_⟩
            clear hK K hT g0 i0
            generalize up5.setCell ⟨up4.heap.size, 0, none⟩ (.slice a0 n0 e0) = wz at HXs h2s HVs ⊢
            refine gAny_fork (fuel := 0) (Below.rel _) (by kernel_rfl) [] [12] rfl (by kernel_rfl) (by kernel_rfl) rfl ?_
            refine wpQuiet_nil ?_
            intro i hi
            obtain rfl : i = 12 := by simpa using hi
            refine plan_call rfl rfl (fun K hK => ?_)
            go_simp
            refine hK _ _ ⟨Below.refl _ _, ?_⟩
            clear hK K
            refine gAny_more (by kernel_rfl) ?_ 0
            go_wp2_with fail
            go_meet
            exact ⟨_, a0, n0, e0, _, ks, rfl, rfl, HI, h2s, ⟨hX, HXs.out.lt⟩, HXs, HVs⟩
          · obtain rfl : i = 10 := by simpa using hi
            refine plan_call rfl rfl (fun K hK => ?_)
            go_simp
            have bx : Below up3.heap.size up3 (up3.alloc (.cells #[.slice none 0 0] 41)) := ch_alloc (Below.refl _ _) _
            refine hK _ _ ⟨bx.mono hz_up3, ?_⟩
            have HX_up7 := Own.new up3 41 #[.slice none 0 0]
            have hX : w2.heap.size ≤ up3.heap.size := hz_up3
            have h2_up7 := h2_up3.trans (bx.mono hz_up3)
            have hz_up7 : w2.heap.size ≤ (up3.alloc (.cells #[.slice none 0 0] 41)).heap.size := Nat.le_trans hz_up3 bx.size
            have hb_up7 := ch_trans hb_up3 bx
            have H1_up7 : Hid (StrsV (up3.alloc (.cells #[.slice none 0 0] 41)) va cols) := H1_up3.out.on bx
            have H3_up7 : Hid (TabV (up3.alloc (.cells #[.slice none 0 0] 41)) #[.string t.name, cvb, kvb] t) := H3_up3.out.on bx
            have H5_up7 : Hid (ValsV (up3.alloc (.cells #[.slice none 0 0] 41)) vb vs) := H5_up3.out.on bx
            clear hK K bx
            generalize up3.alloc (.cells #[.slice none 0 0] 41) = up7 at HX_up7 h2_up7 hz_up7 hb_up7 H1_up7 H3_up7 H5_up7 ⊢
            refine gAny_fork (fuel := 5) (Below.rel _) (by kernel_rfl) [] [6] rfl (by kernel_rfl) (by kernel_rfl) rfl ?_
            refine wpQuiet_nil ?_
            intro i hi
            obtain rfl : i = 6 := by simpa using hi
            refine plan_call rfl rfl (fun K hK => ?_)
            go_simp
            go_at_call 15
            refine (mapRow_spec _ va vb cols t vs _ H3_up7.out H1_up7.out H5_up7.out HF.out.1 FT.out.1).mono ?_
            rintro e up8 ⟨v0, ks, r0, rfl, hi, bx, hgx⟩
            obtain ⟨a0, n0, e0, rfl, hgx⟩ := hgx.lit2
            rw [restOf_nil] at hi
            have HI : Hid (isMapRow cols t vs (defs t) ks r0) := hi
            have HR_up8 : Hid (Got up8 w2.heap.size 58 3 (.slice a0 n0 e0) (ks.map Vc.cells)) := hgx.mono hz_up7
            clear hi hgx
            refine ⟨_, rfl, hK _ _ ⟨bx.mono hz_up7, ?_⟩⟩
            have h2_up8 := h2_up7.trans (bx.mono hz_up7)
            have hz_up8 : w2.heap.size ≤ up8.heap.size := Nat.le_trans hz_up7 bx.size
            have HX_up8 := HX_up7.on bx
            clear hK K bx
            refine gAny_fork (fuel := 1) (Below.rel _) (by kernel_rfl) [7, 8, 9] [11] (by simp only [pick, List.getElem?_toArray, List.getElem?_cons_succ, List.getElem?_cons_zero]; rfl) (by kernel_rfl) (by kernel_rfl) rfl ?_
            repeat (go_big_quiet_step ((intro hu; go_simp; (try exact rfl))))
            refine wpQuiet_nil ?_
            intro i hi
            obtain rfl : i = 11 := by simpa using hi
            refine plan_call rfl rfl (fun K hK => ?_)
            have g0 := HX_up8.loc.one
            have i0 := HX_up8.frozen 0
            have hT := (Turns.refl (· = up3.heap.size) up8).set (p := ⟨up3.heap.size, 0, none⟩) rfl (.slice a0 n0 e0)
            have HXs : Hid (Own (up8.setCell ⟨up3.heap.size, 0, none⟩ (.slice a0 n0 e0)) up3.heap.size 41 #[.slice a0 n0 e0]) := HX_up8.set 0 _
            have h2s : Hid (Below w2.heap.size w2 (up8.setCell ⟨up3.heap.size, 0, none⟩ (.slice a0 n0 e0))) := h2_up8.setCell (p := ⟨up3.heap.size, 0, none⟩) hX _
            have HVs : Hid (Got (up8.setCell ⟨up3.heap.size, 0, none⟩ (.slice a0 n0 e0)) w2.heap.size 58 3 (.slice a0 n0 e0) (ks.map Vc.cells)) := Got.past HR_up8.out HX_up8 (.slice a0 n0 e0)
            go_simp
            refine hK _ _ ⟨Below.setCell (Below.refl _ _) (p := ⟨up3.heap.size, 0, none⟩) hX _, ?_⟩
            clear hK K hT g0 i0
            generalize up8.setCell ⟨up3.heap.size, 0, none⟩ (.slice a0 n0 e0) = wz at HXs h2s HVs ⊢
            refine gAny_fork (fuel := 0) (Below.rel _) (by kernel_rfl) [] [12] rfl (by kernel_rfl) (by kernel_rfl) rfl ?_
            refine wpQuiet_nil ?_
            intro i hi
            obtain rfl : i = 12 := by simpa using hi
            refine plan_call rfl rfl (fun K hK => ?_)
            go_simp
            refine hK _ _ ⟨Below.refl _ _, ?_⟩
            clear hK K
            refine gAny_more (by kernel_rfl) ?_ 0
            go_wp2_with fail
            go_meet
            exact ⟨_, a0, n0, e0, _, ks, rfl, rfl, HI, h2s, ⟨hX, HXs.out.lt⟩, HXs, HVs⟩
        · obtain rfl : i = 10 := by simpa using hi
          refine plan_call rfl rfl (fun K hK => ?_)
          go_simp
          have bx : Below up2.heap.size up2 (up2.alloc (.cells #[.slice none 0 0] 41)) := ch_alloc (Below.refl _ _) _
          refine hK _ _ ⟨bx.mono hz_up2, ?_⟩
          have HX_up10 := Own.new up2 41 #[.slice none 0 0]
          have hX : w2.heap.size ≤ up2.heap.size := hz_up2
          have h2_up10 := h2_up2.trans (bx.mono hz_up2)
          have hz_up10 : w2.heap.size ≤ (up2.alloc (.cells #[.slice none 0 0] 41)).heap.size := Nat.le_trans hz_up2 bx.size
          have hb_up10 := ch_trans hb_up2 bx
          have H1_up10 : Hid (StrsV (up2.alloc (.cells #[.slice none 0 0] 41)) va cols) := H1_up2.out.on bx
          have H3_up10 : Hid (TabV (up2.alloc (.cells #[.slice none 0 0] 41)) #[.string t.name, cvb, kvb] t) := H3_up2.out.on bx
          clear hK K bx
          generalize up2.alloc (.cells #[.slice none 0 0] 41) = up10 at HX_up10 h2_up10 hz_up10 hb_up10 H1_up10 H3_up10 ⊢
          refine gAny_fork (fuel := 6) (Below.rel _) (by kernel_rfl) [] [5] rfl (by kernel_rfl) (by kernel_rfl) rfl ?_
          refine wpQuiet_nil ?_
          intro i hi
          obtain rfl : i = 5 := by simpa using hi
          refine plan_call rfl rfl (fun K hK => ?_)
          go_simp
          go_at_call 16
          refine (HTV.out _ hb_up10).mono ?_
          rintro e up11 ⟨vb, rfl, bx, hvx, _⟩
          refine ⟨_, rfl, hK _ _ ⟨bx.mono hz_up10, ?_⟩⟩
          have H5_up11 : Hid (ValsV up11 vb vs) := hvx
          have hb_up11 := ch_trans hb_up10 bx
          have h2_up11 := h2_up10.trans (bx.mono hz_up10)
          have hz_up11 : w2.heap.size ≤ up11.heap.size := Nat.le_trans hz_up10 bx.size
          have H1_up11 : Hid (StrsV up11 va cols) := H1_up10.out.on bx
          have H3_up11 : Hid (TabV up11 #[.string t.name, cvb, kvb] t) := H3_up10.out.on bx
          have HX_up11 := HX_up10.on bx
          clear hvx hK K bx
          refine gAny_fork (fuel := 5) (Below.rel _) (by kernel_rfl) [] [6] rfl (by kernel_rfl) (by kernel_rfl) rfl ?_
          refine wpQuiet_nil ?_
          intro i hi
          obtain rfl : i = 6 := by simpa using hi
          refine plan_call rfl rfl (fun K hK => ?_)
          go_simp
          go_at_call 15
          refine (mapRow_spec _ va vb cols t vs _ H3_up11.out H1_up11.out H5_up11.out HF.out.1 FT.out.1).mono ?_
          rintro e up12 ⟨v0, ks, r0, rfl, hi, bx, hgx⟩
          obtain ⟨a0, n0, e0, rfl, hgx⟩ := hgx.lit2
          rw [restOf_nil] at hi
          have HI : Hid (isMapRow cols t vs (defs t) ks r0) := hi
          have HR_up12 : Hid (Got up12 w2.heap.size 58 3 (.slice a0 n0 e0) (ks.map Vc.cells)) := hgx.mono hz_up11
          clear hi hgx
          refine ⟨_, rfl, hK _ _ ⟨bx.mono hz_up11, ?_⟩⟩
          have h2_up12 := h2_up11.trans (bx.mono hz_up11)
          have hz_up12 : w2.heap.size ≤ up12.heap.size := Nat.le_trans hz_up11 bx.size
          have HX_up12 := HX_up11.on bx
          clear hK K bx
          refine gAny_fork (fuel := 1) (Below.rel _) (by kernel_rfl) [7, 8, 9] [11] (by simp only [pick, List.getElem?_toArray, List.getElem?_cons_succ, List.getElem?_cons_zero]; rfl) (by kernel_rfl) (by kernel_rfl) rfl ?_
          repeat (go_big_quiet_step ((intro hu; go_simp; (try exact rfl))))
          refine wpQuiet_nil ?_
          intro i hi
          obtain rfl : i = 11 := by simpa using hi
          refine plan_call rfl rfl (fun K hK => ?_)
          have g0 := HX_up12.loc.one
          have i0 := HX_up12.frozen 0
          have hT := (Turns.refl (· = up2.heap.size) up12).set (p := ⟨up2.heap.size, 0, none⟩) rfl (.slice a0 n0 e0)
          have HXs : Hid (Own (up12.setCell ⟨up2.heap.size, 0, none⟩ (.slice a0 n0 e0)) up2.heap.size 41 #[.slice a0 n0 e0]) := HX_up12.set 0 _
          have h2s : Hid (Below w2.heap.size w2 (up12.setCell ⟨up2.heap.size, 0, none⟩ (.slice a0 n0 e0))) := h2_up12.setCell (p := ⟨up2.heap.size, 0, none⟩) hX _
          have HVs : Hid (Got (up12.setCell ⟨up2.heap.size, 0, none⟩ (.slice a0 n0 e0)) w2.heap.size 58 3 (.slice a0 n0 e0) (ks.map Vc.cells)) := Got.past HR_up12.out HX_up12 (.slice a0 n0 e0)
          go_simp
          refine hK _ _ ⟨Below.setCell (Below.refl _ _) (p := ⟨up2.heap.size, 0, none⟩) hX _, ?_⟩
          clear hK K hT g0 i0
          generalize up12.setCell ⟨up2.heap.size, 0, none⟩ (.slice a0 n0 e0) = wz at HXs h2s HVs ⊢
          refine gAny_fork (fuel := 0) (Below.rel _) (by kernel_rfl) [] [12] rfl (by kernel_rfl) (by kernel_rfl) rfl ?_
          refine wpQuiet_nil ?_
          intro i hi
          obtain rfl : i = 12 := by simpa using hi
          refine plan_call rfl rfl (fun K hK => ?_)
          go_simp
          refine hK _ _ ⟨Below.refl _ _, ?_⟩
          clear hK K
          refine gAny_more (by kernel_rfl) ?_ 0
          go_wp2_with fail
          go_meet
          exact ⟨_, a0, n0, e0, _, ks, rfl, rfl, HI, h2s, ⟨hX, HXs.out.lt⟩, HXs, HVs⟩
      · obtain rfl : i = 10 := by simpa using hi
        refine plan_call rfl rfl (fun K hK => ?_)
        go_simp
        have bx : Below up1.heap.size up1 (up1.alloc (.cells #[.slice none 0 0] 41)) := ch_alloc (Below.refl _ _) _
        refine hK _ _ ⟨bx.mono hz_up1, ?_⟩
        have HX_up14 := Own.new up1 41 #[.slice none 0 0]
        have hX : w2.heap.size ≤ up1.heap.size := hz_up1
        have h2_up14 := h2_up1.trans (bx.mono hz_up1)
        have hz_up14 : w2.heap.size ≤ (up1.alloc (.cells #[.slice none 0 0] 41)).heap.size := Nat.le_trans hz_up1 bx.size
        have hb_up14 := ch_trans hb_up1 bx
        have H1_up14 : Hid (StrsV (up1.alloc (.cells #[.slice none 0 0] 41)) va cols) := H1_up1.out.on bx
        clear hK K bx
        generalize up1.alloc (.cells #[.slice none 0 0] 41) = up14 at HX_up14 h2_up14 hz_up14 hb_up14 H1_up14 ⊢
        refine gAny_fork (fuel := 7) (Below.rel _) (by kernel_rfl) [] [3] rfl (by kernel_rfl) (by kernel_rfl) rfl ?_
        refine wpQuiet_nil ?_
        intro i hi
        obtain rfl : i = 3 := by simpa using hi
        refine plan_call rfl rfl (fun K hK => ?_)
        go_simp
        go_at_call 10
        refine (HTT.out _ hb_up14).mono ?_
        rintro e up15 ⟨cvb, kvb, rfl, bx, hvx, _, _⟩
        refine ⟨_, rfl, hK _ _ ⟨bx.mono hz_up14, ?_⟩⟩
        have H3_up15 : Hid (TabV up15 #[.string t.name, cvb, kvb] t) := hvx
        have hb_up15 := ch_trans hb_up14 bx
        have h2_up15 := h2_up14.trans (bx.mono hz_up14)
        have hz_up15 : w2.heap.size ≤ up15.heap.size := Nat.le_trans hz_up14 bx.size
        have H1_up15 : Hid (StrsV up15 va cols) := H1_up14.out.on bx
        have HX_up15 := HX_up14.on bx
        clear hvx hK K bx
        refine gAny_fork (fuel := 6) (Below.rel _) (by kernel_rfl) [] [5] rfl (by kernel_rfl) (by kernel_rfl) rfl ?_
        refine wpQuiet_nil ?_
        intro i hi
        obtain rfl : i = 5 := by simpa using hi
        refine plan_call rfl rfl (fun K hK => ?_)
        go_simp
        go_at_call 16
        refine (HTV.out _ hb_up15).mono ?_
        rintro e up16 ⟨vb, rfl, bx, hvx, _⟩
        refine ⟨_, rfl, hK _ _ ⟨bx.mono hz_up15, ?_⟩⟩
        have H5_up16 : Hid (ValsV up16 vb vs) := hvx
        have hb_up16 := ch_trans hb_up15 bx
        have h2_up16 := h2_up15.trans (bx.mono hz_up15)
        have hz_up16 : w2.heap.size ≤ up16.heap.size := Nat.le_trans hz_up15 bx.size
        have H1_up16 : Hid (StrsV up16 va cols) := H1_up15.out.on bx
        have H3_up16 : Hid (TabV up16 #[.string t.name, cvb, kvb] t) := H3_up15.out.on bx
        have HX_up16 := HX_up15.on bx
        clear hvx hK K bx
        refine gAny_fork (fuel := 5) (Below.rel _) (by kernel_rfl) [] [6] rfl (by kernel_rfl) (by kernel_rfl) rfl ?_
        refine wpQuiet_nil ?_
        intro i hi
        obtain rfl : i = 6 := by simpa using hi
        refine plan_call rfl rfl (fun K hK => ?_)
        go_simp
        go_at_call 15
        refine (mapRow_spec _ va vb cols t vs _ H3_up16.out H1_up16.out H5_up16.out HF.out.1 FT.out.1).mono ?_
        rintro e up17 ⟨v0, ks, r0, rfl, hi, bx, hgx⟩
        obtain ⟨a0, n0, e0, rfl, hgx⟩ := hgx.lit2
        rw [restOf_nil] at hi
        have HI : Hid (isMapRow cols t vs (defs t) ks r0) := hi
        have HR_up17 : Hid (Got up17 w2.heap.size 58 3 (.slice a0 n0 e0) (ks.map Vc.cells)) := hgx.mono hz_up16
        clear hi hgx
        refine ⟨_, rfl, hK _ _ ⟨bx.mono hz_up16, ?_⟩⟩
        have h2_up17 := h2_up16.trans (bx.mono hz_up16)
        have hz_up17 : w2.heap.size ≤ up17.heap.size := Nat.le_trans hz_up16 bx.size
        have HX_up17 := HX_up16.on bx
        clear hK K bx
        refine gAny_fork (fuel := 1) (Below.rel _) (by kernel_rfl) [7, 8, 9] [11] (by simp only [pick, List.getElem?_toArray, List.getElem?_cons_succ, List.getElem?_cons_zero]; rfl) (by kernel_rfl) (by kernel_rfl) rfl ?_
        repeat (go_big_quiet_step ((intro hu; go_simp; (try exact rfl))))
        refine wpQuiet_nil ?_
        intro i hi
        obtain rfl : i = 11 := by simpa using hi
        refine plan_call rfl rfl (fun K hK => ?_)
        have g0 := HX_up17.loc.one
        have i0 := HX_up17.frozen 0
        have hT := (Turns.refl (· = up1.heap.size) up17).set (p := ⟨up1.heap.size, 0, none⟩) rfl (.slice a0 n0 e0)
        have HXs : Hid (Own (up17.setCell ⟨up1.heap.size, 0, none⟩ (.slice a0 n0 e0)) up1.heap.size 41 #[.slice a0 n0 e0]) := HX_up17.set 0 _
        have h2s : Hid (Below w2.heap.size w2 (up17.setCell ⟨up1.heap.size, 0, none⟩ (.slice a0 n0 e0))) := h2_up17.setCell (p := ⟨up1.heap.size, 0, none⟩) hX _
        have HVs : Hid (Got (up17.setCell ⟨up1.heap.size, 0, none⟩ (.slice a0 n0 e0)) w2.heap.size 58 3 (.slice a0 n0 e0) (ks.map Vc.cells)) := Got.past HR_up17.out HX_up17 (.slice a0 n0 e0)
        go_simp
        refine hK _ _ ⟨Below.setCell (Below.refl _ _) (p := ⟨up1.heap.size, 0, none⟩) hX _, ?_⟩
        clear hK K hT g0 i0
        generalize up17.setCell ⟨up1.heap.size, 0, none⟩ (.slice a0 n0 e0) = wz at HXs h2s HVs ⊢
        refine gAny_fork (fuel := 0) (Below.rel _) (by kernel_rfl) [] [12] rfl (by kernel_rfl) (by kernel_rfl) rfl ?_
        refine wpQuiet_nil ?_
        intro i hi
        obtain rfl : i = 12 := by simpa using hi
        refine plan_call rfl rfl (fun K hK => ?_)
        go_simp
        refine hK _ _ ⟨Below.refl _ _, ?_⟩
        clear hK K
        refine gAny_more (by kernel_rfl) ?_ 0
        go_wp2_with fail
        go_meet
        exact ⟨_, a0, n0, e0, _, ks, rfl, rfl, HI, h2s, ⟨hX, HXs.out.lt⟩, HXs, HVs⟩
    · obtain rfl : i = 10 := by simpa using hi
      refine plan_call rfl rfl (fun K hK => ?_)
      go_simp
      have bx : Below wd.heap.size wd (wd.alloc (.cells #[.slice none 0 0] 41)) := ch_alloc (Below.refl _ _) _
      refine hK _ _ ⟨bx.mono hzd, ?_⟩
      have HX_up19 := Own.new wd 41 #[.slice none 0 0]
      have hX : w2.heap.size ≤ wd.heap.size := hzd
      have h2_up19 := hg0.trans (bx.mono hzd)
      have hz_up19 : w2.heap.size ≤ (wd.alloc (.cells #[.slice none 0 0] 41)).heap.size := Nat.le_trans hzd bx.size
      have hb_up19 := ch_trans hbd bx
      clear hK K bx
      generalize wd.alloc (.cells #[.slice none 0 0] 41) = up19 at HX_up19 h2_up19 hz_up19 hb_up19 ⊢
      refine gAny_fork (fuel := 8) (Below.rel _) (by kernel_rfl) [] [1] rfl (by kernel_rfl) (by kernel_rfl) rfl ?_
      refine wpQuiet_nil ?_
      intro i hi
      obtain rfl : i = 1 := by simpa using hi
      refine plan_call rfl rfl (fun K hK => ?_)
      go_simp
      go_at_call 9
      refine (HTC.out _ hb_up19).mono ?_
      rintro e up20 ⟨va, rfl, bx, hvx, _⟩
      refine ⟨_, rfl, hK _ _ ⟨bx.mono hz_up19, ?_⟩⟩
      have H1_up20 : Hid (StrsV up20 va cols) := hvx
      have hb_up20 := ch_trans hb_up19 bx
      have h2_up20 := h2_up19.trans (bx.mono hz_up19)
      have hz_up20 : w2.heap.size ≤ up20.heap.size := Nat.le_trans hz_up19 bx.size
      have HX_up20 := HX_up19.on bx
      clear hvx hK K bx
      refine gAny_fork (fuel := 7) (Below.rel _) (by kernel_rfl) [] [3] rfl (by kernel_rfl) (by kernel_rfl) rfl ?_
      refine wpQuiet_nil ?_
      intro i hi
      obtain rfl : i = 3 := by simpa using hi
      refine plan_call rfl rfl (fun K hK => ?_)
      go_simp
      go_at_call 10
      refine (HTT.out _ hb_up20).mono ?_
      rintro e up21 ⟨cvb, kvb, rfl, bx, hvx, _, _⟩
      refine ⟨_, rfl, hK _ _ ⟨bx.mono hz_up20, ?_⟩⟩
      have H3_up21 : Hid (TabV up21 #[.string t.name, cvb, kvb] t) := hvx
      have hb_up21 := ch_trans hb_up20 bx
      have h2_up21 := h2_up20.trans (bx.mono hz_up20)
      have hz_up21 : w2.heap.size ≤ up21.heap.size := Nat.le_trans hz_up20 bx.size
      have H1_up21 : Hid (StrsV up21 va cols) := H1_up20.out.on bx
      have HX_up21 := HX_up20.on bx
      clear hvx hK K bx
      refine gAny_fork (fuel := 6) (Below.rel _) (by kernel_rfl) [] [5] rfl (by kernel_rfl) (by kernel_rfl) rfl ?_
      refine wpQuiet_nil ?_
      intro i hi
      obtain rfl : i = 5 := by simpa using hi
      refine plan_call rfl rfl (fun K hK => ?_)
      go_simp
      go_at_call 16
      refine (HTV.out _ hb_up21).mono ?_
      rintro e up22 ⟨vb, rfl, bx, hvx, _⟩
      refine ⟨_, rfl, hK _ _ ⟨bx.mono hz_up21, ?_⟩⟩
      have H5_up22 : Hid (ValsV up22 vb vs) := hvx
      have hb_up22 := ch_trans hb_up21 bx
      have h2_up22 := h2_up21.trans (bx.mono hz_up21)
      have hz_up22 : w2.heap.size ≤ up22.heap.size := Nat.le_trans hz_up21 bx.size
      have H1_up22 : Hid (StrsV up22 va cols) := H1_up21.out.on bx
      have H3_up22 : Hid (TabV up22 #[.string t.name, cvb, kvb] t) := H3_up21.out.on bx
      have HX_up22 := HX_up21.on bx
      clear hvx hK K bx
      refine gAny_fork (fuel := 5) (Below.rel _) (by kernel_rfl) [] [6] rfl (by kernel_rfl) (by kernel_rfl) rfl ?_
      refine wpQuiet_nil ?_
      intro i hi
      obtain rfl : i = 6 := by simpa using hi
      refine plan_call rfl rfl (fun K hK => ?_)
      go_simp
      go_at_call 15
      refine (mapRow_spec _ va vb cols t vs _ H3_up22.out H1_up22.out H5_up22.out HF.out.1 FT.out.1).mono ?_
      rintro e up23 ⟨v0, ks, r0, rfl, hi, bx, hgx⟩
      obtain ⟨a0, n0, e0, rfl, hgx⟩ := hgx.lit2
      rw [restOf_nil] at hi
      have HI : Hid (isMapRow cols t vs (defs t) ks r0) := hi
      have HR_up23 : Hid (Got up23 w2.heap.size 58 3 (.slice a0 n0 e0) (ks.map Vc.cells)) := hgx.mono hz_up22
      clear hi hgx
      refine ⟨_, rfl, hK _ _ ⟨bx.mono hz_up22, ?_⟩⟩
      have h2_up23 := h2_up22.trans (bx.mono hz_up22)
      have hz_up23 : w2.heap.size ≤ up23.heap.size := Nat.le_trans hz_up22 bx.size
      have HX_up23 := HX_up22.on bx
      clear hK K bx
      refine gAny_fork (fuel := 1) (Below.rel _) (by kernel_rfl) [7, 8, 9] [11] (by simp only [pick, List.getElem?_toArray, List.getElem?_cons_succ, List.getElem?_cons_zero]; rfl) (by kernel_rfl) (by kernel_rfl) rfl ?_
      repeat (go_big_quiet_step ((intro hu; go_simp; (try exact rfl))))
      refine wpQuiet_nil ?_
      intro i hi
      obtain rfl : i = 11 := by simpa using hi
      refine plan_call rfl rfl (fun K hK => ?_)
      have g0 := HX_up23.loc.one
      have i0 := HX_up23.frozen 0
      have hT := (Turns.refl (· = wd.heap.size) up23).set (p := ⟨wd.heap.size, 0, none⟩) rfl (.slice a0 n0 e0)
      have HXs : Hid (Own (up23.setCell ⟨wd.heap.size, 0, none⟩ (.slice a0 n0 e0)) wd.heap.size 41 #[.slice a0 n0 e0]) := HX_up23.set 0 _
      have h2s : Hid (Below w2.heap.size w2 (up23.setCell ⟨wd.heap.size, 0, none⟩ (.slice a0 n0 e0))) := h2_up23.setCell (p := ⟨wd.heap.size, 0, none⟩) hX _
      have HVs : Hid (Got (up23.setCell ⟨wd.heap.size, 0, none⟩ (.slice a0 n0 e0)) w2.heap.size 58 3 (.slice a0 n0 e0) (ks.map Vc.cells)) := Got.past HR_up23.out HX_up23 (.slice a0 n0 e0)
      go_simp
      refine hK _ _ ⟨Below.setCell (Below.refl _ _) (p := ⟨wd.heap.size, 0, none⟩) hX _, ?_⟩
      clear hK K hT g0 i0
      generalize up23.setCell ⟨wd.heap.size, 0, none⟩ (.slice a0 n0 e0) = wz at HXs h2s HVs ⊢
      refine gAny_fork (fuel := 0) (Below.rel _) (by kernel_rfl) [] [12] rfl (by kernel_rfl) (by kernel_rfl) rfl ?_
      refine wpQuiet_nil ?_
      intro i hi
      obtain rfl : i = 12 := by simpa using hi
      refine plan_call rfl rfl (fun K hK => ?_)
      go_simp
      refine hK _ _ ⟨Below.refl _ _, ?_⟩
      clear hK K
      refine gAny_more (by kernel_rfl) ?_ 0
      go_wp2_with fail
      go_meet
      exact ⟨_, a0, n0, e0, _, ks, rfl, rfl, HI, h2s, ⟨hX, HXs.out.lt⟩, HXs, HVs⟩
  case rest =>
    obtain ⟨w3, hw3⟩ : ∃ w3, w3 = wc := ⟨_, rfl⟩
    subst hw3
    obtain ⟨X0, a0, n0, e0, q0, ks, rfl, rfl, HQ, hcb, ⟨hX1, hX2⟩, HX0, HV0g⟩ := hcut
    have HV0 : Hid (ValsV w3 (.slice a0 n0 e0) ks) := HV0g.out.vals
    have hkl : ks.length ≤ 8 := HQ.out.few
    have hb3 := ch_trans hb2 hcb.out
    have HL3 := HL2.on hcb.out
    have HX3 : Loc w3 X0 #[.slice a0 n0 e0] := HX0.out.loc
    clear hcb c0 c1 c2 HX0 HV0g HL2 hb2
    obtain ⟨c0, c1, c2⟩ := HL3.three
    go_wp2_with fail
    refine (HTC.out _ hb3).mono ?_
    rintro e w4 ⟨v4, rfl, b4, h4, n4⟩
    obtain ⟨av4, pv4, rfl, _, _, _⟩ := id h4
    have HV4 : Hid (StrsV w4 (.slice av4 cols.length pv4) cols) := h4
    have HN4 : Hid (New StrsS w3.heap.size w4 (.slice av4 cols.length pv4)) := n4
    have hb4 := ch_trans hb3 b4
    have HL4 := HL3.on b4
    have hs34 := b4.size
    clear h4 n4 c0 c1 c2
    obtain ⟨c0, c1, c2⟩ := HL4.three
    go_wp2_with fail
    refine (HTT.out _ hb4).mono ?_
    rintro e w5 ⟨cv5, kv5, rfl, b5, h5, nc5, nk5⟩
    have HX5 : Hid (TabV w5 #[.string t.name, cv5, kv5] t) := h5
    have HN5 : Hid (New ColsS w4.heap.size w5 cv5 ∧ New StrsS w4.heap.size w5 kv5) := ⟨nc5, nk5⟩
    have HV5 : Hid (StrsV w5 (.slice av4 cols.length pv4) cols) := HV4.out.on b5
    have HN45 : Hid (New StrsS w3.heap.size w5 (.slice av4 cols.length pv4)) := HN4.out.on StrsS.good b5
    have hb5 := ch_trans hb4 b5
    have h35 := ch_trans b4 b5
    have hs45 := b5.size
    have HB5 := Loc.new w5 #[.string t.name, cv5, kv5] 32
    have hv5 : Below w5.heap.size w5 (w5.alloc (.cells #[.string t.name, cv5, kv5] 32)) := (by repeat (first | with_reducible exact Below.refl _ _ | with_reducible assumption | with_reducible refine ch_alloc ?_ _ | with_reducible refine Below.drew ?_ | with_reducible refine below_draws _ ?_ | (with_reducible refine Below.setCell ?_ ?_ _; rotate_left; focus (first | with_reducible exact Nat.le_refl _ | (simp; done) | (simp; omega) | (simp at *; omega))) | with_reducible refine ch_trans ?_ (by with_reducible assumption)))
    have hz5 : (w5.alloc (.cells #[.string t.name, cv5, kv5] 32)).heap.size = w5.heap.size + 1 := by simp
    obtain ⟨acv, pcv, okv, qkv, e5, _, _, _⟩ := h5.lit
    have ecv : cv5 = .slice acv t.cols.length pcv ∧ kv5 = .slice okv t.keys.length qkv := by simp at e5; exact e5
    obtain ⟨rfl, rfl⟩ := ecv
    clear h5 nc5 nk5 c0 c1 c2 b4 b5 HV4 HN4 HL4 hb4 e5
    go_wp2_with fail
    generalize w5.alloc (.cells #[.string t.name, .slice acv t.cols.length pcv, .slice okv t.keys.length qkv] 32) = u5 at HB5 hv5 hz5 ⊢
    have hbu5 := ch_trans hb5 hv5
    refine (HTV.out _ hbu5).mono ?_
    rintro e w6 ⟨v6, rfl, b6, h6, n6⟩
    obtain ⟨av6, pv6, rfl, _, _, _⟩ := id h6
    have HV6 : Hid (ValsV w6 (.slice av6 vs.length pv6) vs) := h6
    have h56 := ch_trans hv5 b6
    have h36 := ch_trans h35 h56
    have hb6 := ch_trans hbu5 b6
    have HB6 := HB5.on b6
    have hs56 : w5.heap.size + 1 ≤ w6.heap.size := by rw [← hz5]; exact b6.size
    have HX6 : Hid (TabV w6 #[.string t.name, .slice acv t.cols.length pcv, .slice okv t.keys.length qkv] t) := HX5.out.on h56
    have HK6 : Hid (StrsV w6 (.slice av4 cols.length pv4) cols) := HV5.out.on h56
    obtain ⟨S, hSd⟩ : ∃ S : Nat → Prop, S = fun c => w3.heap.size ≤ c ∧ c < w6.heap.size ∧ c ≠ w5.heap.size := ⟨_, rfl⟩
    have HSH : Hid (StrsS S w6 (.slice av4 cols.length pv4) ∧ ColsS S w6 (.slice acv t.cols.length pcv) ∧ StrsS S w6 (.slice okv t.keys.length qkv) ∧ ValsS S w6 (.slice av6 vs.length pv6)) := by
      subst hSd
      refine ⟨?_, ?_, ?_, ?_⟩
      · exact StrsS.good.mono _ _ _ _ (fun c hc => by have h1 := hc.1; have h2 := hc.2; exact ⟨by omega, by omega, by omega⟩) (StrsS.good.holds _ w5 w6 _ (fun c hc hl => h56.block c hl) HN45.out)
      · exact ColsS.good.mono _ _ _ _ (fun c hc => by have h1 := hc.1; have h2 := hc.2; exact ⟨by omega, by omega, by omega⟩) (ColsS.good.holds _ w5 w6 _ (fun c hc hl => h56.block c hl) HN5.out.1)
      · exact StrsS.good.mono _ _ _ _ (fun c hc => by have h1 := hc.1; have h2 := hc.2; exact ⟨by omega, by omega, by omega⟩) (StrsS.good.holds _ w5 w6 _ (fun c hc hl => h56.block c hl) HN5.out.2)
      · exact ValsS.good.mono _ _ _ _ (fun c hc => by have h1 := hc.1; have h2 := hc.2; exact ⟨by omega, by omega, by omega⟩) n6
    have HSD : Hid (∀ c, S c → w3.heap.size ≤ c ∧ c < w6.heap.size ∧ c ≠ w5.heap.size) := by subst hSd; exact fun c h => h
    clear h6 n6 hSd b6 hv5 hz5 HB5 hbu5 HN45 HN5 HV5 HX5 hb5 h35 h56
    obtain ⟨n0', n1', n2'⟩ := HB6.three
    go_wp2_with fail
    refine (mapRow_impl _ _ _ cols t vs _ HX6.out HK6.out HV6.out HF.out.1 HF.out.2.1 FT.out.1).mono ?_
    rintro e w7 ⟨v7, ks7, r7, rfl, hq7, b7, hg7⟩
    obtain ⟨rfl, rfl⟩ := hq7.unique HQ.out
    obtain ⟨a1, m1, e1, rfl, hg7⟩ := hg7.lit2
    have hv7 : Below w7.heap.size w7 (w7.alloc (.cells #[.slice a1 m1 e1] 41)) := ch_alloc (Below.refl _ _) _
    have HG7 : Hid (Got (w7.alloc (.cells #[.slice a1 m1 e1] 41)) w6.heap.size 58 3 (.slice a1 m1 e1) (ks7.map Vc.cells)) := hg7.on hv7
    have h37 := ch_trans (ch_trans h36 b7) hv7
    have h67 := ch_trans b7 hv7
    have hs67 : w6.heap.size ≤ w7.heap.size := b7.size
    have hz7 : w7.heap.size < (w7.alloc (.cells #[.slice a1 m1 e1] 41)).heap.size := by simp
    have HB7 := (HB6.on b7).on hv7
    have HY7 := Own.new w7 41 #[.slice a1 m1 e1]
    have HX7 := HX3.on h37
    have hX6 : X0 < w6.heap.size := by have := h36.size; omega
    clear hq7 hg7 n0' n1' n2' b7 HB6 h36 hb6 hv7
    have hrr : (r7 != r7) = false := by simp
    have hre : (r7 == r7) = true := by simp
    have x00 := HX7.one
    have y00 := HY7.loc.one
    go_wp2_with fail
    generalize (w7.alloc (.cells #[.slice a1 m1 e1] 41)) = u7 at HG7 h37 h67 hz7 HB7 HY7 HX7 x00 y00 ⊢
    refine (eqRow_same _ _ ks7 _ HG7.out.vals (HV0.out.on h37)).mono ?_
    rintro e w8 ⟨rfl, b8⟩
    have h68 := ch_trans h67 b8
    have h38 := ch_trans h37 b8
    have HB8 := HB7.on b8
    have HX8 := HX7.on b8
    have HY8 := HY7.on b8
    have HG8 : Hid (Got w8 w6.heap.size 58 3 (.slice a1 m1 e1) (ks7.map Vc.cells)) := HG7.out.on b8
    clear h67 h37 HB7 HG7 HX7 HY7 b8 x00 y00 hz7
    go_wp2_with fail
    refine (HTC.out _ (ch_trans hb3 h38)).mono ?_
    rintro e w9 ⟨v9, rfl, b9, h9, _⟩
    have HV9 : Hid (StrsV w9 v9 cols) := h9
    have h69 := ch_trans h68 b9
    clear h9
    go_wp2_with fail
    refine (eqStringS_same _ _ cols _ (HK6.out.on h69) HV9.out).mono ?_
    rintro e w10 ⟨rfl, b10⟩
    have h810 := ch_trans b9 b10
    have h610 := ch_trans h68 h810
    have h310 := ch_trans h38 h810
    have HB10 := HB8.on h810
    have HX10 := HX8.on h810
    have HY10 := HY8.on h810
    have HL10 := HL3.on h310
    have HG10 : Hid (Got w10 w6.heap.size 58 3 (.slice a1 m1 e1) (ks7.map Vc.cells)) := HG8.out.on h810
    have hb10 := ch_trans hb3 h310
    clear b9 b10 HV9 h69 h810 h68 h38 HB8 HG8 HK6 HX8 HY8
    obtain ⟨c0, c1, c2⟩ := HL10.three
    obtain ⟨i0, i1, i2⟩ := HB10.three
    go_wp2_with fail
    refine region_plan [([0, 1], 2), ([], 3)] [4] (by kernel_rfl) (by kernel_rfl) ?_
    have hgd := Grows.drawn w10
    generalize { w10 with drawn := w10.drawn + 1 } = wd at hgd ⊢
    have hbd := ch_trans hb10 hgd
    have c0 := cell_on c0 hgd
    have c1 := cell_on c1 hgd
    have c2 := cell_on c2 hgd
    have i0 := cell_on i0 hgd
    have i1 := cell_on i1 hgd
    have i2 := cell_on i2 hgd
    refine plan_on (by simp only [pick, List.getElem?_toArray, List.getElem?_cons_succ, List.getElem?_cons_zero]; rfl) ?_
    repeat (go_big_quiet_step ((intro hu; have j0 := hu.cell c0; have j1 := hu.cell c1; have j2 := hu.cell c2; have j3 := hu.cell i0; have j4 := hu.cell i1; have j5 := hu.cell i2; go_simp; (try exact rfl))))
    refine wpQuiet_nil ?_
    refine plan_call rfl rfl (fun K hK => ?_)
    go_simp
    go_at_call 10
    refine (HTT.out _ hbd).mono ?_
    rintro e w11 ⟨cv11, kv11, rfl, b11, h11, _, _⟩
    refine ⟨_, rfl, hK _ _ ⟨b11, ?_⟩⟩
    have HY11 : Hid (TabV w11 #[.string t.name, cv11, kv11] t) := h11
    have hg1011 := ch_trans hgd b11
    clear hK K h11 c0 c1 c2 i0 i1 i2
    refine plan_on rfl ?_
    refine wpQuiet_nil ?_
    refine plan_call rfl rfl (fun K hK => ?_)
    go_simp
    go_at_call 13
    refine (eqTable_same _ _ t _ (HX6.out.on (ch_trans h610 hg1011)) HY11.out).mono ?_
    rintro e w12 ⟨rfl, b12⟩
    refine ⟨_, rfl, hK _ _ ⟨b12, ?_⟩⟩
    have h1012 := ch_trans hg1011 b12
    have h612 := ch_trans h610 h1012
    have h312 := ch_trans h310 h1012
    have HB12 := HB10.on h1012
    have HX12 := HX10.on h1012
    have HY12 := HY10.on h1012
    have HG12 : Hid (Got w12 w6.heap.size 58 3 (.slice a1 m1 e1) (ks7.map Vc.cells)) := HG10.out.on h1012
    have hb12 := ch_trans hb3 h312
    clear hK K b12 b11 hg1011 hgd hbd HY11 HX6 h1012 h610 h310 HB10 HG10 hb10 HL10 HX10 HY10
    refine plan_end (by simp only [pick, List.getElem?_toArray, List.getElem?_cons_succ, List.getElem?_cons_zero]; rfl) ?_
    repeat (go_big_quiet_step ((intro hu; go_simp; (try exact rfl))))
    refine wpQuiet_nil ?_
    go_wp2_with fail
    refine (HTV.out _ hb12).mono ?_
    rintro e wx ⟨vx, rfl, bx, hvx, _⟩
    have HVX : Hid (ValsV wx vx vs) := hvx
    clear hvx
    go_wp2_with fail
    refine (eqValS_same _ _ vs _ (HV6.out.on (ch_trans h612 bx)) HVX.out).mono ?_
    rintro e w13 ⟨rfl, b13⟩
    have h1213 := ch_trans bx b13
    have h613 := ch_trans h612 h1213
    have h313 := ch_trans h312 h1213
    have HB13 := HB12.on h1213
    have HX13 := HX12.on h1213
    have HY13 := HY12.on h1213
    have HG13 : Hid (Got w13 w6.heap.size 58 3 (.slice a1 m1 e1) (ks7.map Vc.cells)) := HG12.out.on h1213
    have HS13 : Hid (StrsS S w13 (.slice av4 cols.length pv4) ∧ ColsS S w13 (.slice acv t.cols.length pcv) ∧ StrsS S w13 (.slice okv t.keys.length qkv) ∧ ValsS S w13 (.slice av6 vs.length pv6)) := ⟨StrsS.good.holds S _ _ _ (fun c _ hc => h613.block c hc) HSH.out.1, ColsS.good.holds S _ _ _ (fun c _ hc => h613.block c hc) HSH.out.2.1, StrsS.good.holds S _ _ _ (fun c _ hc => h613.block c hc) HSH.out.2.2.1, ValsS.good.holds S _ _ _ (fun c _ hc => h613.block c hc) HSH.out.2.2.2⟩
    have hs613 := h613.size
    have hs313 := h313.size
    clear bx b13 HVX h1213 h612 h312 HB12 HG12 HSH HV6 hb12 h613 HX12 HY12
    go_wp2_with fail
    refine (markStringS_shape S _ 1 _ HS13.out.1 (by omega)).mono ?_
    rintro e w14 ⟨K1, rfl, hK1, hM⟩
    have HM14 : Hid (Marks S w13 w14) := hM
    have hn5 : ¬ S w5.heap.size := fun h => (HSD.out _ h).2.2 rfl
    obtain ⟨g0, g1, g2⟩ := HB13.three
    have i0 := hM.turns.cell (p := ⟨w5.heap.size, 0, none⟩) hn5 g0
    have i1 := hM.turns.cell (p := ⟨w5.heap.size, 1, none⟩) hn5 g1
    have i2 := hM.turns.cell (p := ⟨w5.heap.size, 2, none⟩) hn5 g2
    have HS14 : Hid (ColsS S w14 (.slice acv t.cols.length pcv) ∧ StrsS S w14 (.slice okv t.keys.length qkv) ∧ ValsS S w14 (.slice av6 vs.length pv6)) := ⟨ColsS.stays S _ _ _ _ hM (kind1.refl _) HS13.out.2.1, StrsS.stays S _ _ _ _ hM (kind1.refl _) HS13.out.2.2.1, ValsS.stays S _ _ _ _ hM (kind1.refl _) HS13.out.2.2.2⟩
    have hs14 := hM.turns.size
    clear hM g0 g1 g2 HS13 HB13
    go_wp2_with fail
    refine (markTable_shape S _ _ _ K1 _ HS14.out.1 HS14.out.2.1 (fun c hc => by have := (HSD.out c hc).2.1; omega) (by omega)).mono ?_
    rintro e w15 ⟨K2, rfl, hK2, hM⟩
    have HM15 : Hid (Marks S w13 w15) := HM14.out.trans hM
    have HS15 : Hid (ValsS S w15 (.slice av6 vs.length pv6)) := ValsS.stays S _ _ _ _ hM (kind1.refl _) HS14.out.2.2
    clear hM i0 i1 i2 HS14 HM14
    go_wp2_with fail
    refine (markValS_shape S _ K2 _ HS15.out (by omega)).mono ?_
    rintro e w16 ⟨K3, rfl, hK3, hM⟩
    have HM16 : Marks S w13 w16 := HM15.out.trans hM
    have h316 : Below w3.heap.size w3 w16 := h313.trans (HM16.turns.toBelow (fun c hc => (HSD.out c hc).1) (by omega))
    have HG16 : Hid (Got w16 w6.heap.size 58 3 (.slice a1 m1 e1) (ks7.map Vc.cells)) := HG13.out.turns HM16.turns fun c hc => (HSD.out c hc).2.1
    have hk0 : decide ((K3 : Int) < 0) = false := by simp
    have HX16 := turnL HX13 HM16.turns (fun hc => by have := (HSD.out _ hc).1; omega)
    have HY16 := HY13.turned HM16.turns (fun hc => by have := (HSD.out _ hc).2.1; omega)
    have hs16 := HM16.turns.size
    clear hM HM15 HM16 HS15 HG13 h313 hs14 hn5 HX13 HY13
    have x00 := HX16.one
    have y00 := HY16.loc.one
    go_wp2_with (go_at_call 18; refine (eqRow_same _ _ ks7 _ HG16.out.vals (HV0.out.on h316)).mono ?_; rintro e wy ⟨rfl, by'⟩; have y01 := (HY16.on by').loc.one)
    have h3y := ch_trans h316 by'
    have HGy : Hid (Got wy w6.heap.size 58 3 (.slice a1 m1 e1) (ks7.map Vc.cells)) := HG16.out.on by'
    have HXy := HX16.on by'
    have HYy := HY16.on by'
    have hsy := by'.size
    have hkl' : (ks7.map Vc.cells).length ≤ 1048576 := by simp; omega
    clear by' h316 HG16 HX16 HY16 x00 y00 y01
    refine (markRow_got HGy.out hkl').mono ?_
    rintro e wz ⟨rfl, hT3, hheld⟩
    have HH : Hid (Held wz (.slice a1 m1 e1) 1 (ks7.map Vc.cells).length) := hheld
    have hs36 : w3.heap.size ≤ w6.heap.size := by omega
    have h3z : Below w3.heap.size w3 wz := h3y.trans (hT3.toBelow (fun c h => by have h1 := HGy.out.own h; omega) (by omega))
    have HXz := turnL HXy hT3 (fun hc => by have h1 := HGy.out.own hc; omega)
    have HYz := HYy.turned hT3 (Got.notX HGy.out HYy)
    have HHS : Hid (∀ u : World, Held u (.slice a1 m1 e1) 1 (ks7.map Vc.cells).length → Calls Try.prog 24 #[.agg #[.slice a1 m1 e1], .int .i64 1] u fun e w' => e = .returned (.int .i64 ((1 + (ks7.map Vc.cells).length * 3 : Nat) : Int)) ∧ Below u.heap.size u w') := fun u hu => heldRow_got hu hkl' ⟨_, _, _, rfl⟩
    clear hT3 hheld HGy h3y HXy HYy
    generalize 1 + (ks7.map Vc.cells).length * 3 = M at HHS ⊢
    have hm0 : decide ((M : Int) < 0) = false := by simp
    have hmm : ((M : Int) != M) = false := by simp
    have y00 := HYz.loc.one
    go_wp2_with fail
    refine (HHS.out _ HH.out).mono ?_
    rintro e w17 ⟨rfl, b17⟩
    have h317 := ch_trans h3z b17
    have HH17 : Hid (Held w17 (.slice a1 m1 e1) 1 (ks7.map Vc.cells).length) := HH.out.on b17
    have HX17 := HXz.on b17
    have HY17 := HYz.on b17
    have hb17 := ch_trans hb3 h317
    have HL17 := HL3.on h317
    clear b17 h3z HH HXz HYz y00
    obtain ⟨c0, c1, c2⟩ := HL17.three
    go_wp2_with fail
    go_cut [18, 19] (fun v c wx => ∃ (X : Nat) (a0 : Option Addr) (n0 e0 : Nat) (r0 : Int) (ks : List Vc), v = .pointer (some ⟨X, 0, none⟩) ∧ c = .int .i64 r0 ∧ Hid (isMapRow cols t vs (defs t) ks r0) ∧ Hid (Below w17.heap.size w17 wx) ∧ (w17.heap.size ≤ X ∧ X < wx.heap.size) ∧ Hid (Own wx X 41 #[.slice a0 n0 e0]) ∧ Hid (Got wx w17.heap.size 58 3 (.slice a0 n0 e0) (ks.map Vc.cells)))
    case first =>
      have hlt2 : w.heap.size < w17.heap.size := cell_lt c0
      refine region_fork (Below w17.heap.size) 13 (by kernel_rfl) rfl ?_
      have hgd := Grows.drawn w17
      generalize { w17 with drawn := w17.drawn + 1 } = wd at hgd ⊢
      have hbd := ch_trans hb17 hgd
      have hzd : w17.heap.size ≤ wd.heap.size := hgd.size
      have c0 := cell_on c0 hgd
      have c1 := cell_on c1 hgd
      have c2 := cell_on c2 hgd
      have hg0 : Below w17.heap.size w17 wd := hgd
      clear hgd
      refine gAny_fork (fuel := 9) (Below.rel _) (by kernel_rfl) [0, 2, 4] [1, 10] (by simp only [pick, List.getElem?_toArray, List.getElem?_cons_succ, List.getElem?_cons_zero]; rfl) (by kernel_rfl) (by kernel_rfl) rfl ?_
      repeat (go_big_quiet_step ((intro hu; have j0 := (hu.cell (p := ⟨w.heap.size, 0, none⟩) hlt2).trans c0; have j1 := (hu.cell (p := ⟨w.heap.size, 1, none⟩) hlt2).trans c1; have j2 := (hu.cell (p := ⟨w.heap.size, 2, none⟩) hlt2).trans c2; go_simp; (try exact rfl))))
      refine wpQuiet_nil ?_
      intro i hi
      rcases List.mem_cons.1 hi with rfl | hi
      · refine plan_call rfl rfl (fun K hK => ?_)
        go_simp
        go_at_call 9
        refine (HTC.out _ hbd).mono ?_
        rintro e uq1 ⟨va, rfl, bx, hvx, _⟩
        refine ⟨_, rfl, hK _ _ ⟨bx.mono hzd, ?_⟩⟩
        have H1_uq1 : Hid (StrsV uq1 va cols) := hvx
        have hb_uq1 := ch_trans hbd bx
        have h2_uq1 := hg0.trans (bx.mono hzd)
        have hz_uq1 : w17.heap.size ≤ uq1.heap.size := Nat.le_trans hzd bx.size
        clear hvx hK K bx
        refine gAny_fork (fuel := 8) (Below.rel _) (by kernel_rfl) [] [3, 10] rfl (by kernel_rfl) (by kernel_rfl) rfl ?_
        refine wpQuiet_nil ?_
        intro i hi
        rcases List.mem_cons.1 hi with rfl | hi
        · refine plan_call rfl rfl (fun K hK => ?_)
          go_simp
          go_at_call 10
          refine (HTT.out _ hb_uq1).mono ?_
          rintro e uq2 ⟨cvb, kvb, rfl, bx, hvx, _, _⟩
          refine ⟨_, rfl, hK _ _ ⟨bx.mono hz_uq1, ?_⟩⟩
          have H3_uq2 : Hid (TabV uq2 #[.string t.name, cvb, kvb] t) := hvx
          have hb_uq2 := ch_trans hb_uq1 bx
          have h2_uq2 := h2_uq1.trans (bx.mono hz_uq1)
          have hz_uq2 : w17.heap.size ≤ uq2.heap.size := Nat.le_trans hz_uq1 bx.size
          have H1_uq2 : Hid (StrsV uq2 va cols) := H1_uq1.out.on bx
          clear hvx hK K bx
          refine gAny_fork (fuel := 7) (Below.rel _) (by kernel_rfl) [] [5, 10] rfl (by kernel_rfl) (by kernel_rfl) rfl ?_
          refine wpQuiet_nil ?_
          intro i hi
          rcases List.mem_cons.1 hi with rfl | hi
          · refine plan_call rfl rfl (fun K hK => ?_)
            go_simp
            go_at_call 16
            refine (HTV.out _ hb_uq2).mono ?_
            rintro e uq3 ⟨vb, rfl, bx, hvx, _⟩
            refine ⟨_, rfl, hK _ _ ⟨bx.mono hz_uq2, ?_⟩⟩
            have H5_uq3 : Hid (ValsV uq3 vb vs) := hvx
            have hb_uq3 := ch_trans hb_uq2 bx
            have h2_uq3 := h2_uq2.trans (bx.mono hz_uq2)
            have hz_uq3 : w17.heap.size ≤ uq3.heap.size := Nat.le_trans hz_uq2 bx.size
            have H1_uq3 : Hid (StrsV uq3 va cols) := H1_uq2.out.on bx
            have H3_uq3 : Hid (TabV uq3 #[.string t.name, cvb, kvb] t) := H3_uq2.out.on bx
            clear hvx hK K bx
            refine gAny_fork (fuel := 6) (Below.rel _) (by kernel_rfl) [] [6, 10] rfl (by kernel_rfl) (by kernel_rfl) rfl ?_
            refine wpQuiet_nil ?_
            intro i hi
            rcases List.mem_cons.1 hi with rfl | hi
            · refine plan_call rfl rfl (fun K hK => ?_)
              go_simp
              go_at_call 17
              refine (mapRow_impl _ va vb cols t vs _ H3_uq3.out H1_uq3.out H5_uq3.out HF.out.1 HF.out.2.1 FT.out.1).mono ?_
              rintro e uq4 ⟨v0, ks, r0, rfl, hi, bx, hgx⟩
              obtain ⟨a0, n0, e0, rfl, hgx⟩ := hgx.lit2
              have HI : Hid (isMapRow cols t vs (defs t) ks r0) := hi
              have HR_uq4 : Hid (Got uq4 w17.heap.size 58 3 (.slice a0 n0 e0) (ks.map Vc.cells)) := hgx.mono hz_uq3
              clear hi hgx
              refine ⟨_, rfl, hK _ _ ⟨bx.mono hz_uq3, ?_⟩⟩
              have h2_uq4 := h2_uq3.trans (bx.mono hz_uq3)
              have hz_uq4 : w17.heap.size ≤ uq4.heap.size := Nat.le_trans hz_uq3 bx.size
              clear hK K bx
              refine gAny_fork (fuel := 2) (Below.rel _) (by kernel_rfl) [7, 8, 9] [10] (by simp only [pick, List.getElem?_toArray, List.getElem?_cons_succ, List.getElem?_cons_zero]; rfl) (by kernel_rfl) (by kernel_rfl) rfl ?_
              repeat (go_big_quiet_step ((intro hu; go_simp; (try exact rfl))))
              refine wpQuiet_nil ?_
              intro i hi
              obtain rfl : i = 10 := by simpa using hi
              refine plan_call rfl rfl (fun K hK => ?_)
              go_simp
              have bx : Below uq4.heap.size uq4 (uq4.alloc (.cells #[.slice none 0 0] 41)) := ch_alloc (Below.refl _ _) _
              refine hK _ _ ⟨bx.mono hz_uq4, ?_⟩
              have HX_uq5 := Own.new uq4 41 #[.slice none 0 0]
              have hX : w17.heap.size ≤ uq4.heap.size := hz_uq4
              have h2_uq5 := h2_uq4.trans (bx.mono hz_uq4)
              have hz_uq5 : w17.heap.size ≤ (uq4.alloc (.cells #[.slice none 0 0] 41)).heap.size := Nat.le_trans hz_uq4 bx.size
              have HR_uq5 : Hid (Got (uq4.alloc (.cells #[.slice none 0 0] 41)) w17.heap.size 58 3 (.slice a0 n0 e0) (ks.map Vc.cells)) := HR_uq4.out.on bx
              clear hK K bx
              generalize uq4.alloc (.cells #[.slice none 0 0] 41) = uq5 at HX_uq5 h2_uq5 hz_uq5 HR_uq5 ⊢
              refine gAny_fork (fuel := 1) (Below.rel _) (by kernel_rfl) [] [11] rfl (by kernel_rfl) (by kernel_rfl) rfl ?_
              refine wpQuiet_nil ?_
              intro i hi
              obtain rfl : i = 11 := by simpa using hi
              refine plan_call rfl rfl (fun K hK => ?_)
              have g0 := HX_uq5.loc.one
              have i0 := HX_uq5.frozen 0
              have hT := (Turns.refl (· = uq4.heap.size) uq5).set (p := ⟨uq4.heap.size, 0, none⟩) rfl (.slice a0 n0 e0)
              have HXs : Hid (Own (uq5.setCell ⟨uq4.heap.size, 0, none⟩ (.slice a0 n0 e0)) uq4.heap.size 41 #[.slice a0 n0 e0]) := HX_uq5.set 0 _
              have h2s : Hid (Below w17.heap.size w17 (uq5.setCell ⟨uq4.heap.size, 0, none⟩ (.slice a0 n0 e0))) := h2_uq5.setCell (p := ⟨uq4.heap.size, 0, none⟩) hX _
              have HVs : Hid (Got (uq5.setCell ⟨uq4.heap.size, 0, none⟩ (.slice a0 n0 e0)) w17.heap.size 58 3 (.slice a0 n0 e0) (ks.map Vc.cells)) := Got.past HR_uq5.out HX_uq5 (.slice a0 n0 e0)
              go_simp
              refine hK _ _ ⟨Below.setCell (Below.refl _ _) (p := ⟨uq4.heap.size, 0, none⟩) hX _, ?_⟩
              clear hK K hT g0 i0
              generalize uq5.setCell ⟨uq4.heap.size, 0, none⟩ (.slice a0 n0 e0) = wz at HXs h2s HVs ⊢
              refine gAny_fork (fuel := 0) (Below.rel _) (by kernel_rfl) [] [12] rfl (by kernel_rfl) (by kernel_rfl) rfl ?_
              refine wpQuiet_nil ?_
              intro i hi
              obtain rfl : i = 12 := by simpa using hi
              refine plan_call rfl rfl (fun K hK => ?_)
              go_simp
              refine hK _ _ ⟨Below.refl _ _, ?_⟩
              clear hK K
              refine gAny_more (by kernel_rfl) ?_ 0
              go_wp2_with fail
              go_meet
              exact ⟨_, a0, n0, e0, _, ks, rfl, rfl, HI, h2s, ⟨hX, HXs.out.lt⟩, HXs, HVs⟩
            · obtain rfl : i = 10 := by simpa using hi
              refine plan_call rfl rfl (fun K hK => ?_)
              go_simp
              have bx : Below uq3.heap.size uq3 (uq3.alloc (.cells #[.slice none 0 0] 41)) := ch_alloc (Below.refl _ _) _
              refine hK _ _ ⟨bx.mono hz_uq3, ?_⟩
              have HX_uq7 := Own.new uq3 41 #[.slice none 0 0]
              have hX : w17.heap.size ≤ uq3.heap.size := hz_uq3
              have h2_uq7 := h2_uq3.trans (bx.mono hz_uq3)
              have hz_uq7 : w17.heap.size ≤ (uq3.alloc (.cells #[.slice none 0 0] 41)).heap.size := Nat.le_trans hz_uq3 bx.size
              have hb_uq7 := ch_trans hb_uq3 bx
              have H1_uq7 : Hid (StrsV (uq3.alloc (.cells #[.slice none 0 0] 41)) va cols) := H1_uq3.out.on bx
              have H3_uq7 : Hid (TabV (uq3.alloc (.cells #[.slice none 0 0] 41)) #[.string t.name, cvb, kvb] t) := H3_uq3.out.on bx
              have H5_uq7 : Hid (ValsV (uq3.alloc (.cells #[.slice none 0 0] 41)) vb vs) := H5_uq3.out.on bx
              clear hK K bx
              generalize uq3.alloc (.cells #[.slice none 0 0] 41) = uq7 at HX_uq7 h2_uq7 hz_uq7 hb_uq7 H1_uq7 H3_uq7 H5_uq7 ⊢
              refine gAny_fork (fuel := 5) (Below.rel _) (by kernel_rfl) [] [6] rfl (by kernel_rfl) (by kernel_rfl) rfl ?_
              refine wpQuiet_nil ?_
              intro i hi
              obtain rfl : i = 6 := by simpa using hi
              refine plan_call rfl rfl (fun K hK => ?_)
              go_simp
              go_at_call 17
              refine (mapRow_impl _ va vb cols t vs _ H3_uq7.out H1_uq7.out H5_uq7.out HF.out.1 HF.out.2.1 FT.out.1).mono ?_
              rintro e uq8 ⟨v0, ks, r0, rfl, hi, bx, hgx⟩
              obtain ⟨a0, n0, e0, rfl, hgx⟩ := hgx.lit2
              have HI : Hid (isMapRow cols t vs (defs t) ks r0) := hi
              have HR_uq8 : Hid (Got uq8 w17.heap.size 58 3 (.slice a0 n0 e0) (ks.map Vc.cells)) := hgx.mono hz_uq7
              clear hi hgx
              refine ⟨_, rfl, hK _ _ ⟨bx.mono hz_uq7, ?_⟩⟩
              have h2_uq8 := h2_uq7.trans (bx.mono hz_uq7)
              have hz_uq8 : w17.heap.size ≤ uq8.heap.size := Nat.le_trans hz_uq7 bx.size
              have HX_uq8 := HX_uq7.on bx
              clear hK K bx
              refine gAny_fork (fuel := 1) (Below.rel _) (by kernel_rfl) [7, 8, 9] [11] (by simp only [pick, List.getElem?_toArray, List.getElem?_cons_succ, List.getElem?_cons_zero]; rfl) (by kernel_rfl) (by kernel_rfl) rfl ?_
              repeat (go_big_quiet_step ((intro hu; go_simp; (try exact rfl))))
              refine wpQuiet_nil ?_
              intro i hi
              obtain rfl : i = 11 := by simpa using hi
              refine plan_call rfl rfl (fun K hK => ?_)
              have g0 := HX_uq8.loc.one
              have i0 := HX_uq8.frozen 0
              have hT := (Turns.refl (· = uq3.heap.size) uq8).set (p := ⟨uq3.heap.size, 0, none⟩) rfl (.slice a0 n0 e0)
              have HXs : Hid (Own (uq8.setCell ⟨uq3.heap.size, 0, none⟩ (.slice a0 n0 e0)) uq3.heap.size 41 #[.slice a0 n0 e0]) := HX_uq8.set 0 _
              have h2s : Hid (Below w17.heap.size w17 (uq8.setCell ⟨uq3.heap.size, 0, none⟩ (.slice a0 n0 e0))) := h2_uq8.setCell (p := ⟨uq3.heap.size, 0, none⟩) hX _
              have HVs : Hid (Got (uq8.setCell ⟨uq3.heap.size, 0, none⟩ (.slice a0 n0 e0)) w17.heap.size 58 3 (.slice a0 n0 e0) (ks.map Vc.cells)) := Got.past HR_uq8.out HX_uq8 (.slice a0 n0 e0)
              go_simp
              refine hK _ _ ⟨Below.setCell (Below.refl _ _) (p := ⟨uq3.heap.size, 0, none⟩) hX _, ?_⟩
              clear hK K hT g0 i0
              generalize uq8.setCell ⟨uq3.heap.size, 0, none⟩ (.slice a0 n0 e0) = wz at HXs h2s HVs ⊢
              refine gAny_fork (fuel := 0) (Below.rel _) (by kernel_rfl) [] [12] rfl (by kernel_rfl) (by kernel_rfl) rfl ?_
              refine wpQuiet_nil ?_
              intro i hi
              obtain rfl : i = 12 := by simpa using hi
              refine plan_call rfl rfl (fun K hK => ?_)
              go_simp
              refine hK _ _ ⟨Below.refl _ _, ?_⟩
              clear hK K
              refine gAny_more (by kernel_rfl) ?_ 0
              go_wp2_with fail
              go_meet
              exact ⟨_, a0, n0, e0, _, ks, rfl, rfl, HI, h2s, ⟨hX, HXs.out.lt⟩, HXs, HVs⟩
          · obtain rfl : i = 10 := by simpa using hi
            refine plan_call rfl rfl (fun K hK => ?_)
            go_simp
            have bx : Below uq2.heap.size uq2 (uq2.alloc (.cells #[.slice none 0 0] 41)) := ch_alloc (Below.refl _ _) _
            refine hK _ _ ⟨bx.mono hz_uq2, ?_⟩
            have HX_uq10 := Own.new uq2 41 #[.slice none 0 0]
            have hX : w17.heap.size ≤ uq2.heap.size := hz_uq2
            have h2_uq10 := h2_uq2.trans (bx.mono hz_uq2)
            have hz_uq10 : w17.heap.size ≤ (uq2.alloc (.cells #[.slice none 0 0] 41)).heap.size := Nat.le_trans hz_uq2 bx.size
            have hb_uq10 := ch_trans hb_uq2 bx
            have H1_uq10 : Hid (StrsV (uq2.alloc (.cells #[.slice none 0 0] 41)) va cols) := H1_uq2.out.on bx
            have H3_uq10 : Hid (TabV (uq2.alloc (.cells #[.slice none 0 0] 41)) #[.string t.name, cvb, kvb] t) := H3_uq2.out.on bx
            clear hK K bx
            generalize uq2.alloc (.cells #[.slice none 0 0] 41) = uq10 at HX_uq10 h2_uq10 hz_uq10 hb_uq10 H1_uq10 H3_uq10 ⊢
            refine gAny_fork (fuel := 6) (Below.rel _) (by kernel_rfl) [] [5] rfl (by kernel_rfl) (by kernel_rfl) rfl ?_
            refine wpQuiet_nil ?_
            intro i hi
            obtain rfl : i = 5 := by simpa using hi
            refine plan_call rfl rfl (fun K hK => ?_)
            go_simp
            go_at_call 16
            refine (HTV.out _ hb_uq10).mono ?_
            rintro e uq11 ⟨vb, rfl, bx, hvx, _⟩
            refine ⟨_, rfl, hK _ _ ⟨bx.mono hz_uq10, ?_⟩⟩
            have H5_uq11 : Hid (ValsV uq11 vb vs) := hvx
            have hb_uq11 := ch_trans hb_uq10 bx
            have h2_uq11 := h2_uq10.trans (bx.mono hz_uq10)
            have hz_uq11 : w17.heap.size ≤ uq11.heap.size := Nat.le_trans hz_uq10 bx.size
            have H1_uq11 : Hid (StrsV uq11 va cols) := H1_uq10.out.on bx
            have H3_uq11 : Hid (TabV uq11 #[.string t.name, cvb, kvb] t) := H3_uq10.out.on bx
            have HX_uq11 := HX_uq10.on bx
            clear hvx hK K bx
            refine gAny_fork (fuel := 5) (Below.rel _) (by kernel_rfl) [] [6] rfl (by kernel_rfl) (by kernel_rfl) rfl ?_
            refine wpQuiet_nil ?_
            intro i hi
            obtain rfl : i = 6 := by simpa using hi
            refine plan_call rfl rfl (fun K hK => ?_)
            go_simp
            go_at_call 17
            refine (mapRow_impl _ va vb cols t vs _ H3_uq11.out H1_uq11.out H5_uq11.out HF.out.1 HF.out.2.1 FT.out.1).mono ?_
            rintro e uq12 ⟨v0, ks, r0, rfl, hi, bx, hgx⟩
            obtain ⟨a0, n0, e0, rfl, hgx⟩ := hgx.lit2
            have HI : Hid (isMapRow cols t vs (defs t) ks r0) := hi
            have HR_uq12 : Hid (Got uq12 w17.heap.size 58 3 (.slice a0 n0 e0) (ks.map Vc.cells)) := hgx.mono hz_uq11
            clear hi hgx
            refine ⟨_, rfl, hK _ _ ⟨bx.mono hz_uq11, ?_⟩⟩
            have h2_uq12 := h2_uq11.trans (bx.mono hz_uq11)
            have hz_uq12 : w17.heap.size ≤ uq12.heap.size := Nat.le_trans hz_uq11 bx.size
            have HX_uq12 := HX_uq11.on bx
            clear hK K bx
            refine gAny_fork (fuel := 1) (Below.rel _) (by kernel_rfl) [7, 8, 9] [11] (by simp only [pick, List.getElem?_toArray, List.getElem?_cons_succ, List.getElem?_cons_zero]; rfl) (by kernel_rfl) (by kernel_rfl) rfl ?_
            repeat (go_big_quiet_step ((intro hu; go_simp; (try exact rfl))))
            refine wpQuiet_nil ?_
            intro i hi
            obtain rfl : i = 11 := by simpa using hi
            refine plan_call rfl rfl (fun K hK => ?_)
            have g0 := HX_uq12.loc.one
            have i0 := HX_uq12.frozen 0
            have hT := (Turns.refl (· = uq2.heap.size) uq12).set (p := ⟨uq2.heap.size, 0, none⟩) rfl (.slice a0 n0 e0)
            have HXs : Hid (Own (uq12.setCell ⟨uq2.heap.size, 0, none⟩ (.slice a0 n0 e0)) uq2.heap.size 41 #[.slice a0 n0 e0]) := HX_uq12.set 0 _
            have h2s : Hid (Below w17.heap.size w17 (uq12.setCell ⟨uq2.heap.size, 0, none⟩ (.slice a0 n0 e0))) := h2_uq12.setCell (p := ⟨uq2.heap.size, 0, none⟩) hX _
            have HVs : Hid (Got (uq12.setCell ⟨uq2.heap.size, 0, none⟩ (.slice a0 n0 e0)) w17.heap.size 58 3 (.slice a0 n0 e0) (ks.map Vc.cells)) := Got.past HR_uq12.out HX_uq12 (.slice a0 n0 e0)
            go_simp
            refine hK _ _ ⟨Below.setCell (Below.refl _ _) (p := ⟨uq2.heap.size, 0, none⟩) hX _, ?_⟩
            clear hK K hT g0 i0
            generalize uq12.setCell ⟨uq2.heap.size, 0, none⟩ (.slice a0 n0 e0) = wz at HXs h2s HVs ⊢
            refine gAny_fork (fuel := 0) (Below.rel _) (by kernel_rfl) [] [12] rfl (by kernel_rfl) (by kernel_rfl) rfl ?_
            refine wpQuiet_nil ?_
            intro i hi
            obtain rfl : i = 12 := by simpa using hi
            refine plan_call rfl rfl (fun K hK => ?_)
            go_simp
            refine hK _ _ ⟨Below.refl _ _, ?_⟩
            clear hK K
            refine gAny_more (by kernel_rfl) ?_ 0
            go_wp2_with fail
            go_meet
            exact ⟨_, a0, n0, e0, _, ks, rfl, rfl, HI, h2s, ⟨hX, HXs.out.lt⟩, HXs, HVs⟩
        · obtain rfl : i = 10 := by simpa using hi
          refine plan_call rfl rfl (fun K hK => ?_)
          go_simp
          have bx : Below uq1.heap.size uq1 (uq1.alloc (.cells #[.slice none 0 0] 41)) := ch_alloc (Below.refl _ _) _
          refine hK _ _ ⟨bx.mono hz_uq1, ?_⟩
          have HX_uq14 := Own.new uq1 41 #[.slice none 0 0]
          have hX : w17.heap.size ≤ uq1.heap.size := hz_uq1
          have h2_uq14 := h2_uq1.trans (bx.mono hz_uq1)
          have hz_uq14 : w17.heap.size ≤ (uq1.alloc (.cells #[.slice none 0 0] 41)).heap.size := Nat.le_trans hz_uq1 bx.size
          have hb_uq14 := ch_trans hb_uq1 bx
          have H1_uq14 : Hid (StrsV (uq1.alloc (.cells #[.slice none 0 0] 41)) va cols) := H1_uq1.out.on bx
          clear hK K bx
          generalize uq1.alloc (.cells #[.slice none 0 0] 41) = uq14 at HX_uq14 h2_uq14 hz_uq14 hb_uq14 H1_uq14 ⊢
          refine gAny_fork (fuel := 7) (Below.rel _) (by kernel_rfl) [] [3] rfl (by kernel_rfl) (by kernel_rfl) rfl ?_
          refine wpQuiet_nil ?_
          intro i hi
          obtain rfl : i = 3 := by simpa using hi
          refine plan_call rfl rfl (fun K hK => ?_)
          go_simp
          go_at_call 10
          refine (HTT.out _ hb_uq14).mono ?_
          rintro e uq15 ⟨cvb, kvb, rfl, bx, hvx, _, _⟩
          refine ⟨_, rfl, hK _ _ ⟨bx.mono hz_uq14, ?_⟩⟩
          have H3_uq15 : Hid (TabV uq15 #[.string t.name, cvb, kvb] t) := hvx
          have hb_uq15 := ch_trans hb_uq14 bx
          have h2_uq15 := h2_uq14.trans (bx.mono hz_uq14)
          have hz_uq15 : w17.heap.size ≤ uq15.heap.size := Nat.le_trans hz_uq14 bx.size
          have H1_uq15 : Hid (StrsV uq15 va cols) := H1_uq14.out.on bx
          have HX_uq15 := HX_uq14.on bx
          clear hvx hK K bx
          refine gAny_fork (fuel := 6) (Below.rel _) (by kernel_rfl) [] [5] rfl (by kernel_rfl) (by kernel_rfl) rfl ?_
          refine wpQuiet_nil ?_
          intro i hi
          obtain rfl : i = 5 := by simpa using hi
          refine plan_call rfl rfl (fun K hK => ?_)
          go_simp
          go_at_call 16
          refine (HTV.out _ hb_uq15).mono ?_
          rintro e uq16 ⟨vb, rfl, bx, hvx, _⟩
          refine ⟨_, rfl, hK _ _ ⟨bx.mono hz_uq15, ?_⟩⟩
          have H5_uq16 : Hid (ValsV uq16 vb vs) := hvx
          have hb_uq16 := ch_trans hb_uq15 bx
          have h2_uq16 := h2_uq15.trans (bx.mono hz_uq15)
          have hz_uq16 : w17.heap.size ≤ uq16.heap.size := Nat.le_trans hz_uq15 bx.size
          have H1_uq16 : Hid (StrsV uq16 va cols) := H1_uq15.out.on bx
          have H3_uq16 : Hid (TabV uq16 #[.string t.name, cvb, kvb] t) := H3_uq15.out.on bx
          have HX_uq16 := HX_uq15.on bx
          clear hvx hK K bx
          refine gAny_fork (fuel := 5) (Below.rel _) (by kernel_rfl) [] [6] rfl (by kernel_rfl) (by kernel_rfl) rfl ?_
          refine wpQuiet_nil ?_
          intro i hi
          obtain rfl : i = 6 := by simpa using hi
          refine plan_call rfl rfl (fun K hK => ?_)
          go_simp
          go_at_call 17
          refine (mapRow_impl _ va vb cols t vs _ H3_uq16.out H1_uq16.out H5_uq16.out HF.out.1 HF.out.2.1 FT.out.1).mono ?_
          rintro e uq17 ⟨v0, ks, r0, rfl, hi, bx, hgx⟩
          obtain ⟨a0, n0, e0, rfl, hgx⟩ := hgx.lit2
          have HI : Hid (isMapRow cols t vs (defs t) ks r0) := hi
          have HR_uq17 : Hid (Got uq17 w17.heap.size 58 3 (.slice a0 n0 e0) (ks.map Vc.cells)) := hgx.mono hz_uq16
          clear hi hgx
          refine ⟨_, rfl, hK _ _ ⟨bx.mono hz_uq16, ?_⟩⟩
          have h2_uq17 := h2_uq16.trans (bx.mono hz_uq16)
          have hz_uq17 : w17.heap.size ≤ uq17.heap.size := Nat.le_trans hz_uq16 bx.size
          have HX_uq17 := HX_uq16.on bx
          clear hK K bx
          refine gAny_fork (fuel := 1) (Below.rel _) (by kernel_rfl) [7, 8, 9] [11] (by simp only [pick, List.getElem?_toArray, List.getElem?_cons_succ, List.getElem?_cons_zero]; rfl) (by kernel_rfl) (by kernel_rfl) rfl ?_
          repeat (go_big_quiet_step ((intro hu; go_simp; (try exact rfl))))
          refine wpQuiet_nil ?_
          intro i hi
          obtain rfl : i = 11 := by simpa using hi
          refine plan_call rfl rfl (fun K hK => ?_)
          have g0 := HX_uq17.loc.one
          have i0 := HX_uq17.frozen 0
          have hT := (Turns.refl (· = uq1.heap.size) uq17).set (p := ⟨uq1.heap.size, 0, none⟩) rfl (.slice a0 n0 e0)
          have HXs : Hid (Own (uq17.setCell ⟨uq1.heap.size, 0, none⟩ (.slice a0 n0 e0)) uq1.heap.size 41 #[.slice a0 n0 e0]) := HX_uq17.set 0 _
          have h2s : Hid (Below w17.heap.size w17 (uq17.setCell ⟨uq1.heap.size, 0, none⟩ (.slice a0 n0 e0))) := h2_uq17.setCell (p := ⟨uq1.heap.size, 0, none⟩) hX _
          have HVs : Hid (Got (uq17.setCell ⟨uq1.heap.size, 0, none⟩ (.slice a0 n0 e0)) w17.heap.size 58 3 (.slice a0 n0 e0) (ks.map Vc.cells)) := Got.past HR_uq17.out HX_uq17 (.slice a0 n0 e0)
          go_simp
          refine hK _ _ ⟨Below.setCell (Below.refl _ _) (p := ⟨uq1.heap.size, 0, none⟩) hX _, ?_⟩
          clear hK K hT g0 i0
          generalize uq17.setCell ⟨uq1.heap.size, 0, none⟩ (.slice a0 n0 e0) = wz at HXs h2s HVs ⊢
          refine gAny_fork (fuel := 0) (Below.rel _) (by kernel_rfl) [] [12] rfl (by kernel_rfl) (by kernel_rfl) rfl ?_
          refine wpQuiet_nil ?_
          intro i hi
          obtain rfl : i = 12 := by simpa using hi
          refine plan_call rfl rfl (fun K hK => ?_)
          go_simp
          refine hK _ _ ⟨Below.refl _ _, ?_⟩
          clear hK K
          refine gAny_more (by kernel_rfl) ?_ 0
          go_wp2_with fail
          go_meet
          exact ⟨_, a0, n0, e0, _, ks, rfl, rfl, HI, h2s, ⟨hX, HXs.out.lt⟩, HXs, HVs⟩
      · obtain rfl : i = 10 := by simpa using hi
        refine plan_call rfl rfl (fun K hK => ?_)
        go_simp
        have bx : Below wd.heap.size wd (wd.alloc (.cells #[.slice none 0 0] 41)) := ch_alloc (Below.refl _ _) _
        refine hK _ _ ⟨bx.mono hzd, ?_⟩
        have HX_uq19 := Own.new wd 41 #[.slice none 0 0]
        have hX : w17.heap.size ≤ wd.heap.size := hzd
        have h2_uq19 := hg0.trans (bx.mono hzd)
        have hz_uq19 : w17.heap.size ≤ (wd.alloc (.cells #[.slice none 0 0] 41)).heap.size := Nat.le_trans hzd bx.size
        have hb_uq19 := ch_trans hbd bx
        clear hK K bx
        generalize wd.alloc (.cells #[.slice none 0 0] 41) = uq19 at HX_uq19 h2_uq19 hz_uq19 hb_uq19 ⊢
        refine gAny_fork (fuel := 8) (Below.rel _) (by kernel_rfl) [] [1] rfl (by kernel_rfl) (by kernel_rfl) rfl ?_
        refine wpQuiet_nil ?_
        intro i hi
        obtain rfl : i = 1 := by simpa using hi
        refine plan_call rfl rfl (fun K hK => ?_)
        go_simp
        go_at_call 9
        refine (HTC.out _ hb_uq19).mono ?_
        rintro e uq20 ⟨va, rfl, bx, hvx, _⟩
        refine ⟨_, rfl, hK _ _ ⟨bx.mono hz_uq19, ?_⟩⟩
        have H1_uq20 : Hid (StrsV uq20 va cols) := hvx
        have hb_uq20 := ch_trans hb_uq19 bx
        have h2_uq20 := h2_uq19.trans (bx.mono hz_uq19)
        have hz_uq20 : w17.heap.size ≤ uq20.heap.size := Nat.le_trans hz_uq19 bx.size
        have HX_uq20 := HX_uq19.on bx
        clear hvx hK K bx
        refine gAny_fork (fuel := 7) (Below.rel _) (by kernel_rfl) [] [3] rfl (by kernel_rfl) (by kernel_rfl) rfl ?_
        refine wpQuiet_nil ?_
        intro i hi
        obtain rfl : i = 3 := by simpa using hi
        refine plan_call rfl rfl (fun K hK => ?_)
        go_simp
        go_at_call 10
        refine (HTT.out _ hb_uq20).mono ?_
        rintro e uq21 ⟨cvb, kvb, rfl, bx, hvx, _, _⟩
        refine ⟨_, rfl, hK _ _ ⟨bx.mono hz_uq20, ?_⟩⟩
        have H3_uq21 : Hid (TabV uq21 #[.string t.name, cvb, kvb] t) := hvx
        have hb_uq21 := ch_trans hb_uq20 bx
        have h2_uq21 := h2_uq20.trans (bx.mono hz_uq20)
        have hz_uq21 : w17.heap.size ≤ uq21.heap.size := Nat.le_trans hz_uq20 bx.size
        have H1_uq21 : Hid (StrsV uq21 va cols) := H1_uq20.out.on bx
        have HX_uq21 := HX_uq20.on bx
        clear hvx hK K bx
        refine gAny_fork (fuel := 6) (Below.rel _) (by kernel_rfl) [] [5] rfl (by kernel_rfl) (by kernel_rfl) rfl ?_
        refine wpQuiet_nil ?_
        intro i hi
        obtain rfl : i = 5 := by simpa using hi
        refine plan_call rfl rfl (fun K hK => ?_)
        go_simp
        go_at_call 16
        refine (HTV.out _ hb_uq21).mono ?_
        rintro e uq22 ⟨vb, rfl, bx, hvx, _⟩
        refine ⟨_, rfl, hK _ _ ⟨bx.mono hz_uq21, ?_⟩⟩
        have H5_uq22 : Hid (ValsV uq22 vb vs) := hvx
        have hb_uq22 := ch_trans hb_uq21 bx
        have h2_uq22 := h2_uq21.trans (bx.mono hz_uq21)
        have hz_uq22 : w17.heap.size ≤ uq22.heap.size := Nat.le_trans hz_uq21 bx.size
        have H1_uq22 : Hid (StrsV uq22 va cols) := H1_uq21.out.on bx
        have H3_uq22 : Hid (TabV uq22 #[.string t.name, cvb, kvb] t) := H3_uq21.out.on bx
        have HX_uq22 := HX_uq21.on bx
        clear hvx hK K bx
        refine gAny_fork (fuel := 5) (Below.rel _) (by kernel_rfl) [] [6] rfl (by kernel_rfl) (by kernel_rfl) rfl ?_
        refine wpQuiet_nil ?_
        intro i hi
        obtain rfl : i = 6 := by simpa using hi
        refine plan_call rfl rfl (fun K hK => ?_)
        go_simp
        go_at_call 17
        refine (mapRow_impl _ va vb cols t vs _ H3_uq22.out H1_uq22.out H5_uq22.out HF.out.1 HF.out.2.1 FT.out.1).mono ?_
        rintro e uq23 ⟨v0, ks, r0, rfl, hi, bx, hgx⟩
        obtain ⟨a0, n0, e0, rfl, hgx⟩ := hgx.lit2
        have HI : Hid (isMapRow cols t vs (defs t) ks r0) := hi
        have HR_uq23 : Hid (Got uq23 w17.heap.size 58 3 (.slice a0 n0 e0) (ks.map Vc.cells)) := hgx.mono hz_uq22
        clear hi hgx
        refine ⟨_, rfl, hK _ _ ⟨bx.mono hz_uq22, ?_⟩⟩
        have h2_uq23 := h2_uq22.trans (bx.mono hz_uq22)
        have hz_uq23 : w17.heap.size ≤ uq23.heap.size := Nat.le_trans hz_uq22 bx.size
        have HX_uq23 := HX_uq22.on bx
        clear hK K bx
        refine gAny_fork (fuel := 1) (Below.rel _) (by kernel_rfl) [7, 8, 9] [11] (by simp only [pick, List.getElem?_toArray, List.getElem?_cons_succ, List.getElem?_cons_zero]; rfl) (by kernel_rfl) (by kernel_rfl) rfl ?_
        repeat (go_big_quiet_step ((intro hu; go_simp; (try exact rfl))))
        refine wpQuiet_nil ?_
        intro i hi
        obtain rfl : i = 11 := by simpa using hi
        refine plan_call rfl rfl (fun K hK => ?_)
        have g0 := HX_uq23.loc.one
        have i0 := HX_uq23.frozen 0
        have hT := (Turns.refl (· = wd.heap.size) uq23).set (p := ⟨wd.heap.size, 0, none⟩) rfl (.slice a0 n0 e0)
        have HXs : Hid (Own (uq23.setCell ⟨wd.heap.size, 0, none⟩ (.slice a0 n0 e0)) wd.heap.size 41 #[.slice a0 n0 e0]) := HX_uq23.set 0 _
        have h2s : Hid (Below w17.heap.size w17 (uq23.setCell ⟨wd.heap.size, 0, none⟩ (.slice a0 n0 e0))) := h2_uq23.setCell (p := ⟨wd.heap.size, 0, none⟩) hX _
        have HVs : Hid (Got (uq23.setCell ⟨wd.heap.size, 0, none⟩ (.slice a0 n0 e0)) w17.heap.size 58 3 (.slice a0 n0 e0) (ks.map Vc.cells)) := Got.past HR_uq23.out HX_uq23 (.slice a0 n0 e0)
        go_simp
        refine hK _ _ ⟨Below.setCell (Below.refl _ _) (p := ⟨wd.heap.size, 0, none⟩) hX _, ?_⟩
        clear hK K hT g0 i0
        generalize uq23.setCell ⟨wd.heap.size, 0, none⟩ (.slice a0 n0 e0) = wz at HXs h2s HVs ⊢
        refine gAny_fork (fuel := 0) (Below.rel _) (by kernel_rfl) [] [12] rfl (by kernel_rfl) (by kernel_rfl) rfl ?_
        refine wpQuiet_nil ?_
        intro i hi
        obtain rfl : i = 12 := by simpa using hi
        refine plan_call rfl rfl (fun K hK => ?_)
        go_simp
        refine hK _ _ ⟨Below.refl _ _, ?_⟩
        clear hK K
        refine gAny_more (by kernel_rfl) ?_ 0
        go_wp2_with fail
        go_meet
        exact ⟨_, a0, n0, e0, _, ks, rfl, rfl, HI, h2s, ⟨hX, HXs.out.lt⟩, HXs, HVs⟩
    case rest =>
      obtain ⟨w18, hw18⟩ : ∃ w18, w18 = wc := ⟨_, rfl⟩
      subst hw18
      obtain ⟨X2, a2, n2, e2, q2, ks2, rfl, rfl, HQ2, h1718, ⟨hX3, hX4⟩, HX2, HV2⟩ := hcut
      obtain ⟨rfl, rfl⟩ := HQ2.out.unique HQ.out
      clear c0 c1 c2
      have x20 := HX2.out.loc.one
      have x00 := (HX17.on h1718.out).one
      go_wp2_with fail
      refine (eqRow_same _ _ ks2 _ HV2.out.vals (HV0.out.on (ch_trans h317 h1718.out))).mono ?_
      rintro e w19 ⟨rfl, b19⟩
      have h1719 := ch_trans h1718.out b19
      have HH19 : Hid (Held w19 (.slice a1 m1 e1) 1 (ks2.map Vc.cells).length) := HH17.out.on h1719
      have y00 := (HY17.on h1719).loc.one
      clear x20 x00
      go_wp2_with fail
      refine (HHS.out _ HH19.out).mono ?_
      rintro e w20 ⟨rfl, b20⟩
      have hb20 := ch_trans hb17 (ch_trans h1719 b20)
      go_wp2
      go_ret
      exact ⟨rfl, hb20⟩

theorem own : ownKnob Try.prog.godebug = none := by kernel_rfl
theorem laidOut : laidOutB Try.prog = true := by kernel_rfl

set_option maxRecDepth 100000 in
theorem lifted (os : Os) (started : os.Started) (H : Type) (enc : TypeId × Value → H) :
    ReturnsInHanded {} Try.checked os 4 .any (Rows.fnExactMapRowSpec.pre6 enc Try.prog Try.f4 Rows.fnExactMapRowRow.domain false) (Rows.fnExactMapRowSpec.post enc Try.prog Try.f4 false true false false) := by
  refine returnsInHanded_of_change (C := Try.checked) own started (by kernel_rfl) Try.func4
    (ChangeSpec.witness6 (enc := enc) (C := Try.checked) false ⟨#[], #[.slice none 0 0, .agg #[.string ByteArray.empty, .slice none 0 0, .slice none 0 0], .slice none 0 0], []⟩ 8 (by kernel_rfl) (by kernel_rfl) (by kernel_rfl) (by kernel_rfl)) ?_
  intro W base args ds gs before hval0 hW _ _
  have hval : ∀ (j : Nat) t v, Try.f4.params[j]? = some t → args[j]? = some v → Value.okWide Try.prog W .any base t v := hval0
  have hW' := hW
  obtain ⟨p, q, hA0, hV, rfl, _, _⟩ := hW
  have hA : DataW.TrodAll enc Try.prog W 0 (fun _ => true) true Try.f4.params.toList args.toList ds p := hA0
  rw [Try.params4] at hA hval
  obtain ⟨v0, v1, v2, d0, d1, d2, p0, p1, p2, rfl, rfl, rfl, h0, h1, h2⟩ := trodAll_three hA
  obtain ⟨rfl, rfl⟩ := trodVars_none hV
  have h0k := h0
  have h1k := h1
  have h2k := h2
  obtain ⟨a1, len1, cap1, rfl⟩ := okWide_slice Try.underlying22 (hval 0 22 v0 rfl rfl)
  obtain ⟨k1, hk1⟩ := h0
  obtain ⟨x1, t1, hc1, hx1, hf1⟩ := open_strs hk1
  have hc1' : x1 = .slice a1 len1 cap1 := by simpa [Value.cells] using hc1.symm
  subst hc1'
  obtain ⟨cs, rfl, hsz⟩ := okWide_struct Try.underlying25 (hval 1 25 v1 rfl rfl)
  obtain ⟨k, hk⟩ := h1
  obtain ⟨x, t, hc, hx, hf⟩ := open_tab hk
  have hc' : cs = x := by apply Array.toList_inj.1; simpa [Value.cells] using hc
  subst hc'
  obtain ⟨a2, len2, cap2, rfl⟩ := okWide_slice Try.underlying37 (hval 2 37 v2 rfl rfl)
  obtain ⟨k2, hk2⟩ := h2
  obtain ⟨x2, t2, hc2, hx2, hf2⟩ := open_vals hk2
  have hc2' : x2 = .slice a2 len2 cap2 := by simpa [Value.cells] using hc2.symm
  subst hc2'
  clear hA0 hval0
  simp only [List.append_nil] at hW'
  have hlt : ∀ x ∈ p0, x.block < W.heap.size := fun x hx => by simpa using hW'.lt x (by simp [hx])
  have hlt1 : ∀ x ∈ p1, x.block < W.heap.size := fun x hx => by simpa using hW'.lt x (by simp [hx])
  have hlt2 : ∀ x ∈ p2, x.block < W.heap.size := fun x hx => by simpa using hW'.lt x (by simp [hx])
  refine (walk cs _ _ t1 t t2 W hx1 hx hx2 hf1 hf hf2).mono fun e W' ⟨he, bel⟩ => ?_
  subst he
  exact ⟨_, rfl, _, _, _, [], _, [], hW', trodAll_mk1 (shut_bool Try.underlying4 _), trodAll_mk3 (Below.trod laidOut (by kernel_rfl) (of_decide_eq_true (by kernel_rfl)) h0k bel hlt) (Below.trod laidOut (by kernel_rfl) (of_decide_eq_true (by kernel_rfl)) h1k bel hlt1) (Below.trod laidOut (by kernel_rfl) (of_decide_eq_true (by kernel_rfl)) h2k bel hlt2), rfl, bel.frame _, fun h => by cases h⟩

theorem over : Rows.FnExactMapRowSaid :=
  OpenClaim.holds_of_wide 4 Try.f4 rfl rfl rfl rfl rfl rfl rfl ⟨rfl, rfl, rfl, rfl, rfl⟩ rfl rfl rfl rfl rfl (by kernel_rfl) Try.func4 (by kernel_rfl)
    (of_decide_eq_true (by kernel_rfl)) (by unfold Func.isWrapper; first | (rw [if_pos (by decide +kernel)]; kernel_rfl) | (rw [if_neg (by decide +kernel)]; exact ⟨rfl, rfl⟩))
    (fun os started H enc _ => lifted os started H enc)
end Go.Proofs.Ytiijahoheajppaa.lawMapRow
namespace Go.Proofs.Ytiijahoheajppaa
theorem fnExactMapRow_holds : Rows.FnExactMapRowSaid := lawMapRow.over
#print axioms fnExactMapRow_holds
end Go.Proofs.Ytiijahoheajppaa
