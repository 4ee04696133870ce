/- For all names of keys, every table and all values the landed MapKey answers as the given one does, leaves them as they were, and its answer owns its memory: 'FnExactMapKey' returns true at every argument, with no condition; its arguments read afterwards as they read before. -/
import Derived.Test.YtiijahoheajppaaMpk
import Derived.Test.YtiijahoheajppaaMtt
import Derived.Test.YtiijahoheajppaaMarkG
import Derived.Test.YtiijahoheajppaaOrd
import Derived.Test.YtiijahoheajppaaOpenV
import Derived.Test.YtiijahoheajppaaOpenV
namespace Go.Proofs.Ytiijahoheajppaa.lawMapKey
open Go.ChangeShapes Go.WideShapes Go.ChangeAt Go.RowKit

set_option maxRecDepth 100000 in
set_option maxHeartbeats 4000000 in
theorem walk (x : Array Value) (l y : Value) (keys : List ByteArray) (t : Tc) (vs : List Vc) (w : World) (hl : StrsV w l keys) (hx : TabV w x t) (hy : ValsV w y vs) (hfl : ∀ s ∈ keys, s.size ≤ maxLen) (hfs : t.fit) (hft : vfit vs) :
    Calls Try.prog 5 #[l, .agg x, y] w fun e w' => e = .returned (.bool true) ∧ Below w.heap.size w w' := by
  obtain ⟨a, p, o, z, rfl, hx, _, _⟩ := hx.lit
  obtain ⟨bl, ql, rfl, hql, hqm, hlr⟩ := hl
  obtain ⟨b, q, rfl, hq, hqm', hyr⟩ := hy
  have HX : Hid (TabV w #[.string t.name, .slice a t.cols.length p, .slice o t.keys.length z] t) := hx
  have HR : Hid (StrsV w (.slice bl keys.length ql) keys) := ⟨bl, ql, rfl, hql, hqm, hlr⟩
  have HY : Hid (ValsV w (.slice b vs.length q) vs) := ⟨b, q, rfl, hq, hqm', hyr⟩
  have HF : Hid (t.fit ∧ (∀ s ∈ keys, s.size ≤ maxLen) ∧ vfit vs) := ⟨hfs, hfl, hft⟩
  have HL := Loc.new w #[.string t.name, .slice a t.cols.length p, .slice o t.keys.length z] 25
  have hbv : Below w.heap.size w (w.alloc (.cells #[.string t.name, .slice a t.cols.length p, .slice o t.keys.length z] 25)) := (by repeat (first | with_reducible exact Below.refl _ _ | with_reducible assumption | with_reducible refine ch_alloc ?_ _ | with_reducible refine Below.drew ?_ | with_reducible refine below_draws _ ?_ | (with_reducible refine Below.setCell ?_ ?_ _; rotate_left; focus (first | with_reducible exact Nat.le_refl _ | (simp; done) | (simp; omega) | (simp at *; omega))) | with_reducible refine ch_trans ?_ (by with_reducible assumption)))
  clear hx hlr hyr hfs hft hfl hqm hqm' hql hq
  go_enter Try.func5, Try.ntmps5
  go_wp2_with fail
  refine (szStringS_any _ keys _ _ (HR.out.on hbv) HF.out.2.1 (by omega) (by omega)).mono ?_
  rintro e w1 ⟨r, rfl, b1, hr⟩
  have HL1 := HL.on b1
  have hb1 := ch_trans hbv b1
  clear b1 hbv HL
  obtain ⟨c0, c1, c2⟩ := HL1.three
  rcases hr with rfl | ⟨r0, r1, fewk⟩
  · go_wp2
    go_ret
    exact ⟨rfl, hb1⟩
  go_wp2_with fail
  refine (szTable_any _ t r _ (HX.out.on hb1) HF.out.1 (by omega) (by omega)).mono ?_
  rintro e w1' ⟨s, rfl, b1, hr⟩
  have HL1' := HL1.on b1
  have hb1' := ch_trans hb1 b1
  clear b1 hb1 HL1 c0 c1 c2
  obtain ⟨c0, c1, c2⟩ := HL1'.three
  rcases hr with rfl | ⟨s0, s1, fewt⟩
  · go_wp2
    go_ret
    exact ⟨rfl, hb1'⟩
  go_wp2_with fail
  refine (szValS_any _ vs s _ (HY.out.on hb1') HF.out.2.2 (by omega) (by omega)).mono ?_
  rintro e w2 ⟨r', rfl, b2, hr'⟩
  have HL2 := HL1'.on b2
  have hb2 := ch_trans hb1' b2
  clear c0 c1 c2 b2 hb1' HL1'
  obtain ⟨c0, c1, c2⟩ := HL2.three
  rcases hr' with rfl | ⟨r0', r1', fewv⟩
  · go_wp2
    go_ret
    exact ⟨rfl, hb2⟩
  have FT : Hid t.few := fewt
  have HTC : Hid (∀ u : World, Below w.heap.size w u → Calls Try.prog 9 #[.slice bl keys.length ql] u fun e w' => ∃ v, e = .returned v ∧ Below u.heap.size u w' ∧ StrsV w' v keys ∧ New StrsS u.heap.size w' v) := fun u hu => toStringS_shp _ keys u (HR.out.on hu) fewk
  have HTT : Hid (∀ u : World, Below w.heap.size w u → Calls Try.prog 10 #[.agg #[.string t.name, .slice a t.cols.length p, .slice o t.keys.length z]] u fun e w' => ∃ cv kv, e = .returned (.agg #[.string t.name, cv, kv]) ∧ Below u.heap.size u w' ∧ TabV w' #[.string t.name, cv, kv] t ∧ New ColsS u.heap.size w' cv ∧ New StrsS u.heap.size w' kv) := fun u hu => toTable_shp _ t u (HX.out.on hu) FT.out
  have HTV : Hid (∀ u : World, Below w.heap.size w u → Calls Try.prog 16 #[.slice b vs.length q] u fun e w' => ∃ y, e = .returned y ∧ Below u.heap.size u w' ∧ ValsV w' y vs ∧ New ValsS u.heap.size w' y) := fun u hu => toValS_shp _ vs u (HY.out.on hu) fewv
  clear fewt fewk fewv
  go_wp2_with fail
  refine region_plan [([0, 2, 4], 1), ([], 3), ([], 5), ([], 6)] [7, 8, 9, 10, 11] (by kernel_rfl) (by kernel_rfl) ?_
  have hgd := Grows.drawn w2
  generalize { w2 with drawn := w2.drawn + 1 } = wdq at hgd ⊢
  have hbd := ch_trans hb2 hgd
  have c0 := cell_on c0 hgd
  have c1 := cell_on c1 hgd
  have c2 := cell_on c2 hgd
  refine plan_on (by simp only [pick, List.getElem?_toArray, List.getElem?_cons_succ, List.getElem?_cons_zero]; rfl) ?_
  repeat (go_big_quiet_step ((intro hu; have j0 := hu.cell c0; have j1 := hu.cell c1; have j2 := hu.cell c2; go_simp; (try exact rfl))))
  refine wpQuiet_nil ?_
  refine plan_call rfl rfl (fun K hK => ?_)
  go_simp
  go_at_call 9
  refine (HTC.out _ hbd).mono ?_
  rintro e waq ⟨va, rfl, ba, hva, _⟩
  refine ⟨_, rfl, hK _ _ ⟨ba, ?_⟩⟩
  have HVA : Hid (StrsV waq va keys) := hva
  have hba := ch_trans hbd ba
  have h2a := ch_trans hgd ba
  have c0 := cell_on c0 ba
  have c1 := cell_on c1 ba
  have c2 := cell_on c2 ba
  clear hva hK K ba hbd hgd
  refine plan_on rfl ?_
  refine wpQuiet_nil ?_
  refine plan_call rfl rfl (fun K hK => ?_)
  go_simp
  go_at_call 10
  refine (HTT.out _ hba).mono ?_
  rintro e wlq ⟨cvb, kvb, rfl, bl', hyb, _, _⟩
  refine ⟨_, rfl, hK _ _ ⟨bl', ?_⟩⟩
  have HYB : Hid (TabV wlq #[.string t.name, cvb, kvb] t) := hyb
  have HVA2 : Hid (StrsV wlq va keys) := HVA.out.on bl'
  have hbl := ch_trans hba bl'
  have h2l := ch_trans h2a bl'
  clear hyb hK K bl' HVA hba h2a c0 c1 c2
  refine plan_on rfl ?_
  refine wpQuiet_nil ?_
  refine plan_call rfl rfl (fun K hK => ?_)
  go_simp
  go_at_call 16
  refine (HTV.out _ hbl).mono ?_
  rintro e wbq ⟨vb, rfl, bb, hvb, _⟩
  refine ⟨_, rfl, hK _ _ ⟨bb, ?_⟩⟩
  have HVB : Hid (ValsV wbq vb vs) := hvb
  have HYB3 : Hid (TabV wbq #[.string t.name, cvb, kvb] t) := HYB.out.on bb
  have HVA3 : Hid (StrsV wbq va keys) := HVA2.out.on bb
  have hbb := ch_trans hbl bb
  have h2b := ch_trans h2l bb
  clear hvb hK K bb HVA2 HYB hbl h2l
  refine plan_on rfl ?_
  refine wpQuiet_nil ?_
  refine plan_call rfl rfl (fun K hK => ?_)
  go_simp
  go_at_call 25
  refine (mapKey_spec _ va vb keys t vs _ HYB3.out HVA3.out HVB.out HF.out.1).mono ?_
  rintro e w3 ⟨v0, ks, r0, rfl, hq0, bc, hg0⟩
  obtain ⟨a0, n0, e0, rfl, hg0⟩ := hg0.lit2
  refine ⟨_, rfl, hK _ _ ⟨bc, ?_⟩⟩
  have HQ : Hid (isMapKey keys t vs ks r0) := hq0
  have HV0 : Hid (ValsV w3 (.slice a0 n0 e0) ks) := hg0.vals
  have hkl : ks.length ≤ 8 := hq0.few
  have hb3 := ch_trans hbb bc
  have HL3 := HL2.on (ch_trans h2b bc)
  clear hq0 hg0 hK K bc HYB3 HVA3 HVB hbb h2b HL2 hb2
  refine plan_end (by simp only [pick, List.getElem?_toArray, List.getElem?_cons_succ, List.getElem?_cons_zero]; rfl) ?_
  repeat (go_big_quiet_step ((intro hu; go_simp; (try exact rfl))))
  refine wpQuiet_nil ?_
  clear c0 c1 c2
  obtain ⟨c0, c1, c2⟩ := HL3.three
  go_wp2_with fail
  refine (HTC.out _ hb3).mono ?_
  rintro e w4 ⟨v4, rfl, b4, h4, n4⟩
  obtain ⟨av4, pv4, rfl, _, _, _⟩ := id h4
  have HV4 : Hid (StrsV w4 (.slice av4 keys.length pv4) keys) := h4
  have HN4 : Hid (New StrsS w3.heap.size w4 (.slice av4 keys.length pv4)) := n4
  have hb4 := ch_trans hb3 b4
  have HL4 := HL3.on b4
  have hs34 := b4.size
  clear h4 n4 c0 c1 c2
  obtain ⟨c0, c1, c2⟩ := HL4.three
  go_wp2_with fail
  refine (HTT.out _ hb4).mono ?_
  rintro e w5 ⟨cv5, kv5, rfl, b5, h5, nc5, nk5⟩
  have HX5 : Hid (TabV w5 #[.string t.name, cv5, kv5] t) := h5
  have HN5 : Hid (New ColsS w4.heap.size w5 cv5 ∧ New StrsS w4.heap.size w5 kv5) := ⟨nc5, nk5⟩
  have HV5 : Hid (StrsV w5 (.slice av4 keys.length pv4) keys) := HV4.out.on b5
  have HN45 : Hid (New StrsS w3.heap.size w5 (.slice av4 keys.length pv4)) := HN4.out.on StrsS.good b5
  have hb5 := ch_trans hb4 b5
  have h35 := ch_trans b4 b5
  have hs45 := b5.size
  have HB5 := Loc.new w5 #[.string t.name, cv5, kv5] 32
  have hv5 : Below w5.heap.size w5 (w5.alloc (.cells #[.string t.name, cv5, kv5] 32)) := (by repeat (first | with_reducible exact Below.refl _ _ | with_reducible assumption | with_reducible refine ch_alloc ?_ _ | with_reducible refine Below.drew ?_ | with_reducible refine below_draws _ ?_ | (with_reducible refine Below.setCell ?_ ?_ _; rotate_left; focus (first | with_reducible exact Nat.le_refl _ | (simp; done) | (simp; omega) | (simp at *; omega))) | with_reducible refine ch_trans ?_ (by with_reducible assumption)))
  have hz5 : (w5.alloc (.cells #[.string t.name, cv5, kv5] 32)).heap.size = w5.heap.size + 1 := by simp
  obtain ⟨acv, pcv, okv, qkv, e5, _, _, _⟩ := h5.lit
  have ecv : cv5 = .slice acv t.cols.length pcv ∧ kv5 = .slice okv t.keys.length qkv := by simp at e5; exact e5
  obtain ⟨rfl, rfl⟩ := ecv
  clear h5 nc5 nk5 c0 c1 c2 b4 b5 HV4 HN4 HL4 hb4 e5
  go_wp2_with fail
  generalize w5.alloc (.cells #[.string t.name, .slice acv t.cols.length pcv, .slice okv t.keys.length qkv] 32) = u5 at HB5 hv5 hz5 ⊢
  have hbu5 := ch_trans hb5 hv5
  refine (HTV.out _ hbu5).mono ?_
  rintro e w6 ⟨v6, rfl, b6, h6, n6⟩
  obtain ⟨av6, pv6, rfl, _, _, _⟩ := id h6
  have HV6 : Hid (ValsV w6 (.slice av6 vs.length pv6) vs) := h6
  have h56 := ch_trans hv5 b6
  have h36 := ch_trans h35 h56
  have hb6 := ch_trans hbu5 b6
  have HB6 := HB5.on b6
  have hs56 : w5.heap.size + 1 ≤ w6.heap.size := by rw [← hz5]; exact b6.size
  have HX6 : Hid (TabV w6 #[.string t.name, .slice acv t.cols.length pcv, .slice okv t.keys.length qkv] t) := HX5.out.on h56
  have HK6 : Hid (StrsV w6 (.slice av4 keys.length pv4) keys) := HV5.out.on h56
  obtain ⟨S, hSd⟩ : ∃ S : Nat → Prop, S = fun c => w3.heap.size ≤ c ∧ c < w6.heap.size ∧ c ≠ w5.heap.size := ⟨_, rfl⟩
  have HSH : Hid (StrsS S w6 (.slice av4 keys.length pv4) ∧ ColsS S w6 (.slice acv t.cols.length pcv) ∧ StrsS S w6 (.slice okv t.keys.length qkv) ∧ ValsS S w6 (.slice av6 vs.length pv6)) := by
    subst hSd
    refine ⟨?_, ?_, ?_, ?_⟩
    · exact StrsS.good.mono _ _ _ _ (fun c hc => by have h1 := hc.1; have h2 := hc.2; exact ⟨by omega, by omega, by omega⟩) (StrsS.good.holds _ w5 w6 _ (fun c hc hl => h56.block c hl) HN45.out)
    · exact ColsS.good.mono _ _ _ _ (fun c hc => by have h1 := hc.1; have h2 := hc.2; exact ⟨by omega, by omega, by omega⟩) (ColsS.good.holds _ w5 w6 _ (fun c hc hl => h56.block c hl) HN5.out.1)
    · exact StrsS.good.mono _ _ _ _ (fun c hc => by have h1 := hc.1; have h2 := hc.2; exact ⟨by omega, by omega, by omega⟩) (StrsS.good.holds _ w5 w6 _ (fun c hc hl => h56.block c hl) HN5.out.2)
    · exact ValsS.good.mono _ _ _ _ (fun c hc => by have h1 := hc.1; have h2 := hc.2; exact ⟨by omega, by omega, by omega⟩) n6
  have HSD : Hid (∀ c, S c → w3.heap.size ≤ c ∧ c < w6.heap.size ∧ c ≠ w5.heap.size) := by subst hSd; exact fun c h => h
  clear h6 n6 hSd b6 hv5 hz5 HB5 hbu5 HN45 HN5 HV5 HX5 hb5 h35 h56
  obtain ⟨n0', n1', n2'⟩ := HB6.three
  go_wp2_with fail
  refine (mapKey_impl _ _ _ keys t vs _ HX6.out HK6.out HV6.out HF.out.1 HF.out.2.1).mono ?_
  rintro e w7 ⟨v7, ks7, r7, rfl, hq7, b7, hg7⟩
  obtain ⟨rfl, rfl⟩ := hq7.unique HQ.out
  obtain ⟨a1, m1, e1, rfl, hg7⟩ := hg7.lit2
  have HG7 : Hid (Got w7 w6.heap.size 58 3 (.slice a1 m1 e1) (ks7.map Vc.cells)) := hg7
  have h37 := ch_trans h36 b7
  have h67 := b7
  have hs67 := b7.size
  have HB7 := HB6.on b7
  clear hq7 hg7 n0' n1' n2' b7 HB6 h36 hb6
  have hrr : (r7 != r7) = false := by simp
  have hre : (r7 == r7) = true := by simp
  go_wp2_with fail
  refine (eqValS_same _ _ ks7 _ HG7.out.vals (HV0.out.on h37)).mono ?_
  rintro e w8 ⟨rfl, b8⟩
  have h68 := ch_trans h67 b8
  have h38 := ch_trans h37 b8
  have HB8 := HB7.on b8
  have HG8 : Hid (Got w8 w6.heap.size 58 3 (.slice a1 m1 e1) (ks7.map Vc.cells)) := HG7.out.on b8
  clear h67 h37 HB7 HG7 b8
  go_wp2_with fail
  refine (HTC.out _ (ch_trans hb3 h38)).mono ?_
  rintro e w9 ⟨v9, rfl, b9, h9, _⟩
  have HV9 : Hid (StrsV w9 v9 keys) := h9
  have h69 := ch_trans h68 b9
  clear h9
  go_wp2_with fail
  refine (eqStringS_same _ _ keys _ (HK6.out.on h69) HV9.out).mono ?_
  rintro e w10 ⟨rfl, b10⟩
  have h810 := ch_trans b9 b10
  have h610 := ch_trans h68 h810
  have h310 := ch_trans h38 h810
  have HB10 := HB8.on h810
  have HL10 := HL3.on h310
  have HG10 : Hid (Got w10 w6.heap.size 58 3 (.slice a1 m1 e1) (ks7.map Vc.cells)) := HG8.out.on h810
  have hb10 := ch_trans hb3 h310
  clear b9 b10 HV9 h69 h810 h68 h38 HB8 HG8 HK6
  obtain ⟨c0, c1, c2⟩ := HL10.three
  obtain ⟨i0, i1, i2⟩ := HB10.three
  go_wp2_with fail
  refine region_plan [([0, 1], 2), ([], 3)] [4] (by kernel_rfl) (by kernel_rfl) ?_
  have hgd := Grows.drawn w10
  generalize { w10 with drawn := w10.drawn + 1 } = wd at hgd ⊢
  have hbd := ch_trans hb10 hgd
  have c0 := cell_on c0 hgd
  have c1 := cell_on c1 hgd
  have c2 := cell_on c2 hgd
  have i0 := cell_on i0 hgd
  have i1 := cell_on i1 hgd
  have i2 := cell_on i2 hgd
  refine plan_on (by simp only [pick, List.getElem?_toArray, List.getElem?_cons_succ, List.getElem?_cons_zero]; rfl) ?_
  repeat (go_big_quiet_step ((intro hu; have j0 := hu.cell c0; have j1 := hu.cell c1; have j2 := hu.cell c2; have j3 := hu.cell i0; have j4 := hu.cell i1; have j5 := hu.cell i2; go_simp; (try exact rfl))))
  refine wpQuiet_nil ?_
  refine plan_call rfl rfl (fun K hK => ?_)
  go_simp
  go_at_call 10
  refine (HTT.out _ hbd).mono ?_
  rintro e w11 ⟨cv11, kv11, rfl, b11, h11, _, _⟩
  refine ⟨_, rfl, hK _ _ ⟨b11, ?_⟩⟩
  have HY11 : Hid (TabV w11 #[.string t.name, cv11, kv11] t) := h11
  have hg1011 := ch_trans hgd b11
  clear hK K h11 c0 c1 c2 i0 i1 i2
  refine plan_on rfl ?_
  refine wpQuiet_nil ?_
  refine plan_call rfl rfl (fun K hK => ?_)
  go_simp
  go_at_call 13
  refine (eqTable_same _ _ t _ (HX6.out.on (ch_trans h610 hg1011)) HY11.out).mono ?_
  rintro e w12 ⟨rfl, b12⟩
  refine ⟨_, rfl, hK _ _ ⟨b12, ?_⟩⟩
  have h1012 := ch_trans hg1011 b12
  have h612 := ch_trans h610 h1012
  have h312 := ch_trans h310 h1012
  have HB12 := HB10.on h1012
  have HG12 : Hid (Got w12 w6.heap.size 58 3 (.slice a1 m1 e1) (ks7.map Vc.cells)) := HG10.out.on h1012
  have hb12 := ch_trans hb3 h312
  clear hK K b12 b11 hg1011 hgd hbd HY11 HX6 h1012 h610 h310 HB10 HG10 hb10 HL10
  refine plan_end (by simp only [pick, List.getElem?_toArray, List.getElem?_cons_succ, List.getElem?_cons_zero]; rfl) ?_
  repeat (go_big_quiet_step ((intro hu; go_simp; (try exact rfl))))
  refine wpQuiet_nil ?_
  go_wp2_with fail
  refine (HTV.out _ hb12).mono ?_
  rintro e wx ⟨vx, rfl, bx, hvx, _⟩
  have HVX : Hid (ValsV wx vx vs) := hvx
  clear hvx
  go_wp2_with fail
  refine (eqValS_same _ _ vs _ (HV6.out.on (ch_trans h612 bx)) HVX.out).mono ?_
  rintro e w13 ⟨rfl, b13⟩
  have h1213 := ch_trans bx b13
  have h613 := ch_trans h612 h1213
  have h313 := ch_trans h312 h1213
  have HB13 := HB12.on h1213
  have HG13 : Hid (Got w13 w6.heap.size 58 3 (.slice a1 m1 e1) (ks7.map Vc.cells)) := HG12.out.on h1213
  have HS13 : Hid (StrsS S w13 (.slice av4 keys.length pv4) ∧ ColsS S w13 (.slice acv t.cols.length pcv) ∧ StrsS S w13 (.slice okv t.keys.length qkv) ∧ ValsS S w13 (.slice av6 vs.length pv6)) := ⟨StrsS.good.holds S _ _ _ (fun c _ hc => h613.block c hc) HSH.out.1, ColsS.good.holds S _ _ _ (fun c _ hc => h613.block c hc) HSH.out.2.1, StrsS.good.holds S _ _ _ (fun c _ hc => h613.block c hc) HSH.out.2.2.1, ValsS.good.holds S _ _ _ (fun c _ hc => h613.block c hc) HSH.out.2.2.2⟩
  have hs613 := h613.size
  have hs313 := h313.size
  clear bx b13 HVX h1213 h612 h312 HB12 HG12 HSH HV6 hb12 h613
  go_wp2_with fail
  refine (markStringS_shape S _ 1 _ HS13.out.1 (by omega)).mono ?_
  rintro e w14 ⟨K1, rfl, hK1, hM⟩
  have HM14 : Hid (Marks S w13 w14) := hM
  have hn5 : ¬ S w5.heap.size := fun h => (HSD.out _ h).2.2 rfl
  obtain ⟨g0, g1, g2⟩ := HB13.three
  have i0 := hM.turns.cell (p := ⟨w5.heap.size, 0, none⟩) hn5 g0
  have i1 := hM.turns.cell (p := ⟨w5.heap.size, 1, none⟩) hn5 g1
  have i2 := hM.turns.cell (p := ⟨w5.heap.size, 2, none⟩) hn5 g2
  have HS14 : Hid (ColsS S w14 (.slice acv t.cols.length pcv) ∧ StrsS S w14 (.slice okv t.keys.length qkv) ∧ ValsS S w14 (.slice av6 vs.length pv6)) := ⟨ColsS.stays S _ _ _ _ hM (kind1.refl _) HS13.out.2.1, StrsS.stays S _ _ _ _ hM (kind1.refl _) HS13.out.2.2.1, ValsS.stays S _ _ _ _ hM (kind1.refl _) HS13.out.2.2.2⟩
  have hs14 := hM.turns.size
  clear hM g0 g1 g2 HS13 HB13
  go_wp2_with fail
  refine (markTable_shape S _ _ _ K1 _ HS14.out.1 HS14.out.2.1 (fun c hc => by have := (HSD.out c hc).2.1; omega) (by omega)).mono ?_
  rintro e w15 ⟨K2, rfl, hK2, hM⟩
  have HM15 : Hid (Marks S w13 w15) := HM14.out.trans hM
  have HS15 : Hid (ValsS S w15 (.slice av6 vs.length pv6)) := ValsS.stays S _ _ _ _ hM (kind1.refl _) HS14.out.2.2
  clear hM i0 i1 i2 HS14 HM14
  go_wp2_with fail
  refine (markValS_shape S _ K2 _ HS15.out (by omega)).mono ?_
  rintro e w16 ⟨K3, rfl, hK3, hM⟩
  have HM16 : Marks S w13 w16 := HM15.out.trans hM
  have h316 : Below w3.heap.size w3 w16 := h313.trans (HM16.turns.toBelow (fun c hc => (HSD.out c hc).1) (by omega))
  have HG16 : Hid (Got w16 w6.heap.size 58 3 (.slice a1 m1 e1) (ks7.map Vc.cells)) := HG13.out.turns HM16.turns fun c hc => (HSD.out c hc).2.1
  have hk0 : decide ((K3 : Int) < 0) = false := by simp
  have hs16 := HM16.turns.size
  clear hM HM15 HM16 HS15 HG13 h313 hs14 hn5
  go_wp2_with fail
  refine (eqValS_same _ _ ks7 _ HG16.out.vals (HV0.out.on h316)).mono ?_
  rintro e wy ⟨rfl, by'⟩
  have h3y := ch_trans h316 by'
  have HGy : Hid (Got wy w6.heap.size 58 3 (.slice a1 m1 e1) (ks7.map Vc.cells)) := HG16.out.on by'
  have hsy := by'.size
  have hkl' : (ks7.map Vc.cells).length ≤ 1048576 := by simp; omega
  clear by' h316 HG16
  go_wp2_with fail
  refine (markValS_got HGy.out hkl' 1 (by omega)).mono ?_
  rintro e wz ⟨rfl, hT3, hheld⟩
  have HH : Hid (Held wz (.slice a1 m1 e1) 1 (ks7.map Vc.cells).length) := hheld
  have hs36 : w3.heap.size ≤ w6.heap.size := by omega
  have h3z : Below w3.heap.size w3 wz := h3y.trans (hT3.toBelow (fun c h => by have h : w6.heap.size ≤ c := h; omega) (by omega))
  have HHS : Hid (∀ u : World, Held u (.slice a1 m1 e1) 1 (ks7.map Vc.cells).length → Calls Try.prog 27 #[.slice a1 m1 e1, .int .i64 1] u fun e w' => e = .returned (.int .i64 ((1 + (ks7.map Vc.cells).length * 3 : Nat) : Int)) ∧ Below u.heap.size u w') := fun u hu => heldValS_held (k := 1) hu hkl' (by omega)
  clear hT3 hheld HGy h3y
  generalize 1 + (ks7.map Vc.cells).length * 3 = M at HHS ⊢
  have hm0 : decide ((M : Int) < 0) = false := by simp
  have hmm : ((M : Int) != M) = false := by simp
  go_wp2_with fail
  refine (HHS.out _ HH.out).mono ?_
  rintro e w17 ⟨rfl, b17⟩
  have h317 := ch_trans h3z b17
  have HH17 : Hid (Held w17 (.slice a1 m1 e1) 1 (ks7.map Vc.cells).length) := HH.out.on b17
  have hb17 := ch_trans hb3 h317
  have HL17 := HL3.on h317
  clear b17 h3z HH
  obtain ⟨c0, c1, c2⟩ := HL17.three
  go_wp2_with fail
  refine region_plan [([0, 2, 4], 1), ([], 3), ([], 5), ([], 6)] [7, 8, 9, 10, 11] (by kernel_rfl) (by kernel_rfl) ?_
  have hgd := Grows.drawn w17
  generalize { w17 with drawn := w17.drawn + 1 } = wdr at hgd ⊢
  have hbd := ch_trans hb17 hgd
  have c0 := cell_on c0 hgd
  have c1 := cell_on c1 hgd
  have c2 := cell_on c2 hgd
  refine plan_on (by simp only [pick, List.getElem?_toArray, List.getElem?_cons_succ, List.getElem?_cons_zero]; rfl) ?_
  repeat (go_big_quiet_step ((intro hu; have j0 := hu.cell c0; have j1 := hu.cell c1; have j2 := hu.cell c2; go_simp; (try exact rfl))))
  refine wpQuiet_nil ?_
  refine plan_call rfl rfl (fun K hK => ?_)
  go_simp
  go_at_call 9
  refine (HTC.out _ hbd).mono ?_
  rintro e war ⟨va, rfl, ba, hva, _⟩
  refine ⟨_, rfl, hK _ _ ⟨ba, ?_⟩⟩
  have HVA : Hid (StrsV war va keys) := hva
  have hba := ch_trans hbd ba
  have h2a := ch_trans hgd ba
  have c0 := cell_on c0 ba
  have c1 := cell_on c1 ba
  have c2 := cell_on c2 ba
  clear hva hK K ba hbd hgd
  refine plan_on rfl ?_
  refine wpQuiet_nil ?_
  refine plan_call rfl rfl (fun K hK => ?_)
  go_simp
  go_at_call 10
  refine (HTT.out _ hba).mono ?_
  rintro e wlr ⟨cvb, kvb, rfl, bl', hyb, _, _⟩
  refine ⟨_, rfl, hK _ _ ⟨bl', ?_⟩⟩
  have HYB : Hid (TabV wlr #[.string t.name, cvb, kvb] t) := hyb
  have HVA2 : Hid (StrsV wlr va keys) := HVA.out.on bl'
  have hbl := ch_trans hba bl'
  have h2l := ch_trans h2a bl'
  clear hyb hK K bl' HVA hba h2a c0 c1 c2
  refine plan_on rfl ?_
  refine wpQuiet_nil ?_
  refine plan_call rfl rfl (fun K hK => ?_)
  go_simp
  go_at_call 16
  refine (HTV.out _ hbl).mono ?_
  rintro e wbr ⟨vb, rfl, bb, hvb, _⟩
  refine ⟨_, rfl, hK _ _ ⟨bb, ?_⟩⟩
  have HVB : Hid (ValsV wbr vb vs) := hvb
  have HYB3 : Hid (TabV wbr #[.string t.name, cvb, kvb] t) := HYB.out.on bb
  have HVA3 : Hid (StrsV wbr va keys) := HVA2.out.on bb
  have hbb := ch_trans hbl bb
  have h2b := ch_trans h2l bb
  clear hvb hK K bb HVA2 HYB hbl h2l
  refine plan_on rfl ?_
  refine wpQuiet_nil ?_
  refine plan_call rfl rfl (fun K hK => ?_)
  go_simp
  go_at_call 26
  refine (mapKey_impl _ va vb keys t vs _ HYB3.out HVA3.out HVB.out HF.out.1 HF.out.2.1).mono ?_
  rintro e w18 ⟨v2, ks2, r2, rfl, hq2, bc, hg2⟩
  obtain ⟨rfl, rfl⟩ := hq2.unique HQ.out
  obtain ⟨a2, n2, e2, rfl, hg2⟩ := hg2.lit2
  refine ⟨_, rfl, hK _ _ ⟨bc, ?_⟩⟩
  have HV2 : Hid (ValsV w18 (.slice a2 n2 e2) ks2) := hg2.vals
  have h1718 := ch_trans h2b bc
  clear hq2 hg2 hK K bc HYB3 HVA3 HVB hbb h2b
  refine plan_end (by simp only [pick, List.getElem?_toArray, List.getElem?_cons_succ, List.getElem?_cons_zero]; rfl) ?_
  repeat (go_big_quiet_step ((intro hu; go_simp; (try exact rfl))))
  refine wpQuiet_nil ?_
  go_wp2_with fail
  refine (eqValS_same _ _ ks2 _ HV2.out (HV0.out.on (ch_trans h317 h1718))).mono ?_
  rintro e w19 ⟨rfl, b19⟩
  have h1719 := ch_trans h1718 b19
  have HH19 : Hid (Held w19 (.slice a1 m1 e1) 1 (ks2.map Vc.cells).length) := HH17.out.on h1719
  go_wp2_with fail
  refine (HHS.out _ HH19.out).mono ?_
  rintro e w20 ⟨rfl, b20⟩
  have hb20 := ch_trans hb17 (ch_trans h1719 b20)
  go_wp2
  go_ret
  exact ⟨rfl, hb20⟩

theorem own : ownKnob Try.prog.godebug = none := by kernel_rfl
theorem laidOut : laidOutB Try.prog = true := by kernel_rfl

set_option maxRecDepth 100000 in
theorem lifted (os : Os) (started : os.Started) (H : Type) (enc : TypeId × Value → H) :
    ReturnsInHanded {} Try.checked os 5 .any (Rows.fnExactMapKeySpec.pre6 enc Try.prog Try.f5 Rows.fnExactMapKeyRow.domain false) (Rows.fnExactMapKeySpec.post enc Try.prog Try.f5 false true false false) := by
  refine returnsInHanded_of_change (C := Try.checked) own started (by kernel_rfl) Try.func5
    (ChangeSpec.witness6 (enc := enc) (C := Try.checked) false ⟨#[], #[.slice none 0 0, .agg #[.string ByteArray.empty, .slice none 0 0, .slice none 0 0], .slice none 0 0], []⟩ 8 (by kernel_rfl) (by kernel_rfl) (by kernel_rfl) (by kernel_rfl)) ?_
  intro W base args ds gs before hval0 hW _ _
  have hval : ∀ (j : Nat) t v, Try.f5.params[j]? = some t → args[j]? = some v → Value.okWide Try.prog W .any base t v := hval0
  have hW' := hW
  obtain ⟨p, q, hA0, hV, rfl, _, _⟩ := hW
  have hA : DataW.TrodAll enc Try.prog W 0 (fun _ => true) true Try.f5.params.toList args.toList ds p := hA0
  rw [Try.params5] at hA hval
  obtain ⟨v0, v1, v2, d0, d1, d2, p0, p1, p2, rfl, rfl, rfl, h0, h1, h2⟩ := trodAll_three hA
  obtain ⟨rfl, rfl⟩ := trodVars_none hV
  have h0k := h0
  have h1k := h1
  have h2k := h2
  obtain ⟨a1, len1, cap1, rfl⟩ := okWide_slice Try.underlying22 (hval 0 22 v0 rfl rfl)
  obtain ⟨k1, hk1⟩ := h0
  obtain ⟨x1, t1, hc1, hx1, hf1⟩ := open_strs hk1
  have hc1' : x1 = .slice a1 len1 cap1 := by simpa [Value.cells] using hc1.symm
  subst hc1'
  obtain ⟨cs, rfl, hsz⟩ := okWide_struct Try.underlying25 (hval 1 25 v1 rfl rfl)
  obtain ⟨k, hk⟩ := h1
  obtain ⟨x, t, hc, hx, hf⟩ := open_tab hk
  have hc' : cs = x := by apply Array.toList_inj.1; simpa [Value.cells] using hc
  subst hc'
  obtain ⟨a2, len2, cap2, rfl⟩ := okWide_slice Try.underlying37 (hval 2 37 v2 rfl rfl)
  obtain ⟨k2, hk2⟩ := h2
  obtain ⟨x2, t2, hc2, hx2, hf2⟩ := open_vals hk2
  have hc2' : x2 = .slice a2 len2 cap2 := by simpa [Value.cells] using hc2.symm
  subst hc2'
  clear hA0 hval0
  simp only [List.append_nil] at hW'
  have hlt : ∀ x ∈ p0, x.block < W.heap.size := fun x hx => by simpa using hW'.lt x (by simp [hx])
  have hlt1 : ∀ x ∈ p1, x.block < W.heap.size := fun x hx => by simpa using hW'.lt x (by simp [hx])
  have hlt2 : ∀ x ∈ p2, x.block < W.heap.size := fun x hx => by simpa using hW'.lt x (by simp [hx])
  refine (walk cs _ _ t1 t t2 W hx1 hx hx2 hf1 hf hf2).mono fun e W' ⟨he, bel⟩ => ?_
  subst he
  exact ⟨_, rfl, _, _, _, [], _, [], hW', trodAll_mk1 (shut_bool Try.underlying4 _), trodAll_mk3 (Below.trod laidOut (by kernel_rfl) (of_decide_eq_true (by kernel_rfl)) h0k bel hlt) (Below.trod laidOut (by kernel_rfl) (of_decide_eq_true (by kernel_rfl)) h1k bel hlt1) (Below.trod laidOut (by kernel_rfl) (of_decide_eq_true (by kernel_rfl)) h2k bel hlt2), rfl, bel.frame _, fun h => by cases h⟩

theorem over : Rows.FnExactMapKeySaid :=
  OpenClaim.holds_of_wide 5 Try.f5 rfl rfl rfl rfl rfl rfl rfl ⟨rfl, rfl, rfl, rfl, rfl⟩ rfl rfl rfl rfl rfl (by kernel_rfl) Try.func5 (by kernel_rfl)
    (of_decide_eq_true (by kernel_rfl)) (by unfold Func.isWrapper; first | (rw [if_pos (by decide +kernel)]; kernel_rfl) | (rw [if_neg (by decide +kernel)]; exact ⟨rfl, rfl⟩))
    (fun os started H enc _ => lifted os started H enc)
end Go.Proofs.Ytiijahoheajppaa.lawMapKey
namespace Go.Proofs.Ytiijahoheajppaa
theorem fnExactMapKey_holds : Rows.FnExactMapKeySaid := lawMapKey.over
#print axioms fnExactMapKey_holds
end Go.Proofs.Ytiijahoheajppaa
