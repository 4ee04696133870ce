/- For every packet the landed PackRead answers as the given one does, leaves the packet as it was, and its answer owns its memory: 'FnExactPackRead' returns true at every argument, with no condition; its argument reads afterwards as it read before. -/
import Derived.Test.YtiijahoheajppaaGreatRs2
import Derived.Test.YtiijahoheajppaaGreatPrf
import Derived.Test.YtiijahoheajppaaGreatEpl
import Derived.Test.YtiijahoheajppaaGreatPkf
import Derived.Test.YtiijahoheajppaaGreatAl
import Derived.Test.YtiijahoheajppaaGreatRv
import Derived.Deep.RegionWith
import Derived.Deep.DeepCutAuto
namespace Go.Proofs.YtiijahoheajppaaGreat.lawPackRead
open Go.ChangeShapes Go.WideShapes Go.ChangeAt Go.RowKit

theorem turnL {w w' : World} {b : Nat} {x : Array Value} (h : Loc w b x) {S : Nat → Prop} (k : Turns S w w') (hb : ¬ S b) : Loc w' b x := fun j hj => k.cell (p := ⟨b, j, none⟩) hb (h j hj)

theorem BatV.cells {w : World} {B : Nat} {t : Btc} {v : Value} (h : PartsG w B v t.parts) : ∃ a c E, v = .slice a t.parts.length c ∧ BatV w #[.int .i64 t.lsn, .int .i64 t.prev, .slice a t.parts.length c] t ∧ PartsE w B (.slice a t.parts.length c) E ∧ E.map (fun e => e.t) = t.parts := by
  obtain ⟨a, c, e, _, _, hv⟩ := h.read.lit
  subst e
  obtain ⟨E, h1, h2⟩ := h
  exact ⟨a, c, E, rfl, ⟨a, c, rfl, hv⟩, h2, h1⟩
theorem PartsE.bat {w : World} {B : Nat} {t : Btc} {a : Option Addr} {c : Nat} {E : List Ept} (h : PartsE w B (.slice a t.parts.length c) E) (he : E.map (fun e => e.t) = t.parts) : BatV w #[.int .i64 t.lsn, .int .i64 t.prev, .slice a t.parts.length c] t := by
  have h1 := h.parts.read
  rw [he] at h1
  exact ⟨a, c, rfl, h1⟩

set_option maxRecDepth 100000 in
set_option maxHeartbeats 4000000 in
theorem walk (v : Value) (l : List UInt8) (w : World) (hx : BytesV w v l) :
    Calls Tryz.prog 5 #[.agg #[v]] w fun e w' => e = .returned (.bool true) ∧ Below w.heap.size w w' := by
  obtain ⟨a, p, rfl, hlp, hm, hx⟩ := hx.lit
  unfold maxLen at hm
  have HX : Hid (BytesV w (.slice a l.length p) l) := hx
  have HL := Loc.new w #[.slice a l.length p] 57
  have hbv : Below w.heap.size w (w.alloc (.cells #[.slice a l.length p] 57)) := (by repeat (first | with_reducible exact Below.refl _ _ | with_reducible assumption | with_reducible refine ch_alloc ?_ _ | with_reducible refine Below.drew ?_ | with_reducible refine below_draws _ ?_ | (with_reducible refine Below.setCell ?_ ?_ _; rotate_left; focus (first | with_reducible exact Nat.le_refl _ | (simp; done) | (simp; omega) | (simp at *; omega))) | with_reducible refine ch_trans ?_ (by with_reducible assumption)))
  clear hx
  obtain ⟨t, q, hq⟩ : ∃ (t : Btc) (q : Bool), isBat l t q := by
    by_cases h : ∃ u : Btc, u.right ∧ batL u = l
    · obtain ⟨u, h1, h2⟩ := h
      exact ⟨u, true, Or.inl ⟨rfl, h1, h2⟩⟩
    · exact ⟨Btc.zero, false, Or.inr ⟨rfl, fun u h1 h2 => h ⟨u, h1, h2⟩, rfl⟩⟩
  have hfew : t.parts.length ≤ 1048576 := hq.fit.2.1
  go_enter Tryz.func5, Tryz.ntmps5
  go_wp2_with fail
  refine (szPack_any _ l _ _ (HX.out.on hbv) (by omega) (by omega)).mono ?_
  rintro e w1 ⟨r, rfl, b1, hr⟩
  have HL1 := HL.on b1
  have hb1 := ch_trans hbv b1
  clear b1 hbv HL
  have c0 := HL1.one
  rcases hr with rfl | ⟨r0, r1, hsm⟩
  · go_wp2
    go_ret
    exact ⟨rfl, hb1⟩
  have hml : l.length ≤ maxLen := by unfold maxLen; omega
  have HTB : Hid (∀ u : World, Below w.heap.size w u → Calls Tryz.prog 25 #[.agg #[.slice a l.length p]] u fun e w' => ∃ B, e = .returned (.agg #[.slice (some ⟨B, 0, none⟩) l.length l.length]) ∧ u.heap.size ≤ B ∧ B < w'.heap.size ∧ Below u.heap.size u w' ∧ Fill w' B 5 1 l.length (l.map byX)) := fun u hu => toPack_full _ l u (HX.out.on hu) hsm
  have HSS : Hid (∀ (u : World) (B : Nat), Fill u B 5 1 l.length (l.map byX) → Calls Tryz.prog 24 #[.agg #[.slice (some ⟨B, 0, none⟩) l.length l.length]] u fun e w' => ∃ a c, e = .returned (.tuple #[.agg #[.int .i64 t.lsn, .int .i64 t.prev, .slice a t.parts.length c], .bool q]) ∧ BatV w' #[.int .i64 t.lsn, .int .i64 t.prev, .slice a t.parts.length c] t ∧ (∃ E : List Ept, PartsE w' u.heap.size (.slice a t.parts.length c) E ∧ E.map (fun e => e.t) = t.parts) ∧ Below u.heap.size u w') := fun u B h => (packRead_spec B 0 l.length l u h.lt (Nat.le_refl _) hml hsm h.row).mono fun e w' ⟨t', v, r, he, hi, hg, hb⟩ => by
    obtain ⟨rfl, rfl⟩ := hi.unique hq
    obtain ⟨a, c, E, rfl, h1, h2, h3⟩ := BatV.cells hg
    exact ⟨a, c, he, h1, ⟨E, h2, h3⟩, hb⟩
  have HSI : Hid (∀ (u : World) (B : Nat), Fill u B 5 1 l.length (l.map byX) → Calls Tryz.prog 26 #[.agg #[.slice (some ⟨B, 0, none⟩) l.length l.length]] u fun e w' => ∃ a c, e = .returned (.tuple #[.agg #[.int .i64 t.lsn, .int .i64 t.prev, .slice a t.parts.length c], .bool q]) ∧ BatV w' #[.int .i64 t.lsn, .int .i64 t.prev, .slice a t.parts.length c] t ∧ (∃ E : List Ept, PartsE w' u.heap.size (.slice a t.parts.length c) E ∧ E.map (fun e => e.t) = t.parts) ∧ Below u.heap.size u w') := fun u B h => (packRead_impl B 0 l.length l u h.lt (Nat.le_refl _) hml h.row).mono fun e w' ⟨t', v, r, he, hi, hg, hb⟩ => by
    obtain ⟨rfl, rfl⟩ := hi.unique hq
    obtain ⟨a, c, E, rfl, h1, h2, h3⟩ := BatV.cells hg
    exact ⟨a, c, he, h1, ⟨E, h2, h3⟩, hb⟩
  have hqq : (q != q) = false := by simp
  clear hq
  go_wp2_with fail
  refine (HTB.out _ hb1).mono ?_
  rintro e w2 ⟨B0, rfl, _, _, b2, hf0⟩
  have HF0 : Hid (Fill w2 B0 5 1 l.length (l.map byX)) := hf0
  have HL2 := HL1.on b2
  have hb2 := ch_trans hb1 b2
  clear hf0 b2 hb1 HL1 c0
  go_wp2_with fail
  refine (HSS.out _ _ HF0.out).mono ?_
  rintro e w3 ⟨a0, e0, rfl, hv0, _, b3⟩
  have HV0 : Hid (BatV w3 #[.int .i64 t.lsn, .int .i64 t.prev, .slice a0 t.parts.length e0] t) := hv0
  have HL3 := HL2.on b3
  have hb3 := ch_trans hb2 b3
  have HN3 := Loc.new w3 #[.int .i64 t.lsn, .int .i64 t.prev, .slice a0 t.parts.length e0] 33
  have hv3 : Below w3.heap.size w3 (w3.alloc (.cells #[.int .i64 t.lsn, .int .i64 t.prev, .slice a0 t.parts.length e0] 33)) := (by repeat (first | with_reducible exact Below.refl _ _ | with_reducible assumption | with_reducible refine ch_alloc ?_ _ | with_reducible refine Below.drew ?_ | with_reducible refine below_draws _ ?_ | (with_reducible refine Below.setCell ?_ ?_ _; rotate_left; focus (first | with_reducible exact Nat.le_refl _ | (simp; done) | (simp; omega) | (simp at *; omega))) | with_reducible refine ch_trans ?_ (by with_reducible assumption)))
  clear hv0 HF0 b3 hb2 HL2
  have c0 := (HL3.on hv3).one
  obtain ⟨s0, s1, s2⟩ := HN3.three
  go_wp2_with fail
  refine (HTB.out _ (ch_trans hb3 hv3)).mono ?_
  rintro e w4 ⟨B1, rfl, hB1, hlt1, b4, hf1⟩
  have HF1 : Hid (Fill w4 B1 5 1 l.length (l.map byX)) := hf1
  have HN4 := Loc.new w4 #[.slice (some ⟨B1, 0, none⟩) l.length l.length] 28
  have hv4 : Below w4.heap.size w4 (w4.alloc (.cells #[.slice (some ⟨B1, 0, none⟩) l.length l.length] 28)) := (by repeat (first | with_reducible exact Below.refl _ _ | with_reducible assumption | with_reducible refine ch_alloc ?_ _ | with_reducible refine Below.drew ?_ | with_reducible refine below_draws _ ?_ | (with_reducible refine Below.setCell ?_ ?_ _; rotate_left; focus (first | with_reducible exact Nat.le_refl _ | (simp; done) | (simp; omega) | (simp at *; omega))) | with_reducible refine ch_trans ?_ (by with_reducible assumption)))
  have hb34 := ch_trans hv3 (ch_trans b4 hv4)
  have hs34 : w3.heap.size < B1 := by simp at hB1; omega
  have hz4 : (w4.alloc (.cells #[.slice (some ⟨B1, 0, none⟩) l.length l.length] 28)).heap.size = w4.heap.size + 1 := by simp
  have HM3 := HN3.on (ch_trans b4 hv4)
  clear hf1 b4 HN3 hv3 c0 s0 s1 s2 hB1
  have x0 := HN4.one
  go_wp2_with fail
  generalize w4.alloc (.cells #[.slice (some ⟨B1, 0, none⟩) l.length l.length] 28) = u4 at HN4 hv4 hz4 hb34 HM3 x0 ⊢
  refine (HSI.out _ _ (HF1.out.on hv4)).mono ?_
  rintro e w5 ⟨a1, e1, rfl, hv1, ⟨E, hg1, hE⟩, b5⟩
  rw [hz4] at hg1
  have HEQ : Hid (E.map (fun e => e.t) = t.parts) := hE
  have hEl : E.length ≤ 1048576 := by rw [← List.length_map (f := fun e : Ept => e.t), hE]; exact hfew
  have HTP : Hid ((∀ e ∈ E, w4.heap.size + 1 ≤ e.lo ∧ e.hi ≤ w5.heap.size) ∧ ∀ g, (Value.slice a1 t.parts.length e1).ownBlock = some g → w4.heap.size + 1 ≤ g ∧ g < w5.heap.size) := hg1.top
  have HG1 : Hid (PartsE w5 (w4.heap.size + 1) (.slice a1 t.parts.length e1) E) := hg1
  have HV1 : Hid (BatV w5 #[.int .i64 t.lsn, .int .i64 t.prev, .slice a1 t.parts.length e1] t) := hv1
  have HN5 := HN4.on b5
  have HM5 := HM3.on b5
  have hb35 := ch_trans hb34 b5
  have HP5 := Loc.new w5 #[.int .i64 t.lsn, .int .i64 t.prev, .slice a1 t.parts.length e1] 33
  have hv5 : Below w5.heap.size w5 (w5.alloc (.cells #[.int .i64 t.lsn, .int .i64 t.prev, .slice a1 t.parts.length e1] 33)) := (by repeat (first | with_reducible exact Below.refl _ _ | with_reducible assumption | with_reducible refine ch_alloc ?_ _ | with_reducible refine Below.drew ?_ | with_reducible refine below_draws _ ?_ | (with_reducible refine Below.setCell ?_ ?_ _; rotate_left; focus (first | with_reducible exact Nat.le_refl _ | (simp; done) | (simp; omega) | (simp at *; omega))) | with_reducible refine ch_trans ?_ (by with_reducible assumption)))
  have hz5 : w4.heap.size + 1 ≤ w5.heap.size := by rw [← hz4]; exact b5.size
  have hv45 := ch_trans hv4 b5
  have hPB : B1 < w5.heap.size := by omega
  clear hg1 hv1 hE b5 HN4 HM3 hv4 hb34 hz4 x0
  obtain ⟨s0, s1, s2⟩ := (HM5.on hv5).three
  obtain ⟨t0, t1, t2⟩ := HP5.three
  go_wp2_with fail
  have HV5 : Hid (BatV (w5.alloc (.cells #[.int .i64 t.lsn, .int .i64 t.prev, .slice a1 t.parts.length e1] 33)) #[.int .i64 t.lsn, .int .i64 t.prev, .slice a1 t.parts.length e1] t) := HV1.out.on hv5
  have hsv5 : w5.heap.size < (w5.alloc (.cells #[.int .i64 t.lsn, .int .i64 t.prev, .slice a1 t.parts.length e1] 33)).heap.size := by simp
  generalize w5.alloc (.cells #[.int .i64 t.lsn, .int .i64 t.prev, .slice a1 t.parts.length e1] 33) = u5 at HP5 hv5 HV5 hsv5 s0 s1 s2 t0 t1 t2 ⊢
  refine (eqBatch_same _ _ t _ HV5.out (HV0.out.on (ch_trans hb35 hv5))).mono ?_
  rintro e w6 ⟨rfl, b6⟩
  have h56 := ch_trans hv5 b6
  have HN6 := HN5.on h56
  have HM6 := HM5.on h56
  have HP6 := HP5.on b6
  have hb36 := ch_trans hb35 h56
  have HL6 := HL3.on hb36
  have hb6 := ch_trans hb3 hb36
  have hv46 := ch_trans hv45 h56
  have hs56 : w5.heap.size < w6.heap.size := Nat.lt_of_lt_of_le hsv5 b6.size
  clear b6 HN5 HM5 HP5 hb35 hv5 s0 s1 s2 t0 t1 t2 hv45 HV5 hsv5 HV1
  have c0 := HL6.one
  have i0 := HN6.one
  go_wp2_with fail
  refine region_plan [([0, 1], 2), ([], 3)] [4] (by kernel_rfl) (by kernel_rfl) ?_
  have hgd := Grows.drawn w6
  generalize { w6 with drawn := w6.drawn + 1 } = wd at hgd ⊢
  have hbd := ch_trans hb6 hgd
  have HLd := HL6.on hgd
  have HNd := HN6.on hgd
  clear c0 i0
  refine plan_on (by simp only [pick, List.getElem?_toArray, List.getElem?_cons_succ, List.getElem?_cons_zero]; rfl) ?_
  repeat (go_big_quiet_step ((intro hu; have c0 := (HLd.on hu).one; have i0 := (HNd.on hu).one; go_simp; (try exact rfl))))
  refine wpQuiet_nil ?_
  refine plan_call rfl rfl (fun K hK => ?_)
  go_simp
  go_at_call 25
  refine (HTB.out _ hbd).mono ?_
  rintro e w7 ⟨B2, rfl, _, _, b7, hf2⟩
  refine ⟨_, rfl, hK _ _ ⟨b7, ?_⟩⟩
  have HF2 : Hid (Fill w7 B2 5 1 l.length (l.map byX)) := hf2
  have hg67 := ch_trans hgd b7
  clear hK K hf2
  refine plan_on rfl ?_
  refine wpQuiet_nil ?_
  refine plan_call rfl rfl (fun K hK => ?_)
  go_simp
  go_at_call 10
  refine (eqPack_same _ _ l _ ((HF1.out.on (ch_trans hv46 hg67)).bytesV hml) (HF2.out.bytesV hml)).mono ?_
  rintro e w9 ⟨rfl, b9⟩
  refine ⟨_, rfl, hK _ _ ⟨b9, ?_⟩⟩
  have h69 := ch_trans hg67 b9
  have HN9 := HN6.on h69
  have HM9 := HM6.on h69
  have HP9 := HP6.on h69
  have hb39 := ch_trans hb36 h69
  have h59 := ch_trans h56 h69
  have HF9 : Hid (Fill w9 B1 5 1 l.length (l.map byX)) := HF1.out.on (ch_trans hv46 h69)
  have HG9 : Hid (PartsE w9 (w4.heap.size + 1) (.slice a1 t.parts.length e1) E) := HG1.out.on h59
  have hz9 : w5.heap.size < w9.heap.size := Nat.lt_of_lt_of_le hs56 h69.size
  clear hK K b9 hg67 hgd hbd b7 HF2 h69 HN6 HM6 HP6 hb36 hv46 hs56 hb6 HL6 HLd HNd HF1 h59 h56 HG1
  refine plan_end (by simp only [pick, List.getElem?_toArray, List.getElem?_cons_succ, List.getElem?_cons_zero]; rfl) ?_
  repeat (go_big_quiet_step ((intro hu; go_simp; (try exact rfl))))
  refine wpQuiet_nil ?_
  have i0 := HN9.one
  have hva9 : Below w9.heap.size w9 (w9.alloc (.cells #[.slice (some ⟨B1, 0, none⟩) l.length l.length] 28)) := (by repeat (first | with_reducible exact Below.refl _ _ | with_reducible assumption | with_reducible refine ch_alloc ?_ _ | with_reducible refine Below.drew ?_ | with_reducible refine below_draws _ ?_ | (with_reducible refine Below.setCell ?_ ?_ _; rotate_left; focus (first | with_reducible exact Nat.le_refl _ | (simp; done) | (simp; omega) | (simp at *; omega))) | with_reducible refine ch_trans ?_ (by with_reducible assumption)))
  obtain ⟨f1, hr1⟩ := (HF9.out.on hva9).rowIs
  have hmk := markPack_of (R := fun w' => Turns (· = B1) (w9.alloc (.cells #[.slice (some ⟨B1, 0, none⟩) l.length l.length] 28)) w') (some ⟨B1, 0, none⟩) l.length l.length 1 (1 + l.length) w9 ((markByteS_wide B1 l.length l.length _ _ f1 1 _ hr1 (by omega) (by omega) (by omega)).mono fun e w' ⟨h1, h2, _⟩ => ⟨h1, h2⟩)
  have HMK : Hid (Calls Tryz.prog 13 #[.agg #[.slice (some ⟨B1, 0, none⟩) l.length l.length], .int .i64 1] w9 fun e w' => e = .returned (.int .i64 ((1 + l.length : Nat) : Int)) ∧ Turns (· = B1) (w9.alloc (.cells #[.slice (some ⟨B1, 0, none⟩) l.length l.length] 28)) w') := hmk
  clear hmk hr1
  go_wp2_with fail
  refine HMK.out.mono ?_
  rintro e w10 ⟨rfl, hT⟩
  have hs10 : w9.heap.size ≤ w10.heap.size := Nat.le_trans (by simp) hT.size
  have hb310 : Below w3.heap.size w3 w10 := hb39.trans ((hva9.mono hb39.size).trans (hT.toBelow (fun c h => by have h : c = B1 := h; omega) (by simp; have := hb39.size; omega)))
  have HG10 : Hid (PartsE w10 (w4.heap.size + 1) (.slice a1 t.parts.length e1) E) := (HG9.out.on hva9).turned hT fun c h => by have h : c = B1 := h; omega
  have hz10 : w5.heap.size < w10.heap.size := Nat.lt_of_lt_of_le hz9 hs10
  have HM10 : Loc w10 _ _ := turnL (HM9.on hva9) hT (by show ¬ w3.heap.size = B1; omega)
  have HP10 : Loc w10 _ _ := turnL (HP9.on hva9) hT (by show ¬ w5.heap.size = B1; omega)
  have hk0 : decide (((1 + l.length : Nat) : Int) < 0) = false := by simp; omega
  generalize 1 + l.length = K1 at hk0 ⊢
  clear hT HG9 hz9 hb39 i0 HN9 HM9 HP9 HF9 HMK hva9
  obtain ⟨s0, s1, s2⟩ := HM10.three
  obtain ⟨t0, t1, t2⟩ := HP10.three
  have HV10 : Hid (BatV w10 #[.int .i64 t.lsn, .int .i64 t.prev, .slice a1 t.parts.length e1] t) := PartsE.bat HG10.out HEQ.out
  go_wp2_with (go_at_call 11; refine (eqBatch_same _ _ t _ HV10.out (HV0.out.on hb310)).mono ?_; rintro e w11 ⟨rfl, b11⟩; obtain ⟨t0, t1, t2⟩ := (HP10.on b11).three)
  have HG11 : Hid (PartsE w11 (w4.heap.size + 1) (.slice a1 t.parts.length e1) E) := HG10.out.on b11
  have hb311 := ch_trans hb310 b11
  have HM11 := HM10.on b11
  have HP11 := HP10.on b11
  have hz11 : w5.heap.size < w11.heap.size := Nat.lt_of_lt_of_le hz10 b11.size
  clear b11 HG10 hb310 HM10 HP10 hz10 s0 s1 s2 HV10
  obtain ⟨ps, hp1, hp2, hp3⟩ := HG11.out.pl hEl
  have HPB : Hid (∀ p ∈ ps, w4.heap.size + 1 ≤ p.1.block ∧ p.1.block < w5.heap.size) := fun p hp => by
    rcases hp3 p hp with ⟨e, he, h1, h2⟩ | h
    · have := HTP.out.1 e he; omega
    · exact HTP.out.2 _ h
  have HMK : Hid (Calls Tryz.prog 12 #[.agg #[.int .i64 t.lsn, .int .i64 t.prev, .slice a1 t.parts.length e1], .int .i64 1] w11 fun e w' => e = .returned (.int .i64 ((1 + ps.length : Nat) : Int)) ∧ Below (w4.heap.size + 1) w11 w' ∧ Turns (fun c => ∃ q ∈ ps, q.1.block = c) w11 w' ∧ HeldP w' (.slice a1 t.parts.length e1) ps) := markBatch_pl hp1 hp2 (fun p hp => (HPB.out p hp).1) (by omega)
  have HHS : Hid (∀ u : World, HeldP u (.slice a1 t.parts.length e1) ps → Calls Tryz.prog 27 #[.agg #[.int .i64 t.lsn, .int .i64 t.prev, .slice a1 t.parts.length e1], .int .i64 1] u fun e w' => e = .returned (.int .i64 ((1 + ps.length : Nat) : Int)) ∧ Below u.heap.size u w') := fun u hu => heldBatch_pl hu
  clear hp1 hp2 hp3 HG11
  refine HMK.out.mono ?_
  rintro e w12 ⟨rfl, hbl, hT, hheld⟩
  have HH : Hid (HeldP w12 (.slice a1 t.parts.length e1) ps) := hheld
  have hb312 : Below w3.heap.size w3 w12 := hb311.trans (hbl.mono (by omega))
  have HP12 : Loc w12 _ _ := turnL HP11 hT (fun ⟨q, hq, e⟩ => by have := HPB.out q hq; omega)
  have HM12 : Loc w12 _ _ := turnL HM11 hT (fun ⟨q, hq, e⟩ => by have := HPB.out q hq; omega)
  clear hT hbl hheld hb311 hz11 HM11 HP11 HMK t0 t1 t2
  generalize 1 + ps.length = M at HHS ⊢
  have hm0 : decide ((M : Int) < 0) = false := by simp
  have hmm : ((M : Int) != M) = false := by simp
  obtain ⟨t0, t1, t2⟩ := HP12.three
  go_wp2_with fail
  refine (HHS.out _ HH.out).mono ?_
  rintro e w13 ⟨rfl, b13⟩
  have hb313 := ch_trans hb312 b13
  have HH13 : Hid (HeldP w13 (.slice a1 t.parts.length e1) ps) := HH.out.on b13
  have HP13 := HP12.on b13
  have HL13 := HL3.on hb313
  have HM13 := HM12.on b13
  have hb13 := ch_trans hb3 hb313
  clear b13 hb312 HH t0 t1 t2 HP12 HM12
  have c0 := HL13.one
  go_wp2_with fail
  refine (HTB.out _ hb13).mono ?_
  rintro e w14 ⟨B4, rfl, _, _, b14, hf3⟩
  have HF3 : Hid (Fill w14 B4 5 1 l.length (l.map byX)) := hf3
  clear hf3 c0 HL13
  go_wp2_with fail
  refine (HSI.out _ _ HF3.out).mono ?_
  rintro e w15 ⟨a2, e2, rfl, hv2, _, b15⟩
  have h1315 := ch_trans b14 b15
  have hv15 : Below w15.heap.size w15 (w15.alloc (.cells #[.int .i64 t.lsn, .int .i64 t.prev, .slice a2 t.parts.length e2] 33)) := (by repeat (first | with_reducible exact Below.refl _ _ | with_reducible assumption | with_reducible refine ch_alloc ?_ _ | with_reducible refine Below.drew ?_ | with_reducible refine below_draws _ ?_ | (with_reducible refine Below.setCell ?_ ?_ _; rotate_left; focus (first | with_reducible exact Nat.le_refl _ | (simp; done) | (simp; omega) | (simp at *; omega))) | with_reducible refine ch_trans ?_ (by with_reducible assumption)))
  have HV2 : Hid (BatV (w15.alloc (.cells #[.int .i64 t.lsn, .int .i64 t.prev, .slice a2 t.parts.length e2] 33)) #[.int .i64 t.lsn, .int .i64 t.prev, .slice a2 t.parts.length e2] t) := hv2.on hv15
  obtain ⟨s0, s1, s2⟩ := (HM13.on (ch_trans h1315 hv15)).three
  obtain ⟨t0, t1, t2⟩ := (Loc.new w15 #[.int .i64 t.lsn, .int .i64 t.prev, .slice a2 t.parts.length e2] 33).three
  have HP15 := HP13.on (ch_trans h1315 hv15)
  have h1316 := ch_trans h1315 hv15
  clear hv2 b14 b15 HF3 h1315 HP13 HM13
  go_wp2_with fail
  generalize w15.alloc (.cells #[.int .i64 t.lsn, .int .i64 t.prev, .slice a2 t.parts.length e2] 33) = u15 at hv15 s0 s1 s2 t0 t1 t2 HP15 h1316 HV2 ⊢
  refine (eqBatch_same _ _ t _ HV2.out (HV0.out.on (ch_trans hb313 h1316))).mono ?_
  rintro e w16 ⟨rfl, b16⟩
  have h16 := ch_trans h1316 b16
  obtain ⟨r0, r1, r2⟩ := (HP15.on b16).three
  clear b16 h1316 s0 s1 s2 t0 t1 t2 hv15
  go_wp2_with fail
  refine (HHS.out _ (HH13.out.on h16)).mono ?_
  rintro e w17 ⟨rfl, b17⟩
  have hb17 := ch_trans hb13 (ch_trans h16 b17)
  clear b17 h16 r0 r1 r2
  go_wp2
  go_ret
  exact ⟨rfl, hb17⟩

theorem own : ownKnob Tryz.prog.godebug = none := by kernel_rfl
theorem laidOut : laidOutB Tryz.prog = true := by kernel_rfl

theorem cellsPack : Tryz.prog.cellsOf 57 = 1 ∧ Tryz.prog.cellsOf 26 = 1 := ⟨by kernel_rfl, by kernel_rfl⟩
set_option maxRecDepth 100000 in
theorem open_pack {H : Type} {enc : TypeId × Value → H} {W : World} {base : Nat} {spare : Nat → Bool} {held : Bool} {n : Nat} {cs : List Value} {y : DataW H × List MemPlace} (h : DataW.trod enc Tryz.prog W base spare held n 57 cs = some y) : ∃ v l, cs = [v] ∧ BytesV W v l := by
  obtain ⟨xs, k, rfl, rfl, hl, hlen, hf⟩ := DataW.trod_struct Tryz.underlying57 h
  obtain ⟨z1, z2⟩ := cellsPack
  rw [z1] at hl
  have h0 : DataW.trod enc Tryz.prog W base spare held k 26 ((cs.drop 0).take (Tryz.prog.cellsOf 26)) = xs[0]? := hf 0 _ rfl
  match xs, hlen, cs, hl with
  | [x0], _, [a0], _ =>
    simp only [z2] at h0
    obtain ⟨v, l, e, hx⟩ := open_bytes (h0.trans rfl)
    exact ⟨v, l, by simpa using e, hx⟩

set_option maxRecDepth 100000 in
theorem lifted (os : Os) (started : os.Started) (H : Type) (enc : TypeId × Value → H) :
    ReturnsInHanded {} Tryz.checked os 5 .any (Rows.fnExactPackReadSpec.pre6 enc Tryz.prog Tryz.f5 Rows.fnExactPackReadRow.domain false) (Rows.fnExactPackReadSpec.post enc Tryz.prog Tryz.f5 false true false false) := by
  refine returnsInHanded_of_change (C := Tryz.checked) own started (by kernel_rfl) Tryz.func5
    (ChangeSpec.witness6 (enc := enc) (C := Tryz.checked) false ⟨#[], #[.agg #[.slice none 0 0]], []⟩ 8 (by kernel_rfl) (by kernel_rfl) (by kernel_rfl) (by kernel_rfl)) ?_
  intro W base args ds gs before hval0 hW _ _
  have hval : ∀ (j : Nat) t v, Tryz.f5.params[j]? = some t → args[j]? = some v → Value.okWide Tryz.prog W .any base t v := hval0
  have hW' := hW
  obtain ⟨p, q, hA0, hV, rfl, _, _⟩ := hW
  have hA : DataW.TrodAll enc Tryz.prog W 0 (fun _ => true) true Tryz.f5.params.toList args.toList ds p := hA0
  rw [Tryz.params5] at hA hval
  obtain ⟨v0, d0, rfl, rfl, h0⟩ := trodAll_one hA
  obtain ⟨rfl, rfl⟩ := trodVars_none hV
  have h0k := h0
  obtain ⟨cs, rfl, hsz⟩ := okWide_struct Tryz.underlying57 (hval 0 57 v0 rfl rfl)
  obtain ⟨k, hk⟩ := h0
  obtain ⟨x, l, hc, hx⟩ := open_pack hk
  have hc' : cs = #[x] := by apply Array.toList_inj.1; simpa [Value.cells] using hc
  subst hc'
  clear hA0 hval0
  simp only [List.append_nil] at hW'
  have hlt : ∀ x ∈ p, x.block < W.heap.size := fun x hx => by simpa using hW'.lt x (by simp [hx])
  refine (walk _ l W hx).mono fun e W' ⟨he, bel⟩ => ?_
  subst he
  exact ⟨_, rfl, _, _, _, [], _, [], hW', trodAll_mk1 (shut_bool Tryz.underlying4 _), trodAll_mk1 (Below.trod laidOut (by kernel_rfl) (of_decide_eq_true (by kernel_rfl)) h0k bel hlt), rfl, bel.frame _, fun h => by cases h⟩

theorem over : Rows.FnExactPackReadSaid :=
  OpenClaim.holds_of_wide 5 Tryz.f5 rfl rfl rfl rfl rfl rfl rfl ⟨rfl, rfl, rfl, rfl, rfl⟩ rfl rfl rfl rfl rfl (by kernel_rfl) Tryz.func5 (by kernel_rfl)
    (of_decide_eq_true (by kernel_rfl)) (by unfold Func.isWrapper; first | (rw [if_pos (by decide +kernel)]; kernel_rfl) | (rw [if_neg (by decide +kernel)]; exact ⟨rfl, rfl⟩))
    (fun os started H enc _ => lifted os started H enc)
end Go.Proofs.YtiijahoheajppaaGreat.lawPackRead
namespace Go.Proofs.YtiijahoheajppaaGreat
theorem fnExactPackRead_holds : Rows.FnExactPackReadSaid := lawPackRead.over
#print axioms fnExactPackRead_holds
end Go.Proofs.YtiijahoheajppaaGreat
