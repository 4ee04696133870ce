/- For every packet and every number the landed PackCut answers as the given one does, leaves the packet as it was, and its answer owns its memory: 'FnExactPackCut' returns true at all arguments, with no condition; its arguments read afterwards as they read before. -/
import Derived.Test.YtikccmgpmbnkfaaPkb
import Derived.Test.YtikccmgpmbnkfaaCq
import Derived.Test.YtikccmgpmbnkfaaOrd
import Derived.Deep.RegionWith
import Derived.Deep.DeepCutAuto
namespace Go.Proofs.Ytikccmgpmbnkfaa.lawPackCut
open Go.ChangeShapes Go.WideShapes Go.ChangeAt Go.RowKit

theorem turnL {w w' : World} {b : Nat} {x : Array Value} (h : Loc w b x) {S : Nat → Prop} (k : Turns S w w') (hb : ¬ S b) : Loc w' b x := fun j hj => k.cell (p := ⟨b, j, none⟩) hb (h j hj)

set_option maxRecDepth 100000 in
set_option maxHeartbeats 2000000 in
theorem walk (v : Value) (l : List UInt8) (n : Int) (w : World) (hx : BytesV w v l) :
    Calls Try.prog 4 #[.agg #[v], .int .i64 n] w fun e w' => e = .returned (.bool true) ∧ Below w.heap.size w w' := by
  obtain ⟨a, p, rfl, hlp, hm, hx⟩ := hx.lit
  unfold maxLen at hm
  have HX : Hid (BytesV w (.slice a l.length p) l) := hx
  have HL := Loc.new w #[.slice a l.length p] 35
  have hbv : Below w.heap.size w (w.alloc (.cells #[.slice a l.length p] 35)) := (by repeat (first | with_reducible exact Below.refl _ _ | with_reducible assumption | with_reducible refine ch_alloc ?_ _ | with_reducible refine Below.drew ?_ | with_reducible refine below_draws _ ?_ | (with_reducible refine Below.setCell ?_ ?_ _; rotate_left; focus (first | with_reducible exact Nat.le_refl _ | (simp; done) | (simp; omega) | (simp at *; omega))) | with_reducible refine ch_trans ?_ (by with_reducible assumption)))
  clear hx
  go_enter Try.func4, Try.ntmps4
  go_wp2_with fail
  refine (szPack_any _ l _ _ (HX.out.on hbv) (by omega) (by omega)).mono ?_
  rintro e w1 ⟨r, rfl, b1, hr⟩
  have HL1 := HL.on b1
  have hb1 := ch_trans hbv b1
  clear b1 hbv HL
  have c0 := HL1.one
  rcases hr with rfl | ⟨r0, r1, hsm⟩
  · go_wp2
    go_ret
    exact ⟨rfl, hb1⟩
  have hml : l.length ≤ maxLen := by unfold maxLen; omega
  obtain ⟨L, hL, hLl⟩ : ∃ L, L = l.take (cutN n l) ∧ L.length ≤ 1048576 := ⟨_, rfl, by rw [List.length_take]; omega⟩
  have HTB : Hid (∀ u : World, Below w.heap.size w u → Calls Try.prog 13 #[.agg #[.slice a l.length p]] u fun e w' => ∃ B, e = .returned (.agg #[.slice (some ⟨B, 0, none⟩) l.length l.length]) ∧ u.heap.size ≤ B ∧ B < w'.heap.size ∧ Below u.heap.size u w' ∧ Fill w' B 5 1 l.length (l.map byX)) := fun u hu => toPack_full _ l u (HX.out.on hu) hsm
  have HSS : Hid (∀ (u : World) (B : Nat), Fill u B 5 1 l.length (l.map byX) → Calls Try.prog 12 #[.agg #[.slice (some ⟨B, 0, none⟩) l.length l.length], .int .i64 n] u fun e w' => ∃ kv, e = .returned (.agg #[kv]) ∧ Below u.heap.size u w' ∧ Got w' u.heap.size 5 1 kv (L.map byX)) := fun u B h => by rw [hL]; exact packCut_spec B l n u h.row hsm
  have HSI : Hid (∀ (u : World) (B : Nat), Fill u B 5 1 l.length (l.map byX) → Calls Try.prog 14 #[.agg #[.slice (some ⟨B, 0, none⟩) l.length l.length], .int .i64 n] u fun e w' => ∃ kv, e = .returned (.agg #[kv]) ∧ Below u.heap.size u w' ∧ Got w' u.heap.size 5 1 kv (L.map byX)) := fun u B h => by rw [hL]; exact packCut_impl B l n u h.row hsm
  have hkl' : (L.map byX).length ≤ 2000000 := by simp; omega
  clear hL
  go_wp2_with fail
  refine (HTB.out _ hb1).mono ?_
  rintro e w2 ⟨B0, rfl, _, _, b2, hf0⟩
  have HF0 : Hid (Fill w2 B0 5 1 l.length (l.map byX)) := hf0
  have HL2 := HL1.on b2
  have hb2 := ch_trans hb1 b2
  clear hf0 b2 hb1 HL1 c0
  go_wp2_with fail
  refine (HSS.out _ _ HF0.out).mono ?_
  rintro e w3 ⟨v0, rfl, b3, hg0⟩
  obtain ⟨a0, n0, e0, rfl, hg0⟩ := hg0.lit2
  have HG0 : Hid (BytesV w3 (.slice a0 n0 e0) L) := hg0.bytes
  have HL3 := HL2.on b3
  have hb3 := ch_trans hb2 b3
  have HN3 := Loc.new w3 #[.slice a0 n0 e0] 37
  have hv3 : Below w3.heap.size w3 (w3.alloc (.cells #[.slice a0 n0 e0] 37)) := (by repeat (first | with_reducible exact Below.refl _ _ | with_reducible assumption | with_reducible refine ch_alloc ?_ _ | with_reducible refine Below.drew ?_ | with_reducible refine below_draws _ ?_ | (with_reducible refine Below.setCell ?_ ?_ _; rotate_left; focus (first | with_reducible exact Nat.le_refl _ | (simp; done) | (simp; omega) | (simp at *; omega))) | with_reducible refine ch_trans ?_ (by with_reducible assumption)))
  clear hg0 HF0 b3 hb2 HL2
  have c0 := (HL3.on hv3).one
  have s0 := HN3.one
  go_wp2_with fail
  refine (HTB.out _ (ch_trans hb3 hv3)).mono ?_
  rintro e w4 ⟨B1, rfl, hB1, hlt1, b4, hf1⟩
  have HF1 : Hid (Fill w4 B1 5 1 l.length (l.map byX)) := hf1
  have HN4 := Loc.new w4 #[.slice (some ⟨B1, 0, none⟩) l.length l.length] 37
  have hv4 : Below w4.heap.size w4 (w4.alloc (.cells #[.slice (some ⟨B1, 0, none⟩) l.length l.length] 37)) := (by repeat (first | with_reducible exact Below.refl _ _ | with_reducible assumption | with_reducible refine ch_alloc ?_ _ | with_reducible refine Below.drew ?_ | with_reducible refine below_draws _ ?_ | (with_reducible refine Below.setCell ?_ ?_ _; rotate_left; focus (first | with_reducible exact Nat.le_refl _ | (simp; done) | (simp; omega) | (simp at *; omega))) | with_reducible refine ch_trans ?_ (by with_reducible assumption)))
  have hb34 := ch_trans hv3 (ch_trans b4 hv4)
  have hs34 : w3.heap.size < B1 := by simp at hB1; omega
  have hz4 : (w4.alloc (.cells #[.slice (some ⟨B1, 0, none⟩) l.length l.length] 37)).heap.size = w4.heap.size + 1 := by simp
  have HM3 := HN3.on (ch_trans b4 hv4)
  clear hf1 b4 HN3 hv3 c0 s0 hB1
  have x0 := HN4.one
  go_wp2_with fail
  generalize w4.alloc (.cells #[.slice (some ⟨B1, 0, none⟩) l.length l.length] 37) = u4 at HN4 hv4 hz4 hb34 HM3 x0 ⊢
  refine (HSI.out _ _ (HF1.out.on hv4)).mono ?_
  rintro e w5 ⟨v1, rfl, b5, hg1⟩
  obtain ⟨a1, n1, e1, rfl, hg1⟩ := hg1.lit2
  rw [hz4] at hg1
  have HG1 : Hid (Got w5 (w4.heap.size + 1) 5 1 (.slice a1 n1 e1) (L.map byX)) := hg1
  have HG1' : Hid (BytesV w5 (.slice a1 n1 e1) L) := hg1.bytes
  have HOW : Hid (∀ c, (Value.slice a1 n1 e1).ownBlock = some c → c < w5.heap.size) := fun c hc => by
    obtain ⟨cur, h⟩ := hg1.tag hc
    exact (Array.getElem?_eq_some_iff.1 h).1
  have HN5 := HN4.on b5
  have HM5 := HM3.on b5
  have hb35 := ch_trans hb34 b5
  have HP5 := Loc.new w5 #[.slice a1 n1 e1] 37
  have hv5 : Below w5.heap.size w5 (w5.alloc (.cells #[.slice a1 n1 e1] 37)) := (by repeat (first | with_reducible exact Below.refl _ _ | with_reducible assumption | with_reducible refine ch_alloc ?_ _ | with_reducible refine Below.drew ?_ | with_reducible refine below_draws _ ?_ | (with_reducible refine Below.setCell ?_ ?_ _; rotate_left; focus (first | with_reducible exact Nat.le_refl _ | (simp; done) | (simp; omega) | (simp at *; omega))) | with_reducible refine ch_trans ?_ (by with_reducible assumption)))
  have hz5 : w4.heap.size + 1 ≤ w5.heap.size := by rw [← hz4]; exact b5.size
  have hv45 := ch_trans hv4 b5
  have hPB : B1 < w5.heap.size := by omega
  clear hg1 b5 HN4 HM3 hv4 hb34 hz4 x0
  have s0 := (HM5.on hv5).one
  have t0 := HP5.one
  go_wp2_with fail
  generalize w5.alloc (.cells #[.slice a1 n1 e1] 37) = u5 at HP5 hv5 s0 t0 ⊢
  refine (eqPack_same _ _ L _ (HG1'.out.on hv5) (HG0.out.on (ch_trans hb35 hv5))).mono ?_
  rintro e w6 ⟨rfl, b6⟩
  have h56 := ch_trans hv5 b6
  have HN6 := HN5.on h56
  have HM6 := HM5.on h56
  have HP6 := HP5.on b6
  have hb36 := ch_trans hb35 h56
  have HL6 := HL3.on hb36
  have hb6 := ch_trans hb3 hb36
  have hv46 := ch_trans hv45 h56
  have HG6 : Hid (Got w6 (w4.heap.size + 1) 5 1 (.slice a1 n1 e1) (L.map byX)) := HG1.out.on h56
  have hz6 : w4.heap.size + 1 ≤ w6.heap.size := Nat.le_trans hz5 h56.size
  clear b6 h56 HN5 HM5 HP5 hb35 hv5 s0 t0 hv45 HG1 HG1' hz5
  have c0 := HL6.one
  have i0 := HN6.one
  go_wp2_with fail
  refine region_plan [([0, 1], 2), ([], 3)] [4] (by kernel_rfl) (by kernel_rfl) ?_
  have hgd := Grows.drawn w6
  generalize { w6 with drawn := w6.drawn + 1 } = wd at hgd ⊢
  have hbd := ch_trans hb6 hgd
  have HLd := HL6.on hgd
  have HNd := HN6.on hgd
  clear c0 i0
  refine plan_on (by simp only [pick, List.getElem?_toArray, List.getElem?_cons_succ, List.getElem?_cons_zero]; rfl) ?_
  repeat (go_big_quiet_step ((intro hu; have c0 := (HLd.on hu).one; have i0 := (HNd.on hu).one; go_simp; (try exact rfl))))
  refine wpQuiet_nil ?_
  refine plan_call rfl rfl (fun K hK => ?_)
  go_simp
  go_at_call 13
  refine (HTB.out _ hbd).mono ?_
  rintro e w7 ⟨B2, rfl, _, _, b7, hf2⟩
  refine ⟨_, rfl, hK _ _ ⟨b7, ?_⟩⟩
  have HF2 : Hid (Fill w7 B2 5 1 l.length (l.map byX)) := hf2
  have hg67 := ch_trans hgd b7
  clear hK K hf2
  refine plan_on rfl ?_
  refine wpQuiet_nil ?_
  refine plan_call rfl rfl (fun K hK => ?_)
  go_simp
  go_at_call 15
  refine (eqPack_same _ _ l _ ((HF1.out.on (ch_trans hv46 hg67)).bytesV hml) (HF2.out.bytesV hml)).mono ?_
  rintro e w9 ⟨rfl, b9⟩
  refine ⟨_, rfl, hK _ _ ⟨b9, ?_⟩⟩
  have h69 := ch_trans hg67 b9
  have HN9 := HN6.on h69
  have HM9 := HM6.on h69
  have HP9 := HP6.on h69
  have hb39 := ch_trans hb36 h69
  have HF9 : Hid (Fill w9 B1 5 1 l.length (l.map byX)) := HF1.out.on (ch_trans hv46 h69)
  have HG9 : Hid (Got w9 (w4.heap.size + 1) 5 1 (.slice a1 n1 e1) (L.map byX)) := HG6.out.on h69
  have hz9 : w4.heap.size + 1 ≤ w9.heap.size := Nat.le_trans hz6 h69.size
  clear hK K b9 hg67 hgd hbd b7 HF2 h69 HN6 HM6 HP6 hb36 hv46 HG6 hz6 hb6 HL6 HLd HNd HF1
  refine plan_end (by simp only [pick, List.getElem?_toArray, List.getElem?_cons_succ, List.getElem?_cons_zero]; rfl) ?_
  repeat (go_big_quiet_step ((intro hu; go_simp; (try exact rfl))))
  refine wpQuiet_nil ?_
  have i0 := HN9.one
  have hva9 : Below w9.heap.size w9 (w9.alloc (.cells #[.slice (some ⟨B1, 0, none⟩) l.length l.length] 37)) := (by repeat (first | with_reducible exact Below.refl _ _ | with_reducible assumption | with_reducible refine ch_alloc ?_ _ | with_reducible refine Below.drew ?_ | with_reducible refine below_draws _ ?_ | (with_reducible refine Below.setCell ?_ ?_ _; rotate_left; focus (first | with_reducible exact Nat.le_refl _ | (simp; done) | (simp; omega) | (simp at *; omega))) | with_reducible refine ch_trans ?_ (by with_reducible assumption)))
  obtain ⟨f1, hr1⟩ := (HF9.out.on hva9).rowIs
  have hmk := markPack_of (R := fun w' => Turns (· = B1) (w9.alloc (.cells #[.slice (some ⟨B1, 0, none⟩) l.length l.length] 37)) w') (some ⟨B1, 0, none⟩) l.length l.length 1 (1 + l.length) w9 ((markByteS_wide B1 l.length l.length _ _ f1 1 _ hr1 (by omega) (by omega) (by omega)).mono fun e w' ⟨h1, h2, _⟩ => ⟨h1, h2⟩)
  have HMK : Hid (Calls Try.prog 16 #[.agg #[.slice (some ⟨B1, 0, none⟩) l.length l.length], .int .i64 1] w9 fun e w' => e = .returned (.int .i64 ((1 + l.length : Nat) : Int)) ∧ Turns (· = B1) (w9.alloc (.cells #[.slice (some ⟨B1, 0, none⟩) l.length l.length] 37)) w') := hmk
  clear hmk hr1
  go_wp2_with fail
  refine HMK.out.mono ?_
  rintro e w10 ⟨rfl, hT⟩
  have hs10 : w9.heap.size ≤ w10.heap.size := Nat.le_trans (by simp) hT.size
  have hb310 : Below w3.heap.size w3 w10 := hb39.trans ((hva9.mono hb39.size).trans (hT.toBelow (fun c h => by have h : c = B1 := h; omega) (by simp; have := hb39.size; omega)))
  have HG10 : Hid (Got w10 (w4.heap.size + 1) 5 1 (.slice a1 n1 e1) (L.map byX)) := (HG9.out.on hva9).turns hT fun c h => by have h : c = B1 := h; omega
  have hz10 : w4.heap.size + 1 ≤ w10.heap.size := Nat.le_trans hz9 hs10
  have HM10 : Loc w10 _ _ := turnL (HM9.on hva9) hT (by show ¬ w3.heap.size = B1; omega)
  have HP10 : Loc w10 _ _ := turnL (HP9.on hva9) hT (by show ¬ w5.heap.size = B1; omega)
  have hk0 : decide (((1 + l.length : Nat) : Int) < 0) = false := by simp; omega
  generalize 1 + l.length = K1 at hk0 ⊢
  clear hT HG9 hz9 hb39 i0 HN9 HM9 HP9 HF9 HMK hva9
  have s0 := HM10.one
  have t0 := HP10.one
  go_wp2_with (go_at_call 15; refine (eqPack_same _ _ L _ HG10.out.bytes (HG0.out.on hb310)).mono ?_; rintro e w11 ⟨rfl, b11⟩; have t0 := (HP10.on b11).one)
  have HG11 : Hid (Got w11 (w4.heap.size + 1) 5 1 (.slice a1 n1 e1) (L.map byX)) := HG10.out.on b11
  have hb311 := ch_trans hb310 b11
  have HM11 := HM10.on b11
  have HP11 := HP10.on b11
  have hz11 : w4.heap.size + 1 ≤ w11.heap.size := Nat.le_trans hz10 b11.size
  clear b11 HG10 hb310 HM10 HP10 hz10 s0
  have hva11 : Below w11.heap.size w11 (w11.alloc (.cells #[.slice a1 n1 e1] 37)) := (by repeat (first | with_reducible exact Below.refl _ _ | with_reducible assumption | with_reducible refine ch_alloc ?_ _ | with_reducible refine Below.drew ?_ | with_reducible refine below_draws _ ?_ | (with_reducible refine Below.setCell ?_ ?_ _; rotate_left; focus (first | with_reducible exact Nat.le_refl _ | (simp; done) | (simp; omega) | (simp at *; omega))) | with_reducible refine ch_trans ?_ (by with_reducible assumption)))
  have hmk := markPack_of (R := fun w' => Turns (fun c => (Value.slice a1 n1 e1).ownBlock = some c) (w11.alloc (.cells #[.slice a1 n1 e1] 37)) w' ∧ HeldL w' (.slice a1 n1 e1) 1 (markY 1) (L.map byX).length) a1 n1 e1 1 (1 + (L.map byX).length) w11 ((markByteS_got (HG11.out.on hva11) hkl' 1 (by omega)).mono fun e w' ⟨h1, h2, h3⟩ => ⟨h1, h2, h3⟩)
  have HMK : Hid (Calls Try.prog 16 #[.agg #[.slice a1 n1 e1], .int .i64 1] w11 fun e w' => e = .returned (.int .i64 ((1 + (L.map byX).length : Nat) : Int)) ∧ Turns (fun c => (Value.slice a1 n1 e1).ownBlock = some c) (w11.alloc (.cells #[.slice a1 n1 e1] 37)) w' ∧ HeldL w' (.slice a1 n1 e1) 1 (markY 1) (L.map byX).length) := hmk
  have HHS : Hid (∀ u : World, HeldL u (.slice a1 n1 e1) 1 (markY 1) (L.map byX).length → Calls Try.prog 17 #[.agg #[.slice a1 n1 e1], .int .i64 1] u fun e w' => e = .returned (.int .i64 ((1 + (L.map byX).length : Nat) : Int)) ∧ Below u.heap.size u w') := fun u hu => heldPack_of a1 n1 e1 1 _ u ((heldByteS_held (k := 1) (hu.on (ch_alloc (Below.refl _ _) _)) hkl' (by omega)).mono fun e w' ⟨h1, h2⟩ => ⟨h1, ((ch_alloc (Below.refl _ _) _).trans (h2.mono (by simp)))⟩)
  clear hmk
  refine HMK.out.mono ?_
  rintro e w12 ⟨rfl, hT, hheld⟩
  have HH : Hid (HeldL w12 (.slice a1 n1 e1) 1 (markY 1) (L.map byX).length) := hheld
  have hb312 : Below w3.heap.size w3 w12 := hb311.trans ((hva11.mono hb311.size).trans (hT.toBelow (fun c hc => by have := HG11.out.own hc; omega) (by simp; have := hb311.size; omega)))
  have HP12 : Loc w12 _ _ := turnL (HP11.on hva11) hT (fun hc => by have := HOW.out _ hc; omega)
  have HM12 : Loc w12 _ _ := turnL (HM11.on hva11) hT (fun hc => by have := HG11.out.own hc; omega)
  clear hT hheld hb311 HG11 hz11 HM11 HP11 HMK
  generalize 1 + (L.map byX).length = M at HHS ⊢
  have hm0 : decide ((M : Int) < 0) = false := by simp
  have hmm : ((M : Int) != M) = false := by simp
  have t0 := HP12.one
  go_wp2_with fail
  refine (HHS.out _ HH.out).mono ?_
  rintro e w13 ⟨rfl, b13⟩
  have hb313 := ch_trans hb312 b13
  have HH13 : Hid (HeldL w13 (.slice a1 n1 e1) 1 (markY 1) (L.map byX).length) := HH.out.on b13
  have HP13 := HP12.on b13
  have HL13 := HL3.on hb313
  have HM13 := HM12.on b13
  have hb13 := ch_trans hb3 hb313
  clear b13 hb312 HH t0 HP12 HM12
  have c0 := HL13.one
  go_wp2_with fail
  refine (HTB.out _ hb13).mono ?_
  rintro e w14 ⟨B4, rfl, _, _, b14, hf3⟩
  have HF3 : Hid (Fill w14 B4 5 1 l.length (l.map byX)) := hf3
  clear hf3 c0 HL13
  go_wp2_with fail
  refine (HSI.out _ _ HF3.out).mono ?_
  rintro e w15 ⟨v2, rfl, b15, hg2⟩
  obtain ⟨a2, n2, e2, rfl, hg2⟩ := hg2.lit2
  have HG2 : Hid (BytesV w15 (.slice a2 n2 e2) L) := hg2.bytes
  have h1315 := ch_trans b14 b15
  have hv15 : Below w15.heap.size w15 (w15.alloc (.cells #[.slice a2 n2 e2] 37)) := (by repeat (first | with_reducible exact Below.refl _ _ | with_reducible assumption | with_reducible refine ch_alloc ?_ _ | with_reducible refine Below.drew ?_ | with_reducible refine below_draws _ ?_ | (with_reducible refine Below.setCell ?_ ?_ _; rotate_left; focus (first | with_reducible exact Nat.le_refl _ | (simp; done) | (simp; omega) | (simp at *; omega))) | with_reducible refine ch_trans ?_ (by with_reducible assumption)))
  have s0 := (HM13.on (ch_trans h1315 hv15)).one
  have t0 := (Loc.new w15 #[.slice a2 n2 e2] 37).one
  have HP15 := HP13.on (ch_trans h1315 hv15)
  have h1316 := ch_trans h1315 hv15
  clear hg2 b14 b15 HF3 h1315 HP13 HM13
  go_wp2_with fail
  generalize w15.alloc (.cells #[.slice a2 n2 e2] 37) = u15 at hv15 s0 t0 HP15 h1316 ⊢
  refine (eqPack_same _ _ L _ (HG2.out.on hv15) (HG0.out.on (ch_trans hb313 h1316))).mono ?_
  rintro e w16 ⟨rfl, b16⟩
  have h16 := ch_trans h1316 b16
  have r0 := (HP15.on b16).one
  clear b16 h1316 s0 t0 hv15
  go_wp2_with fail
  refine (HHS.out _ (HH13.out.on h16)).mono ?_
  rintro e w17 ⟨rfl, b17⟩
  have hb17 := ch_trans hb13 (ch_trans h16 b17)
  clear b17 h16 r0
  go_wp2
  go_ret
  exact ⟨rfl, hb17⟩

theorem own : ownKnob Try.prog.godebug = none := by kernel_rfl
theorem laidOut : laidOutB Try.prog = true := by kernel_rfl

theorem cellsPack : Try.prog.cellsOf 35 = 1 ∧ Try.prog.cellsOf 33 = 1 := ⟨by kernel_rfl, by kernel_rfl⟩
set_option maxRecDepth 100000 in
theorem open_pack {H : Type} {enc : TypeId × Value → H} {W : World} {base : Nat} {spare : Nat → Bool} {held : Bool} {n : Nat} {cs : List Value} {y : DataW H × List MemPlace} (h : DataW.trod enc Try.prog W base spare held n 35 cs = some y) : ∃ v l, cs = [v] ∧ BytesV W v l := by
  obtain ⟨xs, k, rfl, rfl, hl, hlen, hf⟩ := DataW.trod_struct Try.underlying35 h
  obtain ⟨z1, z2⟩ := cellsPack
  rw [z1] at hl
  have h0 : DataW.trod enc Try.prog W base spare held k 33 ((cs.drop 0).take (Try.prog.cellsOf 33)) = xs[0]? := hf 0 _ rfl
  match xs, hlen, cs, hl with
  | [x0], _, [a0], _ =>
    simp only [z2] at h0
    obtain ⟨v, l, e, hx⟩ := open_bytes (h0.trans rfl)
    exact ⟨v, l, by simpa using e, hx⟩

set_option maxRecDepth 100000 in
theorem lifted (os : Os) (started : os.Started) (H : Type) (enc : TypeId × Value → H) :
    ReturnsInHanded {} Try.checked os 4 .any (Rows.fnExactPackCutSpec.pre6 enc Try.prog Try.f4 Rows.fnExactPackCutRow.domain false) (Rows.fnExactPackCutSpec.post enc Try.prog Try.f4 false true false false) := by
  refine returnsInHanded_of_change (C := Try.checked) own started (by kernel_rfl) Try.func4
    (ChangeSpec.witness6 (enc := enc) (C := Try.checked) false ⟨#[], #[.agg #[.slice none 0 0], .int .i64 0], []⟩ 8 (by kernel_rfl) (by kernel_rfl) (by kernel_rfl) (by kernel_rfl)) ?_
  intro W base args ds gs before hval0 hW _ _
  have hval : ∀ (j : Nat) t v, Try.f4.params[j]? = some t → args[j]? = some v → Value.okWide Try.prog W .any base t v := hval0
  have hW' := hW
  obtain ⟨p, q, hA0, hV, rfl, _, _⟩ := hW
  have hA : DataW.TrodAll enc Try.prog W 0 (fun _ => true) true Try.f4.params.toList args.toList ds p := hA0
  rw [Try.params4] at hA hval
  obtain ⟨v0, v1, d0, d1, p0, p1, rfl, rfl, rfl, h0, h1⟩ := trodAll_two hA
  obtain ⟨rfl, rfl⟩ := trodVars_none hV
  have h0k := h0
  obtain ⟨cs, rfl, hsz⟩ := okWide_struct Try.underlying35 (hval 0 35 v0 rfl rfl)
  obtain ⟨k, hk⟩ := h0
  obtain ⟨x, l, hc, hx⟩ := open_pack hk
  have hc' : cs = #[x] := by apply Array.toList_inj.1; simpa [Value.cells] using hc
  subst hc'
  obtain ⟨n, rfl, rfl, rfl, wn⟩ := open_int Try.underlying3 (hval 1 3 v1 rfl rfl) h1
  clear hA0 hval0
  simp only [List.append_nil] at hW'
  have hlt : ∀ x ∈ p0, x.block < W.heap.size := fun x hx => by simpa using hW'.lt x (by simpa using hx)
  refine (walk _ l n W hx).mono fun e W' ⟨he, bel⟩ => ?_
  subst he
  exact ⟨_, rfl, _, _, _, [], _, [], hW', trodAll_mk1 (shut_bool Try.underlying4 _), trodAll_mk2 (Below.trod laidOut (by kernel_rfl) (of_decide_eq_true (by kernel_rfl)) h0k bel hlt) (shut_int Try.underlying3 wn), rfl, bel.frame _, fun h => by cases h⟩

theorem over : Rows.FnExactPackCutSaid :=
  OpenClaim.holds_of_wide 4 Try.f4 rfl rfl rfl rfl rfl rfl rfl ⟨rfl, rfl, rfl, rfl, rfl⟩ rfl rfl rfl rfl rfl (by kernel_rfl) Try.func4 (by kernel_rfl)
    (of_decide_eq_true (by kernel_rfl)) (by unfold Func.isWrapper; first | (rw [if_pos (by decide +kernel)]; kernel_rfl) | (rw [if_neg (by decide +kernel)]; exact ⟨rfl, rfl⟩))
    (fun os started H enc _ => lifted os started H enc)
end Go.Proofs.Ytikccmgpmbnkfaa.lawPackCut
namespace Go.Proofs.Ytikccmgpmbnkfaa
theorem fnExactPackCut_holds : Rows.FnExactPackCutSaid := lawPackCut.over
#print axioms fnExactPackCut_holds
end Go.Proofs.Ytikccmgpmbnkfaa
