/- Batches as bytes: given. -/
import Derived.Test.YtikccmgpmbnkfaaGreatPkf
import Derived.Test.YtikccmgpmbnkfaaGreatZa
namespace Go.Proofs.YtikccmgpmbnkfaaGreat
open Go.ChangeShapes Go.WideShapes Go.ChangeAt Go.RowKit

set_option maxRecDepth 100000 in
set_option maxHeartbeats 1000000 in
/-- spec.l09Put -/
theorem l09Put_any (v : Value) (B : Nat) (l : List UInt8) (o : Option Addr) (q : Nat) (ks : List ByteArray) (w : World) (hg : Got w B 5 1 v (l.map byX)) (hk : ∀ u, Below B w u → RowAt u o 1 (ks.map strX)) (hk8 : ks.length ≤ 8) (hks : ∀ s ∈ ks, okWord s) (hl : l.length ≤ 200000) (hB : B ≤ w.heap.size) :
    Calls Tryz.prog 32 #[v, .slice o ks.length q] w fun e w' => ∃ v', e = .returned v' ∧ Gb B w w' ∧ Got w' B 5 1 v' ((l ++ wordsL ks).map byX) := by
  obtain ⟨av, n, c, rfl, hg⟩ := hg.lit2
  have HG : Hid (Got w B 5 1 (.slice av n c) (l.map byX)) := hg
  have HK : Hid (∀ u, Below B w u → RowAt u o 1 (ks.map strX)) := hk
  have HKS : Hid (∀ s ∈ ks, okWord s) := hks
  have hkl := flat_words hks
  have HT0 : Hid (l ++ wordsL ks = l ++ [UInt8.ofNat ks.length] ++ ks.flatMap textL) := by
    show _ = _
    simp [wordsL]
  generalize l ++ wordsL ks = Z at HT0 ⊢
  have hk8' : (ks.length : Int) ≤ 8 := by omega
  clear hg hk hks
  go_enter Tryz.func32, Tryz.ntmps32
  go_wp2_with (at_builtin; refine app_lotT rfl (.tmp 7) (.tmp 11) rfl Tryz.underlying26 infoByte rfl (by decide) (by decide) B _ _ rfl (HG.out.on (ch_alloc (Below.refl _ _) (.cells #[.int .u8 (ks.length : Int)] 5))) w.heap.size 0 1 ([UInt8.ofNat ks.length].map byX) 1 (by simp) rfl (bytes_row1 (u8_nat (by omega)) (Own.new w _ _)) (byte_one _) (by simp; omega) (by simp; omega) ?_; intro v1 w1 hg1 hb1 ht1; have HB1 : Hid (Gb B w w1) := (Gb.new (ch_alloc (Below.refl _ _) (.cells #[.int .u8 (ks.length : Int)] 5)) hB).trans (Gb.got (HG.out.on (ch_alloc (Below.refl _ _) (.cells #[.int .u8 (ks.length : Int)] 5))) ht1 hb1); have HG1 : Hid (Got w1 B 5 1 v1 ((l ++ [UInt8.ofNat ks.length]).map byX)) := (by show Got _ _ _ _ _ _; rw [List.map_append]; exact hg1); clear hg1 hb1 ht1)
  go_loopw [0, 15] (fun bv i wr => ∃ k : Nat, k ≤ ks.length ∧ i = .int .i64 (k : Int) ∧ Hid (Gb B w wr) ∧ Hid (Got wr B 5 1 bv ((l ++ [UInt8.ofNat ks.length] ++ (ks.take k).flatMap textL).map byX))) (fun _ i _ => ks.length - (intOf i).toNat)
  case atStart => exact ⟨0, Nat.zero_le _, rfl, HB1, by
    have := HG1.out
    show Got _ _ _ _ _ _
    simpa using this⟩
  case round =>
    clear HG1 HB1
    obtain ⟨j, hj, rfl, HB5, HG5⟩ := hrel
    obtain ⟨a5, n5, e5, rfl, hg5⟩ := HG5.out.lit2
    by_cases hlt2 : j < ks.length
    · have hlti2 : (j : Int) < ks.length := by omega
      obtain ⟨b, off, rfl, s0⟩ := (HK.out _ HB5.out.1).strs j hlt2
      have hlen : (l ++ [UInt8.ofNat ks.length] ++ (ks.take j).flatMap textL).length ≤ 900000 := by
        have h1 := flat_words (ks := ks.take j) fun x hx => HKS.out x (List.mem_of_mem_take hx)
        have h2 : (ks.take j).length ≤ 1000 := by simp; omega
        simp only [List.length_append, List.length_cons, List.length_nil]; omega
      have HFL : Hid ((l ++ [UInt8.ofNat ks.length] ++ (ks.take j).flatMap textL) ++ textL ks[j] = l ++ [UInt8.ofNat ks.length] ++ (ks.take (j + 1)).flatMap textL) := by
        show _ = _
        rw [List.take_succ_eq_append_getElem hlt2, List.flatMap_append]
        simp
      have HWO : Hid (okWord ks[j]) := HKS.out _ (List.getElem_mem hlt2)
      have HG5' : Hid (Got wr B 5 1 (.slice a5 n5 e5) ((l ++ [UInt8.ofNat ks.length] ++ (ks.take j).flatMap textL).map byX)) := hg5
      have hs5 := Nat.le_trans hB HB5.out.1.size
      clear hg5 HG5
      generalize l ++ [UInt8.ofNat ks.length] ++ (ks.take j).flatMap textL = L5 at HG5' hlen HFL
      generalize ks[j] = s at s0 HFL HWO
      go_wp2_with fail
      refine (l06Word_any _ B L5 s wr HG5'.out HWO.out (by omega) hs5).mono ?_
      rintro e w6 ⟨v6, rfl, hb6, hg6⟩
      have HG6 : Hid (Got w6 B 5 1 v6 ((L5 ++ textL s).map byX)) := hg6
      have HB6 : Hid (Gb B w w6) := HB5.out.trans hb6
      clear hb6 hg6
      go_wp2
      go_round
      case rel => exact ⟨j + 1, by omega, by go_num, HB6, by
        show Got _ _ _ _ _ _
        rw [← HFL.out]; exact HG6.out⟩
      case measure => simp [intOf]; omega
    · have hlti2 : (ks.length : Int) ≤ j := by omega
      have HG6 : Hid (Got wr B 5 1 (.slice a5 n5 e5) (Z.map byX)) := by
        have h := hg5
        rw [List.take_of_length_le (by omega)] at h
        show Got _ _ _ _ _ _
        rw [HT0.out]; exact h
      clear hg5 HG5
      go_wp2
      go_ret
      exact ⟨_, rfl, HB5.out, HG6.out⟩

theorem fewW_ok {ks : List ByteArray} (h : fewW ks) : ∀ s ∈ ks, okWord s := fun s hs => by
  obtain ⟨i, hi, rfl⟩ := List.getElem_of_mem hs
  exact Or.inr (h.2 i hi)
theorem okPut_two {n : Nat} (h : n ≤ 65535) : okPut (n : Int) 2 := ⟨by omega, by omega, by omega, by show (n : Int) < ((256 ^ 2 : Nat) : Int); omega⟩
theorem okPut_three {n : Nat} (h : n ≤ 16777215) : okPut (n : Int) 3 := ⟨by omega, by omega, by omega, by show (n : Int) < ((256 ^ 3 : Nat) : Int); omega⟩
theorem got_oneB (w : World) (x : UInt8) (m : Int) (hm : (x.toNat : Int) = m) : Got (w.alloc (.cells #[.int .u8 m] 5)) w.heap.size 5 1 (.slice (some ⟨w.heap.size, 0, none⟩) 1 1) ([x].map byX) := by
  subst hm
  exact ⟨fun q hq => by simp at hq; subst hq; rfl, by simp, Or.inr ⟨w.heap.size, 1, #[.int .u8 (x.toNat : Int)], rfl, Nat.le_refl _, Own.new _ _ _, Nat.le_refl _, by unfold maxLen; omega, rfl, rfl⟩⟩

set_option maxRecDepth 100000 in
set_option maxHeartbeats 4000000 in
/-- spec.PackOf -/
theorem packOf_spec (x : Array Value) (t : Btc) (w : World) (hx : BatV w x t) (hf : t.fit) (q : Bool) (L : List UInt8) (hq : (q = true ∧ t.right ∧ L = batL t) ∨ (q = false ∧ ¬ t.right ∧ L = [])) :
    Calls Tryz.prog 7 #[.agg x] w fun e w' => ∃ v', e = .returned (.tuple #[.agg #[v'], .bool q]) ∧ Below w.heap.size w w' ∧ Got w' w.heap.size 5 1 v' (L.map byX) := by
  have hbo := fun u (hu : Below w.heap.size w u) => batchOk_spec x t u (hx.on hu) hf
  obtain ⟨a, p, rfl, hps⟩ := hx
  have HSO : Hid (∀ u : World, Below w.heap.size w u → Calls Tryz.prog 29 #[.agg #[.int .i64 t.lsn, .int .i64 t.prev, .slice a t.parts.length p]] u fun e w' => e = .returned (.bool q) ∧ Below u.heap.size u w') := fun u hu => (hbo u hu).mono fun e w' ⟨r, he, hr, hb⟩ => ⟨by
    rw [he]
    have : r = q := by
      rcases hq with ⟨rfl, h, _⟩ | ⟨rfl, h, _⟩
      · exact hr.2 h
      · cases r with
        | false => rfl
        | true => exact absurd (hr.1 rfl) h
    rw [this], hb⟩
  have HX : Hid (PartsV w (.slice a t.parts.length p) t.parts) := hps
  have HF : Hid (pfits t.parts) := hf
  have HQ := Own.at (w.alloc (.cells #[.int .i64 t.lsn, .int .i64 t.prev, .slice a t.parts.length p] 33)) 28 #[.slice none 0 0] (n := w.heap.size + 1) (by simp)
  have HV := (Own.new w 33 #[.int .i64 t.lsn, .int .i64 t.prev, .slice a t.parts.length p]).on (ch_alloc (Below.refl _ _) (.cells #[.slice none 0 0] 28))
  have hw0 : Below w.heap.size w ((w.alloc (.cells #[.int .i64 t.lsn, .int .i64 t.prev, .slice a t.parts.length p] 33)).alloc (.cells #[.slice none 0 0] 28)) := (by repeat (first | with_reducible exact Below.refl _ _ | with_reducible assumption | with_reducible refine ch_alloc ?_ _ | with_reducible refine Below.drew ?_ | with_reducible refine below_draws _ ?_ | (with_reducible refine Below.setCell ?_ ?_ _; rotate_left; focus (first | with_reducible exact Nat.le_refl _ | (simp; done) | (simp; omega) | (simp at *; omega))) | with_reducible refine ch_trans ?_ (by with_reducible assumption)))
  have hz0 : ((w.alloc (.cells #[.int .i64 t.lsn, .int .i64 t.prev, .slice a t.parts.length p] 33)).alloc (.cells #[.slice none 0 0] 28)).heap.size = w.heap.size + 1 + 1 := by simp
  clear hps hf hbo
  rcases hq with ⟨rfl, hr, rfl⟩ | ⟨rfl, hr, rfl⟩
  rotate_left
  · clear hr HX HF HV
    go_enter Tryz.func7, Tryz.ntmps7
    go_wp2_with fail
    refine (HSO.out _ hw0).mono ?_
    rintro e w1 ⟨rfl, b1⟩
    rw [hz0] at b1
    obtain ⟨d0, d1⟩ := cut_own HQ b1
    obtain ⟨k0, k1, k2⟩ := cut_end hw0 HQ b1 (Got.nil w1 _ _ _)
    have K2 : Hid (Got (w1.setCell ⟨w.heap.size + 1, 0, none⟩ (.slice none 0 0)) w.heap.size 5 1 (.slice none 0 0) _) := k2
    have K1 : Hid _ := k1
    clear k1 k2 b1 HQ hw0 HSO
    go_wp2
    generalize w1.setCell ⟨w.heap.size + 1, 0, none⟩ (.slice none 0 0) = W at k0 K1 K2 ⊢
    exact bodyPost_ret (v := .tuple #[.agg #[.slice none 0 0], .bool false]) (by simp [results, Tryz.results7, go_sem, k0]) rfl ⟨_, rfl, K1.out, K2.out⟩
  have hbl := batB_length hr
  obtain ⟨⟨hn1, hn4, hp0, hp1⟩, h60, hpr⟩ := hr
  have hprr : ∀ t' ∈ t.parts, t'.right := fun x hx => by
    obtain ⟨i, hi, rfl⟩ := List.getElem_of_mem hx
    exact hpr i hi
  have hfl := flat_part t.parts hprr
  have HPR : Hid (∀ t' ∈ t.parts, t'.right) := hprr
  have HD : Hid (batL t = batB t ++ numL (sumL (batB t)) 3) := rfl
  have HB : Hid (batB t = [80] ++ numL t.lsn.toNat 2 ++ numL t.prev.toNat 2 ++ [UInt8.ofNat t.parts.length] ++ t.parts.flatMap partL) := rfl
  clear hpr hprr
  generalize batL t = D at HD ⊢
  generalize batB t = BB at HD HB hbl
  obtain ⟨lsn, prev, ts⟩ := t
  simp only at *
  obtain ⟨N, rfl⟩ : ∃ N : Nat, lsn = (N : Int) := ⟨lsn.toNat, by omega⟩
  obtain ⟨P, rfl⟩ : ∃ P : Nat, prev = (P : Int) := ⟨prev.toNat, by omega⟩
  simp only [Int.toNat_natCast] at HB
  obtain ⟨_, _, e0, hlp, hmp, _⟩ := HX.out.lit
  cases e0
  unfold maxLen at hmp
  go_enter Tryz.func7, Tryz.ntmps7
  go_wp2_with fail
  refine (HSO.out _ hw0).mono ?_
  rintro e w1 ⟨rfl, b1⟩
  have HV1 : Hid (Own w1 w.heap.size 33 #[.int .i64 (N : Int), .int .i64 (P : Int), .slice a ts.length p]) := HV.on b1
  have HQ1 : Hid (Own w1 (w.heap.size + 1) 28 #[.slice none 0 0]) := HQ.on b1
  have hb1 : Below w.heap.size w w1 := ch_trans hw0 b1
  have hz1 : w.heap.size + 1 + 1 ≤ w1.heap.size := by rw [← hz0]; exact b1.size
  clear b1 HSO HV HQ hw0 hz0
  have hvw1 : w.heap.size < w1.heap.size := HV1.out.lt
  obtain ⟨d0, d1, d2⟩ := HV1.out.loc.three
  go_wp2_with fail
  have hpn : Calls Tryz.prog 30 #[.slice (some ⟨w1.heap.size, 0, none⟩) 1 1, .int .i64 (N : Int), .int .i64 2] (w1.alloc (.cells #[.int .u8 80] 5)) fun e w' => ∃ v', e = .returned (.tuple #[v', .bool true]) ∧ Below (w1.alloc (.cells #[.int .u8 80] 5)).heap.size (w1.alloc (.cells #[.int .u8 80] 5)) w' ∧ Got w' (w1.alloc (.cells #[.int .u8 80] 5)).heap.size 5 1 v' (([80] ++ numL N 2).map byX) := putNum_spec w1.heap.size 0 1 [80] (N : Int) 2 (w1.alloc (.cells #[.int .u8 80] 5)) (bytes_row1 rfl (Own.new w1 _ _)) (by simp) true ([80] ++ numL N 2) (Or.inl ⟨rfl, okPut_two (by omega), by simp⟩)
  refine hpn.mono ?_
  clear hpn
  rintro e w2 ⟨v2, rfl, b2, hg2⟩
  obtain ⟨a2, c2, rfl, _, _, hr2, _⟩ := hg2.row
  obtain ⟨g2, o2, rfl, hgo⟩ := hr2.bytes 0 (by simp)
  have HR2 : Hid (RowAt w2 (some ⟨g2, o2, none⟩) 1 (([80] ++ numL N 2).map byX)) := hr2
  have hb12 : Below w1.heap.size w1 w2 := ch_trans (ch_alloc (Below.refl _ _) _) b2
  have HV2 : Hid (Own w2 w.heap.size 33 #[.int .i64 (N : Int), .int .i64 (P : Int), .slice a ts.length p]) := HV1.out.on hb12
  have HQ2 : Hid (Own w2 (w.heap.size + 1) 28 #[.slice none 0 0]) := HQ1.out.on hb12
  have hb2 : Below w.heap.size w w2 := ch_trans hb1 hb12
  have hz2 : w.heap.size + 1 + 1 ≤ w2.heap.size := Nat.le_trans hz1 hb12.size
  have HL2 : Hid (([80] ++ numL N 2).length = 3) := by show _ = _; simp [numL_length]
  rw [List.length_map]
  clear hgo hg2 hr2 b2 hb12 HV1 HQ1 hb1 hz1 d0 d1 d2
  generalize [80] ++ numL N 2 = L2 at HR2 HL2 HB ⊢
  have hvw2 : w.heap.size < w2.heap.size := HV2.out.lt
  obtain ⟨d0, d1, d2⟩ := HV2.out.loc.three
  go_wp2_with fail
  refine (putNum_spec g2 o2 c2 L2 (P : Int) 2 w2 HR2.out (by have := HL2.out; omega) true (L2 ++ numL P 2) (Or.inl ⟨rfl, okPut_two (by omega), by simp⟩)).mono ?_
  rintro e w3 ⟨v3, rfl, b3, hg3⟩
  obtain ⟨a3, n3, c3, rfl, hg3⟩ := hg3.lit2
  have HG3 : Hid (Got w3 w.heap.size 5 1 (.slice a3 n3 c3) ((L2 ++ numL P 2).map byX)) := hg3.mono (by omega)
  have HV3 : Hid (Own w3 w.heap.size 33 #[.int .i64 (N : Int), .int .i64 (P : Int), .slice a ts.length p]) := HV2.out.on b3
  have HQ3 : Hid (Own w3 (w.heap.size + 1) 28 #[.slice none 0 0]) := HQ2.out.on b3
  have hb3 : Below w.heap.size w w3 := ch_trans hb2 b3
  have hz3 : w.heap.size + 1 + 1 ≤ w3.heap.size := Nat.le_trans hz2 b3.size
  have HL3 : Hid ((L2 ++ numL P 2).length = 5) := by show _ = _; simp [numL_length, HL2.out]
  have htn : (ts.length : Int) ≤ 60 := by omega
  clear hg3 b3 HV2 HQ2 hb2 hz2 HR2 d0 d1 d2
  generalize L2 ++ numL P 2 = L3 at HG3 HL3 HB
  have hvw3 : w.heap.size < w3.heap.size := HV3.out.lt
  obtain ⟨d0, d1, d2⟩ := HV3.out.loc.three
  have hba3 : Below w3.heap.size w3 (w3.alloc (.cells #[.int .u8 (ts.length : Int)] 5)) := (by repeat (first | with_reducible exact Below.refl _ _ | with_reducible assumption | with_reducible refine ch_alloc ?_ _ | with_reducible refine Below.drew ?_ | with_reducible refine below_draws _ ?_ | (with_reducible refine Below.setCell ?_ ?_ _; rotate_left; focus (first | with_reducible exact Nat.le_refl _ | (simp; done) | (simp; omega) | (simp at *; omega))) | with_reducible refine ch_trans ?_ (by with_reducible assumption)))
  go_wp2_with (at_builtin; refine app_lotT rfl (.tmp 28) (.tmp 33) rfl Tryz.underlying26 infoByte rfl (by decide) (by decide) w.heap.size _ _ rfl (HG3.out.on hba3) w3.heap.size 0 1 ([UInt8.ofNat ts.length].map byX) 1 (by simp) rfl (bytes_row1 (u8_nat (by omega)) (Own.new w3 5 #[.int .u8 (ts.length : Int)])) (byte_one _) (by have := HL3.out; simp; omega) (by simp; omega) ?_; intro v4 w4 hg4 hb4 ht4; have hq4 := (Gb.new (B := w.heap.size) hba3 (by omega)).trans (Gb.got (HG3.out.on hba3) ht4 hb4); have HB4 : Hid (Gb w.heap.size w w4) := (Gb.new (B := w.heap.size) hb3 (Nat.le_refl _)).trans hq4; have HV4 : Own w4 w.heap.size 33 #[.int .i64 (N : Int), .int .i64 (P : Int), .slice a ts.length p] := hq4.2.own HV3.out (by decide); have HQ4 : Hid (Own w4 (w.heap.size + 1) 28 #[.slice none 0 0]) := hq4.2.own HQ3.out (by decide); have HG4 : Hid (Got w4 w.heap.size 5 1 v4 ((L3 ++ [UInt8.ofNat ts.length]).map byX)) := (by show Got _ _ _ _ _ _; rw [List.map_append]; exact hg4); have hz4 : w.heap.size + 1 + 1 ≤ w4.heap.size := Nat.le_trans hz3 hq4.1.size; clear hg4 hb4 ht4 hq4 d0 d1 d2 HV3 HQ3 HG3 hz3 hb3 hba3; obtain ⟨d0, d1, d2⟩ := HV4.loc.three; clear HV4)
  have HL4 : Hid ((L3 ++ [UInt8.ofNat ts.length]).length = 6) := by show _ = _; simp [HL3.out]
  generalize L3 ++ [UInt8.ofNat ts.length] = L4 at HG4 HL4 HB
  go_loopw [4, 38] (fun bv i wr => ∃ k : Nat, k ≤ ts.length ∧ i = .int .i64 (k : Int) ∧ Hid (Gb w.heap.size w wr) ∧ Hid (Own wr (w.heap.size + 1) 28 #[.slice none 0 0]) ∧ w.heap.size + 1 + 1 ≤ wr.heap.size ∧ Hid (Got wr w.heap.size 5 1 bv ((L4 ++ (ts.take k).flatMap partL).map byX))) (fun _ i _ => ts.length - (intOf i).toNat)
  case atStart => exact ⟨0, Nat.zero_le _, rfl, HB4, HQ4, hz4, by
    have := HG4.out
    show Got _ _ _ _ _ _
    simpa using this⟩
  case round =>
    clear HG4 HB4 HQ4 d0 d1 d2 hz4
    obtain ⟨k, hk, rfl, HBr, HQr, hzr, HGr⟩ := hrel
    obtain ⟨a5, c5, rfl, _, _, hr5, _⟩ := id HGr.out.row
    have hne : 0 < (L4 ++ (ts.take k).flatMap partL).length := by have := HL4.out; rw [List.length_append]; omega
    obtain ⟨g5, o5, rfl, hgo⟩ := hr5.bytes 0 hne
    have hbr : Below w.heap.size w wr := HBr.out.1
    by_cases hlt : k < ts.length
    · have hlti : (k : Int) < ts.length := by omega
      obtain ⟨b, off, ka, kp, ra, rp, ca, cp, oa, op, ya, yp, za, zp, rfl, hx, e0, e1, e2, e3, e4, e5, e6, e7, e8, e9, e10, e11⟩ := HX.out.part k hlt
      have d0 := cell_on e0 hbr
      have d1 := cell_on e1 hbr
      have d2 := cell_on e2 hbr
      have d3 := cell_on e3 hbr
      have d4 := cell_on e4 hbr
      have d5 := cell_on e5 hbr
      have d6 := cell_on e6 hbr
      have d7 := cell_on e7 hbr
      have d8 := cell_on e8 hbr
      have d9 := cell_on e9 hbr
      have d10 := cell_on e10 hbr
      have d11 := cell_on e11 hbr
      have HRK : Hid ts[k].right := HPR.out _ (List.getElem_mem hlt)
      have HFK : Hid ts[k].fit := HF.out _ (List.getElem_mem hlt)
      have HP : Hid (∀ u, Below w.heap.size w u → StmtV u #[.int .i64 ts[k].st.kind, .string ts[k].st.table, .slice ka ts[k].st.key.length kp, .slice ra ts[k].st.row.length rp, .int .i64 ts[k].st.ddl.kind, .string ts[k].st.ddl.table, .slice ca ts[k].st.ddl.cols.length cp, .slice oa ts[k].st.ddl.keys.length op, .string ts[k].st.ddl.name, .string ts[k].st.ddl.to] ts[k].st ∧ StrsV u (.slice ya ts[k].cols.length yp) ts[k].cols ∧ StrsV u (.slice za ts[k].keys.length zp) ts[k].keys) := fun u hu => by
        obtain ⟨_, _, _, _, _, _, _, _, _, _, _, _, e1, _, h1, h2, h3⟩ := (hx.on hu).lit
        cases e1
        exact ⟨h1, h2, h3⟩
      have hlen : (L4 ++ (ts.take k).flatMap partL).length ≤ 160000 := by
        have h1 := flat_part (ts.take k) fun x hx => HPR.out x (List.mem_of_mem_take hx)
        have h2 : (ts.take k).length ≤ 60 := by simp; omega
        have := HL4.out
        rw [List.length_append]; omega
      have HFL : Hid ((L4 ++ (ts.take k).flatMap partL) ++ partL ts[k] = L4 ++ (ts.take (k + 1)).flatMap partL) := by
        show _ = _
        rw [List.take_succ_eq_append_getElem hlt, List.flatMap_append]
        simp
      have HPL : Hid (partL ts[k] = numL (stmtL ts[k].st).length 2 ++ stmtL ts[k].st ++ wordsL ts[k].cols ++ wordsL ts[k].keys) := rfl
      have hsl := stmtL_length HRK.out.1
      have hs1 : 1 ≤ (stmtL ts[k].st).length := by simp [stmtL]
      have hcl := wordsL_length HRK.out.2.1
      have h8c := HRK.out.2.1.1
      have h8k := HRK.out.2.2.1
      have HSB : Hid (∀ u, Below w.heap.size w u → Calls Tryz.prog 31 #[.agg #[.int .i64 ts[k].st.kind, .string ts[k].st.table, .slice ka ts[k].st.key.length kp, .slice ra ts[k].st.row.length rp, .int .i64 ts[k].st.ddl.kind, .string ts[k].st.ddl.table, .slice ca ts[k].st.ddl.cols.length cp, .slice oa ts[k].st.ddl.keys.length op, .string ts[k].st.ddl.name, .string ts[k].st.ddl.to]] u fun e w' => ∃ v', e = .returned (.tuple #[v', .bool true]) ∧ Below u.heap.size u w' ∧ Got w' u.heap.size 5 1 v' ((stmtL ts[k].st).map byX)) := fun u hu => stmtBytes_spec _ ts[k].st u (HP.out u hu).1 HFK.out.1 true _ (Or.inl ⟨rfl, HRK.out.1, rfl⟩)
      have HCK : Hid (∀ s ∈ ts[k].cols, okWord s) := fewW_ok HRK.out.2.1
      have HKK : Hid (∀ s ∈ ts[k].keys, okWord s) := fewW_ok HRK.out.2.2
      have hba : Below wr.heap.size wr (wr.alloc (.cells #[.int .i64 ts[k].st.kind, .string ts[k].st.table, .slice ka ts[k].st.key.length kp, .slice ra ts[k].st.row.length rp, .int .i64 ts[k].st.ddl.kind, .string ts[k].st.ddl.table, .slice ca ts[k].st.ddl.cols.length cp, .slice oa ts[k].st.ddl.keys.length op, .string ts[k].st.ddl.name, .string ts[k].st.ddl.to, .slice ya ts[k].cols.length yp, .slice za ts[k].keys.length zp] 68)) := (by repeat (first | with_reducible exact Below.refl _ _ | with_reducible assumption | with_reducible refine ch_alloc ?_ _ | with_reducible refine Below.drew ?_ | with_reducible refine below_draws _ ?_ | (with_reducible refine Below.setCell ?_ ?_ _; rotate_left; focus (first | with_reducible exact Nat.le_refl _ | (simp; done) | (simp; omega) | (simp at *; omega))) | with_reducible refine ch_trans ?_ (by with_reducible assumption)))
      have HVa := Own.new wr 68 #[.int .i64 ts[k].st.kind, .string ts[k].st.table, .slice ka ts[k].st.key.length kp, .slice ra ts[k].st.row.length rp, .int .i64 ts[k].st.ddl.kind, .string ts[k].st.ddl.table, .slice ca ts[k].st.ddl.cols.length cp, .slice oa ts[k].st.ddl.keys.length op, .string ts[k].st.ddl.name, .string ts[k].st.ddl.to, .slice ya ts[k].cols.length yp, .slice za ts[k].keys.length zp]
      have HR5 : Hid (RowAt wr (some ⟨g5, o5, none⟩) 1 ((L4 ++ (ts.take k).flatMap partL).map byX)) := hr5
      rw [List.length_map]
      clear hx e0 e1 e2 e3 e4 e5 e6 e7 e8 e9 e10 e11 hgo hr5 HGr
      generalize L4 ++ (ts.take k).flatMap partL = L0 at HR5 hlen HFL hne ⊢
      generalize stmtL ts[k].st = SL at HSB HPL hsl hs1
      generalize partL ts[k] = PL at HPL HFL
      go_wp2_with fail
      refine (HSB.out _ (ch_trans hbr hba)).mono ?_
      rintro e w5 ⟨v5, rfl, b5, hg5⟩
      obtain ⟨a6, c6, rfl, _, _, hr6, _⟩ := hg5.row
      obtain ⟨g6, o6, rfl, hgo⟩ := hr6.bytes 0 (by omega)
      have HS5 : Hid (RowAt w5 (some ⟨g6, o6, none⟩) 1 (SL.map byX)) := hr6
      have hbr5 : Below wr.heap.size wr w5 := ch_trans hba b5
      have HV5 : Hid (Own w5 wr.heap.size 68 #[.int .i64 ts[k].st.kind, .string ts[k].st.table, .slice ka ts[k].st.key.length kp, .slice ra ts[k].st.row.length rp, .int .i64 ts[k].st.ddl.kind, .string ts[k].st.ddl.table, .slice ca ts[k].st.ddl.cols.length cp, .slice oa ts[k].st.ddl.keys.length op, .string ts[k].st.ddl.name, .string ts[k].st.ddl.to, .slice ya ts[k].cols.length yp, .slice za ts[k].keys.length zp]) := HVa.on b5
      have HR6 : Hid (RowAt w5 (some ⟨g5, o5, none⟩) 1 (L0.map byX)) := HR5.out.on hbr5
      rw [List.length_map]
      clear hgo hg5 hr6 b5 HVa HR5 d0 d1 d2 d3 d4 d5 d6 d7 d8 d9 d10 d11 hba
      have hs5 : wr.heap.size < w5.heap.size := HV5.out.lt
      go_wp2_with fail
      refine (putNum_spec g5 o5 c5 L0 (SL.length : Int) 2 w5 HR6.out (by omega) true (L0 ++ numL SL.length 2) (Or.inl ⟨rfl, okPut_two (by omega), by simp⟩)).mono ?_
      rintro e w6 ⟨v6, rfl, b6, hg6⟩
      obtain ⟨a7, n7, c7, rfl, hg6⟩ := hg6.lit2
      have HG6 : Hid (Got w6 w5.heap.size 5 1 (.slice a7 n7 c7) ((L0 ++ numL SL.length 2).map byX)) := hg6
      have hbr6 : Below wr.heap.size wr w6 := ch_trans hbr5 b6
      have HV6 : Hid (Own w6 wr.heap.size 68 #[.int .i64 ts[k].st.kind, .string ts[k].st.table, .slice ka ts[k].st.key.length kp, .slice ra ts[k].st.row.length rp, .int .i64 ts[k].st.ddl.kind, .string ts[k].st.ddl.table, .slice ca ts[k].st.ddl.cols.length cp, .slice oa ts[k].st.ddl.keys.length op, .string ts[k].st.ddl.name, .string ts[k].st.ddl.to, .slice ya ts[k].cols.length yp, .slice za ts[k].keys.length zp]) := HV5.out.on b6
      have HS6 : Hid (RowAt w6 (some ⟨g6, o6, none⟩) 1 (SL.map byX)) := HS5.out.on b6
      clear hg6 b6 HR6 HS5 HV5
      go_wp2_with fail
      refine region_planG (Gb w.heap.size) (Gb.rel w.heap.size) [([0, 1, 3, 4, 6, 7], 2), ([], 5), ([], 8)] [9] (by kernel_rfl) (by kernel_rfl) ?_
      have hgd := Grows.drawn w6
      generalize { w6 with drawn := w6.drawn + 1 } = wd at hgd ⊢
      have hrd : Below wr.heap.size wr wd := ch_trans hbr6 hgd
      have HBd : Hid (Gb w.heap.size w wd) := HBr.out.trans (Gb.new hrd (by omega))
      have HQd : Hid (Own wd (w.heap.size + 1) 28 #[.slice none 0 0]) := HQr.out.on hrd
      have HVd : Hid (Own wd wr.heap.size 68 #[.int .i64 ts[k].st.kind, .string ts[k].st.table, .slice ka ts[k].st.key.length kp, .slice ra ts[k].st.row.length rp, .int .i64 ts[k].st.ddl.kind, .string ts[k].st.ddl.table, .slice ca ts[k].st.ddl.cols.length cp, .slice oa ts[k].st.ddl.keys.length op, .string ts[k].st.ddl.name, .string ts[k].st.ddl.to, .slice ya ts[k].cols.length yp, .slice za ts[k].keys.length zp]) := HV6.out.on hgd
      have HSd : Hid (RowAt wd (some ⟨g6, o6, none⟩) 1 (SL.map byX)) := HS6.out.on hgd
      have HGd : Hid (Got wd w.heap.size 5 1 (.slice a7 n7 c7) ((L0 ++ numL SL.length 2).map byX)) := (HG6.out.on hgd).mono (by omega)
      have hsd : w.heap.size ≤ wd.heap.size := by have := hrd.size; omega
      have hzd : w.heap.size + 1 + 1 ≤ wd.heap.size := by have := hrd.size; omega
      clear hgd hrd HBr HQr HV6 HS6 HG6 hbr6 hbr5
      refine planG_on (by simp only [pick, List.getElem?_toArray, List.getElem?_cons_succ, List.getElem?_cons_zero]; rfl) ?_
      repeat (go_big_quiet_step ((intro hu; obtain ⟨n0, n1, n2, n3, n4, n5, n6, n7, n8, n9, n10, n11⟩ := (hu.2.own HVd.out (by decide)).loc.twelve; go_simp; (try exact rfl))))
      refine wpQuiet_nil ?_
      refine plan_call rfl rfl (fun Kk hK => ?_)
      refine app_calmT (.tmp 55) (.tmp 56) rfl Tryz.underlying26 infoByte rfl (by decide) (by decide) w.heap.size _ _ rfl HGd.out g6 o6 _ (SL.map byX) SL.length (by simp) rfl HSd.out (byte_one _) (by simp [numL_length]; omega) hsd ?_
      intro v8 w8 hg8 hb8 ht8
      have hq8 := Gb.got HGd.out ht8 hb8
      refine hK _ _ ⟨hq8, ?_⟩
      go_simp
      obtain ⟨a8, n8', c8, rfl, hg8⟩ := hg8.lit2
      have HG8 : Hid (Got w8 w.heap.size 5 1 (.slice a8 n8' c8) ((L0 ++ numL SL.length 2 ++ SL).map byX)) := by
        show Got _ _ _ _ _ _
        rw [List.map_append]; exact hg8
      have HB8 : Hid (Gb w.heap.size w w8) := HBd.out.trans hq8
      have HQ8 : Hid (Own w8 (w.heap.size + 1) 28 #[.slice none 0 0]) := hq8.2.own HQd.out (by decide)
      have hs8 : w.heap.size ≤ w8.heap.size := Nat.le_trans hsd hq8.1.size
      have hz8 : w.heap.size + 1 + 1 ≤ w8.heap.size := Nat.le_trans hzd hq8.1.size
      clear hK Kk hg8 hb8 ht8 hq8 HGd HSd HBd HQd HVd hsd hzd
      refine planG_on rfl ?_
      refine wpQuiet_nil ?_
      refine plan_call rfl rfl (fun Kk hK => ?_)
      go_simp
      go_at_call 32
      refine (l09Put_any _ w.heap.size (L0 ++ numL SL.length 2 ++ SL) ya yp ts[k].cols w8 HG8.out (fun u hu => (HP.out u (HB8.out.1.trans hu)).2.1.row) h8c HCK.out (by simp only [List.length_append, numL_length]; omega) hs8).mono ?_
      rintro e w9 ⟨v9, rfl, hb9, hg9⟩
      refine ⟨_, rfl, hK _ _ ⟨hb9, ?_⟩⟩
      obtain ⟨a9, n9', c9, rfl, hg9⟩ := hg9.lit2
      have HG9 : Hid (Got w9 w.heap.size 5 1 (.slice a9 n9' c9) ((L0 ++ numL SL.length 2 ++ SL ++ wordsL ts[k].cols).map byX)) := hg9
      have HB9 : Hid (Gb w.heap.size w w9) := HB8.out.trans hb9
      have HQ9 : Hid (Own w9 (w.heap.size + 1) 28 #[.slice none 0 0]) := hb9.2.own HQ8.out (by decide)
      have hs9 : w.heap.size ≤ w9.heap.size := Nat.le_trans hs8 hb9.1.size
      have hz9 : w.heap.size + 1 + 1 ≤ w9.heap.size := Nat.le_trans hz8 hb9.1.size
      clear hK Kk hg9 hb9 HG8 HB8 HQ8 hs8 hz8
      refine planG_on rfl ?_
      refine wpQuiet_nil ?_
      refine plan_call rfl rfl (fun Kk hK => ?_)
      go_simp
      go_at_call 32
      refine (l09Put_any _ w.heap.size (L0 ++ numL SL.length 2 ++ SL ++ wordsL ts[k].cols) za zp ts[k].keys w9 HG9.out (fun u hu => (HP.out u (HB9.out.1.trans hu)).2.2.row) h8k HKK.out (by simp only [List.length_append, numL_length]; omega) hs9).mono ?_
      rintro e w10 ⟨v10, rfl, hb10, hg10⟩
      refine ⟨_, rfl, hK _ _ ⟨hb10, ?_⟩⟩
      obtain ⟨a10, n10', c10, rfl, hg10⟩ := hg10.lit2
      have HG10 : Hid (Got w10 w.heap.size 5 1 (.slice a10 n10' c10) ((L4 ++ (ts.take (k + 1)).flatMap partL).map byX)) := by
        show Got _ _ _ _ _ _
        rw [← HFL.out, HPL.out]
        simpa using hg10
      have HB10 : Hid (Gb w.heap.size w w10) := HB9.out.trans hb10
      have HQ10 : Hid (Own w10 (w.heap.size + 1) 28 #[.slice none 0 0]) := hb10.2.own HQ9.out (by decide)
      have hz10 : w.heap.size + 1 + 1 ≤ w10.heap.size := Nat.le_trans hz9 hb10.1.size
      clear hK Kk hg10 hb10 HG9 HB9 HQ9 hs9 hz9 HFL HPL HP HSB
      refine planG_end (by simp only [pick, List.getElem?_toArray, List.getElem?_cons_succ, List.getElem?_cons_zero]; rfl) ?_
      repeat (go_big_quiet_step ((intro hu; go_simp; (try exact rfl))))
      refine wpQuiet_nil ?_
      go_wp2
      go_round
      case rel => exact ⟨k + 1, by omega, by go_num, HB10, HQ10, hz10, HG10⟩
      case measure => simp [intOf]; omega
    · have hlti : (ts.length : Int) ≤ k := by omega
      have hLB : L4 ++ (ts.take k).flatMap partL = BB := by
        rw [List.take_of_length_le (by omega), HB.out]
      have hgb := HGr.out.bytes
      rw [List.length_map] at hgb ⊢
      rw [hLB] at hgb hr5 hne ⊢
      have HR5 : Hid (RowAt wr (some ⟨g5, o5, none⟩) 1 (BB.map byX)) := hr5
      have HGB : Hid (BytesV wr (.slice (some ⟨g5, o5, none⟩) BB.length c5) BB) := hgb
      clear hgo hr5 hLB hgb HGr
      go_wp2_with fail
      refine (sum_spec _ BB wr HGB.out).mono ?_
      rintro e w6 ⟨rfl, b6⟩
      have hsl := sumL_lt BB
      go_wp2_with fail
      refine (putNum_spec g5 o5 c5 BB (sumL BB : Int) 3 w6 (HR5.out.on b6) (by omega) true (BB ++ numL (sumL BB) 3) (Or.inl ⟨rfl, okPut_three (by omega), by simp⟩)).mono ?_
      rintro e w7 ⟨v7, rfl, b7, hg7⟩
      obtain ⟨a7, n7, c7, rfl, hg7⟩ := hg7.lit2
      have hb7 : Below w.heap.size w w7 := ch_trans (ch_trans hbr b6) b7
      have HQ7 : Own w7 (w.heap.size + 1) 28 #[.slice none 0 0] := (HQr.out.on b6).on b7
      have hg7' : Got w7 (w.heap.size + 1 + 1) 5 1 (.slice a7 n7 c7) (D.map byX) := by
        rw [HD.out]; exact hg7.mono (by have := b6.size; omega)
      obtain ⟨d0, d1⟩ := cut_own HQ7 (Below.refl _ _)
      obtain ⟨k0, k1, k2⟩ := cut_end hb7 HQ7 (Below.refl _ _) hg7'
      have K2 : Hid (Got (w7.setCell ⟨w.heap.size + 1, 0, none⟩ (.slice a7 n7 c7)) w.heap.size 5 1 (.slice a7 n7 c7) _) := k2
      have K1 : Hid _ := k1
      clear k1 k2 hg7 hg7' HQ7 hb7 b7 b6 HGB HR5
      go_wp2
      generalize w7.setCell ⟨w.heap.size + 1, 0, none⟩ (.slice a7 n7 c7) = W at k0 K1 K2 ⊢
      exact bodyPost_ret (v := .tuple #[.agg #[.slice a7 n7 c7], .bool true]) (by simp [results, Tryz.results7, go_sem, k0]) rfl ⟨_, rfl, K1.out, K2.out⟩
end Go.Proofs.YtikccmgpmbnkfaaGreat
