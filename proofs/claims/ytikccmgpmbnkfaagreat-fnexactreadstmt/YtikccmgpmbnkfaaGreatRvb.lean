/- Statements as bytes: given. Columns, changes and statements read from bytes, plainly. -/
import Derived.Test.YtikccmgpmbnkfaaGreatWz
import Derived.Test.YtikccmgpmbnkfaaGreatStS
import Derived.Test.YtikccmgpmbnkfaaGreatRv
import Derived.Test.YtikccmgpmbnkfaaGreatWx
namespace Go.Proofs.YtikccmgpmbnkfaaGreat
open Go.ChangeShapes Go.WideShapes Go.ChangeAt Go.RowKit

theorem okWord_none {s : ByteArray} (h : noneB s = true) : okWord s := Or.inl (noneB_size h)
theorem Dc.right_tidy {d : Dc} (h : d.right) : d.tidy := by
  obtain ⟨kind, table, cs, ks, name, to⟩ := d
  obtain ⟨h0, h⟩ := h
  simp only at h0 h
  have hz : ∀ l : List Cl, l.length = 0 → ∀ c ∈ l, okWord c.name ∧ 0 ≤ c.ty ∧ c.ty ≤ 3 ∧ okB c.dt c.dn c.ds = true := fun l h c hc => by rw [List.length_eq_zero_iff] at h; subst h; simp at hc
  have hy : ∀ l : List ByteArray, l.length = 0 → ∀ s ∈ l, okWord s := fun l h c hc => by rw [List.length_eq_zero_iff] at h; subst h; simp at hc
  have hco : ∀ c : Cl, c.ok = true → okWord c.name ∧ 0 ≤ c.ty ∧ c.ty ≤ 3 ∧ okB c.dt c.dn c.ds = true := fun c hc => by
    have h1 := Cl.ok_small hc
    simp only [Cl.ok, Bool.and_eq_true, decide_eq_true_eq] at hc
    exact ⟨Or.inr hc.1.1, by omega, by omega, h1.2.2⟩
  rcases h with ⟨rfl, h1, h2, h3⟩ | ⟨rfl, h1, h2, h3, h4⟩ | ⟨rfl, h1, h2, h3, h4, h5⟩ | ⟨rfl, h1, h2, h3, h4⟩ | ⟨rfl, h1, h2, h3, h4⟩
  · have hkl := right_keys h3
    have hcs : ∀ c ∈ cs, c.ok = true := fun c hc => by
      obtain ⟨i, hi, rfl⟩ := List.getElem_of_mem hc
      exact h3.2.2.2.2.1 i hi
    have h8 : cs.length ≤ 8 := h3.2.2.1
    refine ⟨by show (0 : Int) ≤ 1 ∧ (1 : Int) ≤ 5; omega, h8, fun c hc => hco c (hcs c hc), Nat.le_trans hkl h8, fun s hs => ?_, okWord_none h1, okWord_none h2⟩
    obtain ⟨j, hj, rfl⟩ := List.getElem_of_mem hs
    obtain ⟨i, hi, hat, _⟩ := right_key h3 j hj
    obtain ⟨hi', he, _⟩ := colAt_first hat
    have : ks[j] = cs[i].name := he.symm
    rw [this]
    exact (hco _ (hcs _ (List.getElem_mem hi'))).1
  · exact ⟨by show (0 : Int) ≤ 2 ∧ (2 : Int) ≤ 5; omega, by show cs.length ≤ 8; omega, hz _ h1, by show ks.length ≤ 8; omega, hy _ h2, okWord_none h3, okWord_none h4⟩
  · refine ⟨by show (0 : Int) ≤ 3 ∧ (3 : Int) ≤ 5; omega, by show cs.length ≤ 8; omega, fun c hc => ?_, by show ks.length ≤ 8; omega, hy _ h3, okWord_none h4, okWord_none h5⟩
    obtain ⟨i, hi, rfl⟩ := List.getElem_of_mem hc
    obtain rfl : i = 0 := by have : i < cs.length := hi; omega
    exact hco _ (h2 hi).1
  · exact ⟨by show (0 : Int) ≤ 4 ∧ (4 : Int) ≤ 5; omega, by show cs.length ≤ 8; omega, hz _ h1, by show ks.length ≤ 8; omega, hy _ h2, Or.inr h3, okWord_none h4⟩
  · exact ⟨by show (0 : Int) ≤ 5 ∧ (5 : Int) ≤ 5; omega, by show cs.length ≤ 8; omega, hz _ h1, by show ks.length ≤ 8; omega, hy _ h2, Or.inr h3, Or.inr h4⟩
theorem got_two (w : World) (x y : UInt8) (m n : Int) (hm : (x.toNat : Int) = m) (hn : (y.toNat : Int) = n) : Got (w.alloc (.cells #[.int .u8 m, .int .u8 n] 5)) w.heap.size 5 1 (.slice (some ⟨w.heap.size, 0, none⟩) 2 2) ([x, y].map byX) := by
  subst hm; subst hn
  exact ⟨fun q hq => by simp at hq; rcases hq with rfl | rfl <;> rfl, by simp, Or.inr ⟨w.heap.size, 2, #[.int .u8 (x.toNat : Int), .int .u8 (y.toNat : Int)], rfl, Nat.le_refl _, Own.new _ _ _, Nat.le_refl _, by unfold maxLen; omega, rfl, rfl⟩⟩
theorem Got.own_lt {w : World} {B : Nat} {T : TypeId} {z : Nat} {v : Value} {xs : List (Array Value)} (h : Got w B T z v xs) {c : Nat} (hc : v.ownBlock = some c) : c < w.heap.size := by
  rcases h.2.2 with ⟨e, _⟩ | ⟨g, cap, cur, e, _, hg, _⟩
  · subst e; cases hc
  · subst e; cases hc; exact Own.lt hg

set_option maxRecDepth 100000 in
set_option maxHeartbeats 1000000 in
/-- spec.StmtBytes -/
theorem stmtBytes_spec (x : Array Value) (s : Sc) (w : World) (hx : StmtV w x s) (hf : s.fit) (q : Bool) (L : List UInt8) (hq : (q = true ∧ s.right ∧ L = stmtL s) ∨ (q = false ∧ ¬ s.right ∧ L = [])) :
    Calls Tryz.prog 31 #[.agg x] w fun e w' => ∃ v', e = .returned (.tuple #[v', .bool q]) ∧ Below w.heap.size w w' ∧ Got w' w.heap.size 5 1 v' (L.map byX) := by
  obtain ⟨ka, kp, ra, rp, ca, cp, oa, op, e0, hkv, hrv, hcv, hov⟩ := hx.lit
  simp only [Sc.cells] at e0
  subst e0
  have HSO : Hid (∀ u : World, Below w.heap.size w u → Calls Tryz.prog 61 #[.agg #[.int .i64 s.kind, .string s.table, .slice ka s.key.length kp, .slice ra s.row.length rp, .int .i64 s.ddl.kind, .string s.ddl.table, .slice ca s.ddl.cols.length cp, .slice oa s.ddl.keys.length op, .string s.ddl.name, .string s.ddl.to]] u fun e w' => e = .returned (.bool q) ∧ Below u.heap.size u w') := fun u hu => (stmtOk_spec _ s u (hx.on hu) hf).mono fun e w' ⟨r, he, hr, hb⟩ => ⟨by
    rw [he]
    have : r = q := by
      rcases hq with ⟨rfl, h, _⟩ | ⟨rfl, h, _⟩
      · exact hr.2 h
      · cases r with
        | false => rfl
        | true => exact absurd (hr.1 rfl) h
    rw [this], hb⟩
  have HKV : Hid (ValsV w (.slice ka s.key.length kp) s.key) := hkv
  have HRV : Hid (ValsV w (.slice ra s.row.length rp) s.row) := hrv
  have HCV : Hid (ColsV w (.slice ca s.ddl.cols.length cp) s.ddl.cols) := hcv
  have HOV : Hid (StrsV w (.slice oa s.ddl.keys.length op) s.ddl.keys) := hov
  clear hx hkv hrv hcv hov hf
  rcases hq with ⟨rfl, hr, rfl⟩ | ⟨rfl, hr, rfl⟩
  rotate_left
  · clear hr HKV HRV HCV HOV
    go_enter Tryz.func31, Tryz.ntmps31
    go_wp2_with fail
    refine (HSO.out _ (by repeat (first | with_reducible exact Below.refl _ _ | with_reducible assumption | with_reducible refine ch_alloc ?_ _ | with_reducible refine Below.drew ?_ | with_reducible refine below_draws _ ?_ | (with_reducible refine Below.setCell ?_ ?_ _; rotate_left; focus (first | with_reducible exact Nat.le_refl _ | (simp; done) | (simp; omega) | (simp at *; omega))) | with_reducible refine ch_trans ?_ (by with_reducible assumption)))).mono ?_
    rintro e w0 ⟨rfl, b0⟩
    go_wp2
    go_ret2
    exact ⟨_, rfl, (by repeat (first | with_reducible exact Below.refl _ _ | with_reducible assumption | with_reducible refine ch_alloc ?_ _ | with_reducible refine Below.drew ?_ | with_reducible refine below_draws _ ?_ | (with_reducible refine Below.setCell ?_ ?_ _; rotate_left; focus (first | with_reducible exact Nat.le_refl _ | (simp; done) | (simp; omega) | (simp at *; omega))) | with_reducible refine ch_trans ?_ (by with_reducible assumption))), Got.nil _ _ _ _⟩
  have hdt : s.kind = 5 → s.ddl.tidy := fun h5 => by
    obtain ⟨_, h⟩ := hr
    rcases h with ⟨hk, _⟩ | ⟨hk, _⟩ | ⟨hk, _⟩ | ⟨hk, _⟩ | ⟨_, _, _, h3, _⟩ <;> first | exact Dc.right_tidy h3 | omega
  have htw : okWord s.table := Or.inr hr.1
  obtain ⟨ht8, hk1, hk5, hkr, hrr, _⟩ := Sc.right_small hr
  clear hr
  obtain ⟨kind, table, key, row, dd⟩ := s
  simp only at ht8 hk1 hk5 hkr hrr hdt htw HSO HKV HRV HCV HOV
  obtain ⟨K, rfl⟩ : ∃ K : Nat, kind = (K : Int) := ⟨kind.toNat, by omega⟩
  have HRK : Hid (∀ u : World, Below w.heap.size w u → Calls Tryz.prog 65 #[.slice ka key.length kp] u fun e w' => ∃ v', e = .returned (.tuple #[v', .bool true]) ∧ Below u.heap.size u w' ∧ Got w' u.heap.size 5 1 v' ((rowL key).map byX)) := fun u hu => rowBytes_spec _ key u (HKV.out.on hu) true _ (Or.inl ⟨rfl, hkr, rfl⟩)
  have HRR : Hid (∀ u : World, Below w.heap.size w u → Calls Tryz.prog 65 #[.slice ra row.length rp] u fun e w' => ∃ v', e = .returned (.tuple #[v', .bool true]) ∧ Below u.heap.size u w' ∧ Got w' u.heap.size 5 1 v' ((rowL row).map byX)) := fun u hu => rowBytes_spec _ row u (HRV.out.on hu) true _ (Or.inl ⟨rfl, hrr, rfl⟩)
  have HDS : Hid ((K : Int) = 5 → dd.tidy) := hdt
  have HTW : Hid (okWord table) := htw
  have hkl := rowL_length hkr
  have hrl := rowL_length hrr
  have hkp : 1 ≤ (rowL key).length := by simp [rowL]
  have hrp : 1 ≤ (rowL row).length := by simp [rowL]
  have HD : Hid (stmtL ⟨(K : Int), table, key, row, dd⟩ = [83, UInt8.ofNat K] ++ textL table ++ rowL key ++ rowL row ++ (if (K : Int) = 5 then ddlL dd else [])) := by
    show _ = _
    simp [stmtL]
  generalize stmtL ⟨(K : Int), table, key, row, dd⟩ = D at HD
  clear hkr hrr hdt htw HKV HRV
  go_enter Tryz.func31, Tryz.ntmps31
  go_wp2_with fail
  refine (HSO.out _ (by repeat (first | with_reducible exact Below.refl _ _ | with_reducible assumption | with_reducible refine ch_alloc ?_ _ | with_reducible refine Below.drew ?_ | with_reducible refine below_draws _ ?_ | (with_reducible refine Below.setCell ?_ ?_ _; rotate_left; focus (first | with_reducible exact Nat.le_refl _ | (simp; done) | (simp; omega) | (simp at *; omega))) | with_reducible refine ch_trans ?_ (by with_reducible assumption)))).mono ?_
  rintro e w0 ⟨rfl, b0⟩
  have HV0 : Own w0 w.heap.size 48 #[.int .i64 (K : Int), .string table, .slice ka key.length kp, .slice ra row.length rp, .int .i64 dd.kind, .string dd.table, .slice ca dd.cols.length cp, .slice oa dd.keys.length op, .string dd.name, .string dd.to] := (Own.new _ _ _).on b0
  have HB0 : Hid (Below w.heap.size w w0) := ch_trans (ch_alloc (Below.refl _ _) _) b0
  have hvw0 : w.heap.size < w0.heap.size := HV0.lt
  have HV0' : Hid (Own w0 w.heap.size 48 #[.int .i64 (K : Int), .string table, .slice ka key.length kp, .slice ra row.length rp, .int .i64 dd.kind, .string dd.table, .slice ca dd.cols.length cp, .slice oa dd.keys.length op, .string dd.name, .string dd.to]) := HV0
  obtain ⟨d0, d1, d2, d3, d4, d5, d6, d7, d8, d9⟩ := HV0.loc.ten
  clear b0 HV0 HSO
  go_wp2_with fail
  refine (l06Word_any (.slice (some ⟨w0.heap.size, 0, none⟩) 2 2) w.heap.size [83, UInt8.ofNat K] table (w0.alloc (.cells #[.int .u8 83, .int .u8 (K : Int)] 5)) ((got_two w0 83 (UInt8.ofNat K) 83 (K : Int) rfl (u8_nat (by omega))).mono (by omega)) HTW.out (by simp) (by simp; omega)).mono ?_
  rintro e w1 ⟨v1, rfl, hb1, hg1⟩
  obtain ⟨a1, n1, e1, rfl, hg1⟩ := hg1.lit2
  have HG1 : Hid (Got w1 w.heap.size 5 1 (.slice a1 n1 e1) (([83, UInt8.ofNat K] ++ textL table).map byX)) := hg1
  have HV1 : Hid (Own w1 w.heap.size 48 #[.int .i64 (K : Int), .string table, .slice ka key.length kp, .slice ra row.length rp, .int .i64 dd.kind, .string dd.table, .slice ca dd.cols.length cp, .slice oa dd.keys.length op, .string dd.name, .string dd.to]) := hb1.2.own (HV0'.out.on (ch_alloc (Below.refl _ _) _)) (by decide)
  have HB1 : Hid (Below w.heap.size w w1) := (ch_trans HB0.out (ch_alloc (Below.refl _ _) _)).trans hb1.1
  have hvw1 := HV1.out.lt
  clear hb1 hg1 HV0' HB0 d0 d1 d2 d3 d4 d5 d6 d7 d8 d9
  obtain ⟨d0, d1, d2, d3, d4, d5, d6, d7, d8, d9⟩ := HV1.out.loc.ten
  go_wp2_with fail
  refine (HRK.out _ HB1.out).mono ?_
  rintro e w2 ⟨v2, rfl, b2, hg2⟩
  obtain ⟨a2, c2, rfl, _, _, hr2, _⟩ := hg2.row
  obtain ⟨g2, o2, rfl, hgo⟩ := hr2.bytes 0 (by omega)
  clear hgo
  rw [List.length_map]
  have HR2 : Hid (RowAt w2 (some ⟨g2, o2, none⟩) 1 ((rowL key).map byX)) := hr2
  have HG2 : Hid (Got w2 w.heap.size 5 1 (.slice a1 n1 e1) (([83, UInt8.ofNat K] ++ textL table).map byX)) := HG1.out.on b2
  have HV2 : Hid (Own w2 w.heap.size 48 #[.int .i64 (K : Int), .string table, .slice ka key.length kp, .slice ra row.length rp, .int .i64 dd.kind, .string dd.table, .slice ca dd.cols.length cp, .slice oa dd.keys.length op, .string dd.name, .string dd.to]) := HV1.out.on b2
  have HB2 : Hid (Below w.heap.size w w2) := ch_trans HB1.out b2
  have hvw2 := HV2.out.lt
  clear hg2 hr2 b2 HG1 HV1 HB1 d0 d1 d2 d3 d4 d5 d6 d7 d8 d9
  obtain ⟨d0, d1, d2, d3, d4, d5, d6, d7, d8, d9⟩ := HV2.out.loc.ten
  go_wp2_with fail
  refine (HRR.out _ HB2.out).mono ?_
  rintro e w3 ⟨v3, rfl, b3, hg3⟩
  obtain ⟨a3, c3, rfl, _, _, hr3, _⟩ := id hg3.row
  obtain ⟨g3, o3, rfl, hgo⟩ := hr3.bytes 0 (by omega)
  clear hgo hr3
  rw [List.length_map] at hg3 ⊢
  have HR3 : Hid (RowAt w3 (some ⟨g2, o2, none⟩) 1 ((rowL key).map byX)) := HR2.out.on b3
  have HR3' : Hid (Got w3 w2.heap.size 5 1 (.slice (some ⟨g3, o3, none⟩) (rowL row).length c3) ((rowL row).map byX)) := hg3
  have HOL : Hid (∀ c, (Value.slice a1 n1 e1).ownBlock = some c → c < w2.heap.size) := fun c hc => HG2.out.own_lt hc
  have HG3 : Hid (Got w3 w.heap.size 5 1 (.slice a1 n1 e1) (([83, UInt8.ofNat K] ++ textL table).map byX)) := HG2.out.on b3
  have HV3 : Hid (Own w3 w.heap.size 48 #[.int .i64 (K : Int), .string table, .slice ka key.length kp, .slice ra row.length rp, .int .i64 dd.kind, .string dd.table, .slice ca dd.cols.length cp, .slice oa dd.keys.length op, .string dd.name, .string dd.to]) := HV2.out.on b3
  have HB3 : Hid (Below w.heap.size w w3) := ch_trans HB2.out b3
  have hvw3 := HV3.out.lt
  clear hg3 b3 HG2 HV2 HB2 HR2 d0 d1 d2 d3 d4 d5 d6 d7 d8 d9
  generalize rowL key = KL at HR3 hkl hkp HD ⊢
  generalize rowL row = RL at HR3' hrl hrp HD ⊢
  have hl6 : ([83, UInt8.ofNat K] ++ textL table ++ KL ++ RL).length ≤ 1000 := by simp only [List.length_append, List.length_cons, List.length_nil, textL_length]; omega
  by_cases h5 : (K : Int) = 5
  · have HD' : Hid (D = [83, UInt8.ofNat K] ++ textL table ++ KL ++ RL ++ ddlL dd) := by show _ = _; rw [HD.out, if_pos h5]
    have HDM : Hid dd.tidy := HDS.out h5
    go_wp2_with (first
      | (at_builtin; refine app_lotT rfl (.tmp 32) (.tmp 33) rfl Tryz.underlying26 infoByte rfl (by decide) (by decide) w.heap.size _ _ rfl HG3.out g2 o2 _ (KL.map byX) KL.length (by simp) rfl HR3.out (byte_one _) (by simp [textL_length]; omega) (by omega) ?_; intro v5 w5 hg5 hb5 ht5; obtain ⟨a5, n5, e5, rfl, hg5⟩ := hg5.lit2; have hq5 : Gb w.heap.size w3 w5 := Gb.got HG3.out ht5 hb5; have HG5 : Hid (Got w5 w.heap.size 5 1 (.slice a5 n5 e5) (([83, UInt8.ofNat K] ++ textL table ++ KL).map byX)) := (by show Got _ _ _ _ _ _; rw [List.map_append]; exact hg5); have HR5 : Hid (RowAt w5 (some ⟨g3, o3, none⟩) 1 (RL.map byX)) := (by obtain ⟨_, _, he, _, _, hr, _⟩ := (HR3'.out.turns ht5 fun c h => HOL.out c h).row; injection he with h1 _ _; subst h1; exact hr); have HV5 : Hid (Own w5 w.heap.size 48 #[.int .i64 (K : Int), .string table, .slice ka key.length kp, .slice ra row.length rp, .int .i64 dd.kind, .string dd.table, .slice ca dd.cols.length cp, .slice oa dd.keys.length op, .string dd.name, .string dd.to]) := hq5.2.own HV3.out (by decide); have HB5 : Hid (Below w.heap.size w w5) := HB3.out.trans hb5; have hvw5 := HV5.out.lt; clear hg5 hb5 ht5 hq5)
      | (at_builtin; refine app_lotT rfl (.tmp 34) (.tmp 35) rfl Tryz.underlying26 infoByte rfl (by decide) (by decide) w.heap.size _ _ rfl HG5.out g3 o3 _ (RL.map byX) RL.length (by simp) rfl HR5.out (byte_one _) (by simp [textL_length]; omega) (by omega) ?_; intro v6 w6 hg6 hb6 ht6; obtain ⟨a6, n6, e6, rfl, hg6⟩ := hg6.lit2; have hq6 : Gb w.heap.size w5 w6 := Gb.got HG5.out ht6 hb6; have HG6 : Hid (Got w6 w.heap.size 5 1 (.slice a6 n6 e6) (([83, UInt8.ofNat K] ++ textL table ++ KL ++ RL).map byX)) := (by show Got _ _ _ _ _ _; rw [List.map_append]; exact hg6); have HV6 : Hid (Own w6 w.heap.size 48 #[.int .i64 (K : Int), .string table, .slice ka key.length kp, .slice ra row.length rp, .int .i64 dd.kind, .string dd.table, .slice ca dd.cols.length cp, .slice oa dd.keys.length op, .string dd.name, .string dd.to]) := hq6.2.own HV5.out (by decide); have HB6 : Hid (Below w.heap.size w w6) := HB5.out.trans hb6; have hvw6 := HV6.out.lt; clear hg6 hb6 ht6 hq6; obtain ⟨d0, d1, d2, d3, d4, d5, d6, d7, d8, d9⟩ := HV6.out.loc.ten)
      | fail)
    refine (l06Ddl_any (.slice a6 n6 e6) w.heap.size ([83, UInt8.ofNat K] ++ textL table ++ KL ++ RL) ca oa cp op dd w6 HG6.out (fun u hu => (HCV.out.on (HB6.out.trans hu)).row) (fun u hu => (HOV.out.on (HB6.out.trans hu)).row) HDM.out (by omega) (by omega)).mono ?_
    rintro e w7 ⟨v7, rfl, hb7, hg7⟩
    have HG7 : Hid (Got w7 w.heap.size 5 1 v7 (D.map byX)) := by
      show Got _ _ _ _ _ _
      rw [HD'.out]; exact hg7
    have HB7 : Hid (Below w.heap.size w w7) := HB6.out.trans hb7.1
    clear hg7 hb7
    go_wp2
    go_ret2
    exact ⟨_, rfl, HB7.out, HG7.out⟩
  · have HD' : Hid (D = [83, UInt8.ofNat K] ++ textL table ++ KL ++ RL) := by show _ = _; rw [HD.out, if_neg h5, List.append_nil]
    go_wp2_with (first
      | (at_builtin; refine app_lotT rfl (.tmp 32) (.tmp 33) rfl Tryz.underlying26 infoByte rfl (by decide) (by decide) w.heap.size _ _ rfl HG3.out g2 o2 _ (KL.map byX) KL.length (by simp) rfl HR3.out (byte_one _) (by simp [textL_length]; omega) (by omega) ?_; intro v5 w5 hg5 hb5 ht5; obtain ⟨a5, n5, e5, rfl, hg5⟩ := hg5.lit2; have hq5 : Gb w.heap.size w3 w5 := Gb.got HG3.out ht5 hb5; have HG5 : Hid (Got w5 w.heap.size 5 1 (.slice a5 n5 e5) (([83, UInt8.ofNat K] ++ textL table ++ KL).map byX)) := (by show Got _ _ _ _ _ _; rw [List.map_append]; exact hg5); have HR5 : Hid (RowAt w5 (some ⟨g3, o3, none⟩) 1 (RL.map byX)) := (by obtain ⟨_, _, he, _, _, hr, _⟩ := (HR3'.out.turns ht5 fun c h => HOL.out c h).row; injection he with h1 _ _; subst h1; exact hr); have HV5 : Hid (Own w5 w.heap.size 48 #[.int .i64 (K : Int), .string table, .slice ka key.length kp, .slice ra row.length rp, .int .i64 dd.kind, .string dd.table, .slice ca dd.cols.length cp, .slice oa dd.keys.length op, .string dd.name, .string dd.to]) := hq5.2.own HV3.out (by decide); have HB5 : Hid (Below w.heap.size w w5) := HB3.out.trans hb5; have hvw5 := HV5.out.lt; clear hg5 hb5 ht5 hq5)
      | (at_builtin; refine app_lotT rfl (.tmp 34) (.tmp 35) rfl Tryz.underlying26 infoByte rfl (by decide) (by decide) w.heap.size _ _ rfl HG5.out g3 o3 _ (RL.map byX) RL.length (by simp) rfl HR5.out (byte_one _) (by simp [textL_length]; omega) (by omega) ?_; intro v6 w6 hg6 hb6 ht6; obtain ⟨a6, n6, e6, rfl, hg6⟩ := hg6.lit2; have hq6 : Gb w.heap.size w5 w6 := Gb.got HG5.out ht6 hb6; have HG6 : Hid (Got w6 w.heap.size 5 1 (.slice a6 n6 e6) (([83, UInt8.ofNat K] ++ textL table ++ KL ++ RL).map byX)) := (by show Got _ _ _ _ _ _; rw [List.map_append]; exact hg6); have HV6 : Hid (Own w6 w.heap.size 48 #[.int .i64 (K : Int), .string table, .slice ka key.length kp, .slice ra row.length rp, .int .i64 dd.kind, .string dd.table, .slice ca dd.cols.length cp, .slice oa dd.keys.length op, .string dd.name, .string dd.to]) := hq6.2.own HV5.out (by decide); have HB6 : Hid (Below w.heap.size w w6) := HB5.out.trans hb6; have hvw6 := HV6.out.lt; clear hg6 hb6 ht6 hq6; obtain ⟨d0, d1, d2, d3, d4, d5, d6, d7, d8, d9⟩ := HV6.out.loc.ten)
      | fail)
    go_ret2
    exact ⟨_, rfl, HB6.out, by rw [HD'.out]; exact HG6.out⟩
end Go.Proofs.YtikccmgpmbnkfaaGreat

namespace Go.Proofs.YtikccmgpmbnkfaaGreat
open Go.ChangeShapes Go.WideShapes Go.ChangeAt Go.RowKit

abbrev noS : ByteArray := ⟨#[]⟩
theorem rdT_size (l : List UInt8) : (rdT l).1.size ≤ 255 := by
  have h1 := rdN_byte l
  show ((l.drop 1).take (rdN 1 l)).toArray.size ≤ 255
  simp; omega
theorem rdV_fit (l : List UInt8) : (rdV l).1.s.size ≤ 255 := by
  unfold rdV
  split
  · exact Nat.zero_le _
  · split
    · exact Nat.zero_le _
    · split
      · exact rdT_size _
      · exact Nat.zero_le _
theorem rdVs_fit : ∀ n l, ∀ c ∈ (rdVs n l).1, c.s.size ≤ 255
  | 0, _, c, h => by simp [rdVs] at h
  | n + 1, l, c, h => by
    simp [rdVs] at h
    rcases h with rfl | h
    · exact rdV_fit l
    · exact rdVs_fit n _ c h
theorem rdVs_len : ∀ n l, (rdVs n l).1.length = n
  | 0, _ => rfl
  | n + 1, l => by simp [rdVs, rdVs_len n]
/-- A column off the front, and what is left. -/
def rdC (l : List UInt8) : Cl × List UInt8 :=
  (⟨(rdT l).1, (rdN 1 (rdT l).2 : Int), decide (rdN 1 ((rdT l).2.drop 1) = 1), decide (rdN 1 (((rdT l).2.drop 1).drop 1) = 1), (rdV ((((rdT l).2.drop 1).drop 1).drop 1)).1.ty, (rdV ((((rdT l).2.drop 1).drop 1).drop 1)).1.n, (rdV ((((rdT l).2.drop 1).drop 1).drop 1)).1.s⟩, (rdV ((((rdT l).2.drop 1).drop 1).drop 1)).2)
def rdCs : Nat → List UInt8 → List Cl × List UInt8
  | 0, l => ([], l)
  | n + 1, l => ((rdC l).1 :: (rdCs n (rdC l).2).1, (rdCs n (rdC l).2).2)
def rdTs : Nat → List UInt8 → List ByteArray × List UInt8
  | 0, l => ([], l)
  | n + 1, l => ((rdT l).1 :: (rdTs n (rdT l).2).1, (rdTs n (rdT l).2).2)
theorem rdCs_len : ∀ n l, (rdCs n l).1.length = n
  | 0, _ => rfl
  | n + 1, l => by simp [rdCs, rdCs_len n]
theorem rdTs_len : ∀ n l, (rdTs n l).1.length = n
  | 0, _ => rfl
  | n + 1, l => by simp [rdTs, rdTs_len n]
theorem rdC_fit (l : List UInt8) : (rdC l).1.name.size ≤ 255 ∧ (rdC l).1.ds.size ≤ 255 := ⟨rdT_size l, rdV_fit _⟩
theorem rdCs_fit : ∀ n l, ∀ c ∈ (rdCs n l).1, c.name.size ≤ 255 ∧ c.ds.size ≤ 255
  | 0, _, c, h => by simp [rdCs] at h
  | n + 1, l, c, h => by
    simp [rdCs] at h
    rcases h with rfl | h
    · exact rdC_fit l
    · exact rdCs_fit n _ c h
theorem rdTs_fit : ∀ n l, ∀ s ∈ (rdTs n l).1, s.size ≤ 255
  | 0, _, s, h => by simp [rdTs] at h
  | n + 1, l, s, h => by
    simp [rdTs] at h
    rcases h with rfl | h
    · exact rdT_size l
    · exact rdTs_fit n _ s h
/-- A column as it may be written: small, its type in one byte. -/
def Cl.tame (c : Cl) : Prop := c.small ∧ c.ty ≤ 255
theorem rdC_col (c : Cl) (r : List UInt8) (h : c.tame) : rdC (colL c ++ r) = (c, r) := by
  obtain ⟨⟨h1, h2, h3⟩, h4⟩ := h
  obtain ⟨nm, ty, nt, has, dt, dn, ds⟩ := c
  simp only at h1 h2 h3 h4
  obtain ⟨N, rfl⟩ : ∃ N : Nat, ty = (N : Int) := ⟨ty.toNat, by omega⟩
  have e0 : colL ⟨nm, (N : Int), nt, has, dt, dn, ds⟩ ++ r = textL nm ++ (UInt8.ofNat N :: flagN nt :: flagN has :: (valL ⟨dt, dn, ds⟩ ++ r)) := by simp [colL]
  have e1 := rdT_text nm (UInt8.ofNat N :: flagN nt :: flagN has :: (valL ⟨dt, dn, ds⟩ ++ r)) h1
  have e2 : (UInt8.ofNat N).toNat = N := by rw [UInt8.toNat_ofNat', Nat.mod_eq_of_lt (by omega)]
  have e3 : ∀ b : Bool, decide ((flagN b).toNat = 1) = b := fun b => by cases b <;> rfl
  have e4 := rdV_val ⟨dt, dn, ds⟩ r h3
  unfold rdC
  rw [e0, e1]
  simp only [rdN_one, List.drop_succ_cons, List.drop_zero, e2, e3, e4]
theorem rdCs_flat : ∀ (cs : List Cl) (r : List UInt8), (∀ c ∈ cs, c.tame) → rdCs cs.length (cs.flatMap colL ++ r) = (cs, r)
  | [], r, _ => rfl
  | c :: cs, r, h => by
    have e : (c :: cs).flatMap colL ++ r = colL c ++ (cs.flatMap colL ++ r) := by rw [List.flatMap_cons, List.append_assoc]
    have ih := rdCs_flat cs r fun x hx => h x (by simp [hx])
    show ((rdC _).1 :: _, _) = _
    rw [e, rdC_col c _ (h c (by simp))]
    simp only
    rw [ih]
theorem rdTs_flat : ∀ (ks : List ByteArray) (r : List UInt8), (∀ s ∈ ks, s.size ≤ 30) → rdTs ks.length (ks.flatMap textL ++ r) = (ks, r)
  | [], r, _ => rfl
  | s :: ks, r, h => by
    have e : (s :: ks).flatMap textL ++ r = textL s ++ (ks.flatMap textL ++ r) := by rw [List.flatMap_cons, List.append_assoc]
    have ih := rdTs_flat ks r fun x hx => h x (by simp [hx])
    show ((rdT _).1 :: _, _) = _
    rw [e, rdT_text s _ (h s (by simp))]
    simp only
    rw [ih]
theorem rdVs_front (vs : List Vc) (r : List UInt8) (h : okRow vs) : rdVs (rdN 1 (rowL vs ++ r)) ((rowL vs ++ r).drop 1) = (vs, r) := by
  have h1 : rdN 1 (rowL vs ++ r) = vs.length := by
    rw [rowL, List.cons_append, rdN_one, UInt8.toNat_ofNat', Nat.mod_eq_of_lt (by have := h.1; omega)]
  rw [h1]
  exact rdVs_row vs r h.2
/-- Texts, counted, off the front. -/
def rdW (l : List UInt8) : List ByteArray × List UInt8 := rdTs (rdN 1 l) (l.drop 1)
theorem rdW_front (ks : List ByteArray) (r : List UInt8) (hl : ks.length ≤ 8) (h : ∀ s ∈ ks, s.size ≤ 30) : rdW (UInt8.ofNat ks.length :: (ks.flatMap textL ++ r)) = (ks, r) := by
  unfold rdW
  rw [rdN_one, UInt8.toNat_ofNat', Nat.mod_eq_of_lt (by omega)]
  exact rdTs_flat ks r h
/-- Columns, counted, off the front. -/
def rdK (l : List UInt8) : List Cl × List UInt8 := rdCs (rdN 1 l) (l.drop 1)
theorem rdK_front (cs : List Cl) (r : List UInt8) (hl : cs.length ≤ 8) (h : ∀ c ∈ cs, c.tame) : rdK (UInt8.ofNat cs.length :: (cs.flatMap colL ++ r)) = (cs, r) := by
  unfold rdK
  rw [rdN_one, UInt8.toNat_ofNat', Nat.mod_eq_of_lt (by omega)]
  exact rdCs_flat cs r h
/-- A change of a table off the front, and what is left. -/
def rdD (tb : ByteArray) (l : List UInt8) : Dc × List UInt8 :=
  (⟨(rdN 1 l : Int), tb, (rdK (l.drop 1)).1, (rdW (rdK (l.drop 1)).2).1, (rdT (rdW (rdK (l.drop 1)).2).2).1, (rdT (rdT (rdW (rdK (l.drop 1)).2).2).2).1⟩, (rdT (rdT (rdW (rdK (l.drop 1)).2).2).2).2)
/-- A change as it may be written. -/
def Dc.tame (d : Dc) : Prop := d.small ∧ d.kind ≤ 255 ∧ ∀ c ∈ d.cols, c.ty ≤ 255
theorem rdD_ddl (d : Dc) (r : List UInt8) (h : d.tame) : rdD d.table (ddlL d ++ r) = (d, r) := by
  obtain ⟨⟨h0, h1, h2, h3, h4, h5, h6⟩, h7, h8⟩ := h
  obtain ⟨kd, tb, cs, ks, nm, to⟩ := d
  simp only at *
  obtain ⟨N, rfl⟩ : ∃ N : Nat, kd = (N : Int) := ⟨kd.toNat, by omega⟩
  have e0 : ddlL ⟨(N : Int), tb, cs, ks, nm, to⟩ ++ r = UInt8.ofNat N :: UInt8.ofNat cs.length :: (cs.flatMap colL ++ (UInt8.ofNat ks.length :: (ks.flatMap textL ++ (textL nm ++ (textL to ++ r))))) := by simp [ddlL]
  have e2 : (UInt8.ofNat N).toNat = N := by rw [UInt8.toNat_ofNat', Nat.mod_eq_of_lt (by omega)]
  have e3 := rdK_front cs (UInt8.ofNat ks.length :: (ks.flatMap textL ++ (textL nm ++ (textL to ++ r)))) h1 (fun c hc => ⟨h2 c hc, h8 c hc⟩)
  have e4 := rdW_front ks (textL nm ++ (textL to ++ r)) h3 h4
  have e5 := rdT_text nm (textL to ++ r) h5
  have e6 := rdT_text to r h6
  unfold rdD
  rw [e0]
  simp only [rdN_one, List.drop_succ_cons, List.drop_zero, e2, e3, e4, e5, e6]
/-- No change. -/
abbrev Dc.zero : Dc := ⟨0, noS, [], [], noS, noS⟩
/-- No statement at all. -/
abbrev Sc.zero : Sc := ⟨0, noS, [], [], Dc.zero⟩
/-- Values, counted, off the front. -/
def rdR (l : List UInt8) : List Vc × List UInt8 := rdVs (rdN 1 l) (l.drop 1)
/-- A statement off the front, behind one byte. -/
def rdS (l : List UInt8) : Sc :=
  ⟨(rdN 1 (l.drop 1) : Int), (rdT ((l.drop 1).drop 1)).1, (rdR (rdT ((l.drop 1).drop 1)).2).1, (rdR (rdR (rdT ((l.drop 1).drop 1)).2).2).1,
   if rdN 1 (l.drop 1) = 5 then (rdD (rdT ((l.drop 1).drop 1)).1 (rdR (rdR (rdT ((l.drop 1).drop 1)).2).2).2).1 else Dc.zero⟩
theorem Dc.nil_zero {d : Dc} (h : d.nil) : d = Dc.zero := by
  obtain ⟨kd, tb, cs, ks, nm, to⟩ := d
  obtain ⟨h1, h2, h3, h4, h5, h6⟩ := h
  simp only at *
  rw [h1, noneS h2, List.length_eq_zero_iff.1 h3, List.length_eq_zero_iff.1 h4, noneS h5, noneS h6]
theorem Sc.right_tame {s : Sc} (h : s.right) (h5 : s.kind = 5) : s.ddl.tame ∧ s.ddl.table = s.table := by
  have hs := Sc.right_small h
  obtain ⟨_, h⟩ := h
  rcases h with ⟨hk, _⟩ | ⟨hk, _⟩ | ⟨hk, _⟩ | ⟨hk, _⟩ | ⟨_, _, _, h3, h4⟩
  iterate 4 exact absurd h5 (by omega)
  have ht := Dc.right_tidy h3
  refine ⟨⟨hs.2.2.2.2.2 h5, by have := ht.1.2; omega, fun c hc => by have := (ht.2.2.1 c hc).2.2.1; omega⟩, h4⟩
theorem Sc.right_zero {s : Sc} (h : s.right) (h5 : s.kind ≠ 5) : s.ddl = Dc.zero := by
  obtain ⟨_, h⟩ := h
  rcases h with ⟨_, _, _, h⟩ | ⟨_, _, _, h⟩ | ⟨_, _, _, h⟩ | ⟨_, _, _, h⟩ | ⟨hk, _⟩
  iterate 4 exact Dc.nil_zero h
  exact absurd hk h5
/-- A right statement is read as it was written. -/
theorem rdS_stmt (s : Sc) (h : s.right) : rdS (stmtL s) = s := by
  obtain ⟨h1, h2, h3, h4, h5, _⟩ := Sc.right_small h
  have hT := Sc.right_tame h
  have hZ := Sc.right_zero h
  obtain ⟨kd, tb, key, row, dd⟩ := s
  simp only at *
  obtain ⟨N, rfl⟩ : ∃ N : Nat, kd = (N : Int) := ⟨kd.toNat, by omega⟩
  obtain ⟨Z, hZd⟩ : ∃ Z, Z = (if (N : Int) = 5 then ddlL dd else []) := ⟨_, rfl⟩
  have e0 : stmtL ⟨(N : Int), tb, key, row, dd⟩ = 83 :: UInt8.ofNat N :: (textL tb ++ (rowL key ++ (rowL row ++ Z))) := by rw [hZd]; simp [stmtL]
  have e2 : (UInt8.ofNat N).toNat = N := by rw [UInt8.toNat_ofNat', Nat.mod_eq_of_lt (by omega)]
  have e3 := rdT_text tb (rowL key ++ (rowL row ++ Z)) (by omega)
  have e4 : rdR (rowL key ++ (rowL row ++ Z)) = (key, rowL row ++ Z) := rdVs_front key _ h4
  have e5 : rdR (rowL row ++ Z) = (row, Z) := rdVs_front row _ h5
  unfold rdS
  rw [e0]
  simp only [rdN_one, List.drop_succ_cons, List.drop_zero, e2, e3, e4, e5]
  by_cases h : N = 5
  · subst h
    have hd := rdD_ddl dd [] (hT rfl).1
    rw [List.append_nil] at hd
    have hz : Z = ddlL dd := by rw [hZd]; simp
    rw [hz, if_pos rfl, ← (hT rfl).2, hd]
  · rw [if_neg h, ← hZ (by omega)]
theorem rdS_fit (l : List UInt8) : (rdS l).fit ∧ (rdS l).few := by
  have hm : (255 : Nat) ≤ maxLen := by unfold maxLen; omega
  have hv : ∀ l, vfit (rdR l).1 := fun l => fun c hc => Nat.le_trans (rdVs_fit _ _ c hc) hm
  have hn : ∀ l, (rdR l).1.length ≤ 1048576 := fun l => by
    have := rdN_byte l
    unfold rdR
    rw [rdVs_len]; omega
  have hd : ∀ tb l, tb.size ≤ 255 → (rdD tb l).1.fit ∧ (rdD tb l).1.few := fun tb l ht => by
    refine ⟨⟨Nat.le_trans ht hm, fun c hc => ?_, fun s hs => ?_, Nat.le_trans (rdT_size _) hm, Nat.le_trans (rdT_size _) hm⟩, ?_, ?_⟩
    · have := rdCs_fit _ _ c hc
      exact ⟨Nat.le_trans this.1 hm, Nat.le_trans this.2 hm⟩
    · exact Nat.le_trans (rdTs_fit _ _ s hs) hm
    · have := rdN_byte (l.drop 1)
      show (rdK (l.drop 1)).1.length ≤ _
      unfold rdK
      rw [rdCs_len]; omega
    · have := rdN_byte (rdK (l.drop 1)).2
      show (rdW (rdK (l.drop 1)).2).1.length ≤ _
      unfold rdW
      rw [rdTs_len]; omega
  have hz : Dc.zero.fit ∧ Dc.zero.few := ⟨⟨Nat.zero_le _, by simp, by simp, Nat.zero_le _, Nat.zero_le _⟩, by simp, by simp⟩
  refine ⟨⟨Nat.le_trans (rdT_size _) hm, hv _, hv _, ?_⟩, hn _, hn _, ?_⟩
  · show (if _ then _ else _ : Dc).fit
    split
    · exact (hd _ _ (rdT_size _)).1
    · exact hz.1
  · show (if _ then _ else _ : Dc).few
    split
    · exact (hd _ _ (rdT_size _)).2
    · exact hz.2
/-- What bytes are read as: the statement whose bytes they are. -/
def isStmt (l : List UInt8) (s : Sc) (q : Bool) : Prop := (q = true ∧ s.right ∧ stmtL s = l) ∨ (q = false ∧ (∀ u : Sc, u.right → stmtL u ≠ l) ∧ s = Sc.zero)
theorem isStmt.unique {l : List UInt8} {s u : Sc} {q r : Bool} (h : isStmt l s q) (k : isStmt l u r) : s = u ∧ q = r := by
  rcases h with ⟨h1, h2, h3⟩ | ⟨h1, h2, h3⟩
  · rcases k with ⟨k1, k2, k3⟩ | ⟨k1, k2, k3⟩
    · have e1 := rdS_stmt s h2
      have e2 := rdS_stmt u k2
      rw [h3] at e1
      rw [k3, e1] at e2
      exact ⟨e2, h1.trans k1.symm⟩
    · exact absurd h3 (k2 s h2)
  · rcases k with ⟨k1, k2, k3⟩ | ⟨k1, k2, k3⟩
    · exact absurd k3 (h2 u k2)
    · exact ⟨h3.trans k3.symm, h1.trans k1.symm⟩
end Go.Proofs.YtikccmgpmbnkfaaGreat
