/- Statements as bytes: given. -/
import Derived.Test.YtikccmgpmbnkfaaWz
import Derived.Test.YtikccmgpmbnkfaaStS
namespace Go.Proofs.Ytikccmgpmbnkfaa
open Go.ChangeShapes Go.WideShapes Go.ChangeAt Go.RowKit

theorem okWord_none {s : ByteArray} (h : noneB s = true) : okWord s := Or.inl (noneB_size h)
theorem Dc.right_tidy {d : Dc} (h : d.right) : d.tidy := by
  obtain ⟨kind, table, cs, ks, name, to⟩ := d
  obtain ⟨h0, h⟩ := h
  simp only at h0 h
  have hz : ∀ l : List Cl, l.length = 0 → ∀ c ∈ l, okWord c.name ∧ 0 ≤ c.ty ∧ c.ty ≤ 3 ∧ okB c.dt c.dn c.ds = true := fun l h c hc => by rw [List.length_eq_zero_iff] at h; subst h; simp at hc
  have hy : ∀ l : List ByteArray, l.length = 0 → ∀ s ∈ l, okWord s := fun l h c hc => by rw [List.length_eq_zero_iff] at h; subst h; simp at hc
  have hco : ∀ c : Cl, c.ok = true → okWord c.name ∧ 0 ≤ c.ty ∧ c.ty ≤ 3 ∧ okB c.dt c.dn c.ds = true := fun c hc => by
    have h1 := Cl.ok_small hc
    simp only [Cl.ok, Bool.and_eq_true, decide_eq_true_eq] at hc
    exact ⟨Or.inr hc.1.1, by omega, by omega, h1.2.2⟩
  rcases h with ⟨rfl, h1, h2, h3⟩ | ⟨rfl, h1, h2, h3, h4⟩ | ⟨rfl, h1, h2, h3, h4, h5⟩ | ⟨rfl, h1, h2, h3, h4⟩ | ⟨rfl, h1, h2, h3, h4⟩
  · have hkl := right_keys h3
    have hcs : ∀ c ∈ cs, c.ok = true := fun c hc => by
      obtain ⟨i, hi, rfl⟩ := List.getElem_of_mem hc
      exact h3.2.2.2.2.1 i hi
    have h8 : cs.length ≤ 8 := h3.2.2.1
    refine ⟨by show (0 : Int) ≤ 1 ∧ (1 : Int) ≤ 5; omega, h8, fun c hc => hco c (hcs c hc), Nat.le_trans hkl h8, fun s hs => ?_, okWord_none h1, okWord_none h2⟩
    obtain ⟨j, hj, rfl⟩ := List.getElem_of_mem hs
    obtain ⟨i, hi, hat, _⟩ := right_key h3 j hj
    obtain ⟨hi', he, _⟩ := colAt_first hat
    have : ks[j] = cs[i].name := he.symm
    rw [this]
    exact (hco _ (hcs _ (List.getElem_mem hi'))).1
  · exact ⟨by show (0 : Int) ≤ 2 ∧ (2 : Int) ≤ 5; omega, by show cs.length ≤ 8; omega, hz _ h1, by show ks.length ≤ 8; omega, hy _ h2, okWord_none h3, okWord_none h4⟩
  · refine ⟨by show (0 : Int) ≤ 3 ∧ (3 : Int) ≤ 5; omega, by show cs.length ≤ 8; omega, fun c hc => ?_, by show ks.length ≤ 8; omega, hy _ h3, okWord_none h4, okWord_none h5⟩
    obtain ⟨i, hi, rfl⟩ := List.getElem_of_mem hc
    obtain rfl : i = 0 := by have : i < cs.length := hi; omega
    exact hco _ (h2 hi).1
  · exact ⟨by show (0 : Int) ≤ 4 ∧ (4 : Int) ≤ 5; omega, by show cs.length ≤ 8; omega, hz _ h1, by show ks.length ≤ 8; omega, hy _ h2, Or.inr h3, okWord_none h4⟩
  · exact ⟨by show (0 : Int) ≤ 5 ∧ (5 : Int) ≤ 5; omega, by show cs.length ≤ 8; omega, hz _ h1, by show ks.length ≤ 8; omega, hy _ h2, Or.inr h3, Or.inr h4⟩
theorem got_two (w : World) (x y : UInt8) (m n : Int) (hm : (x.toNat : Int) = m) (hn : (y.toNat : Int) = n) : Got (w.alloc (.cells #[.int .u8 m, .int .u8 n] 5)) w.heap.size 5 1 (.slice (some ⟨w.heap.size, 0, none⟩) 2 2) ([x, y].map byX) := by
  subst hm; subst hn
  exact ⟨fun q hq => by simp at hq; rcases hq with rfl | rfl <;> rfl, by simp, Or.inr ⟨w.heap.size, 2, #[.int .u8 (x.toNat : Int), .int .u8 (y.toNat : Int)], rfl, Nat.le_refl _, Own.new _ _ _, Nat.le_refl _, by unfold maxLen; omega, rfl, rfl⟩⟩
theorem Got.own_lt {w : World} {B : Nat} {T : TypeId} {z : Nat} {v : Value} {xs : List (Array Value)} (h : Got w B T z v xs) {c : Nat} (hc : v.ownBlock = some c) : c < w.heap.size := by
  rcases h.2.2 with ⟨e, _⟩ | ⟨g, cap, cur, e, _, hg, _⟩
  · subst e; cases hc
  · subst e; cases hc; exact Own.lt hg

set_option maxRecDepth 100000 in
set_option maxHeartbeats 1000000 in
/-- spec.StmtBytes -/
theorem stmtBytes_spec (x : Array Value) (s : Sc) (w : World) (hx : StmtV w x s) (hf : s.fit) (q : Bool) (L : List UInt8) (hq : (q = true ∧ s.right ∧ L = stmtL s) ∨ (q = false ∧ ¬ s.right ∧ L = [])) :
    Calls Try.prog 19 #[.agg x] w fun e w' => ∃ v', e = .returned (.tuple #[v', .bool q]) ∧ Below w.heap.size w w' ∧ Got w' w.heap.size 5 1 v' (L.map byX) := by
  obtain ⟨ka, kp, ra, rp, ca, cp, oa, op, e0, hkv, hrv, hcv, hov⟩ := hx.lit
  simp only [Sc.cells] at e0
  subst e0
  have HSO : Hid (∀ u : World, Below w.heap.size w u → Calls Try.prog 28 #[.agg #[.int .i64 s.kind, .string s.table, .slice ka s.key.length kp, .slice ra s.row.length rp, .int .i64 s.ddl.kind, .string s.ddl.table, .slice ca s.ddl.cols.length cp, .slice oa s.ddl.keys.length op, .string s.ddl.name, .string s.ddl.to]] u fun e w' => e = .returned (.bool q) ∧ Below u.heap.size u w') := fun u hu => (stmtOk_spec _ s u (hx.on hu) hf).mono fun e w' ⟨r, he, hr, hb⟩ => ⟨by
    rw [he]
    have : r = q := by
      rcases hq with ⟨rfl, h, _⟩ | ⟨rfl, h, _⟩
      · exact hr.2 h
      · cases r with
        | false => rfl
        | true => exact absurd (hr.1 rfl) h
    rw [this], hb⟩
  have HKV : Hid (ValsV w (.slice ka s.key.length kp) s.key) := hkv
  have HRV : Hid (ValsV w (.slice ra s.row.length rp) s.row) := hrv
  have HCV : Hid (ColsV w (.slice ca s.ddl.cols.length cp) s.ddl.cols) := hcv
  have HOV : Hid (StrsV w (.slice oa s.ddl.keys.length op) s.ddl.keys) := hov
  clear hx hkv hrv hcv hov hf
  rcases hq with ⟨rfl, hr, rfl⟩ | ⟨rfl, hr, rfl⟩
  rotate_left
  · clear hr HKV HRV HCV HOV
    go_enter Try.func19, Try.ntmps19
    go_wp2_with fail
    refine (HSO.out _ (by repeat (first | with_reducible exact Below.refl _ _ | with_reducible assumption | with_reducible refine ch_alloc ?_ _ | with_reducible refine Below.drew ?_ | with_reducible refine below_draws _ ?_ | (with_reducible refine Below.setCell ?_ ?_ _; rotate_left; focus (first | with_reducible exact Nat.le_refl _ | (simp; done) | (simp; omega) | (simp at *; omega))) | with_reducible refine ch_trans ?_ (by with_reducible assumption)))).mono ?_
    rintro e w0 ⟨rfl, b0⟩
    go_wp2
    go_ret2
    exact ⟨_, rfl, (by repeat (first | with_reducible exact Below.refl _ _ | with_reducible assumption | with_reducible refine ch_alloc ?_ _ | with_reducible refine Below.drew ?_ | with_reducible refine below_draws _ ?_ | (with_reducible refine Below.setCell ?_ ?_ _; rotate_left; focus (first | with_reducible exact Nat.le_refl _ | (simp; done) | (simp; omega) | (simp at *; omega))) | with_reducible refine ch_trans ?_ (by with_reducible assumption))), Got.nil _ _ _ _⟩
  have hdt : s.kind = 5 → s.ddl.tidy := fun h5 => by
    obtain ⟨_, h⟩ := hr
    rcases h with ⟨hk, _⟩ | ⟨hk, _⟩ | ⟨hk, _⟩ | ⟨hk, _⟩ | ⟨_, _, _, h3, _⟩ <;> first | exact Dc.right_tidy h3 | omega
  have htw : okWord s.table := Or.inr hr.1
  obtain ⟨ht8, hk1, hk5, hkr, hrr, _⟩ := Sc.right_small hr
  clear hr
  obtain ⟨kind, table, key, row, dd⟩ := s
  simp only at ht8 hk1 hk5 hkr hrr hdt htw HSO HKV HRV HCV HOV
  obtain ⟨K, rfl⟩ : ∃ K : Nat, kind = (K : Int) := ⟨kind.toNat, by omega⟩
  have HRK : Hid (∀ u : World, Below w.heap.size w u → Calls Try.prog 41 #[.slice ka key.length kp] u fun e w' => ∃ v', e = .returned (.tuple #[v', .bool true]) ∧ Below u.heap.size u w' ∧ Got w' u.heap.size 5 1 v' ((rowL key).map byX)) := fun u hu => rowBytes_spec _ key u (HKV.out.on hu) true _ (Or.inl ⟨rfl, hkr, rfl⟩)
  have HRR : Hid (∀ u : World, Below w.heap.size w u → Calls Try.prog 41 #[.slice ra row.length rp] u fun e w' => ∃ v', e = .returned (.tuple #[v', .bool true]) ∧ Below u.heap.size u w' ∧ Got w' u.heap.size 5 1 v' ((rowL row).map byX)) := fun u hu => rowBytes_spec _ row u (HRV.out.on hu) true _ (Or.inl ⟨rfl, hrr, rfl⟩)
  have HDS : Hid ((K : Int) = 5 → dd.tidy) := hdt
  have HTW : Hid (okWord table) := htw
  have hkl := rowL_length hkr
  have hrl := rowL_length hrr
  have hkp : 1 ≤ (rowL key).length := by simp [rowL]
  have hrp : 1 ≤ (rowL row).length := by simp [rowL]
  have HD : Hid (stmtL ⟨(K : Int), table, key, row, dd⟩ = [83, UInt8.ofNat K] ++ textL table ++ rowL key ++ rowL row ++ (if (K : Int) = 5 then ddlL dd else [])) := by
    show _ = _
    simp [stmtL]
  generalize stmtL ⟨(K : Int), table, key, row, dd⟩ = D at HD
  clear hkr hrr hdt htw HKV HRV
  go_enter Try.func19, Try.ntmps19
  go_wp2_with fail
  refine (HSO.out _ (by repeat (first | with_reducible exact Below.refl _ _ | with_reducible assumption | with_reducible refine ch_alloc ?_ _ | with_reducible refine Below.drew ?_ | with_reducible refine below_draws _ ?_ | (with_reducible refine Below.setCell ?_ ?_ _; rotate_left; focus (first | with_reducible exact Nat.le_refl _ | (simp; done) | (simp; omega) | (simp at *; omega))) | with_reducible refine ch_trans ?_ (by with_reducible assumption)))).mono ?_
  rintro e w0 ⟨rfl, b0⟩
  have HV0 : Own w0 w.heap.size 62 #[.int .i64 (K : Int), .string table, .slice ka key.length kp, .slice ra row.length rp, .int .i64 dd.kind, .string dd.table, .slice ca dd.cols.length cp, .slice oa dd.keys.length op, .string dd.name, .string dd.to] := (Own.new _ _ _).on b0
  have HB0 : Hid (Below w.heap.size w w0) := ch_trans (ch_alloc (Below.refl _ _) _) b0
  have hvw0 : w.heap.size < w0.heap.size := HV0.lt
  have HV0' : Hid (Own w0 w.heap.size 62 #[.int .i64 (K : Int), .string table, .slice ka key.length kp, .slice ra row.length rp, .int .i64 dd.kind, .string dd.table, .slice ca dd.cols.length cp, .slice oa dd.keys.length op, .string dd.name, .string dd.to]) := HV0
  obtain ⟨d0, d1, d2, d3, d4, d5, d6, d7, d8, d9⟩ := HV0.loc.ten
  clear b0 HV0 HSO
  go_wp2_with fail
  refine (l06Word_any (.slice (some ⟨w0.heap.size, 0, none⟩) 2 2) w.heap.size [83, UInt8.ofNat K] table (w0.alloc (.cells #[.int .u8 83, .int .u8 (K : Int)] 5)) ((got_two w0 83 (UInt8.ofNat K) 83 (K : Int) rfl (u8_nat (by omega))).mono (by omega)) HTW.out (by simp) (by simp; omega)).mono ?_
  rintro e w1 ⟨v1, rfl, hb1, hg1⟩
  obtain ⟨a1, n1, e1, rfl, hg1⟩ := hg1.lit2
  have HG1 : Hid (Got w1 w.heap.size 5 1 (.slice a1 n1 e1) (([83, UInt8.ofNat K] ++ textL table).map byX)) := hg1
  have HV1 : Hid (Own w1 w.heap.size 62 #[.int .i64 (K : Int), .string table, .slice ka key.length kp, .slice ra row.length rp, .int .i64 dd.kind, .string dd.table, .slice ca dd.cols.length cp, .slice oa dd.keys.length op, .string dd.name, .string dd.to]) := hb1.2.own (HV0'.out.on (ch_alloc (Below.refl _ _) _)) (by decide)
  have HB1 : Hid (Below w.heap.size w w1) := (ch_trans HB0.out (ch_alloc (Below.refl _ _) _)).trans hb1.1
  have hvw1 := HV1.out.lt
  clear hb1 hg1 HV0' HB0 d0 d1 d2 d3 d4 d5 d6 d7 d8 d9
  obtain ⟨d0, d1, d2, d3, d4, d5, d6, d7, d8, d9⟩ := HV1.out.loc.ten
  go_wp2_with fail
  refine (HRK.out _ HB1.out).mono ?_
  rintro e w2 ⟨v2, rfl, b2, hg2⟩
  obtain ⟨a2, c2, rfl, _, _, hr2, _⟩ := hg2.row
  obtain ⟨g2, o2, rfl, hgo⟩ := hr2.bytes 0 (by omega)
  clear hgo
  rw [List.length_map]
  have HR2 : Hid (RowAt w2 (some ⟨g2, o2, none⟩) 1 ((rowL key).map byX)) := hr2
  have HG2 : Hid (Got w2 w.heap.size 5 1 (.slice a1 n1 e1) (([83, UInt8.ofNat K] ++ textL table).map byX)) := HG1.out.on b2
  have HV2 : Hid (Own w2 w.heap.size 62 #[.int .i64 (K : Int), .string table, .slice ka key.length kp, .slice ra row.length rp, .int .i64 dd.kind, .string dd.table, .slice ca dd.cols.length cp, .slice oa dd.keys.length op, .string dd.name, .string dd.to]) := HV1.out.on b2
  have HB2 : Hid (Below w.heap.size w w2) := ch_trans HB1.out b2
  have hvw2 := HV2.out.lt
  clear hg2 hr2 b2 HG1 HV1 HB1 d0 d1 d2 d3 d4 d5 d6 d7 d8 d9
  obtain ⟨d0, d1, d2, d3, d4, d5, d6, d7, d8, d9⟩ := HV2.out.loc.ten
  go_wp2_with fail
  refine (HRR.out _ HB2.out).mono ?_
  rintro e w3 ⟨v3, rfl, b3, hg3⟩
  obtain ⟨a3, c3, rfl, _, _, hr3, _⟩ := id hg3.row
  obtain ⟨g3, o3, rfl, hgo⟩ := hr3.bytes 0 (by omega)
  clear hgo hr3
  rw [List.length_map] at hg3 ⊢
  have HR3 : Hid (RowAt w3 (some ⟨g2, o2, none⟩) 1 ((rowL key).map byX)) := HR2.out.on b3
  have HR3' : Hid (Got w3 w2.heap.size 5 1 (.slice (some ⟨g3, o3, none⟩) (rowL row).length c3) ((rowL row).map byX)) := hg3
  have HOL : Hid (∀ c, (Value.slice a1 n1 e1).ownBlock = some c → c < w2.heap.size) := fun c hc => HG2.out.own_lt hc
  have HG3 : Hid (Got w3 w.heap.size 5 1 (.slice a1 n1 e1) (([83, UInt8.ofNat K] ++ textL table).map byX)) := HG2.out.on b3
  have HV3 : Hid (Own w3 w.heap.size 62 #[.int .i64 (K : Int), .string table, .slice ka key.length kp, .slice ra row.length rp, .int .i64 dd.kind, .string dd.table, .slice ca dd.cols.length cp, .slice oa dd.keys.length op, .string dd.name, .string dd.to]) := HV2.out.on b3
  have HB3 : Hid (Below w.heap.size w w3) := ch_trans HB2.out b3
  have hvw3 := HV3.out.lt
  clear hg3 b3 HG2 HV2 HB2 HR2 d0 d1 d2 d3 d4 d5 d6 d7 d8 d9
  generalize rowL key = KL at HR3 hkl hkp HD ⊢
  generalize rowL row = RL at HR3' hrl hrp HD ⊢
  have hl6 : ([83, UInt8.ofNat K] ++ textL table ++ KL ++ RL).length ≤ 1000 := by simp only [List.length_append, List.length_cons, List.length_nil, textL_length]; omega
  by_cases h5 : (K : Int) = 5
  · have HD' : Hid (D = [83, UInt8.ofNat K] ++ textL table ++ KL ++ RL ++ ddlL dd) := by show _ = _; rw [HD.out, if_pos h5]
    have HDM : Hid dd.tidy := HDS.out h5
    go_wp2_with (first
      | (at_builtin; refine app_lotT rfl (.tmp 32) (.tmp 33) rfl Try.underlying33 infoByte rfl (by decide) (by decide) w.heap.size _ _ rfl HG3.out g2 o2 _ (KL.map byX) KL.length (by simp) rfl HR3.out (byte_one _) (by simp [textL_length]; omega) (by omega) ?_; intro v5 w5 hg5 hb5 ht5; obtain ⟨a5, n5, e5, rfl, hg5⟩ := hg5.lit2; have hq5 : Gb w.heap.size w3 w5 := Gb.got HG3.out ht5 hb5; have HG5 : Hid (Got w5 w.heap.size 5 1 (.slice a5 n5 e5) (([83, UInt8.ofNat K] ++ textL table ++ KL).map byX)) := (by show Got _ _ _ _ _ _; rw [List.map_append]; exact hg5); have HR5 : Hid (RowAt w5 (some ⟨g3, o3, none⟩) 1 (RL.map byX)) := (by obtain ⟨_, _, he, _, _, hr, _⟩ := (HR3'.out.turns ht5 fun c h => HOL.out c h).row; injection he with h1 _ _; subst h1; exact hr); have HV5 : Hid (Own w5 w.heap.size 62 #[.int .i64 (K : Int), .string table, .slice ka key.length kp, .slice ra row.length rp, .int .i64 dd.kind, .string dd.table, .slice ca dd.cols.length cp, .slice oa dd.keys.length op, .string dd.name, .string dd.to]) := hq5.2.own HV3.out (by decide); have HB5 : Hid (Below w.heap.size w w5) := HB3.out.trans hb5; have hvw5 := HV5.out.lt; clear hg5 hb5 ht5 hq5)
      | (at_builtin; refine app_lotT rfl (.tmp 34) (.tmp 35) rfl Try.underlying33 infoByte rfl (by decide) (by decide) w.heap.size _ _ rfl HG5.out g3 o3 _ (RL.map byX) RL.length (by simp) rfl HR5.out (byte_one _) (by simp [textL_length]; omega) (by omega) ?_; intro v6 w6 hg6 hb6 ht6; obtain ⟨a6, n6, e6, rfl, hg6⟩ := hg6.lit2; have hq6 : Gb w.heap.size w5 w6 := Gb.got HG5.out ht6 hb6; have HG6 : Hid (Got w6 w.heap.size 5 1 (.slice a6 n6 e6) (([83, UInt8.ofNat K] ++ textL table ++ KL ++ RL).map byX)) := (by show Got _ _ _ _ _ _; rw [List.map_append]; exact hg6); have HV6 : Hid (Own w6 w.heap.size 62 #[.int .i64 (K : Int), .string table, .slice ka key.length kp, .slice ra row.length rp, .int .i64 dd.kind, .string dd.table, .slice ca dd.cols.length cp, .slice oa dd.keys.length op, .string dd.name, .string dd.to]) := hq6.2.own HV5.out (by decide); have HB6 : Hid (Below w.heap.size w w6) := HB5.out.trans hb6; have hvw6 := HV6.out.lt; clear hg6 hb6 ht6 hq6; obtain ⟨d0, d1, d2, d3, d4, d5, d6, d7, d8, d9⟩ := HV6.out.loc.ten)
      | fail)
    refine (l06Ddl_any (.slice a6 n6 e6) w.heap.size ([83, UInt8.ofNat K] ++ textL table ++ KL ++ RL) ca oa cp op dd w6 HG6.out (fun u hu => (HCV.out.on (HB6.out.trans hu)).row) (fun u hu => (HOV.out.on (HB6.out.trans hu)).row) HDM.out (by omega) (by omega)).mono ?_
    rintro e w7 ⟨v7, rfl, hb7, hg7⟩
    have HG7 : Hid (Got w7 w.heap.size 5 1 v7 (D.map byX)) := by
      show Got _ _ _ _ _ _
      rw [HD'.out]; exact hg7
    have HB7 : Hid (Below w.heap.size w w7) := HB6.out.trans hb7.1
    clear hg7 hb7
    go_wp2
    go_ret2
    exact ⟨_, rfl, HB7.out, HG7.out⟩
  · have HD' : Hid (D = [83, UInt8.ofNat K] ++ textL table ++ KL ++ RL) := by show _ = _; rw [HD.out, if_neg h5, List.append_nil]
    go_wp2_with (first
      | (at_builtin; refine app_lotT rfl (.tmp 32) (.tmp 33) rfl Try.underlying33 infoByte rfl (by decide) (by decide) w.heap.size _ _ rfl HG3.out g2 o2 _ (KL.map byX) KL.length (by simp) rfl HR3.out (byte_one _) (by simp [textL_length]; omega) (by omega) ?_; intro v5 w5 hg5 hb5 ht5; obtain ⟨a5, n5, e5, rfl, hg5⟩ := hg5.lit2; have hq5 : Gb w.heap.size w3 w5 := Gb.got HG3.out ht5 hb5; have HG5 : Hid (Got w5 w.heap.size 5 1 (.slice a5 n5 e5) (([83, UInt8.ofNat K] ++ textL table ++ KL).map byX)) := (by show Got _ _ _ _ _ _; rw [List.map_append]; exact hg5); have HR5 : Hid (RowAt w5 (some ⟨g3, o3, none⟩) 1 (RL.map byX)) := (by obtain ⟨_, _, he, _, _, hr, _⟩ := (HR3'.out.turns ht5 fun c h => HOL.out c h).row; injection he with h1 _ _; subst h1; exact hr); have HV5 : Hid (Own w5 w.heap.size 62 #[.int .i64 (K : Int), .string table, .slice ka key.length kp, .slice ra row.length rp, .int .i64 dd.kind, .string dd.table, .slice ca dd.cols.length cp, .slice oa dd.keys.length op, .string dd.name, .string dd.to]) := hq5.2.own HV3.out (by decide); have HB5 : Hid (Below w.heap.size w w5) := HB3.out.trans hb5; have hvw5 := HV5.out.lt; clear hg5 hb5 ht5 hq5)
      | (at_builtin; refine app_lotT rfl (.tmp 34) (.tmp 35) rfl Try.underlying33 infoByte rfl (by decide) (by decide) w.heap.size _ _ rfl HG5.out g3 o3 _ (RL.map byX) RL.length (by simp) rfl HR5.out (byte_one _) (by simp [textL_length]; omega) (by omega) ?_; intro v6 w6 hg6 hb6 ht6; obtain ⟨a6, n6, e6, rfl, hg6⟩ := hg6.lit2; have hq6 : Gb w.heap.size w5 w6 := Gb.got HG5.out ht6 hb6; have HG6 : Hid (Got w6 w.heap.size 5 1 (.slice a6 n6 e6) (([83, UInt8.ofNat K] ++ textL table ++ KL ++ RL).map byX)) := (by show Got _ _ _ _ _ _; rw [List.map_append]; exact hg6); have HV6 : Hid (Own w6 w.heap.size 62 #[.int .i64 (K : Int), .string table, .slice ka key.length kp, .slice ra row.length rp, .int .i64 dd.kind, .string dd.table, .slice ca dd.cols.length cp, .slice oa dd.keys.length op, .string dd.name, .string dd.to]) := hq6.2.own HV5.out (by decide); have HB6 : Hid (Below w.heap.size w w6) := HB5.out.trans hb6; have hvw6 := HV6.out.lt; clear hg6 hb6 ht6 hq6; obtain ⟨d0, d1, d2, d3, d4, d5, d6, d7, d8, d9⟩ := HV6.out.loc.ten)
      | fail)
    go_ret2
    exact ⟨_, rfl, HB6.out, by rw [HD'.out]; exact HG6.out⟩
end Go.Proofs.Ytikccmgpmbnkfaa
