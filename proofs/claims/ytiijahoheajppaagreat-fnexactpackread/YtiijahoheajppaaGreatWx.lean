/- Statements as bytes: landed. -/
import Derived.Test.YtiijahoheajppaaGreatWw
import Derived.Test.YtiijahoheajppaaGreatSt
import Derived.Test.YtiijahoheajppaaGreatStI
import Derived.Test.YtiijahoheajppaaGreatCt
namespace Go.Proofs.YtiijahoheajppaaGreat
open Go.ChangeShapes Go.WideShapes Go.ChangeAt Go.RowKit

theorem wordB_size {s : ByteArray} (h : wordB s = true) : s.size ≤ 8 := okWord_size (Or.inr h)
theorem noneB_size {s : ByteArray} (h : noneB s = true) : s.size = 0 := size_empty h
theorem Cl.ok_small {c : Cl} (h : c.ok = true) : c.small := by
  obtain ⟨name, ty, nt, has, dt, dn, ds⟩ := c
  simp only [Cl.ok, Bool.and_eq_true, decide_eq_true_eq] at h
  obtain ⟨⟨h1, h2, h3⟩, h4⟩ := h
  refine ⟨by have := wordB_size h1; show name.size ≤ 30; omega, by show 0 ≤ ty; omega, ?_⟩
  show okB dt dn ds = true
  cases has with
  | true => simp at h4; exact h4.1.1
  | false =>
    simp [Cl.null] at h4
    obtain ⟨rfl, rfl, h4⟩ := h4
    simp [okB, h4]
theorem Dc.right_small {d : Dc} (h : d.right) : d.small := by
  obtain ⟨kind, table, cs, ks, name, to⟩ := d
  obtain ⟨h0, h⟩ := h
  simp only at h0 h
  have hz : ∀ l : List Cl, l.length = 0 → ∀ c ∈ l, c.small := fun l h c hc => by rw [List.length_eq_zero_iff] at h; subst h; simp at hc
  have hy : ∀ l : List ByteArray, l.length = 0 → ∀ s ∈ l, s.size ≤ 30 := fun l h c hc => by rw [List.length_eq_zero_iff] at h; subst h; simp at hc
  rcases h with ⟨rfl, h1, h2, h3⟩ | ⟨rfl, h1, h2, h3, h4⟩ | ⟨rfl, h1, h2, h3, h4, h5⟩ | ⟨rfl, h1, h2, h3, h4⟩ | ⟨rfl, h1, h2, h3, h4⟩
  · have hkl := right_keys h3
    have e1 := noneB_size h1
    have e2 := noneB_size h2
    have hcs : ∀ c ∈ cs, c.small := fun c hc => by
      obtain ⟨i, hi, rfl⟩ := List.getElem_of_mem hc
      exact Cl.ok_small (h3.2.2.2.2.1 i hi)
    have h8 : cs.length ≤ 8 := h3.2.2.1
    refine ⟨by show (0 : Int) ≤ 1; omega, h8, hcs, Nat.le_trans hkl h8, fun s hs => ?_, by show name.size ≤ 30; omega, by show to.size ≤ 30; omega⟩
    obtain ⟨j, hj, rfl⟩ := List.getElem_of_mem hs
    obtain ⟨i, hi, hat, _⟩ := right_key h3 j hj
    obtain ⟨hi', he, _⟩ := colAt_first hat
    have : ks[j] = cs[i].name := he.symm
    show ks[j].size ≤ 30
    rw [this]
    exact (hcs _ (List.getElem_mem hi')).1
  · have e1 := noneB_size h3
    have e2 := noneB_size h4
    exact ⟨by show (0 : Int) ≤ 2; omega, by show cs.length ≤ 8; omega, hz _ h1, by show ks.length ≤ 8; omega, hy _ h2, by show name.size ≤ 30; omega, by show to.size ≤ 30; omega⟩
  · have e1 := noneB_size h4
    have e2 := noneB_size h5
    refine ⟨by show (0 : Int) ≤ 3; omega, by show cs.length ≤ 8; omega, fun c hc => ?_, by show ks.length ≤ 8; omega, hy _ h3, by show name.size ≤ 30; omega, by show to.size ≤ 30; omega⟩
    obtain ⟨i, hi, rfl⟩ := List.getElem_of_mem hc
    obtain rfl : i = 0 := by have : i < cs.length := hi; omega
    exact Cl.ok_small (h2 hi).1
  · have e1 := wordB_size h3
    have e2 := noneB_size h4
    exact ⟨by show (0 : Int) ≤ 4; omega, by show cs.length ≤ 8; omega, hz _ h1, by show ks.length ≤ 8; omega, hy _ h2, by show name.size ≤ 30; omega, by show to.size ≤ 30; omega⟩
  · have e1 := wordB_size h3
    have e2 := wordB_size h4
    exact ⟨by show (0 : Int) ≤ 5; omega, by show cs.length ≤ 8; omega, hz _ h1, by show ks.length ≤ 8; omega, hy _ h2, by show name.size ≤ 30; omega, by show to.size ≤ 30; omega⟩
theorem okRow_nil {l : List Vc} (h : l.length = 0) : okRow l := by
  rw [List.length_eq_zero_iff] at h; subst h
  exact ⟨by simp, by simp⟩
theorem ColsV.row {w : World} {a : Option Addr} {n cap : Nat} {cs : List Cl} (h : ColsV w (.slice a n cap) cs) : RowAt w a 7 (cs.map Cl.cells) := by
  obtain ⟨_, _, e, _, _, h⟩ := h; cases e; exact h
theorem StrsV.row {w : World} {a : Option Addr} {n cap : Nat} {ks : List ByteArray} (h : StrsV w (.slice a n cap) ks) : RowAt w a 1 (ks.map strX) := by
  obtain ⟨_, _, e, _, _, h⟩ := h; cases e; exact h
/-- What is written of a statement. -/
def stmtL (s : Sc) : List UInt8 := [83, UInt8.ofNat s.kind.toNat] ++ textL s.table ++ rowL s.key ++ rowL s.row ++ (if s.kind = 5 then ddlL s.ddl else [])
theorem Sc.right_small {s : Sc} (h : s.right) : s.table.size ≤ 8 ∧ 1 ≤ s.kind ∧ s.kind ≤ 5 ∧ okRow s.key ∧ okRow s.row ∧ (s.kind = 5 → s.ddl.small) := by
  obtain ⟨h0, h⟩ := h
  refine ⟨wordB_size h0, ?_⟩
  rcases h with ⟨hk, h1, h2, _⟩ | ⟨hk, h1, h2, _⟩ | ⟨hk, h1, h2, _⟩ | ⟨hk, h1, h2, _⟩ | ⟨hk, h1, h2, h3, _⟩
  · exact ⟨by omega, by omega, okRow_nil h1, (someV_row.1 h2).2, fun h => by omega⟩
  · exact ⟨by omega, by omega, (someV_row.1 h1).2, (someV_row.1 h2).2, fun h => by omega⟩
  · exact ⟨by omega, by omega, (someV_row.1 h1).2, okRow_nil h2, fun h => by omega⟩
  · exact ⟨by omega, by omega, okRow_nil h1, okRow_nil h2, fun h => by omega⟩
  · exact ⟨by omega, by omega, okRow_nil h1, okRow_nil h2, fun _ => Dc.right_small h3⟩
theorem stmtL_length {s : Sc} (h : s.right) : (stmtL s).length ≤ 2000 := by
  obtain ⟨h1, _, _, h4, h5, h6⟩ := Sc.right_small h
  have e1 := rowL_length h4
  have e2 := rowL_length h5
  simp only [stmtL, List.length_append, textL_length, List.length_cons, List.length_nil]
  split
  · next h =>
    have := ddlL_length (h6 h)
    omega
  · simp; omega

set_option maxRecDepth 100000 in
set_option maxHeartbeats 2000000 in
/-- impl.StmtBytes -/
theorem stmtBytes_impl (x : Array Value) (s : Sc) (w : World) (hx : StmtV w x s) (hf : s.fit) (q : Bool) (L : List UInt8) (hq : (q = true ∧ s.right ∧ L = stmtL s) ∨ (q = false ∧ ¬ s.right ∧ L = [])) :
    Calls Tryz.prog 45 #[.agg x] w fun e w' => ∃ v', e = .returned (.tuple #[v', .bool q]) ∧ Below w.heap.size w w' ∧ Got w' w.heap.size 5 1 v' (L.map byX) := by
  obtain ⟨ka, kp, ra, rp, ca, cp, oa, op, e0, hkv, hrv, hcv, hov⟩ := hx.lit
  simp only [Sc.cells] at e0
  subst e0
  have HSO : Hid (∀ u : World, Below w.heap.size w u → Calls Tryz.prog 85 #[.agg #[.int .i64 s.kind, .string s.table, .slice ka s.key.length kp, .slice ra s.row.length rp, .int .i64 s.ddl.kind, .string s.ddl.table, .slice ca s.ddl.cols.length cp, .slice oa s.ddl.keys.length op, .string s.ddl.name, .string s.ddl.to]] u fun e w' => e = .returned (.bool q) ∧ Below u.heap.size u w') := fun u hu => (stmtOk_impl _ s u (hx.on hu) hf).mono fun e w' ⟨r, he, hr, hb⟩ => ⟨by
    rw [he]
    have : r = q := by
      rcases hq with ⟨rfl, h, _⟩ | ⟨rfl, h, _⟩
      · exact hr.2 h
      · cases r with
        | false => rfl
        | true => exact absurd (hr.1 rfl) h
    rw [this], hb⟩
  have HKV : Hid (ValsV w (.slice ka s.key.length kp) s.key) := hkv
  have HRV : Hid (ValsV w (.slice ra s.row.length rp) s.row) := hrv
  have HCV : Hid (ColsV w (.slice ca s.ddl.cols.length cp) s.ddl.cols) := hcv
  have HOV : Hid (StrsV w (.slice oa s.ddl.keys.length op) s.ddl.keys) := hov
  clear hx hkv hrv hcv hov hf
  rcases hq with ⟨rfl, hr, rfl⟩ | ⟨rfl, hr, rfl⟩
  rotate_left
  · clear hr HKV HRV HCV HOV
    go_enter Tryz.func45, Tryz.ntmps45
    go_wp2_with fail
    refine (HSO.out _ (by repeat (first | with_reducible exact Below.refl _ _ | with_reducible assumption | with_reducible refine ch_alloc ?_ _ | with_reducible refine Below.drew ?_ | with_reducible refine below_draws _ ?_ | (with_reducible refine Below.setCell ?_ ?_ _; rotate_left; focus (first | with_reducible exact Nat.le_refl _ | (simp; done) | (simp; omega) | (simp at *; omega))) | with_reducible refine ch_trans ?_ (by with_reducible assumption)))).mono ?_
    rintro e w0 ⟨rfl, b0⟩
    go_wp2
    go_ret2
    exact ⟨_, rfl, (by repeat (first | with_reducible exact Below.refl _ _ | with_reducible assumption | with_reducible refine ch_alloc ?_ _ | with_reducible refine Below.drew ?_ | with_reducible refine below_draws _ ?_ | (with_reducible refine Below.setCell ?_ ?_ _; rotate_left; focus (first | with_reducible exact Nat.le_refl _ | (simp; done) | (simp; omega) | (simp at *; omega))) | with_reducible refine ch_trans ?_ (by with_reducible assumption))), Got.nil _ _ _ _⟩
  obtain ⟨ht8, hk1, hk5, hkr, hrr, hds⟩ := Sc.right_small hr
  clear hr
  obtain ⟨kind, table, key, row, dd⟩ := s
  simp only at ht8 hk1 hk5 hkr hrr hds HSO HKV HRV HCV HOV
  obtain ⟨K, rfl⟩ : ∃ K : Nat, kind = (K : Int) := ⟨kind.toNat, by omega⟩
  have HKR : Hid (okRow key) := hkr
  have HRR : Hid (okRow row) := hrr
  have HDS : Hid ((K : Int) = 5 → dd.small) := hds
  have hkl := hkr.1
  have hrl := hrr.1
  have hkf := flat_val _ hkr.2
  have hrf := flat_val _ hrr.2
  have HD : Hid (stmtL ⟨(K : Int), table, key, row, dd⟩ = [83, UInt8.ofNat K] ++ textL table ++ [UInt8.ofNat key.length] ++ key.flatMap valL ++ [UInt8.ofNat row.length] ++ row.flatMap valL ++ (if (K : Int) = 5 then ddlL dd else [])) := by
    show _ = _
    simp [stmtL, rowL]
  generalize stmtL ⟨(K : Int), table, key, row, dd⟩ = D at HD
  have HWO : Hid (∀ u : World, Calls Tryz.prog 69 #[.slice (some ⟨u.heap.size, 0, none⟩) 2 2] (u.alloc (.cells #[.int .i64 83, .int .i64 (K : Int)] 3)) fun e w' => ∃ bw, e = .returned (.pointer (some ⟨bw, 0, none⟩)) ∧ u.heap.size + 1 ≤ bw ∧ Below u.heap.size u w' ∧ WIs w' bw [83, UInt8.ofNat K]) := fun u => by
    have h := writerOf_any (.slice (some ⟨u.heap.size, 0, none⟩) 2 2) [83, K] (u.alloc (.cells #[.int .i64 83, .int .i64 (K : Int)] 3)) (ints_two (Own.new u 3 #[.int .i64 83, .int .i64 (K : Int)])) (by simp)
    refine h.mono fun e w' ⟨bw, h1, h2, h3, h4⟩ => ⟨bw, h1, by simpa using h2, ch_trans (ch_alloc (Below.refl _ _) _) h3, ?_⟩
    simpa [numL_one] using h4
  clear hkr hrr hds
  go_enter Tryz.func45, Tryz.ntmps45
  go_wp2_with fail
  refine (HSO.out _ (by repeat (first | with_reducible exact Below.refl _ _ | with_reducible assumption | with_reducible refine ch_alloc ?_ _ | with_reducible refine Below.drew ?_ | with_reducible refine below_draws _ ?_ | (with_reducible refine Below.setCell ?_ ?_ _; rotate_left; focus (first | with_reducible exact Nat.le_refl _ | (simp; done) | (simp; omega) | (simp at *; omega))) | with_reducible refine ch_trans ?_ (by with_reducible assumption)))).mono ?_
  rintro e w0 ⟨rfl, b0⟩
  have HV0 : Own w0 w.heap.size 48 #[.int .i64 (K : Int), .string table, .slice ka key.length kp, .slice ra row.length rp, .int .i64 dd.kind, .string dd.table, .slice ca dd.cols.length cp, .slice oa dd.keys.length op, .string dd.name, .string dd.to] := (Own.new _ _ _).on b0
  have HB0 : Hid (Below w.heap.size w w0) := ch_trans (ch_alloc (Below.refl _ _) _) b0
  have hvw0 : w.heap.size < w0.heap.size := HV0.lt
  have HV0' : Hid (Own w0 w.heap.size 48 #[.int .i64 (K : Int), .string table, .slice ka key.length kp, .slice ra row.length rp, .int .i64 dd.kind, .string dd.table, .slice ca dd.cols.length cp, .slice oa dd.keys.length op, .string dd.name, .string dd.to]) := HV0
  obtain ⟨d0, d1, d2, d3, d4, d5, d6, d7, d8, d9⟩ := HV0.loc.ten
  clear b0 HV0
  go_wp2_with fail
  refine (HWO.out _).mono ?_
  rintro e w1 ⟨bw, rfl, hbw, b1, hw1⟩
  have HW1 : Hid (WIs w1 bw [83, UInt8.ofNat K]) := hw1
  have HV1 : Hid (Own w1 w.heap.size 48 #[.int .i64 (K : Int), .string table, .slice ka key.length kp, .slice ra row.length rp, .int .i64 dd.kind, .string dd.table, .slice ca dd.cols.length cp, .slice oa dd.keys.length op, .string dd.name, .string dd.to]) := HV0'.out.on b1
  have HB1 : Hid (Below w.heap.size w w1) := HB0.out.trans (b1.mono (by omega))
  have hlw1 : bw < w1.heap.size := hw1.lt
  have hvw1 := HV1.out.lt
  clear b1 hw1 HV0' HB0 d0 d1 d2 d3 d4 d5 d6 d7 d8 d9
  obtain ⟨d0, d1, d2, d3, d4, d5, d6, d7, d8, d9⟩ := HV1.out.loc.ten
  go_wp2_with fail
  refine (texts_any bw (some ⟨w1.heap.size, 0, none⟩) 1 [table] [83, UInt8.ofNat K] (w1.alloc (.cells #[.string table] 9)) (HW1.out.on (by repeat (first | with_reducible exact Below.refl _ _ | with_reducible assumption | with_reducible refine ch_alloc ?_ _ | with_reducible refine Below.drew ?_ | with_reducible refine below_draws _ ?_ | (with_reducible refine Below.setCell ?_ ?_ _; rotate_left; focus (first | with_reducible exact Nat.le_refl _ | (simp; done) | (simp; omega) | (simp at *; omega))) | with_reducible refine ch_trans ?_ (by with_reducible assumption)))) (fun u hu => strs_one (hu.own (Own.new _ _ _) (by omega) (by decide))) (by simp; omega) (by simp) (by simp)).mono ?_
  rintro e w2 ⟨rfl, hw2, ht2⟩
  have HW2 : Hid (WIs w2 bw ([83, UInt8.ofNat K] ++ textL table)) := by show WIs _ _ _; simpa using hw2
  have HV2 : Hid (Own w2 w.heap.size 48 #[.int .i64 (K : Int), .string table, .slice ka key.length kp, .slice ra row.length rp, .int .i64 dd.kind, .string dd.table, .slice ca dd.cols.length cp, .slice oa dd.keys.length op, .string dd.name, .string dd.to]) := ht2.own (HV1.out.on (ch_alloc (Below.refl _ _) _)) (by omega) (by decide)
  have HB2 : Hid (Below w.heap.size w w2) := HB1.out.trans (((Wt.new (ch_alloc (Below.refl _ _) _) (by omega)).trans ht2).1.mono (by omega))
  have hlw2 : bw < w2.heap.size := hw2.lt
  have hvw2 := HV2.out.lt
  clear hw2 ht2 HW1 HV1 HB1 d0 d1 d2 d3 d4 d5 d6 d7 d8 d9
  obtain ⟨d0, d1, d2, d3, d4, d5, d6, d7, d8, d9⟩ := HV2.out.loc.ten
  go_wp2_with fail
  refine (nums_one bw w2.heap.size 1 key.length ([83, UInt8.ofNat K] ++ textL table) (w2.alloc (.cells #[.int .i64 (key.length : Int)] 3)) (HW2.out.on (by repeat (first | with_reducible exact Below.refl _ _ | with_reducible assumption | with_reducible refine ch_alloc ?_ _ | with_reducible refine Below.drew ?_ | with_reducible refine below_draws _ ?_ | (with_reducible refine Below.setCell ?_ ?_ _; rotate_left; focus (first | with_reducible exact Nat.le_refl _ | (simp; done) | (simp; omega) | (simp at *; omega))) | with_reducible refine ch_trans ?_ (by with_reducible assumption)))) (Own.new _ _ _) (by omega) (by omega) (by simp only [List.length_append, List.length_cons, List.length_nil, textL_length]; omega)).mono ?_
  rintro e w3 ⟨rfl, hw3, ht3⟩
  have HW3 : Hid (WIs w3 bw ([83, UInt8.ofNat K] ++ textL table ++ [UInt8.ofNat key.length])) := by show WIs _ _ _; rw [numL_one] at hw3; exact hw3
  have HV3 : Hid (Own w3 w.heap.size 48 #[.int .i64 (K : Int), .string table, .slice ka key.length kp, .slice ra row.length rp, .int .i64 dd.kind, .string dd.table, .slice ca dd.cols.length cp, .slice oa dd.keys.length op, .string dd.name, .string dd.to]) := ht3.own (HV2.out.on (ch_alloc (Below.refl _ _) _)) (by omega) (by decide)
  have HB3 : Hid (Below w.heap.size w w3) := HB2.out.trans (((Wt.new (ch_alloc (Below.refl _ _) _) (by omega)).trans ht3).1.mono (by omega))
  have hlw3 : bw < w3.heap.size := hw3.lt
  have hvw3 := HV3.out.lt
  clear hw3 ht3 HW2 HV2 HB2 d0 d1 d2 d3 d4 d5 d6 d7 d8 d9
  obtain ⟨d0, d1, d2, d3, d4, d5, d6, d7, d8, d9⟩ := HV3.out.loc.ten
  go_wp2_with fail
  refine (vals_any bw ka kp key ([83, UInt8.ofNat K] ++ textL table ++ [UInt8.ofNat key.length]) w3 HW3.out (fun u hu => (HKV.out.on (HB3.out.trans (hu.1.mono (by omega)))).row) HKR.out.2 (by simp only [List.length_append, List.length_cons, List.length_nil, textL_length]; omega) (by omega)).mono ?_
  rintro e w4 ⟨rfl, hw4, ht4⟩
  have HW4 : Hid (WIs w4 bw ([83, UInt8.ofNat K] ++ textL table ++ [UInt8.ofNat key.length] ++ key.flatMap valL)) := hw4
  have HV4 : Hid (Own w4 w.heap.size 48 #[.int .i64 (K : Int), .string table, .slice ka key.length kp, .slice ra row.length rp, .int .i64 dd.kind, .string dd.table, .slice ca dd.cols.length cp, .slice oa dd.keys.length op, .string dd.name, .string dd.to]) := ht4.own HV3.out (by omega) (by decide)
  have HB4 : Hid (Below w.heap.size w w4) := HB3.out.trans (ht4.1.mono (by omega))
  have hlw4 : bw < w4.heap.size := hw4.lt
  have hvw4 := HV4.out.lt
  clear hw4 ht4 HW3 HV3 HB3 d0 d1 d2 d3 d4 d5 d6 d7 d8 d9
  obtain ⟨d0, d1, d2, d3, d4, d5, d6, d7, d8, d9⟩ := HV4.out.loc.ten
  go_wp2_with fail
  refine (nums_one bw w4.heap.size 1 row.length ([83, UInt8.ofNat K] ++ textL table ++ [UInt8.ofNat key.length] ++ key.flatMap valL) (w4.alloc (.cells #[.int .i64 (row.length : Int)] 3)) (HW4.out.on (by repeat (first | with_reducible exact Below.refl _ _ | with_reducible assumption | with_reducible refine ch_alloc ?_ _ | with_reducible refine Below.drew ?_ | with_reducible refine below_draws _ ?_ | (with_reducible refine Below.setCell ?_ ?_ _; rotate_left; focus (first | with_reducible exact Nat.le_refl _ | (simp; done) | (simp; omega) | (simp at *; omega))) | with_reducible refine ch_trans ?_ (by with_reducible assumption)))) (Own.new _ _ _) (by omega) (by omega) (by simp only [List.length_append, List.length_cons, List.length_nil, textL_length]; omega)).mono ?_
  rintro e w5 ⟨rfl, hw5, ht5⟩
  have HW5 : Hid (WIs w5 bw ([83, UInt8.ofNat K] ++ textL table ++ [UInt8.ofNat key.length] ++ key.flatMap valL ++ [UInt8.ofNat row.length])) := by show WIs _ _ _; rw [numL_one] at hw5; exact hw5
  have HV5 : Hid (Own w5 w.heap.size 48 #[.int .i64 (K : Int), .string table, .slice ka key.length kp, .slice ra row.length rp, .int .i64 dd.kind, .string dd.table, .slice ca dd.cols.length cp, .slice oa dd.keys.length op, .string dd.name, .string dd.to]) := ht5.own (HV4.out.on (ch_alloc (Below.refl _ _) _)) (by omega) (by decide)
  have HB5 : Hid (Below w.heap.size w w5) := HB4.out.trans (((Wt.new (ch_alloc (Below.refl _ _) _) (by omega)).trans ht5).1.mono (by omega))
  have hlw5 : bw < w5.heap.size := hw5.lt
  have hvw5 := HV5.out.lt
  clear hw5 ht5 HW4 HV4 HB4 d0 d1 d2 d3 d4 d5 d6 d7 d8 d9
  obtain ⟨d0, d1, d2, d3, d4, d5, d6, d7, d8, d9⟩ := HV5.out.loc.ten
  go_wp2_with fail
  refine (vals_any bw ra rp row ([83, UInt8.ofNat K] ++ textL table ++ [UInt8.ofNat key.length] ++ key.flatMap valL ++ [UInt8.ofNat row.length]) w5 HW5.out (fun u hu => (HRV.out.on (HB5.out.trans (hu.1.mono (by omega)))).row) HRR.out.2 (by simp only [List.length_append, List.length_cons, List.length_nil, textL_length]; omega) (by omega)).mono ?_
  rintro e w6 ⟨rfl, hw6, ht6⟩
  have HW6 : Hid (WIs w6 bw ([83, UInt8.ofNat K] ++ textL table ++ [UInt8.ofNat key.length] ++ key.flatMap valL ++ [UInt8.ofNat row.length] ++ row.flatMap valL)) := hw6
  have HV6 : Hid (Own w6 w.heap.size 48 #[.int .i64 (K : Int), .string table, .slice ka key.length kp, .slice ra row.length rp, .int .i64 dd.kind, .string dd.table, .slice ca dd.cols.length cp, .slice oa dd.keys.length op, .string dd.name, .string dd.to]) := ht6.own HV5.out (by omega) (by decide)
  have HB6 : Hid (Below w.heap.size w w6) := HB5.out.trans (ht6.1.mono (by omega))
  have hlw6 : bw < w6.heap.size := hw6.lt
  have hvw6 := HV6.out.lt
  have hl6 : ([83, UInt8.ofNat K] ++ textL table ++ [UInt8.ofNat key.length] ++ key.flatMap valL ++ [UInt8.ofNat row.length] ++ row.flatMap valL).length ≤ 1000 := by simp only [List.length_append, List.length_cons, List.length_nil, textL_length]; omega
  clear hw6 ht6 HW5 HV5 HB5 d0 d1 d2 d3 d4 d5 d6 d7 d8 d9
  generalize [83, UInt8.ofNat K] ++ textL table ++ [UInt8.ofNat key.length] ++ key.flatMap valL ++ [UInt8.ofNat row.length] ++ row.flatMap valL = D6 at HW6 HD hl6
  obtain ⟨d0, d1, d2, d3, d4, d5, d6, d7, d8, d9⟩ := HV6.out.loc.ten
  by_cases h5 : (K : Int) = 5
  · have HDM := HDS.out h5
    have HD' : Hid (D = D6 ++ ddlL dd) := by show _ = _; rw [HD.out, if_pos h5]
    have HDM' : Hid dd.small := HDM
    clear HDM
    go_wp2_with fail
    refine (ddl_any bw ca oa cp op dd D6 w6 HW6.out (fun u hu => (HCV.out.on (HB6.out.trans (hu.1.mono (by omega)))).row) (fun u hu => (HOV.out.on (HB6.out.trans (hu.1.mono (by omega)))).row) HDM'.out (by omega)).mono ?_
    rintro e w7 ⟨rfl, hw7, ht7⟩
    obtain ⟨a7, n7, c7, g7, hg7⟩ := writer_out hw7
    have HG7 : Hid (Got w7 w.heap.size 5 1 (.slice a7 n7 c7) (D.map byX)) := by
      show Got _ _ _ _ _ _
      rw [HD'.out]; exact hg7.mono (by omega)
    have HB7 : Hid (Below w.heap.size w w7) := HB6.out.trans (ht7.1.mono (by omega))
    clear hg7 ht7 hw7 d0 d1 d2 d3 d4 d5 d6 d7 d8 d9
    go_wp2
    go_ret2
    exact ⟨_, rfl, HB7.out, HG7.out⟩
  · obtain ⟨a7, n7, c7, g7, hg7⟩ := writer_out HW6.out
    have HG7 : Hid (Got w6 w.heap.size 5 1 (.slice a7 n7 c7) (D.map byX)) := by
      show Got _ _ _ _ _ _
      rw [HD.out, if_neg h5, List.append_nil]; exact hg7.mono (by omega)
    clear hg7
    go_wp2
    go_ret2
    exact ⟨_, rfl, HB6.out, HG7.out⟩
end Go.Proofs.YtiijahoheajppaaGreat
