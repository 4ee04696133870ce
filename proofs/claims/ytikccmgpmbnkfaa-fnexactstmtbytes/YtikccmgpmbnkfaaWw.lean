/- The writer of bytes: changes. -/
import Derived.Test.YtikccmgpmbnkfaaWv
namespace Go.Proofs.Ytikccmgpmbnkfaa
open Go.ChangeShapes Go.WideShapes Go.ChangeAt Go.RowKit

/-- What is written of a change. -/
def ddlL (d : Dc) : List UInt8 := [UInt8.ofNat d.kind.toNat, UInt8.ofNat d.cols.length] ++ d.cols.flatMap colL ++ [UInt8.ofNat d.keys.length] ++ d.keys.flatMap textL ++ textL d.name ++ textL d.to
/-- Small enough to be written. -/
def Dc.small (d : Dc) : Prop := 0 ≤ d.kind ∧ d.cols.length ≤ 8 ∧ (∀ c ∈ d.cols, c.small) ∧ d.keys.length ≤ 8 ∧ (∀ s ∈ d.keys, s.size ≤ 30) ∧ d.name.size ≤ 30 ∧ d.to.size ≤ 30
theorem ddlL_length {d : Dc} (h : d.small) : (ddlL d).length ≤ 900 := by
  obtain ⟨_, h1, h2, h3, h4, h5, h6⟩ := h
  have e1 := flat_col _ h2
  have e2 := flat_text _ h4
  simp only [ddlL, List.length_append, textL_length, List.length_cons, List.length_nil]
  omega

set_option maxRecDepth 100000 in
set_option maxHeartbeats 1000000 in
/-- (*impl.byteWriter).words -/
theorem words_any (bw : Nat) (o : Option Addr) (q : Nat) (ks : List ByteArray) (L : List UInt8) (w : World) (h : WIs w bw L) (hk : ∀ u, Wt bw w u → RowAt u o 1 (ks.map strX)) (hk8 : ks.length ≤ 8) (hks : ∀ s ∈ ks, s.size ≤ 30) (hL : L.length ≤ 900000) :
    Calls Try.prog 84 #[.pointer (some ⟨bw, 0, none⟩), .slice o ks.length q] w fun e w' => e = .returned (.tuple #[]) ∧ WIs w' bw (L ++ [UInt8.ofNat ks.length] ++ ks.flatMap textL) ∧ Wt bw w w' := by
  have HK : Hid (∀ u, Wt bw w u → RowAt u o 1 (ks.map strX)) := hk
  have HKS : Hid (∀ s ∈ ks, s.size ≤ 30) := hks
  have HW : Hid (WIs w bw L) := h
  have hlw := h.lt
  clear hk hks h
  go_enter Try.func84, Try.ntmps84
  go_wp2_with fail
  refine (nums_one bw w.heap.size 1 ks.length L (w.alloc (.cells #[.int .i64 (ks.length : Int)] 3)) (HW.out.on (by repeat (first | with_reducible exact Below.refl _ _ | with_reducible assumption | with_reducible refine ch_alloc ?_ _ | with_reducible refine Below.drew ?_ | with_reducible refine below_draws _ ?_ | (with_reducible refine Below.setCell ?_ ?_ _; rotate_left; focus (first | with_reducible exact Nat.le_refl _ | (simp; done) | (simp; omega) | (simp at *; omega))) | with_reducible refine ch_trans ?_ (by with_reducible assumption)))) (Own.new _ _ _) (by omega) (by omega) (by omega)).mono ?_
  rintro e w1 ⟨rfl, hw1, ht1⟩
  have HW1 : Hid (WIs w1 bw (L ++ [UInt8.ofNat ks.length])) := by show WIs _ _ _; rw [numL_one] at hw1; exact hw1
  have HT1 : Hid (Wt bw w w1) := (Wt.new (ch_alloc (Below.refl _ _) _) (by omega)).trans ht1
  have hlw1 : bw < w1.heap.size := hw1.lt
  clear hw1 ht1 HW
  go_wp2_with fail
  refine (texts_any bw o q ks (L ++ [UInt8.ofNat ks.length]) w1 HW1.out (fun u hu => HK.out u (HT1.out.trans hu)) HKS.out (by simp only [List.length_append, List.length_cons, List.length_nil]; omega) (by omega)).mono ?_
  rintro e w2 ⟨rfl, hw2, ht2⟩
  have HW2 : Hid (WIs w2 bw (L ++ [UInt8.ofNat ks.length] ++ ks.flatMap textL)) := hw2
  have HT2 : Hid (Wt bw w w2) := HT1.out.trans ht2
  clear hw2 ht2 HW1 HT1
  go_wp2
  first | go_end0 | (refine bodyPost_end (results_none rfl _ _ _) rfl ?_) | (refine bodyPost_ret (results_none rfl _ _ _) rfl ?_)
  exact ⟨rfl, HW2.out, HT2.out⟩

set_option maxRecDepth 100000 in
set_option maxHeartbeats 2000000 in
/-- (*impl.byteWriter).ddl -/
theorem ddl_any (bw : Nat) (a o : Option Addr) (p q : Nat) (d : Dc) (L : List UInt8) (w : World) (h : WIs w bw L) (hc : ∀ u, Wt bw w u → RowAt u a 7 (d.cols.map Cl.cells)) (hk : ∀ u, Wt bw w u → RowAt u o 1 (d.keys.map strX)) (hsm : d.small) (hL : L.length ≤ 200000) :
    Calls Try.prog 51 #[.pointer (some ⟨bw, 0, none⟩), .agg #[.int .i64 d.kind, .string d.table, .slice a d.cols.length p, .slice o d.keys.length q, .string d.name, .string d.to]] w fun e w' => e = .returned (.tuple #[]) ∧ WIs w' bw (L ++ ddlL d) ∧ Wt bw w w' := by
  obtain ⟨kind, table, cs, ks, name, to⟩ := d
  obtain ⟨hkd, hc8, hcs, hk8, hks, hn30, ht30⟩ := hsm
  simp only at hc hk hkd hc8 hcs hk8 hks hn30 ht30
  obtain ⟨N, rfl⟩ : ∃ N : Nat, kind = (N : Int) := ⟨kind.toNat, by omega⟩
  have HC : Hid (∀ u, Wt bw w u → RowAt u a 7 (cs.map Cl.cells)) := hc
  have HK : Hid (∀ u, Wt bw w u → RowAt u o 1 (ks.map strX)) := hk
  have HCS : Hid (∀ c ∈ cs, c.small) := hcs
  have HKS : Hid (∀ s ∈ ks, s.size ≤ 30) := hks
  have HW : Hid (WIs w bw L) := h
  have hlw := h.lt
  have hcl := flat_col _ hcs
  have hkl := flat_text _ hks
  have HT0 : Hid (ddlL ⟨(N : Int), table, cs, ks, name, to⟩ = [UInt8.ofNat N, UInt8.ofNat cs.length] ++ cs.flatMap colL ++ [UInt8.ofNat ks.length] ++ ks.flatMap textL ++ (textL name ++ textL to)) := by
    show _ = _
    simp [ddlL]
  generalize ddlL ⟨(N : Int), table, cs, ks, name, to⟩ = D at HT0
  clear hc hk hcs hks h
  go_enter Try.func51, Try.ntmps51
  go_wp2_with fail
  refine (nums_any bw 1 (.slice (some ⟨w.heap.size + 1, 0, none⟩) 2 2) [N, cs.length] L ((w.alloc (.cells #[.int .i64 (N : Int), .string table, .slice a cs.length p, .slice o ks.length q, .string name, .string to] 60)).alloc (.cells #[.int .i64 (N : Int), .int .i64 (cs.length : Int)] 3)) (HW.out.on (by repeat (first | with_reducible exact Below.refl _ _ | with_reducible assumption | with_reducible refine ch_alloc ?_ _ | with_reducible refine Below.drew ?_ | with_reducible refine below_draws _ ?_ | (with_reducible refine Below.setCell ?_ ?_ _; rotate_left; focus (first | with_reducible exact Nat.le_refl _ | (simp; done) | (simp; omega) | (simp at *; omega))) | with_reducible refine ch_trans ?_ (by with_reducible assumption)))) (fun u hu => ints_two (hu.own (Own.at (w.alloc (.cells #[.int .i64 (N : Int), .string table, .slice a cs.length p, .slice o ks.length q, .string name, .string to] 60)) _ _ (by simp)) (by omega) (by decide))) (by omega) (by simp; omega)).mono ?_
  rintro e w1 ⟨rfl, hw1, ht1⟩
  have HW1 : Hid (WIs w1 bw (L ++ [UInt8.ofNat N, UInt8.ofNat cs.length])) := by show WIs _ _ _; simpa [numL_one] using hw1
  have HV1 : Own w1 w.heap.size 60 #[.int .i64 (N : Int), .string table, .slice a cs.length p, .slice o ks.length q, .string name, .string to] := ht1.own ((Own.new _ _ _).on (ch_alloc (Below.refl _ _) _)) (by omega) (by decide)
  have HT1 : Hid (Wt bw w w1) := (Wt.new (show Below w.heap.size w ((w.alloc (.cells #[.int .i64 (N : Int), .string table, .slice a cs.length p, .slice o ks.length q, .string name, .string to] 60)).alloc (.cells #[.int .i64 (N : Int), .int .i64 (cs.length : Int)] 3)) from (by repeat (first | with_reducible exact Below.refl _ _ | with_reducible assumption | with_reducible refine ch_alloc ?_ _ | with_reducible refine Below.drew ?_ | with_reducible refine below_draws _ ?_ | (with_reducible refine Below.setCell ?_ ?_ _; rotate_left; focus (first | with_reducible exact Nat.le_refl _ | (simp; done) | (simp; omega) | (simp at *; omega))) | with_reducible refine ch_trans ?_ (by with_reducible assumption)))) (by omega)).trans ht1
  have hlw1 : bw < w1.heap.size := hw1.lt
  have hvw1 : w.heap.size < w1.heap.size := HV1.lt
  have HV1' : Hid (Own w1 w.heap.size 60 #[.int .i64 (N : Int), .string table, .slice a cs.length p, .slice o ks.length q, .string name, .string to]) := HV1
  obtain ⟨d0, d1, d2, d3, d4, d5⟩ := HV1.loc.six
  clear hw1 ht1 HV1 HW
  go_wp2_with fail
  refine (cols_any bw a p cs (L ++ [UInt8.ofNat N, UInt8.ofNat cs.length]) w1 HW1.out (fun u hu => HC.out u (HT1.out.trans hu)) HCS.out (by simp; omega) (by omega)).mono ?_
  rintro e w2 ⟨rfl, hw2, ht2⟩
  have HW2 : Hid (WIs w2 bw (L ++ [UInt8.ofNat N, UInt8.ofNat cs.length] ++ cs.flatMap colL)) := hw2
  have HV2 : Hid (Own w2 w.heap.size 60 #[.int .i64 (N : Int), .string table, .slice a cs.length p, .slice o ks.length q, .string name, .string to]) := ht2.own HV1'.out (by omega) (by decide)
  have HT2 : Hid (Wt bw w w2) := HT1.out.trans ht2
  have hlw2 : bw < w2.heap.size := hw2.lt
  have hvw2 := HV2.out.lt
  clear hw2 ht2 HW1 HT1 HV1' d0 d1 d2 d3 d4 d5
  obtain ⟨d0, d1, d2, d3, d4, d5⟩ := HV2.out.loc.six
  go_wp2_with fail
  refine (words_any bw o q ks (L ++ [UInt8.ofNat N, UInt8.ofNat cs.length] ++ cs.flatMap colL) w2 HW2.out (fun u hu => HK.out u (HT2.out.trans hu)) hk8 HKS.out (by simp only [List.length_append, List.length_cons, List.length_nil]; omega)).mono ?_
  rintro e w4 ⟨rfl, hw4, ht4⟩
  have HW4 : Hid (WIs w4 bw (L ++ [UInt8.ofNat N, UInt8.ofNat cs.length] ++ cs.flatMap colL ++ [UInt8.ofNat ks.length] ++ ks.flatMap textL)) := hw4
  have HV4 : Hid (Own w4 w.heap.size 60 #[.int .i64 (N : Int), .string table, .slice a cs.length p, .slice o ks.length q, .string name, .string to]) := ht4.own HV2.out (by omega) (by decide)
  have HT4 : Hid (Wt bw w w4) := HT2.out.trans ht4
  have hlw4 : bw < w4.heap.size := hw4.lt
  have hvw4 := HV4.out.lt
  clear hw4 ht4 HW2 HT2 HV2 d0 d1 d2 d3 d4 d5
  obtain ⟨d0, d1, d2, d3, d4, d5⟩ := HV4.out.loc.six
  go_wp2_with fail
  refine (texts_any bw (some ⟨w4.heap.size, 0, none⟩) 2 [name, to] (L ++ [UInt8.ofNat N, UInt8.ofNat cs.length] ++ cs.flatMap colL ++ [UInt8.ofNat ks.length] ++ ks.flatMap textL) (w4.alloc (.cells #[.string name, .string to] 9)) (HW4.out.on (by repeat (first | with_reducible exact Below.refl _ _ | with_reducible assumption | with_reducible refine ch_alloc ?_ _ | with_reducible refine Below.drew ?_ | with_reducible refine below_draws _ ?_ | (with_reducible refine Below.setCell ?_ ?_ _; rotate_left; focus (first | with_reducible exact Nat.le_refl _ | (simp; done) | (simp; omega) | (simp at *; omega))) | with_reducible refine ch_trans ?_ (by with_reducible assumption)))) (fun u hu => strs_two (hu.own (Own.new _ _ _) (by omega) (by decide))) (by intro s hs; simp at hs; rcases hs with rfl | rfl <;> omega) (by simp only [List.length_append, List.length_cons, List.length_nil]; omega) (by simp)).mono ?_
  rintro e w5 ⟨rfl, hw5, ht5⟩
  have HW5 : Hid (WIs w5 bw (L ++ D)) := by
    have e1 : (L ++ [UInt8.ofNat N, UInt8.ofNat cs.length] ++ cs.flatMap colL ++ [UInt8.ofNat ks.length] ++ ks.flatMap textL) ++ [name, to].flatMap textL = L ++ D := by rw [HT0.out]; simp
    show WIs _ _ _
    rw [← e1]; exact hw5
  have HT5 : Hid (Wt bw w w5) := HT4.out.trans ((Wt.new (ch_alloc (Below.refl _ _) _) (by omega)).trans ht5)
  clear hw5 ht5 HW4 HT4 HV4
  go_wp2
  first | go_end0 | (refine bodyPost_end (results_none rfl _ _ _) rfl ?_) | (refine bodyPost_ret (results_none rfl _ _ _) rfl ?_)
  exact ⟨rfl, HW5.out, HT5.out⟩
end Go.Proofs.Ytikccmgpmbnkfaa
