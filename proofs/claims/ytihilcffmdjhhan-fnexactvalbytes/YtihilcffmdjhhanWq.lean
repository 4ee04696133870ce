/- Words, values and rows as bytes: landed. -/
import Derived.Test.YtihilcffmdjhhanWp
import Derived.Test.YtihilcffmdjhhanValOk
namespace Go.Proofs.Ytihilcffmdjhhan
open Go.ChangeShapes Go.WideShapes Go.ChangeAt Go.RowKit

set_option maxRecDepth 100000 in
set_option maxHeartbeats 1000000 in
/-- impl.writerOf -/
theorem writerOf_any (lv : Value) (ns : List Nat) (w : World) (hl : IntsV w lv (ns.map natI)) (hns : ns.length ≤ 1000) :
    Calls Try.prog 34 #[lv] w fun e w' => ∃ bw, e = .returned (.pointer (some ⟨bw, 0, none⟩)) ∧ w.heap.size ≤ bw ∧ Below w.heap.size w w' ∧ WIs w' bw (ns.flatMap (fun n => numL n 1)) := by
  obtain ⟨a, cap, rfl, _, _, hl⟩ := hl.lit
  rw [List.length_map] at hl ⊢
  have HI : Hid (IntsV w (.slice a ns.length cap) (ns.map natI)) := hl
  clear hl
  have HW : Hid (WIs (w.alloc (.cells #[.slice none 0 0] 57)) w.heap.size []) := ⟨_, Own.new _ _ _, Got.nil _ _ _ _⟩
  go_enter Try.func34, Try.ntmps34
  go_wp2_with fail
  refine (nums_any w.heap.size 1 _ ns [] _ HW.out (fun u hu => HI.out.on ((ch_alloc (Below.refl _ _) _).trans hu.1)) (by omega) (by simp; omega)).mono ?_
  rintro e w1 ⟨rfl, hw1, ht1⟩
  have HW1 : Hid (WIs w1 w.heap.size (ns.flatMap (fun n => numL n 1))) := by
    show WIs _ _ _
    simpa using hw1
  have hb1 : Below w.heap.size w w1 := (ch_alloc (Below.refl _ _) _).trans ht1.1
  clear hw1 ht1
  go_wp2
  go_ret
  exact ⟨_, rfl, Nat.le_refl _, hb1, HW1.out⟩

def okWord (s : ByteArray) : Prop := s.size = 0 ∨ wordB s = true
theorem okWord_size {s : ByteArray} (h : okWord s) : s.size ≤ 8 := by
  rcases h with h | h
  · omega
  · unfold wordB at h
    simp at h
    omega
theorem writer_out {w : World} {bw : Nat} {L : List UInt8} (h : WIs w bw L) : ∃ a n c, w.cell? ⟨bw, 0, none⟩ = some (.slice a n c) ∧ Got w (bw + 1) 5 1 (.slice a n c) (L.map byX) := by
  obtain ⟨v, ho, hg⟩ := h
  obtain ⟨a, n, c, rfl, hg⟩ := hg.lit2
  exact ⟨a, n, c, ho.loc.one, hg⟩
theorem empty_yes {s : ByteArray} (h : s.size = 0) : s.toList.isEmpty = true := by
  rw [ByteArray.toList_eq, List.isEmpty_iff_length_eq_zero]
  simpa using h
theorem size_empty {s : ByteArray} (h : s.toList.isEmpty = true) : s.size = 0 := by
  rw [ByteArray.toList_eq, List.isEmpty_iff_length_eq_zero] at h
  simpa using h
set_option maxRecDepth 100000 in
set_option maxHeartbeats 1000000 in
/-- impl.WordBytes -/
theorem wordBytes_impl (s : ByteArray) (w : World) (hs : s.size ≤ maxLen) (q : Bool) (L : List UInt8) (hq : (q = true ∧ okWord s ∧ L = textL s) ∨ (q = false ∧ ¬ okWord s ∧ L = [])) :
    Calls Try.prog 27 #[.string s] w fun e w' => ∃ v', e = .returned (.tuple #[v', .bool q]) ∧ Below w.heap.size w w' ∧ Got w' w.heap.size 5 1 v' (L.map byX) := by
  have HS : Hid (∀ u : World, Calls Try.prog 40 #[.string s] u fun e w' => e = .returned (.bool (wordB s)) ∧ w' = u) := fun u => word_impl s u hs
  have HWO : Hid (∀ u : World, Calls Try.prog 34 #[.slice none 0 0] u fun e w' => ∃ bw, e = .returned (.pointer (some ⟨bw, 0, none⟩)) ∧ u.heap.size ≤ bw ∧ Below u.heap.size u w' ∧ WIs w' bw []) := fun u => by
    have := writerOf_any (.slice none 0 0) [] u ⟨_, _, rfl, Nat.le_refl _, Nat.zero_le _, RowAt.nil _ _ _⟩ (by simp)
    simpa using this
  by_cases hok : okWord s
  · obtain ⟨rfl, rfl⟩ : q = true ∧ L = textL s := by
      rcases hq with ⟨h, _, h'⟩ | ⟨_, h, _⟩
      · exact ⟨h, h'⟩
      · exact absurd hok h
    clear hq
    have hs8 := okWord_size hok
    have hcase : s.toList.isEmpty = true ∨ (s.toList.isEmpty = false ∧ wordB s = true) := by
      rcases hok with h | h
      · exact Or.inl (empty_yes h)
      · cases h0 : s.toList.isEmpty
        · exact Or.inr ⟨rfl, h⟩
        · exact Or.inl rfl
    clear hok
    have hTX : Hid (∀ (bw : Nat) (u : World), WIs u bw [] → Calls Try.prog 41 #[.pointer (some ⟨bw, 0, none⟩), .slice (some ⟨u.heap.size, 0, none⟩) 1 1] (u.alloc (.cells #[.string s] 9)) fun e w' => e = .returned (.tuple #[]) ∧ WIs w' bw (textL s) ∧ Wt bw (u.alloc (.cells #[.string s] 9)) w') := fun bw u hu => by
      have hlt := hu.lt
      have := texts_any bw (some ⟨u.heap.size, 0, none⟩) 1 [s] [] (u.alloc (.cells #[.string s] 9)) (hu.on (by repeat (first | with_reducible exact Below.refl _ _ | with_reducible assumption | with_reducible refine ch_alloc ?_ _ | with_reducible refine Below.drew ?_ | with_reducible refine below_draws _ ?_ | (with_reducible refine Below.setCell ?_ ?_ _; rotate_left; focus (first | with_reducible exact Nat.le_refl _ | (simp; done) | (simp; omega) | (simp at *; omega))) | with_reducible refine ch_trans ?_ (by with_reducible assumption)))) (fun u' hu' => strs_one (hu'.own (Own.new _ _ _) (by omega) (by decide))) (by simp; omega) (by simp) (by simp)
      simpa using this
    rcases hcase with he | ⟨he, hwd⟩
    · go_enter Try.func27, Try.ntmps27
      go_wp2_with fail
      refine (HWO.out _).mono ?_
      rintro e w1 ⟨bw, rfl, hbw, b1, hw1⟩
      have HW1 : Hid (WIs w1 bw []) := hw1
      have hlw1 := hw1.lt
      clear hw1
      go_wp2_with fail
      refine (hTX.out bw w1 HW1.out).mono ?_
      rintro e w2 ⟨rfl, hw2, ht2⟩
      obtain ⟨a2, n2, c2, g2, hg2⟩ := writer_out hw2
      have HG2 : Hid (Got w2 w.heap.size 5 1 (.slice a2 n2 c2) ((textL s).map byX)) := hg2.mono (by omega)
      have HB2 : Hid (Below w.heap.size w w2) := (ch_alloc b1 _).trans (ht2.1.mono hbw)
      clear hg2 ht2 hw2
      go_wp2
      go_ret2
      exact ⟨_, rfl, HB2.out, HG2.out⟩
    · have HSt : Hid (∀ u : World, Calls Try.prog 40 #[.string s] u fun e w' => e = .returned (.bool true) ∧ w' = u) := fun u => by
        have := HS.out u
        rwa [hwd] at this
      go_enter Try.func27, Try.ntmps27
      go_wp2_with fail
      refine (HSt.out _).mono ?_
      rintro e w0 ⟨rfl, rfl⟩
      go_wp2_with fail
      refine (HWO.out _).mono ?_
      rintro e w1 ⟨bw, rfl, hbw, b1, hw1⟩
      have HW1 : Hid (WIs w1 bw []) := hw1
      have hlw1 := hw1.lt
      clear hw1
      go_wp2_with fail
      refine (hTX.out bw w1 HW1.out).mono ?_
      rintro e w2 ⟨rfl, hw2, ht2⟩
      obtain ⟨a2, n2, c2, g2, hg2⟩ := writer_out hw2
      have HG2 : Hid (Got w2 w0.heap.size 5 1 (.slice a2 n2 c2) ((textL s).map byX)) := hg2.mono (by omega)
      have HB2 : Hid (Below w0.heap.size w0 w2) := (ch_alloc b1 _).trans (ht2.1.mono hbw)
      clear hg2 ht2 hw2
      go_wp2
      go_ret2
      exact ⟨_, rfl, HB2.out, HG2.out⟩
  · obtain ⟨rfl, rfl⟩ : q = false ∧ L = [] := by
      rcases hq with ⟨_, h, _⟩ | ⟨h, _, h'⟩
      · exact absurd h hok
      · exact ⟨h, h'⟩
    clear hq
    have he : s.toList.isEmpty = false := by
      cases h0 : s.toList.isEmpty
      · rfl
      · exact absurd (Or.inl (size_empty h0)) hok
    have HSt : Hid (∀ u : World, Calls Try.prog 40 #[.string s] u fun e w' => e = .returned (.bool false) ∧ w' = u) := fun u => by
      have := HS.out u
      have hwd : wordB s = false := by
        cases h0 : wordB s
        · rfl
        · exact absurd (Or.inr h0) hok
      rwa [hwd] at this
    clear hok
    go_enter Try.func27, Try.ntmps27
    go_wp2_with fail
    refine (HSt.out _).mono ?_
    rintro e w0 ⟨rfl, rfl⟩
    go_wp2
    go_ret2
    exact ⟨_, rfl, (by repeat (first | with_reducible exact Below.refl _ _ | with_reducible assumption | with_reducible refine ch_alloc ?_ _ | with_reducible refine Below.drew ?_ | with_reducible refine below_draws _ ?_ | (with_reducible refine Below.setCell ?_ ?_ _; rotate_left; focus (first | with_reducible exact Nat.le_refl _ | (simp; done) | (simp; omega) | (simp at *; omega))) | with_reducible refine ch_trans ?_ (by with_reducible assumption))), Got.nil _ _ _ _⟩

theorem ok_below (c : Vc) (w : World) : Calls Try.prog 33 #[.agg c.cells] w fun e w' => e = .returned (.bool (okB c.ty c.n c.s)) ∧ Below w.heap.size w w' :=
  (ok_impl c.ty c.n c.s w).mono fun e w' ⟨he, k, hw⟩ => ⟨he, by subst hw; exact (by repeat (first | with_reducible exact Below.refl _ _ | with_reducible assumption | with_reducible refine ch_alloc ?_ _ | with_reducible refine Below.drew ?_ | with_reducible refine below_draws _ ?_ | (with_reducible refine Below.setCell ?_ ?_ _; rotate_left; focus (first | with_reducible exact Nat.le_refl _ | (simp; done) | (simp; omega) | (simp at *; omega))) | with_reducible refine ch_trans ?_ (by with_reducible assumption)))⟩
theorem writerOf_none (u : World) : Calls Try.prog 34 #[.slice none 0 0] u fun e w' => ∃ bw, e = .returned (.pointer (some ⟨bw, 0, none⟩)) ∧ u.heap.size ≤ bw ∧ Below u.heap.size u w' ∧ WIs w' bw [] := by
  have := writerOf_any (.slice none 0 0) [] u ⟨_, _, rfl, Nat.le_refl _, Nat.zero_le _, RowAt.nil _ _ _⟩ (by simp)
  simpa using this

set_option maxRecDepth 100000 in
set_option maxHeartbeats 1000000 in
/-- impl.ValBytes -/
theorem valBytes_impl (ty n : Int) (x : ByteArray) (w : World) (q : Bool) (L : List UInt8) (hq : (q = true ∧ okB ty n x = true ∧ L = valL ⟨ty, n, x⟩) ∨ (q = false ∧ okB ty n x = false ∧ L = [])) :
    Calls Try.prog 19 #[.agg #[.int .i64 ty, .int .i64 n, .string x]] w fun e w' => ∃ v', e = .returned (.tuple #[v', .bool q]) ∧ Below w.heap.size w w' ∧ Got w' w.heap.size 5 1 v' (L.map byX) := by
  have HS : Hid (∀ u : World, Calls Try.prog 33 #[.agg #[.int .i64 ty, .int .i64 n, .string x]] u fun e w' => e = .returned (.bool (okB ty n x)) ∧ Below u.heap.size u w') := fun u => ok_below ⟨ty, n, x⟩ u
  have HL := Loc.new w #[.int .i64 ty, .int .i64 n, .string x] 35
  rcases hq with ⟨rfl, hok, rfl⟩ | ⟨rfl, hok, rfl⟩
  · rw [hok] at HS
    have HVA : Hid (∀ (bw : Nat) (u : World), WIs u bw [] → Calls Try.prog 35 #[.pointer (some ⟨bw, 0, none⟩), .slice (some ⟨u.heap.size, 0, none⟩) 1 1] (u.alloc (.cells #[.int .i64 ty, .int .i64 n, .string x] 35)) fun e w' => e = .returned (.tuple #[]) ∧ WIs w' bw (valL ⟨ty, n, x⟩) ∧ Wt bw (u.alloc (.cells #[.int .i64 ty, .int .i64 n, .string x] 35)) w') := fun bw u hu => by
      have hlt := hu.lt
      have := vals_any bw (some ⟨u.heap.size, 0, none⟩) 1 [⟨ty, n, x⟩] [] (u.alloc (.cells #[.int .i64 ty, .int .i64 n, .string x] 35)) (hu.on (by repeat (first | with_reducible exact Below.refl _ _ | with_reducible assumption | with_reducible refine ch_alloc ?_ _ | with_reducible refine Below.drew ?_ | with_reducible refine below_draws _ ?_ | (with_reducible refine Below.setCell ?_ ?_ _; rotate_left; focus (first | with_reducible exact Nat.le_refl _ | (simp; done) | (simp; omega) | (simp at *; omega))) | with_reducible refine ch_trans ?_ (by with_reducible assumption)))) (fun u' hu' => (hu'.own (T := 35) (cells := Vc.cells ⟨ty, n, x⟩) (Own.new _ _ _) (by omega) (by decide)).loc.row1 rfl) (by simpa using hok) (by simp) (by simp)
      simpa using this
    clear hok
    go_enter Try.func19, Try.ntmps19
    go_wp2_with fail
    refine (HS.out _).mono ?_
    rintro e w0 ⟨rfl, b0⟩
    have HL0 := HL.on b0
    go_wp2_with fail
    refine (writerOf_none _).mono ?_
    rintro e w1 ⟨bw, rfl, hbw, b1, hw1⟩
    have HW1 : Hid (WIs w1 bw []) := hw1
    have hlw1 := hw1.lt
    have HL1 := HL0.on b1
    obtain ⟨d0, d1, d2⟩ := HL1.three
    clear hw1
    go_wp2_with fail
    refine (HVA.out bw w1 HW1.out).mono ?_
    rintro e w2 ⟨rfl, hw2, ht2⟩
    obtain ⟨a2, n2, c2, g2, hg2⟩ := writer_out hw2
    have hb01 : Below w.heap.size w (w1.alloc (.cells #[.int .i64 ty, .int .i64 n, .string x] 35)) := (by repeat (first | with_reducible exact Below.refl _ _ | with_reducible assumption | with_reducible refine ch_alloc ?_ _ | with_reducible refine Below.drew ?_ | with_reducible refine below_draws _ ?_ | (with_reducible refine Below.setCell ?_ ?_ _; rotate_left; focus (first | with_reducible exact Nat.le_refl _ | (simp; done) | (simp; omega) | (simp at *; omega))) | with_reducible refine ch_trans ?_ (by with_reducible assumption)))
    have hs0 : w.heap.size ≤ w0.heap.size := (show Below w.heap.size w w0 from (by repeat (first | with_reducible exact Below.refl _ _ | with_reducible assumption | with_reducible refine ch_alloc ?_ _ | with_reducible refine Below.drew ?_ | with_reducible refine below_draws _ ?_ | (with_reducible refine Below.setCell ?_ ?_ _; rotate_left; focus (first | with_reducible exact Nat.le_refl _ | (simp; done) | (simp; omega) | (simp at *; omega))) | with_reducible refine ch_trans ?_ (by with_reducible assumption)))).size
    have HG2 : Hid (Got w2 w.heap.size 5 1 (.slice a2 n2 c2) ((valL ⟨ty, n, x⟩).map byX)) := hg2.mono (by omega)
    have HB2 : Hid (Below w.heap.size w w2) := hb01.trans (ht2.1.mono (by omega))
    clear hg2 ht2 hw2
    go_wp2
    go_ret2
    exact ⟨_, rfl, HB2.out, HG2.out⟩
  · rw [hok] at HS
    clear hok
    go_enter Try.func19, Try.ntmps19
    go_wp2_with fail
    refine (HS.out _).mono ?_
    rintro e w0 ⟨rfl, b0⟩
    go_wp2
    go_ret2
    exact ⟨_, rfl, (by repeat (first | with_reducible exact Below.refl _ _ | with_reducible assumption | with_reducible refine ch_alloc ?_ _ | with_reducible refine Below.drew ?_ | with_reducible refine below_draws _ ?_ | (with_reducible refine Below.setCell ?_ ?_ _; rotate_left; focus (first | with_reducible exact Nat.le_refl _ | (simp; done) | (simp; omega) | (simp at *; omega))) | with_reducible refine ch_trans ?_ (by with_reducible assumption))), Got.nil _ _ _ _⟩
end Go.Proofs.Ytihilcffmdjhhan
