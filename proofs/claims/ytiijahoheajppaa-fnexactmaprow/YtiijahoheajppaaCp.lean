/- Copies, whole blocks each: columns, texts, tables. -/
import Derived.Test.YtiijahoheajppaaRw
namespace Go.Proofs.Ytiijahoheajppaa
open Go.ChangeShapes Go.WideShapes Go.ChangeAt Go.RowKit

set_option maxRecDepth 100000 in
set_option maxHeartbeats 1000000 in
/-- laws.toColS -/
theorem toColS_full (cv : Value) (cs : List Cl) (w : World) (hc : ColsV w cv cs) (hn : cs.length ≤ 1048576) :
    Calls Try.prog 34 #[cv] w fun e w' => e = .returned (.slice (some ⟨w.heap.size, 0, none⟩) cs.length cs.length) ∧ Below w.heap.size w w' ∧ Fill w' w.heap.size 60 7 cs.length (cs.map Cl.cells) := by
  obtain ⟨a, cap, rfl, hl, hm, hc⟩ := hc
  unfold maxLen at hm
  have HC : Hid (RowAt w a 7 (cs.map Cl.cells)) := hc
  clear hc
  have hmk := run_makes (P := Try.prog) 30 60 (.agg #[.string ByteArray.empty, .int .i64 0, .bool false, .bool false, .int .i64 0, .int .i64 0, .string ByteArray.empty]) _ 7 64 Try.underlying30 (by kernel_rfl) rfl .i64 .i64 cs.length (by omega) (by omega)
  go_enter Try.func34, Try.ntmps34
  go_wp2
  have HF : Hid (Fill (w.alloc (.cells (madeCells #[.string ByteArray.empty, .int .i64 0, .bool false, .bool false, .int .i64 0, .int .i64 0, .string ByteArray.empty] (cs.length * 7)) 60)) w.heap.size 60 7 cs.length ((cs.take 0).map Cl.cells)) := Fill.new w _ 7 cs.length _ (size_madeCells _ _)
  go_loopw [4] (fun i wr => ∃ k : Nat, k ≤ cs.length ∧ i = .int .i64 k ∧ Below w.heap.size w wr ∧ Hid (Fill wr w.heap.size 60 7 cs.length ((cs.take k).map Cl.cells))) (fun i _ => cs.length - (intOf i).toNat)
  case atStart => exact ⟨0, Nat.zero_le _, rfl, (by repeat (first | with_reducible exact Below.refl _ _ | with_reducible assumption | with_reducible refine ch_alloc ?_ _ | with_reducible refine Below.drew ?_ | with_reducible refine below_draws _ ?_ | (with_reducible refine Below.setCell ?_ ?_ _; rotate_left; focus (first | with_reducible exact Nat.le_refl _ | (simp; done) | (simp; omega) | (simp at *; omega))) | with_reducible refine ch_trans ?_ (by with_reducible assumption))), HF⟩
  case round =>
    clear HF
    obtain ⟨k, hk, rfl, hb, HF⟩ := hrel
    by_cases hlt : k < cs.length
    · have hlti : (k : Int) < cs.length := by omega
      obtain ⟨b, off, rfl, c0, c1, c2, c3, c4, c5, c6⟩ := (HC.out.on hb).cols k hlt
      have HS : Hid (∀ w : World, Calls Try.prog 58 #[cs[k].v] w fun e w' => e = .returned cs[k].v ∧ Below w.heap.size w w') := fun w => toCol_any cs[k] w
      go_wp2_with (go_at_call 58; refine (HS.out _).mono ?_; rintro e w1 ⟨rfl, b1⟩
                   obtain ⟨v0, v1, v2, v3, v4, v5, v6, ⟨g0, g1, g2, g3, g4, g5, g6⟩, f0, f1, f2, f3, f4, f5, f6⟩ := (HF.out.on b1).seven (k := k) (by simp; omega) hlt)
      have HF' : Hid (Fill (stores w1 w.heap.size (k * 7) cs[k].cells.toList) w.heap.size 60 7 cs.length ((cs.take (k + 1)).map Cl.cells)) := (HF.out.on b1).col hlt hlt
      go_round
      case rel => exact ⟨k + 1, by omega, by go_num, (by repeat (first | with_reducible exact Below.refl _ _ | with_reducible assumption | with_reducible refine ch_alloc ?_ _ | with_reducible refine Below.drew ?_ | with_reducible refine below_draws _ ?_ | (with_reducible refine Below.setCell ?_ ?_ _; rotate_left; focus (first | with_reducible exact Nat.le_refl _ | (simp; done) | (simp; omega) | (simp at *; omega))) | with_reducible refine ch_trans ?_ (by with_reducible assumption))), HF'⟩
      case measure => simp [intOf]; omega
    · have hlti : (cs.length : Int) ≤ k := by omega
      have HR : Hid (Fill wr w.heap.size 60 7 cs.length (cs.map Cl.cells)) := by
        have := HF.out
        rwa [List.take_of_length_le (by omega)] at this
      go_wp2
      go_ret
      exact ⟨rfl, (by repeat (first | with_reducible exact Below.refl _ _ | with_reducible assumption | with_reducible refine ch_alloc ?_ _ | with_reducible refine Below.drew ?_ | with_reducible refine below_draws _ ?_ | (with_reducible refine Below.setCell ?_ ?_ _; rotate_left; focus (first | with_reducible exact Nat.le_refl _ | (simp; done) | (simp; omega) | (simp at *; omega))) | with_reducible refine ch_trans ?_ (by with_reducible assumption))), HR.out.on (by repeat (first | with_reducible exact Below.refl _ _ | with_reducible assumption | with_reducible refine ch_alloc ?_ _ | with_reducible refine Below.drew ?_ | with_reducible refine below_draws _ ?_ | (with_reducible refine Below.setCell ?_ ?_ _; rotate_left; focus (first | with_reducible exact Nat.le_refl _ | (simp; done) | (simp; omega) | (simp at *; omega))) | with_reducible refine ch_trans ?_ (by with_reducible assumption)))⟩

set_option maxRecDepth 100000 in
set_option maxHeartbeats 1000000 in
/-- laws.toStringS -/
theorem toStringS_full (kv : Value) (ks : List ByteArray) (w : World) (hc : StrsV w kv ks) (hn : ks.length ≤ 1048576) :
    Calls Try.prog 9 #[kv] w fun e w' => e = .returned (.slice (some ⟨w.heap.size, 0, none⟩) ks.length ks.length) ∧ Below w.heap.size w w' ∧ Fill w' w.heap.size 9 1 ks.length (ks.map strX) := by
  obtain ⟨a, cap, rfl, hl, hm, hc⟩ := hc
  unfold maxLen at hm
  have HC : Hid (RowAt w a 1 (ks.map strX)) := hc
  clear hc
  have hmk := run_makes (P := Try.prog) 22 9 (.string ByteArray.empty) #[.string ByteArray.empty] 1 16 Try.underlying22 (by kernel_rfl) rfl .i64 .i64 ks.length (by omega) (by omega)
  rw [Nat.mul_one] at hmk
  go_enter Try.func9, Try.ntmps9
  go_wp2
  have HF : Hid (Fill (w.alloc (.cells (madeCells #[.string ByteArray.empty] ks.length) 9)) w.heap.size 9 1 ks.length ((ks.take 0).map strX)) := Fill.new w _ 1 ks.length _ ((size_madeCells _ _).trans (Nat.mul_one _).symm)
  go_loopw [4] (fun i wr => ∃ k : Nat, k ≤ ks.length ∧ i = .int .i64 k ∧ Below w.heap.size w wr ∧ Hid (Fill wr w.heap.size 9 1 ks.length ((ks.take k).map strX))) (fun i _ => ks.length - (intOf i).toNat)
  case atStart => exact ⟨0, Nat.zero_le _, rfl, (by repeat (first | with_reducible exact Below.refl _ _ | with_reducible assumption | with_reducible refine ch_alloc ?_ _ | with_reducible refine Below.drew ?_ | with_reducible refine below_draws _ ?_ | (with_reducible refine Below.setCell ?_ ?_ _; rotate_left; focus (first | with_reducible exact Nat.le_refl _ | (simp; done) | (simp; omega) | (simp at *; omega))) | with_reducible refine ch_trans ?_ (by with_reducible assumption))), HF⟩
  case round =>
    clear HF
    obtain ⟨k, hk, rfl, hb, HF⟩ := hrel
    by_cases hlt : k < ks.length
    · have hlti : (k : Int) < ks.length := by omega
      obtain ⟨b, off, rfl, c0⟩ := (HC.out.on hb).strs k hlt
      obtain ⟨v0, g0, f0⟩ := HF.out.one (k := k) (by simp; omega) hlt
      have HF' : Hid (Fill (stores wr w.heap.size k [.string ks[k]]) w.heap.size 9 1 ks.length ((ks.take (k + 1)).map strX)) := HF.out.str hlt hlt
      go_wp2
      go_round
      case rel => exact ⟨k + 1, by omega, by go_num, (by repeat (first | with_reducible exact Below.refl _ _ | with_reducible assumption | with_reducible refine ch_alloc ?_ _ | with_reducible refine Below.drew ?_ | with_reducible refine below_draws _ ?_ | (with_reducible refine Below.setCell ?_ ?_ _; rotate_left; focus (first | with_reducible exact Nat.le_refl _ | (simp; done) | (simp; omega) | (simp at *; omega))) | with_reducible refine ch_trans ?_ (by with_reducible assumption))), HF'⟩
      case measure => simp [intOf]; omega
    · have hlti : (ks.length : Int) ≤ k := by omega
      have HR : Hid (Fill wr w.heap.size 9 1 ks.length (ks.map strX)) := by
        have := HF.out
        rwa [List.take_of_length_le (by omega)] at this
      go_wp2
      go_ret
      exact ⟨rfl, (by repeat (first | with_reducible exact Below.refl _ _ | with_reducible assumption | with_reducible refine ch_alloc ?_ _ | with_reducible refine Below.drew ?_ | with_reducible refine below_draws _ ?_ | (with_reducible refine Below.setCell ?_ ?_ _; rotate_left; focus (first | with_reducible exact Nat.le_refl _ | (simp; done) | (simp; omega) | (simp at *; omega))) | with_reducible refine ch_trans ?_ (by with_reducible assumption))), HR.out.on (by repeat (first | with_reducible exact Below.refl _ _ | with_reducible assumption | with_reducible refine ch_alloc ?_ _ | with_reducible refine Below.drew ?_ | with_reducible refine below_draws _ ?_ | (with_reducible refine Below.setCell ?_ ?_ _; rotate_left; focus (first | with_reducible exact Nat.le_refl _ | (simp; done) | (simp; omega) | (simp at *; omega))) | with_reducible refine ch_trans ?_ (by with_reducible assumption)))⟩

theorem Fill.colsV {w : World} {B : Nat} {T : TypeId} {cs : List Cl} (h : Fill w B T 7 cs.length (cs.map Cl.cells)) (hn : cs.length ≤ maxLen) : ColsV w (.slice (some ⟨B, 0, none⟩) cs.length cs.length) cs := ⟨_, _, rfl, Nat.le_refl _, hn, h.row⟩
theorem Fill.strsV {w : World} {B : Nat} {T : TypeId} {ks : List ByteArray} (h : Fill w B T 1 ks.length (ks.map strX)) (hn : ks.length ≤ maxLen) : StrsV w (.slice (some ⟨B, 0, none⟩) ks.length ks.length) ks := ⟨_, _, rfl, Nat.le_refl _, hn, h.row⟩

set_option maxRecDepth 100000 in
set_option maxHeartbeats 1000000 in
/-- laws.toTable -/
theorem toTable_full (x : Array Value) (t : Tc) (w : World) (hx : TabV w x t) (hf : t.few) :
    Calls Try.prog 10 #[.agg x] w fun e w' => ∃ B1 B2, e = .returned (.agg #[.string t.name, .slice (some ⟨B1, 0, none⟩) t.cols.length t.cols.length, .slice (some ⟨B2, 0, none⟩) t.keys.length t.keys.length]) ∧ w.heap.size ≤ B1 ∧ B1 < B2 ∧ Below w.heap.size w w' ∧ Fill w' B1 60 7 t.cols.length (t.cols.map Cl.cells) ∧ Fill w' B2 9 1 t.keys.length (t.keys.map strX) := by
  obtain ⟨cv, kv, rfl, hc, hk⟩ := hx
  obtain ⟨name, cs, ks⟩ := t
  obtain ⟨hfc, hfk⟩ := hf
  simp only at hfc hfk hc hk ⊢
  have HC : Hid (ColsV w cv cs) := hc
  have HK : Hid (StrsV w kv ks) := hk
  have HL := Loc.new w #[.string name, cv, kv] 25
  clear hc hk
  go_enter Try.func10, Try.ntmps10
  go_wp2_with fail
  refine (toColS_full cv cs _ (HC.out.on (by repeat (first | with_reducible exact Below.refl _ _ | with_reducible assumption | with_reducible refine ch_alloc ?_ _ | with_reducible refine Below.drew ?_ | with_reducible refine below_draws _ ?_ | (with_reducible refine Below.setCell ?_ ?_ _; rotate_left; focus (first | with_reducible exact Nat.le_refl _ | (simp; done) | (simp; omega) | (simp at *; omega))) | with_reducible refine ch_trans ?_ (by with_reducible assumption)))) hfc).mono ?_
  rintro e w1 ⟨rfl, b1, hf1⟩
  have h3 : (((w.alloc (.cells #[.string name, cv, kv] 25)).alloc (.cells #[.string { data := #[] }, .slice none 0 0, .slice none 0 0] 32)).alloc (.cells #[.string name, .slice none 0 0, .slice none 0 0] 32)).heap.size = w.heap.size + 1 + 1 + 1 := by simp
  rw [h3] at hf1 ⊢
  have HF1 : Hid (Fill w1 (w.heap.size + 1 + 1 + 1) 60 7 cs.length (cs.map Cl.cells)) := hf1
  clear hf1
  have HL1 := HL.on (w' := w1) (by repeat (first | with_reducible exact Below.refl _ _ | with_reducible assumption | with_reducible refine ch_alloc ?_ _ | with_reducible refine Below.drew ?_ | with_reducible refine below_draws _ ?_ | (with_reducible refine Below.setCell ?_ ?_ _; rotate_left; focus (first | with_reducible exact Nat.le_refl _ | (simp; done) | (simp; omega) | (simp at *; omega))) | with_reducible refine ch_trans ?_ (by with_reducible assumption)))
  obtain ⟨c0, c1, c2⟩ := HL1.three
  have HO : Own w1 (w.heap.size + 1 + 1) 32 #[.string name, .slice none 0 0, .slice none 0 0] := (Own.at ((w.alloc (.cells #[.string name, cv, kv] 25)).alloc (.cells #[.string { data := #[] }, .slice none 0 0, .slice none 0 0] 32)) _ _ (by simp)).on b1
  have HQ : Own w1 (w.heap.size + 1) 32 #[.string { data := #[] }, .slice none 0 0, .slice none 0 0] := ((Own.at (w.alloc (.cells #[.string name, cv, kv] 25)) _ _ (by simp)).on (ch_alloc (Below.refl _ _) _)).on b1
  obtain ⟨d0, d1, d2⟩ := HO.loc.three
  have f1 := HO.frozen 1
  have hlt1 : w.heap.size + 1 + 1 + 1 < w1.heap.size := HF1.out.lt
  go_wp2_with fail
  refine (toStringS_full kv ks _ (HK.out.on (by repeat (first | with_reducible exact Below.refl _ _ | with_reducible assumption | with_reducible refine ch_alloc ?_ _ | with_reducible refine Below.drew ?_ | with_reducible refine below_draws _ ?_ | (with_reducible refine Below.setCell ?_ ?_ _; rotate_left; focus (first | with_reducible exact Nat.le_refl _ | (simp; done) | (simp; omega) | (simp at *; omega))) | with_reducible refine ch_trans ?_ (by with_reducible assumption)))) hfk).mono ?_
  rintro e w2 ⟨rfl, b2, hf2⟩
  have h4 : (w1.setCell ⟨w.heap.size + 1 + 1, 1, none⟩ (.slice (some ⟨w.heap.size + 1 + 1 + 1, 0, none⟩) cs.length cs.length)).heap.size = w1.heap.size := by simp
  rw [h4] at hf2 ⊢
  obtain ⟨B2, hB2⟩ : ∃ B2, B2 = w1.heap.size := ⟨_, rfl⟩
  rw [← hB2] at hf2 hlt1 ⊢
  have HF2 : Hid (Fill w2 B2 9 1 ks.length (ks.map strX)) := hf2
  have HF1' : Hid (Fill w2 (w.heap.size + 1 + 1 + 1) 60 7 cs.length (cs.map Cl.cells)) := (HF1.out.other (p := ⟨w.heap.size + 1 + 1, 1, none⟩) (by simp) _).on b2
  have HO2 : Own w2 (w.heap.size + 1 + 1) 32 #[.string name, .slice (some ⟨w.heap.size + 1 + 1 + 1, 0, none⟩) cs.length cs.length, .slice none 0 0] := (HO.set 1 _).on b2
  clear c0 c1 c2 d0 d1 d2 f1 hf2 hB2
  obtain ⟨d0, d1, d2⟩ := HO2.loc.three
  have f2 := HO2.frozen 2
  have HQ2 : Own w2 (w.heap.size + 1) 32 #[.string { data := #[] }, .slice none 0 0, .slice none 0 0] := (HQ.other (p := ⟨w.heap.size + 1 + 1, 1, none⟩) (by simp) _).on b2
  obtain ⟨g0, g1, g2⟩ := HQ2.loc.three
  have i0 := HQ2.frozen 0
  have i1 := HQ2.frozen 1
  have i2 := HQ2.frozen 2
  go_wp2
  have HQ3 : Own _ _ _ #[.string name, .slice (some ⟨w.heap.size + 1 + 1 + 1, 0, none⟩) cs.length cs.length, .slice (some ⟨B2, 0, none⟩) ks.length ks.length] := ((((HQ2.other (p := ⟨w.heap.size + 1 + 1, 2, none⟩) (by simp) (.slice (some ⟨B2, 0, none⟩) ks.length ks.length)).set 0 (.string name)).set 1 (.slice (some ⟨w.heap.size + 1 + 1 + 1, 0, none⟩) cs.length cs.length)).set 2 (.slice (some ⟨B2, 0, none⟩) ks.length ks.length))
  have HB : Hid (Below w.heap.size w ((((w2.setCell ⟨w.heap.size + 1 + 1, 2, none⟩ (.slice (some ⟨B2, 0, none⟩) ks.length ks.length)).setCell ⟨w.heap.size + 1, 0, none⟩ (.string name)).setCell ⟨w.heap.size + 1, 1, none⟩ (.slice (some ⟨w.heap.size + 1 + 1 + 1, 0, none⟩) cs.length cs.length)).setCell ⟨w.heap.size + 1, 2, none⟩ (.slice (some ⟨B2, 0, none⟩) ks.length ks.length))) := by
    show Below _ _ _
    exact (by repeat (first | with_reducible exact Below.refl _ _ | with_reducible assumption | with_reducible refine ch_alloc ?_ _ | with_reducible refine Below.drew ?_ | with_reducible refine below_draws _ ?_ | (with_reducible refine Below.setCell ?_ ?_ _; rotate_left; focus (first | with_reducible exact Nat.le_refl _ | (simp; done) | (simp; omega) | (simp at *; omega))) | with_reducible refine ch_trans ?_ (by with_reducible assumption)))
  have HC3 : Hid (Fill ((((w2.setCell ⟨w.heap.size + 1 + 1, 2, none⟩ (.slice (some ⟨B2, 0, none⟩) ks.length ks.length)).setCell ⟨w.heap.size + 1, 0, none⟩ (.string name)).setCell ⟨w.heap.size + 1, 1, none⟩ (.slice (some ⟨w.heap.size + 1 + 1 + 1, 0, none⟩) cs.length cs.length)).setCell ⟨w.heap.size + 1, 2, none⟩ (.slice (some ⟨B2, 0, none⟩) ks.length ks.length)) (w.heap.size + 1 + 1 + 1) 60 7 cs.length (cs.map Cl.cells)) := (((HF1'.out.other (by simp) _).other (by simp; omega) _).other (by simp; omega) _).other (by simp; omega) _
  have HK3 : Hid (Fill ((((w2.setCell ⟨w.heap.size + 1 + 1, 2, none⟩ (.slice (some ⟨B2, 0, none⟩) ks.length ks.length)).setCell ⟨w.heap.size + 1, 0, none⟩ (.string name)).setCell ⟨w.heap.size + 1, 1, none⟩ (.slice (some ⟨w.heap.size + 1 + 1 + 1, 0, none⟩) cs.length cs.length)).setCell ⟨w.heap.size + 1, 2, none⟩ (.slice (some ⟨B2, 0, none⟩) ks.length ks.length)) B2 9 1 ks.length (ks.map strX)) := (((HF2.out.other (by simp; omega) _).other (by simp; omega) _).other (by simp; omega) _).other (by simp; omega) _
  generalize ((((w2.setCell ⟨w.heap.size + 1 + 1, 2, none⟩ (.slice (some ⟨B2, 0, none⟩) ks.length ks.length)).setCell ⟨w.heap.size + 1, 0, none⟩ (.string name)).setCell ⟨w.heap.size + 1, 1, none⟩ (.slice (some ⟨w.heap.size + 1 + 1 + 1, 0, none⟩) cs.length cs.length)).setCell ⟨w.heap.size + 1, 2, none⟩ (.slice (some ⟨B2, 0, none⟩) ks.length ks.length)) = W at HQ3 HB HC3 HK3 ⊢
  obtain ⟨e0, e1, e2⟩ := HQ3.loc.three
  exact bodyPost_ret (v := .agg #[.string name, .slice (some ⟨w.heap.size + 1 + 1 + 1, 0, none⟩) cs.length cs.length, .slice (some ⟨B2, 0, none⟩) ks.length ks.length]) (by simp [results, Try.results10, go_sem, e0, e1, e2]) rfl ⟨_, _, rfl, by omega, hlt1, HB.out, HC3.out, HK3.out⟩
end Go.Proofs.Ytiijahoheajppaa
