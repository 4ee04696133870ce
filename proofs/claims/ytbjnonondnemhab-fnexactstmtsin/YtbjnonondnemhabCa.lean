/- Copies of statements' parts, empty ones too. -/
import Derived.Test.YtbjnonondnemhabXd
import Derived.Test.YtbjnonondnemhabTk
namespace Go.Proofs.Ytbjnonondnemhab
open Go.ChangeShapes Go.WideShapes Go.ChangeAt Go.RowKit

set_option maxRecDepth 100000 in
set_option maxHeartbeats 1000000 in
theorem cloneValsA (b off n p : Nat) (vs : List Vc) (w : World) (hv : ValsV w (.slice (some ⟨b, off, none⟩) n p) vs) (hl : vs.length ≤ 1048576) :
    Calls Try.prog 89 #[.slice (some ⟨b, off, none⟩) n p] w fun e w' => ∃ kv, e = .returned kv ∧ Below w.heap.size w w' ∧ Got w' w.heap.size 84 3 kv (vs.map Vc.cells) := by
  obtain ⟨a, p', e, hlp, hm, hv⟩ := hv.lit
  cases e
  unfold maxLen at hm
  have HR : Hid (RowAt w (some ⟨b, off, none⟩) 3 (vs.map Vc.cells)) := hv.row
  have hnn := notNil b off vs.length p w
  clear hv
  go_enter Try.func89, Try.ntmps89
  go_wp2_with (at_builtin; refine app_lot rfl (.tmp 5) (.tmp 6) rfl Try.underlying60 infoVal rfl (by decide) (by decide) w.heap.size _ [] rfl (Got.empty w _ _) b off p (vs.map Vc.cells) vs.length (by simp) rfl (HR.out.on (ch_alloc (Below.refl _ _) _)) (vals_one vs) (by simp; omega) (by simp) ?_; intro v' w2 hg2 hb2)
  go_ret
  exact ⟨_, rfl, Below.trans (ch_alloc (Below.refl _ _) _) hb2, by simpa using hg2⟩

set_option maxRecDepth 100000 in
set_option maxHeartbeats 1000000 in
theorem cloneColsA (b off n p : Nat) (vs : List Cl) (w : World) (hv : ColsV w (.slice (some ⟨b, off, none⟩) n p) vs) (hl : vs.length ≤ 1048576) :
    Calls Try.prog 91 #[.slice (some ⟨b, off, none⟩) n p] w fun e w' => ∃ kv, e = .returned kv ∧ Below w.heap.size w w' ∧ Got w' w.heap.size 86 7 kv (vs.map Cl.cells) := by
  obtain ⟨a, p', e, hlp, hm, hv⟩ := hv
  cases e
  unfold maxLen at hm
  have HR : Hid (RowAt w (some ⟨b, off, none⟩) 7 (vs.map Cl.cells)) := hv
  have hnn := notNilC b off vs.length p w
  clear hv
  go_enter Try.func91, Try.ntmps91
  go_wp2_with (at_builtin; refine app_lot rfl (.tmp 5) (.tmp 6) rfl Try.underlying63 infoCol rfl (by decide) (by decide) w.heap.size _ [] rfl (Got.empty w _ _) b off p (vs.map Cl.cells) vs.length (by simp) rfl (HR.out.on (ch_alloc (Below.refl _ _) _)) (cols_one vs) (by simp; omega) (by simp) ?_; intro v' w2 hg2 hb2)
  go_ret
  exact ⟨_, rfl, Below.trans (ch_alloc (Below.refl _ _) _) hb2, by simpa using hg2⟩

set_option maxRecDepth 100000 in
set_option maxHeartbeats 1000000 in
theorem cloneStrsA (b off n p : Nat) (vs : List ByteArray) (w : World) (hv : StrsV w (.slice (some ⟨b, off, none⟩) n p) vs) (hl : vs.length ≤ 1048576) :
    Calls Try.prog 81 #[.slice (some ⟨b, off, none⟩) n p] w fun e w' => ∃ kv, e = .returned kv ∧ Below w.heap.size w w' ∧ Got w' w.heap.size 9 1 kv (vs.map strX) := by
  obtain ⟨a, p', e, hlp, hm, hv⟩ := hv
  cases e
  unfold maxLen at hm
  have HR : Hid (RowAt w (some ⟨b, off, none⟩) 1 (vs.map strX)) := hv
  have hnn := notNilS b off vs.length p w
  clear hv
  go_enter Try.func81, Try.ntmps81
  go_wp2_with (at_builtin; refine app_lot rfl (.tmp 5) (.tmp 6) rfl Try.underlying29 infoStr rfl (by decide) (by decide) w.heap.size _ [] rfl (Got.empty w _ _) b off p (vs.map strX) vs.length (by simp) rfl (HR.out.on (ch_alloc (Below.refl _ _) _)) (strs_one vs) (by simp; omega) (by simp) ?_; intro v' w2 hg2 hb2)
  go_ret
  exact ⟨_, rfl, Below.trans (ch_alloc (Below.refl _ _) _) hb2, by simpa using hg2⟩
set_option maxRecDepth 100000 in
set_option maxHeartbeats 1000000 in
/-- impl.copyRow -/
theorem copyRowA (b off n p : Nat) (vs : List Vc) (w : World) (hv : ValsV w (.slice (some ⟨b, off, none⟩) n p) vs) (hl : vs.length ≤ 1048576) :
    Calls Try.prog 90 #[.agg #[.slice (some ⟨b, off, none⟩) n p]] w fun e w' => ∃ kv, e = .returned (.agg #[kv]) ∧ Below w.heap.size w w' ∧ Got w' w.heap.size 84 3 kv (vs.map Vc.cells) := by
  obtain ⟨a, p', e, hlp, hm, hv⟩ := hv.lit
  cases e
  have HV : Hid (ValsV w (.slice (some ⟨b, off, none⟩) vs.length p) vs) := hv
  clear hv
  go_enter Try.func90, Try.ntmps90
  go_wp2_with fail
  refine (cloneValsA b off _ p vs _ (HV.out.on (by repeat (first | with_reducible exact Below.refl _ _ | with_reducible assumption | with_reducible refine ch_alloc ?_ _ | with_reducible refine Below.drew ?_ | with_reducible refine below_draws _ ?_ | (with_reducible refine Below.setCell ?_ ?_ _; rotate_left; focus (first | with_reducible exact Nat.le_refl _ | (simp; done) | (simp; omega) | (simp at *; omega))) | with_reducible refine ch_trans ?_ (by with_reducible assumption)))) hl).mono ?_
  rintro e w1 ⟨kv, rfl, b1, hg⟩
  obtain ⟨a1, n1, c1, rfl, hg⟩ := hg.lit2
  have HG : Hid (Got w1 (w.heap.size + 1 + 1) 84 3 (.slice a1 n1 c1) (vs.map Vc.cells)) := hg.mono (by simp)
  have HQ : Own w1 (w.heap.size + 1) 62 #[.slice none 0 0] := (Own.at (w.alloc (.cells #[.slice (some ⟨b, off, none⟩) vs.length p] 62)) _ _ (by simp)).on b1
  have hb1 : Below w.heap.size w w1 := (by repeat (first | with_reducible exact Below.refl _ _ | with_reducible assumption | with_reducible refine ch_alloc ?_ _ | with_reducible refine Below.drew ?_ | with_reducible refine below_draws _ ?_ | (with_reducible refine Below.setCell ?_ ?_ _; rotate_left; focus (first | with_reducible exact Nat.le_refl _ | (simp; done) | (simp; omega) | (simp at *; omega))) | with_reducible refine ch_trans ?_ (by with_reducible assumption)))
  clear b1 hg
  have g0 := HQ.loc.one
  have i0 := HQ.frozen 0
  go_wp2
  have HQ3 := HQ.set 0 (.slice a1 n1 c1)
  have HG3 : Hid (Got (w1.setCell ⟨w.heap.size + 1, 0, none⟩ (.slice a1 n1 c1)) (w.heap.size + 1 + 1) 84 3 (.slice a1 n1 c1) (vs.map Vc.cells)) := HG.out.turns ((Turns.refl (fun c => c = w.heap.size + 1) w1).set rfl _) (fun c h => by omega)
  have HB : Hid (Below w.heap.size w (w1.setCell ⟨w.heap.size + 1, 0, none⟩ (.slice a1 n1 c1))) := by show Below _ _ _; exact (by repeat (first | with_reducible exact Below.refl _ _ | with_reducible assumption | with_reducible refine ch_alloc ?_ _ | with_reducible refine Below.drew ?_ | with_reducible refine below_draws _ ?_ | (with_reducible refine Below.setCell ?_ ?_ _; rotate_left; focus (first | with_reducible exact Nat.le_refl _ | (simp; done) | (simp; omega) | (simp at *; omega))) | with_reducible refine ch_trans ?_ (by with_reducible assumption)))
  generalize w1.setCell ⟨w.heap.size + 1, 0, none⟩ (.slice a1 n1 c1) = W at HQ3 HG3 HB ⊢
  have e0 := HQ3.loc.one
  exact bodyPost_ret (v := .agg #[.slice a1 n1 c1]) (by simp [results, Try.results90, go_sem, e0]) rfl ⟨_, rfl, HB.out, HG3.out.mono (by omega)⟩

set_option maxRecDepth 100000 in
set_option maxHeartbeats 1000000 in
/-- spec.l03Row -/
theorem l03RowA (b off n p : Nat) (vs : List Vc) (w : World) (hv : ValsV w (.slice (some ⟨b, off, none⟩) n p) vs) (hl : vs.length ≤ 1048576) :
    Calls Try.prog 87 #[.agg #[.slice (some ⟨b, off, none⟩) n p]] w fun e w' => ∃ kv, e = .returned (.agg #[kv]) ∧ Below w.heap.size w w' ∧ Got w' w.heap.size 84 3 kv (vs.map Vc.cells) := by
  obtain ⟨a, p', e, hlp, hm, hv⟩ := hv.lit
  cases e
  unfold maxLen at hm
  have HR : Hid (RowAt w (some ⟨b, off, none⟩) 3 (vs.map Vc.cells)) := hv.row
  clear hv
  go_enter Try.func87, Try.ntmps87
  have HU : Hid (Got (((w.alloc (.cells #[.slice (some ⟨b, off, none⟩) vs.length p] 62)).alloc (.cells #[.slice none 0 0] 62)).alloc (.cells #[] 84)) (w.heap.size + 1 + 1) 84 3 (.slice (some ⟨w.heap.size + 1 + 1, 0, none⟩) 0 0) []) := Got.emptyAt _ _ _ (by simp)
  have HRU : Hid (RowAt (((w.alloc (.cells #[.slice (some ⟨b, off, none⟩) vs.length p] 62)).alloc (.cells #[.slice none 0 0] 62)).alloc (.cells #[] 84)) (some ⟨b, off, none⟩) 3 (vs.map Vc.cells)) := HR.out.on (by repeat (first | with_reducible exact Below.refl _ _ | with_reducible assumption | with_reducible refine ch_alloc ?_ _ | with_reducible refine Below.drew ?_ | with_reducible refine below_draws _ ?_ | (with_reducible refine Below.setCell ?_ ?_ _; rotate_left; focus (first | with_reducible exact Nat.le_refl _ | (simp; done) | (simp; omega) | (simp at *; omega))) | with_reducible refine ch_trans ?_ (by with_reducible assumption)))
  have HQ0 : Own (((w.alloc (.cells #[.slice (some ⟨b, off, none⟩) vs.length p] 62)).alloc (.cells #[.slice none 0 0] 62)).alloc (.cells #[] 84)) (w.heap.size + 1) 62 #[.slice none 0 0] := (Own.at (w.alloc (.cells #[.slice (some ⟨b, off, none⟩) vs.length p] 62)) _ _ (by simp)).on (ch_alloc (Below.refl _ _) _)
  have hbU : Below w.heap.size w (((w.alloc (.cells #[.slice (some ⟨b, off, none⟩) vs.length p] 62)).alloc (.cells #[.slice none 0 0] 62)).alloc (.cells #[] 84)) := (by repeat (first | with_reducible exact Below.refl _ _ | with_reducible assumption | with_reducible refine ch_alloc ?_ _ | with_reducible refine Below.drew ?_ | with_reducible refine below_draws _ ?_ | (with_reducible refine Below.setCell ?_ ?_ _; rotate_left; focus (first | with_reducible exact Nat.le_refl _ | (simp; done) | (simp; omega) | (simp at *; omega))) | with_reducible refine ch_trans ?_ (by with_reducible assumption)))
  have hsU : w.heap.size + 1 + 1 ≤ (((w.alloc (.cells #[.slice (some ⟨b, off, none⟩) vs.length p] 62)).alloc (.cells #[.slice none 0 0] 62)).alloc (.cells #[] 84)).heap.size := by simp
  go_wp2_with (at_builtin; refine app_lot rfl (.tmp 3) (.tmp 5) rfl Try.underlying60 infoVal rfl (by decide) (by decide) (w.heap.size + 1 + 1) _ [] rfl HU.out b off p (vs.map Vc.cells) vs.length (by simp) rfl HRU.out (vals_one vs) (by simp; omega) hsU ?_; intro v' w1 hg2 hb2; obtain ⟨a1, n1, c1, rfl, hg2⟩ := hg2.lit2; have HG : Hid (Got w1 (w.heap.size + 1 + 1) 84 3 (.slice a1 n1 c1) (vs.map Vc.cells)) := hg2; have HQ : Own w1 (w.heap.size + 1) 62 #[.slice none 0 0] := (hb2.block (w.heap.size + 1) (by omega)).trans HQ0; have hb1 : Below w.heap.size w w1 := hbU.trans (hb2.mono (by omega)); have g0 := HQ.loc.one; have i0 := HQ.frozen 0; clear hg2 hb2)
  have HQ3 := HQ.set 0 (.slice a1 n1 c1)
  have HG3 : Hid (Got (w1.setCell ⟨w.heap.size + 1, 0, none⟩ (.slice a1 n1 c1)) (w.heap.size + 1 + 1) 84 3 (.slice a1 n1 c1) (vs.map Vc.cells)) := HG.out.turns ((Turns.refl (fun c => c = w.heap.size + 1) w1).set rfl _) (fun c h => by omega)
  have HB : Hid (Below w.heap.size w (w1.setCell ⟨w.heap.size + 1, 0, none⟩ (.slice a1 n1 c1))) := hb1.setCell (by simp) _
  generalize w1.setCell ⟨w.heap.size + 1, 0, none⟩ (.slice a1 n1 c1) = W at HQ3 HG3 HB ⊢
  have e0 := HQ3.loc.one
  exact bodyPost_ret (v := .agg #[.slice a1 n1 c1]) (by simp [results, Try.results87, go_sem, e0]) rfl ⟨_, rfl, HB.out, HG3.out.mono (by omega)⟩
end Go.Proofs.Ytbjnonondnemhab
