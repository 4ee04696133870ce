/- Rows marked and read again: values; tables and rows marked. -/
import Derived.Test.YtiijahoheajppaaMarkC
import Derived.Test.YtiijahoheajppaaCp
import Derived.Test.YtiijahoheajppaaAp
namespace Go.Proofs.Ytiijahoheajppaa
open Go.ChangeShapes Go.WideShapes Go.ChangeAt Go.RowKit

/-- What a mark leaves in cell c of values. -/
def markV (k c : Nat) : Value := match c % 3 with
  | 0 => .int .i64 ((k + c : Nat) : Int)
  | 1 => .int .i64 ((k + c : Nat) : Int)
  | _ => .string (markB (k + c))
theorem markV_all (k j K : Nat) (h : K = k + j * 3) : markV k (j * 3) = .int .i64 (K : Int) ∧ markV k (j * 3 + 1) = .int .i64 ((K : Int) + 1) ∧ markV k (j * 3 + 2) = .string (markB (K + 2)) := by
  subst h
  refine ⟨?_, ?_, ?_⟩
  · rw [markV, show j * 3 % 3 = 0 by omega]
    rfl
  · rw [markV, show (j * 3 + 1) % 3 = 1 by omega]
    simp only []
    rw [show ((k + (j * 3 + 1) : Nat) : Int) = ((k + j * 3 : Nat) : Int) + 1 by omega]
  · rw [markV, show (j * 3 + 2) % 3 = 2 by omega]
    simp only []
    rw [show k + (j * 3 + 2) = k + j * 3 + 2 by omega]

set_option maxRecDepth 100000 in
set_option maxHeartbeats 1000000 in
/-- laws.markValS -/
theorem markValS_any (b n cap m : Nat) (T : TypeId) (f : Nat → Value) (k : Nat) (w : World) (hr : w.rowIs b T m f) (hn : n * 3 ≤ m) (hl : n ≤ 1048576) (hk : k ≤ 8000000000000000000) :
    Calls Try.prog 22 #[.slice (some ⟨b, 0, none⟩) n cap, .int .i64 k] w fun e w' => e = .returned (.int .i64 ((k + n * 3 : Nat) : Int)) ∧ Turns (· = b) w w' ∧ w'.rowIs b T m (fun i => if i < n * 3 then markV k i else f i) := by
  have HR : Hid (w.rowIs b T m (fun i => if i < 0 * 3 then markV k i else f i)) := by
    show World.rowIs _ _ _ _ _
    exact hr.congr fun i _ => by simp
  clear hr
  go_enter Try.func22, Try.ntmps22
  go_wp2
  go_loopw [1, 5] (fun q i wr => ∃ j K : Nat, j ≤ n ∧ i = .int .i64 j ∧ q = .int .i64 (K : Int) ∧ Hid (K = k + j * 3) ∧ Hid (Turns (· = b) w wr) ∧ Hid (wr.rowIs b T m (fun i => if i < j * 3 then markV k i else f i))) (fun _ i _ => n - (intOf i).toNat)
  case atStart => exact ⟨0, k, Nat.zero_le _, rfl, rfl, by show k = _; omega, Turns.refl _ _, HR⟩
  case round =>
    clear HR
    obtain ⟨j, K, hj, rfl, rfl, HK, HT, HR⟩ := hrel
    have hKb : K ≤ 8100000000000000000 := by have := HK.out; omega
    by_cases hlt : j < n
    · have hlti : (j : Int) < n := by omega
      have hR1 := HR.out
      have g0 := hR1.cell (i := j * 3) (by omega)
      have g1 := hR1.cell (i := j * 3 + 1) (by omega)
      have g2 := hR1.cell (i := j * 3 + 2) (by omega)
      have f0 := hR1.frozen (j * 3)
      have f1 := hR1.frozen (j * 3 + 1)
      have f2 := hR1.frozen (j * 3 + 2)
      clear hR1
      go_wp2_with fail
      rw [show ((K : Int) + 1 + 1) = ((K + 2 : Nat) : Int) by omega]
      have hR6 := (HR.out.set (j * 3) (.int .i64 (K : Int))).set (j * 3 + 1) (.int .i64 ((K : Int) + 1))
      have HT6 : Hid (Turns (· = b) w ((wr.setCell ⟨b, j * 3, none⟩ (.int .i64 (K : Int))).setCell ⟨b, j * 3 + 1, none⟩ (.int .i64 ((K : Int) + 1)))) := (HT.out.set rfl _).set rfl _
      obtain ⟨F6, HF6⟩ : ∃ F, Hid (F = fun i => if i < j * 3 then markV k i else if i = j * 3 then .int .i64 (K : Int) else if i = j * 3 + 1 then .int .i64 ((K : Int) + 1) else f i) := ⟨_, rfl⟩
      have HR6 : Hid (World.rowIs ((wr.setCell ⟨b, j * 3, none⟩ (.int .i64 (K : Int))).setCell ⟨b, j * 3 + 1, none⟩ (.int .i64 ((K : Int) + 1))) b T m F6) := by
        show World.rowIs _ _ _ _ _
        rw [HF6.out]
        refine hR6.congr fun i hi => ?_
        by_cases h4 : i = j * 3 + 1
        · subst h4; simp; intro h; omega
        by_cases h5 : i = j * 3
        · subst h5; simp
        · simp [h4, h5]
      clear hR6 g0 g1 g2 f0 f1 f2
      generalize ((wr.setCell ⟨b, j * 3, none⟩ (.int .i64 (K : Int))).setCell ⟨b, j * 3 + 1, none⟩ (.int .i64 ((K : Int) + 1))) = W6 at HT6 HR6 ⊢
      refine (markText_any (K + 2) W6 (by omega)).mono ?_
      rintro e w2 ⟨rfl, b2⟩
      have hR2 := rowIs_on HR6.out b2
      have g6 := hR2.cell (i := j * 3 + 2) (by omega)
      have f6 := hR2.frozen (j * 3 + 2)
      have HT' : Hid (Turns (· = b) w (w2.setCell ⟨b, j * 3 + 2, none⟩ (.string (markB (K + 2))))) := (HT6.out.below b2).set rfl _
      have HR' : Hid ((w2.setCell ⟨b, j * 3 + 2, none⟩ (.string (markB (K + 2)))).rowIs b T m (fun i => if i < (j + 1) * 3 then markV k i else f i)) := by
        show World.rowIs _ _ _ _ _
        obtain ⟨m0, m1, m2⟩ := markV_all k j K HK.out
        refine (hR2.set (j * 3 + 2) (.string (markB (K + 2)))).congr fun i hi => ?_
        rw [HF6.out]
        by_cases h6 : i = j * 3 + 2
        · subst h6; rw [if_pos rfl, if_pos (by omega)]; exact m2.symm
        rw [if_neg h6]
        simp only []
        by_cases a0 : i < j * 3
        · rw [if_pos a0, if_pos (by omega)]
        rw [if_neg a0]
        by_cases a1 : i = j * 3
        · subst a1; rw [if_pos rfl, if_pos (by omega)]; exact m0.symm
        rw [if_neg a1]
        by_cases a2 : i = j * 3 + 1
        · subst a2; rw [if_pos rfl, if_pos (by omega)]; exact m1.symm
        rw [if_neg a2]
        rw [if_neg (by omega)]
      have HB : Hid ((⟨(if K + 2 = 0 then [109, 48] else 109 :: markD (K + 2) []).toArray⟩ : ByteArray) = markB (K + 2)) := rfl
      rw [HB.out]
      clear hR2 HB
      generalize markB (K + 2) = mb at HT' HR' ⊢
      go_wp2
      go_round
      case rel => exact ⟨j + 1, K + 3, by omega, by go_num, by go_num, by show K + 3 = _; have := HK.out; omega, HT', HR'⟩
      case measure => simp [intOf]; omega
    · have hlti : (n : Int) ≤ j := by omega
      obtain rfl : j = n := by omega
      have HE : Hid (((k + j * 3 : Nat) : Int) = K) := by show _ = _; rw [HK.out]
      go_wp2
      go_ret
      exact ⟨by rw [HE.out]; rfl, HT.out, HR.out⟩

set_option maxRecDepth 100000 in
set_option maxHeartbeats 2000000 in
/-- laws.heldValS -/
theorem heldValS_any (b n cap m : Nat) (T : TypeId) (f : Nat → Value) (k : Nat) (w : World) (hr : w.rowIs b T m f) (hn : n * 3 ≤ m) (hl : n ≤ 1048576) (hk : k ≤ 8000000000000000000) (hf : ∀ i, i < n * 3 → f i = markV k i) :
    Calls Try.prog 27 #[.slice (some ⟨b, 0, none⟩) n cap, .int .i64 k] w fun e w' => e = .returned (.int .i64 ((k + n * 3 : Nat) : Int)) ∧ Below w.heap.size w w' := by
  have HR : Hid (w.rowIs b T m f) := hr
  have HF : Hid (∀ i, i < n * 3 → f i = markV k i) := hf
  clear hr hf
  go_enter Try.func27, Try.ntmps27
  go_wp2
  go_loopw [1, 5] (fun q i wr => ∃ j K : Nat, j ≤ n ∧ i = .int .i64 j ∧ q = .int .i64 (K : Int) ∧ Hid (K = k + j * 3) ∧ Below w.heap.size w wr) (fun _ i _ => n - (intOf i).toNat)
  case atStart => exact ⟨0, k, Nat.zero_le _, rfl, rfl, by show k = _; omega, (by repeat (first | with_reducible exact Below.refl _ _ | with_reducible assumption | with_reducible refine ch_alloc ?_ _ | with_reducible refine Below.drew ?_ | with_reducible refine below_draws _ ?_ | (with_reducible refine Below.setCell ?_ ?_ _; rotate_left; focus (first | with_reducible exact Nat.le_refl _ | (simp; done) | (simp; omega) | (simp at *; omega))) | with_reducible refine ch_trans ?_ (by with_reducible assumption)))⟩
  case round =>
    obtain ⟨j, K, hj, rfl, rfl, HK, hb⟩ := hrel
    have hKb : K ≤ 8100000000000000000 := by have := HK.out; omega
    by_cases hlt : j < n
    · have hlti : (j : Int) < n := by omega
      obtain ⟨m0, m1, m2⟩ := markV_all k j K HK.out
      have hR := rowIs_on HR.out hb
      have g0 := hR.cell (i := j * 3) (by omega)
      have g1 := hR.cell (i := j * 3 + 1) (by omega)
      have g2 := hR.cell (i := j * 3 + 2) (by omega)
      rw [HF.out _ (by omega), m0] at g0
      rw [HF.out _ (by omega), m1] at g1
      rw [HF.out _ (by omega), m2] at g2
      have HS6 : Hid (∀ u : World, Calls Try.prog 49 #[.int .i64 ((K : Int) + 1 + 1)] u fun e w' => e = .returned (.string (markB (K + 2))) ∧ Below u.heap.size u w') := fun u => by
        rw [show ((K : Int) + 1 + 1) = ((K + 2 : Nat) : Int) by omega]
        exact markText_any (K + 2) u (by omega)
      generalize markB (K + 2) = mb6 at HS6 g2
      clear m0 m1 m2 hR
      go_wp2_with fail
      go_region_with (go_at_call 49; refine (HS6.out _).mono ?_; rintro e w2 ⟨rfl, b2⟩; have i6 := cell_on (w' := w2) g2 (by repeat (first | with_reducible exact Below.refl _ _ | with_reducible assumption | with_reducible refine ch_alloc ?_ _ | with_reducible refine Below.drew ?_ | with_reducible refine below_draws _ ?_ | (with_reducible refine Below.setCell ?_ ?_ _; rotate_left; focus (first | with_reducible exact Nat.le_refl _ | (simp; done) | (simp; omega) | (simp at *; omega))) | with_reducible refine ch_trans ?_ (by with_reducible assumption))))
      all_goals
        go_wp2
        go_round
        case rel => exact ⟨j + 1, K + 3, by omega, by go_num, by go_num, by show K + 3 = _; have := HK.out; omega, (by repeat (first | with_reducible exact Below.refl _ _ | with_reducible assumption | with_reducible refine ch_alloc ?_ _ | with_reducible refine Below.drew ?_ | with_reducible refine below_draws _ ?_ | (with_reducible refine Below.setCell ?_ ?_ _; rotate_left; focus (first | with_reducible exact Nat.le_refl _ | (simp; done) | (simp; omega) | (simp at *; omega))) | with_reducible refine ch_trans ?_ (by with_reducible assumption)))⟩
        case measure => simp [intOf]; omega
    · have hlti : (n : Int) ≤ j := by omega
      obtain rfl : j = n := by omega
      have HE : Hid (((k + j * 3 : Nat) : Int) = K) := by show _ = _; rw [HK.out]
      go_wp2
      go_ret
      exact ⟨by rw [HE.out]; rfl, (by repeat (first | with_reducible exact Below.refl _ _ | with_reducible assumption | with_reducible refine ch_alloc ?_ _ | with_reducible refine Below.drew ?_ | with_reducible refine below_draws _ ?_ | (with_reducible refine Below.setCell ?_ ?_ _; rotate_left; focus (first | with_reducible exact Nat.le_refl _ | (simp; done) | (simp; omega) | (simp at *; omega))) | with_reducible refine ch_trans ?_ (by with_reducible assumption)))⟩

set_option maxRecDepth 100000 in
/-- laws.markRow -/
theorem markRow_any (b n cap m : Nat) (T : TypeId) (f : Nat → Value) (k : Nat) (w : World) (hr : w.rowIs b T m f) (hn : n * 3 ≤ m) (hl : n ≤ 1048576) (hk : k ≤ 8000000000000000000) :
    Calls Try.prog 23 #[.agg #[.slice (some ⟨b, 0, none⟩) n cap], .int .i64 k] w fun e w' => e = .returned (.int .i64 ((k + n * 3 : Nat) : Int)) ∧ Turns (· = b) w w' := by
  have HR : Hid (w.rowIs b T m f) := hr
  clear hr
  go_enter Try.func23, Try.ntmps23
  go_wp2_with fail
  refine (markValS_any b n cap m T f k _ (rowIs_on HR.out (ch_alloc (Below.refl _ _) _)) hn hl hk).mono ?_
  rintro e w1 ⟨rfl, h1, _⟩
  have HT : Hid (Turns (· = b) w w1) := (Turns.below (Turns.refl _ _) (ch_alloc (Below.refl _ _) _)).trans h1
  clear h1
  go_wp2
  go_ret
  exact ⟨rfl, HT.out⟩

set_option maxRecDepth 100000 in
set_option maxHeartbeats 1000000 in
/-- laws.markTable -/
theorem markTable_any (name : ByteArray) (b n cap m : Nat) (T : TypeId) (f : Nat → Value) (b' n' cap' m' : Nat) (T' : TypeId) (f' : Nat → Value) (k : Nat) (w : World) (hr : w.rowIs b T m f) (hn : n * 7 ≤ m) (hl : n ≤ 1048576) (hr' : w.rowIs b' T' m' f') (hn' : n' ≤ m') (hl' : n' ≤ 1048576) (hne : b ≠ b') (hk : k ≤ 7000000000000000000) :
    Calls Try.prog 21 #[.agg #[.string name, .slice (some ⟨b, 0, none⟩) n cap, .slice (some ⟨b', 0, none⟩) n' cap'], .int .i64 k] w fun e w' => e = .returned (.int .i64 ((k + n * 7 + n' : Nat) : Int)) ∧ Turns (fun c => c = b ∨ c = b') w w' := by
  have HR : Hid (w.rowIs b T m f) := hr
  have HR' : Hid (w.rowIs b' T' m' f') := hr'
  have HL := Loc.new w #[.string name, .slice (some ⟨b, 0, none⟩) n cap, .slice (some ⟨b', 0, none⟩) n' cap'] 32
  have hblt := hr.lt
  clear hr hr'
  go_enter Try.func21, Try.ntmps21
  go_wp2_with fail
  refine (markColS_any b n cap m T f k _ (rowIs_on HR.out (ch_alloc (Below.refl _ _) _)) hn hl (by omega)).mono ?_
  rintro e w1 ⟨rfl, h1, _⟩
  have HT1 : Hid (Turns (· = b) w w1) := (Turns.below (Turns.refl _ _) (ch_alloc (Below.refl _ _) _)).trans h1
  have hR2 : w1.rowIs b' T' m' f' := HR'.out.of_block (HT1.out.block b' HR'.out.lt (by omega))
  have c2 : w1.cell? ⟨w.heap.size, 2, none⟩ = some (.slice (some ⟨b', 0, none⟩) n' cap') := h1.cell (by show ¬ w.heap.size = b; omega) (HL 2 (by simp))
  have HR2 : Hid (w1.rowIs b' T' m' f') := hR2
  clear h1 hR2
  go_wp2_with fail
  refine (markStringS_any b' n' cap' m' T' f' (k + n * 7) _ HR2.out hn' hl' (by omega)).mono ?_
  rintro e w2 ⟨rfl, h2, _⟩
  have HT2 : Hid (Turns (fun c => c = b ∨ c = b') w w2) := (HT1.out.mono fun c h => Or.inl h).trans (h2.mono fun c h => Or.inr h)
  clear h2
  go_wp2
  go_ret
  exact ⟨rfl, HT2.out⟩
end Go.Proofs.Ytiijahoheajppaa
