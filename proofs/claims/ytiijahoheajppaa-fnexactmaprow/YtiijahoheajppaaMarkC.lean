/- Rows marked: columns. -/
import Derived.Test.YtiijahoheajppaaMarkS
namespace Go.Proofs.Ytiijahoheajppaa
open Go.ChangeShapes Go.WideShapes Go.ChangeAt Go.RowKit

/-- What a mark leaves in a cell of a row of columns. -/
def markC (k c : Nat) : Value := match c % 7 with
  | 0 => .string (markB (k + c))
  | 1 => .int .i64 ((k + c : Nat) : Int)
  | 2 => .bool ((k + c) % 3 == 0)
  | 3 => .bool ((k + c) % 3 == 0)
  | 4 => .int .i64 ((k + c : Nat) : Int)
  | 5 => .int .i64 ((k + c : Nat) : Int)
  | _ => .string (markB (k + c))

theorem markC_all (k j K : Nat) (h : K = k + j * 7) : markC k (j * 7) = .string (markB K) ∧ markC k (j * 7 + 1) = .int .i64 ((K : Int) + 1) ∧ markC k (j * 7 + 2) = .bool (((K : Int) + 1 + 1) % 3 == 0) ∧ markC k (j * 7 + 3) = .bool (((K : Int) + 1 + 1 + 1) % 3 == 0) ∧ markC k (j * 7 + 4) = .int .i64 ((K : Int) + 1 + 1 + 1 + 1) ∧ markC k (j * 7 + 5) = .int .i64 ((K : Int) + 1 + 1 + 1 + 1 + 1) ∧ markC k (j * 7 + 6) = .string (markB (K + 6)) := by
  have e0 : (j * 7) % 7 = 0 := by omega
  have e1 : (j * 7 + 1) % 7 = 1 := by omega
  have e2 : (j * 7 + 2) % 7 = 2 := by omega
  have e3 : (j * 7 + 3) % 7 = 3 := by omega
  have e4 : (j * 7 + 4) % 7 = 4 := by omega
  have e5 : (j * 7 + 5) % 7 = 5 := by omega
  have e6 : (j * 7 + 6) % 7 = 6 := by omega
  have b2 : ((k + (j * 7 + 2)) % 3 == 0) = (((K : Int) + 1 + 1) % 3 == 0) := by rw [Bool.eq_iff_iff]; simp; omega
  have b3 : ((k + (j * 7 + 3)) % 3 == 0) = (((K : Int) + 1 + 1 + 1) % 3 == 0) := by rw [Bool.eq_iff_iff]; simp; omega
  refine ⟨?_, ?_, ?_, ?_, ?_, ?_, ?_⟩
  · simp only [markC, e0]; rw [h]
  · simp only [markC, e1]; congr 1; omega
  · simp only [markC, e2]; rw [b2]
  · simp only [markC, e3]; rw [b3]
  · simp only [markC, e4]; congr 1; omega
  · simp only [markC, e5]; congr 1; omega
  · simp only [markC, e6]; rw [h]; congr 2

set_option maxRecDepth 100000 in
set_option maxHeartbeats 1000000 in
/-- laws.markColS -/
theorem markColS_any (b n cap m : Nat) (T : TypeId) (f : Nat → Value) (k : Nat) (w : World) (hr : w.rowIs b T m f) (hn : n * 7 ≤ m) (hl : n ≤ 1048576) (hk : k ≤ 8000000000000000000) :
    Calls Try.prog 50 #[.slice (some ⟨b, 0, none⟩) n cap, .int .i64 k] w fun e w' => e = .returned (.int .i64 ((k + n * 7 : Nat) : Int)) ∧ Turns (· = b) w w' ∧ w'.rowIs b T m (fun i => if i < n * 7 then markC k i else f i) := by
  have HR : Hid (w.rowIs b T m (fun i => if i < 0 * 7 then markC k i else f i)) := by
    show World.rowIs _ _ _ _ _
    exact hr.congr fun i _ => by simp
  clear hr
  go_enter Try.func50, Try.ntmps50
  go_wp2
  go_loopw [1, 5] (fun q i wr => ∃ j K : Nat, j ≤ n ∧ i = .int .i64 j ∧ q = .int .i64 (K : Int) ∧ Hid (K = k + j * 7) ∧ Hid (Turns (· = b) w wr) ∧ Hid (wr.rowIs b T m (fun i => if i < j * 7 then markC k i else f i))) (fun _ i _ => n - (intOf i).toNat)
  case atStart => exact ⟨0, k, Nat.zero_le _, rfl, rfl, by show k = _; omega, Turns.refl _ _, HR⟩
  case round =>
    clear HR
    obtain ⟨j, K, hj, rfl, rfl, HK, HT, HR⟩ := hrel
    have hKb : K ≤ 8100000000000000000 := by have := HK.out; omega
    by_cases hlt : j < n
    · have hlti : (j : Int) < n := by omega
      go_wp2_with fail
      refine (markText_any K _ (by omega)).mono ?_
      rintro e w1 ⟨rfl, b1⟩
      have hR1 := rowIs_on HR.out b1
      have g0 := hR1.cell (i := j * 7) (by omega)
      have g1 := hR1.cell (i := j * 7 + 1) (by omega)
      have g2 := hR1.cell (i := j * 7 + 2) (by omega)
      have g3 := hR1.cell (i := j * 7 + 3) (by omega)
      have g4 := hR1.cell (i := j * 7 + 4) (by omega)
      have g5 := hR1.cell (i := j * 7 + 5) (by omega)
      have g6 := hR1.cell (i := j * 7 + 6) (by omega)
      have f0 := hR1.frozen (j * 7)
      have f1 := hR1.frozen (j * 7 + 1)
      have f2 := hR1.frozen (j * 7 + 2)
      have f3 := hR1.frozen (j * 7 + 3)
      have f4 := hR1.frozen (j * 7 + 4)
      have f5 := hR1.frozen (j * 7 + 5)
      have f6 := hR1.frozen (j * 7 + 6)
      have HR1 : Hid (w1.rowIs b T m (fun i => if i < j * 7 then markC k i else f i)) := hR1
      have HT1 : Hid (Turns (· = b) w w1) := HT.out.below b1
      have HB : Hid ((⟨(if K = 0 then [109, 48] else 109 :: markD K []).toArray⟩ : ByteArray) = markB K) := rfl
      rw [HB.out]
      clear hR1 HB
      go_wp2_with fail
      rw [show ((K : Int) + 1 + 1 + 1 + 1 + 1 + 1) = ((K + 6 : Nat) : Int) by omega]
      have hR6 := ((((((HR1.out.set (j * 7) (.string (markB K))).set (j * 7 + 1) (.int .i64 ((K : Int) + 1))).set (j * 7 + 2) (.bool (((K : Int) + 1 + 1) % 3 == 0))).set (j * 7 + 3) (.bool (((K : Int) + 1 + 1 + 1) % 3 == 0))).set (j * 7 + 4) (.int .i64 ((K : Int) + 1 + 1 + 1 + 1))).set (j * 7 + 4 + 1) (.int .i64 ((K : Int) + 1 + 1 + 1 + 1 + 1)))
      have HT6 : Hid (Turns (· = b) w ((((((w1.setCell ⟨b, j * 7, none⟩ (.string (markB K))).setCell ⟨b, j * 7 + 1, none⟩ (.int .i64 ((K : Int) + 1))).setCell ⟨b, j * 7 + 2, none⟩ (.bool (((K : Int) + 1 + 1) % 3 == 0))).setCell ⟨b, j * 7 + 3, none⟩ (.bool (((K : Int) + 1 + 1 + 1) % 3 == 0))).setCell ⟨b, j * 7 + 4, none⟩ (.int .i64 ((K : Int) + 1 + 1 + 1 + 1))).setCell ⟨b, j * 7 + 4 + 1, none⟩ (.int .i64 ((K : Int) + 1 + 1 + 1 + 1 + 1)))) := ((((((HT1.out.set (S := (· = b)) (p := ⟨b, j * 7, none⟩) rfl (.string (markB K))).set (S := (· = b)) (p := ⟨b, j * 7 + 1, none⟩) rfl (.int .i64 ((K : Int) + 1))).set (S := (· = b)) (p := ⟨b, j * 7 + 2, none⟩) rfl (.bool (((K : Int) + 1 + 1) % 3 == 0))).set (S := (· = b)) (p := ⟨b, j * 7 + 3, none⟩) rfl (.bool (((K : Int) + 1 + 1 + 1) % 3 == 0))).set (S := (· = b)) (p := ⟨b, j * 7 + 4, none⟩) rfl (.int .i64 ((K : Int) + 1 + 1 + 1 + 1))).set (S := (· = b)) (p := ⟨b, j * 7 + 4 + 1, none⟩) rfl (.int .i64 ((K : Int) + 1 + 1 + 1 + 1 + 1)))
      obtain ⟨F6, HF6⟩ : ∃ F, Hid (F = fun i => if i < j * 7 then markC k i else if i = j * 7 then .string (markB K) else if i = j * 7 + 1 then .int .i64 ((K : Int) + 1) else if i = j * 7 + 2 then .bool (((K : Int) + 1 + 1) % 3 == 0) else if i = j * 7 + 3 then .bool (((K : Int) + 1 + 1 + 1) % 3 == 0) else if i = j * 7 + 4 then .int .i64 ((K : Int) + 1 + 1 + 1 + 1) else if i = j * 7 + 5 then .int .i64 ((K : Int) + 1 + 1 + 1 + 1 + 1) else f i) := ⟨_, rfl⟩
      have HR6 : Hid (World.rowIs ((((((w1.setCell ⟨b, j * 7, none⟩ (.string (markB K))).setCell ⟨b, j * 7 + 1, none⟩ (.int .i64 ((K : Int) + 1))).setCell ⟨b, j * 7 + 2, none⟩ (.bool (((K : Int) + 1 + 1) % 3 == 0))).setCell ⟨b, j * 7 + 3, none⟩ (.bool (((K : Int) + 1 + 1 + 1) % 3 == 0))).setCell ⟨b, j * 7 + 4, none⟩ (.int .i64 ((K : Int) + 1 + 1 + 1 + 1))).setCell ⟨b, j * 7 + 4 + 1, none⟩ (.int .i64 ((K : Int) + 1 + 1 + 1 + 1 + 1))) b T m F6) := by
        show World.rowIs _ _ _ _ _
        rw [HF6.out]
        refine hR6.congr fun i hi => ?_
        by_cases h0 : i = j * 7 + 5
        · subst h0; simp; intro h; omega
        by_cases h1 : i = j * 7 + 4
        · subst h1; simp; intro h; omega
        by_cases h2 : i = j * 7 + 3
        · subst h2; simp; intro h; omega
        by_cases h3 : i = j * 7 + 2
        · subst h3; simp; intro h; omega
        by_cases h4 : i = j * 7 + 1
        · subst h4; simp; intro h; omega
        by_cases h5 : i = j * 7
        · subst h5; simp; omega
        · simp [h0, h1, h2, h3, h4, h5]
      clear hR6 g0 g1 g2 g3 g4 g5 g6 f0 f1 f2 f3 f4 f5 f6
      generalize ((((((w1.setCell ⟨b, j * 7, none⟩ (.string (markB K))).setCell ⟨b, j * 7 + 1, none⟩ (.int .i64 ((K : Int) + 1))).setCell ⟨b, j * 7 + 2, none⟩ (.bool (((K : Int) + 1 + 1) % 3 == 0))).setCell ⟨b, j * 7 + 3, none⟩ (.bool (((K : Int) + 1 + 1 + 1) % 3 == 0))).setCell ⟨b, j * 7 + 4, none⟩ (.int .i64 ((K : Int) + 1 + 1 + 1 + 1))).setCell ⟨b, j * 7 + 4 + 1, none⟩ (.int .i64 ((K : Int) + 1 + 1 + 1 + 1 + 1))) = W6 at HT6 HR6 ⊢
      refine (markText_any (K + 6) W6 (by omega)).mono ?_
      rintro e w2 ⟨rfl, b2⟩
      have hR2 := rowIs_on HR6.out b2
      have g6 := hR2.cell (i := j * 7 + 4 + 2) (by omega)
      have f6 := hR2.frozen (j * 7 + 4 + 2)
      have HT' : Hid (Turns (· = b) w (w2.setCell ⟨b, j * 7 + 4 + 2, none⟩ (.string (markB (K + 6))))) := (HT6.out.below b2).set rfl _
      have HR' : Hid ((w2.setCell ⟨b, j * 7 + 4 + 2, none⟩ (.string (markB (K + 6)))).rowIs b T m (fun i => if i < (j + 1) * 7 then markC k i else f i)) := by
        show World.rowIs _ _ _ _ _
        obtain ⟨m0, m1, m2, m3, m4, m5, m6⟩ := markC_all k j K HK.out
        refine (hR2.set (j * 7 + 4 + 2) (.string (markB (K + 6)))).congr fun i hi => ?_
        rw [HF6.out]
        by_cases h6 : i = j * 7 + 4 + 2
        · subst h6; rw [if_pos rfl, if_pos (by omega)]; exact m6.symm
        rw [if_neg h6]
        simp only []
        by_cases a0 : i < j * 7
        · rw [if_pos a0, if_pos (by omega)]
        rw [if_neg a0]
        by_cases a1 : i = j * 7
        · subst a1; rw [if_pos rfl, if_pos (by omega)]; exact m0.symm
        rw [if_neg a1]
        by_cases a2 : i = j * 7 + 1
        · subst a2; rw [if_pos rfl, if_pos (by omega)]; exact m1.symm
        rw [if_neg a2]
        by_cases a3 : i = j * 7 + 2
        · subst a3; rw [if_pos rfl, if_pos (by omega)]; exact m2.symm
        rw [if_neg a3]
        by_cases a4 : i = j * 7 + 3
        · subst a4; rw [if_pos rfl, if_pos (by omega)]; exact m3.symm
        rw [if_neg a4]
        by_cases a5 : i = j * 7 + 4
        · subst a5; rw [if_pos rfl, if_pos (by omega)]; exact m4.symm
        rw [if_neg a5]
        by_cases a6 : i = j * 7 + 5
        · subst a6; rw [if_pos rfl, if_pos (by omega)]; exact m5.symm
        rw [if_neg a6]
        rw [if_neg (by omega)]
      have HB : Hid ((⟨(if K + 6 = 0 then [109, 48] else 109 :: markD (K + 6) []).toArray⟩ : ByteArray) = markB (K + 6)) := rfl
      rw [HB.out]
      clear hR2 HB
      generalize markB (K + 6) = mb at HT' HR' ⊢
      go_wp2
      go_round
      case rel => exact ⟨j + 1, K + 7, by omega, by go_num, by go_num, by show K + 7 = _; have := HK.out; omega, HT', HR'⟩
      case measure => simp [intOf]; omega
    · have hlti : (n : Int) ≤ j := by omega
      obtain rfl : j = n := by omega
      have HE : Hid (((k + j * 7 : Nat) : Int) = K) := by show _ = _; rw [HK.out]
      go_wp2
      go_ret
      exact ⟨by rw [HE.out]; rfl, HT.out, HR.out⟩
end Go.Proofs.Ytiijahoheajppaa
