/- Rows marked and read again: values; tables and rows marked. -/
import Derived.Test.YtmkgbdgafjeeiahMarkC
import Derived.Test.YtmkgbdgafjeeiahCp
import Derived.Test.YtmkgbdgafjeeiahAp
namespace Go.Proofs.Ytmkgbdgafjeeiah
open Go.ChangeShapes Go.WideShapes Go.ChangeAt Go.RowKit

/-- What a mark leaves in cell c of values. -/
def markV (k c : Nat) : Value := match c % 3 with
  | 0 => .int .i64 ((k + c : Nat) : Int)
  | 1 => .int .i64 ((k + c : Nat) : Int)
  | _ => .string (markB (k + c))
theorem markV_all (k j K : Nat) (h : K = k + j * 3) : markV k (j * 3) = .int .i64 (K : Int) ∧ markV k (j * 3 + 1) = .int .i64 ((K : Int) + 1) ∧ markV k (j * 3 + 2) = .string (markB (K + 2)) := by
  subst h
  refine ⟨?_, ?_, ?_⟩
  · rw [markV, show j * 3 % 3 = 0 by omega]
    rfl
  · rw [markV, show (j * 3 + 1) % 3 = 1 by omega]
    simp only []
    rw [show ((k + (j * 3 + 1) : Nat) : Int) = ((k + j * 3 : Nat) : Int) + 1 by omega]
  · rw [markV, show (j * 3 + 2) % 3 = 2 by omega]
    simp only []
    rw [show k + (j * 3 + 2) = k + j * 3 + 2 by omega]

set_option maxRecDepth 100000 in
set_option maxHeartbeats 1000000 in
/-- laws.markTable -/
theorem markTable_any (name : ByteArray) (b n cap m : Nat) (T : TypeId) (f : Nat → Value) (b' n' cap' m' : Nat) (T' : TypeId) (f' : Nat → Value) (k : Nat) (w : World) (hr : w.rowIs b T m f) (hn : n * 7 ≤ m) (hl : n ≤ 1048576) (hr' : w.rowIs b' T' m' f') (hn' : n' ≤ m') (hl' : n' ≤ 1048576) (hne : b ≠ b') (hk : k ≤ 7000000000000000000) :
    Calls Try.prog 26 #[.agg #[.string name, .slice (some ⟨b, 0, none⟩) n cap, .slice (some ⟨b', 0, none⟩) n' cap'], .int .i64 k] w fun e w' => e = .returned (.int .i64 ((k + n * 7 + n' : Nat) : Int)) ∧ Turns (fun c => c = b ∨ c = b') w w' := by
  have HR : Hid (w.rowIs b T m f) := hr
  have HR' : Hid (w.rowIs b' T' m' f') := hr'
  have HL := Loc.new w #[.string name, .slice (some ⟨b, 0, none⟩) n cap, .slice (some ⟨b', 0, none⟩) n' cap'] 41
  have hblt := hr.lt
  clear hr hr'
  go_enter Try.func26, Try.ntmps26
  go_wp2_with fail
  refine (markColS_any b n cap m T f k _ (rowIs_on HR.out (ch_alloc (Below.refl _ _) _)) hn hl (by omega)).mono ?_
  rintro e w1 ⟨rfl, h1, _⟩
  have HT1 : Hid (Turns (· = b) w w1) := (Turns.below (Turns.refl _ _) (ch_alloc (Below.refl _ _) _)).trans h1
  have hR2 : w1.rowIs b' T' m' f' := HR'.out.of_block (HT1.out.block b' HR'.out.lt (by omega))
  have c2 : w1.cell? ⟨w.heap.size, 2, none⟩ = some (.slice (some ⟨b', 0, none⟩) n' cap') := h1.cell (by show ¬ w.heap.size = b; omega) (HL 2 (by simp))
  have HR2 : Hid (w1.rowIs b' T' m' f') := hR2
  clear h1 hR2
  go_wp2_with fail
  refine (markStringS_any b' n' cap' m' T' f' (k + n * 7) _ HR2.out hn' hl' (by omega)).mono ?_
  rintro e w2 ⟨rfl, h2, _⟩
  have HT2 : Hid (Turns (fun c => c = b ∨ c = b') w w2) := (HT1.out.mono fun c h => Or.inl h).trans (h2.mono fun c h => Or.inr h)
  clear h2
  go_wp2
  go_ret
  exact ⟨rfl, HT2.out⟩
end Go.Proofs.Ytmkgbdgafjeeiah
