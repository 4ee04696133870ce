/- Rows marked: texts. -/
import Derived.Test.YtiijahoheajppaaMark
import Derived.Test.YtiijahoheajppaaTb
import Derived.Deep.RegionWith
namespace Go.Proofs.Ytiijahoheajppaa
open Go.ChangeShapes Go.WideShapes Go.ChangeAt Go.RowKit

theorem rowIs_on {w w' : World} {b : Nat} {T : TypeId} {n : Nat} {f : Nat → Value} (h : w.rowIs b T n f) (k : Below w.heap.size w w') : w'.rowIs b T n f := h.of_block (k.block b h.lt)

set_option maxRecDepth 100000 in
set_option maxHeartbeats 1000000 in
/-- laws.markStringS -/
theorem markStringS_wide (b n cap m : Nat) (T : TypeId) (f : Nat → Value) (k : Nat) (w : World) (hr : w.rowIs b T m f) (hn : n ≤ m) (hl : n ≤ 2000000) (hk : k ≤ 8000000000000000000) :
    Calls Try.prog 20 #[.slice (some ⟨b, 0, none⟩) n cap, .int .i64 k] w fun e w' => e = .returned (.int .i64 ((k + n : Nat) : Int)) ∧ Turns (· = b) w w' ∧ w'.rowIs b T m (fun i => if i < n then .string (markB (k + i)) else f i) := by
  have HR : Hid (w.rowIs b T m (fun i => if i < 0 then .string (markB (k + i)) else f i)) := by
    show World.rowIs _ _ _ _ _
    exact hr.congr fun i _ => by simp
  clear hr
  go_enter Try.func20, Try.ntmps20
  go_wp2
  go_loopw [1, 5] (fun q i wr => ∃ j : Nat, j ≤ n ∧ i = .int .i64 j ∧ q = .int .i64 ((k + j : Nat) : Int) ∧ Hid (Turns (· = b) w wr) ∧ Hid (wr.rowIs b T m (fun i => if i < j then .string (markB (k + i)) else f i))) (fun _ i _ => n - (intOf i).toNat)
  case atStart => exact ⟨0, Nat.zero_le _, rfl, rfl, Turns.refl _ _, HR⟩
  case round =>
    clear HR
    obtain ⟨j, hj, rfl, rfl, HT, HR⟩ := hrel
    by_cases hlt : j < n
    · have hlti : (j : Int) < n := by omega
      go_wp2_with fail
      refine (markText_any (k + j) _ (by omega)).mono ?_
      rintro e w1 ⟨rfl, b1⟩
      have hR1 := rowIs_on HR.out b1
      have g0 := hR1.cell (i := j) (by omega)
      rw [if_neg (Nat.lt_irrefl _)] at g0
      have f0 := hR1.frozen j
      have HT' : Hid (Turns (· = b) w (w1.setCell ⟨b, j, none⟩ (.string (markB (k + j))))) := (HT.out.below b1).set rfl _
      have HR' : Hid ((w1.setCell ⟨b, j, none⟩ (.string (markB (k + j)))).rowIs b T m (fun i => if i < j + 1 then .string (markB (k + i)) else f i)) := by
        show World.rowIs _ _ _ _ _
        refine (hR1.set j (.string (markB (k + j)))).congr fun i hi => ?_
        by_cases e : i = j
        · subst e; simp
        · by_cases e2 : i < j
          · simp [e, e2, show i < j + 1 by omega]
          · simp [e, e2, show ¬ i < j + 1 by omega]
      have HB : Hid ((⟨(if k + j = 0 then [109, 48] else 109 :: markD (k + j) []).toArray⟩ : ByteArray) = markB (k + j)) := rfl
      rw [HB.out]
      clear hR1 HB
      generalize markB (k + j) = mb at HT' HR' ⊢
      go_wp2
      go_round
      case rel => exact ⟨j + 1, by omega, by go_num, by go_num, HT', HR'⟩
      case measure => simp [intOf]; omega
    · have hlti : (n : Int) ≤ j := by omega
      obtain rfl : j = n := by omega
      go_wp2
      go_ret
      exact ⟨rfl, HT.out, HR.out⟩
theorem markStringS_any (b n cap m : Nat) (T : TypeId) (f : Nat → Value) (k : Nat) (w : World) (hr : w.rowIs b T m f) (hn : n ≤ m) (hl : n ≤ 1048576) (hk : k ≤ 8000000000000000000) :
    Calls Try.prog 20 #[.slice (some ⟨b, 0, none⟩) n cap, .int .i64 k] w fun e w' => e = .returned (.int .i64 ((k + n : Nat) : Int)) ∧ Turns (· = b) w w' ∧ w'.rowIs b T m (fun i => if i < n then .string (markB (k + i)) else f i) :=
  markStringS_wide b n cap m T f k w hr hn (by omega) hk
end Go.Proofs.Ytiijahoheajppaa
