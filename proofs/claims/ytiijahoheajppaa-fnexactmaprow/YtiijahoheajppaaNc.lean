/- The names of a table's columns, landed. -/
import Derived.Test.YtiijahoheajppaaAp
import Derived.Test.YtiijahoheajppaaTab
namespace Go.Proofs.Ytiijahoheajppaa
open Go.ChangeShapes Go.WideShapes Go.ChangeAt Go.RowKit

def colNames (t : Tc) : List ByteArray := t.cols.map fun c => c.name
theorem infoStrN : (Try.prog.info? 9).map (fun i => (i.zero, i.size, i.bytes)) = some (some (.string ByteArray.empty), 1, 16) := by kernel_rfl
theorem str_allN (s : ByteArray) : ∀ u ∈ (strX s).toList, u.oneCell' = true := by intro u hu; simp at hu; subst hu; rfl

set_option maxRecDepth 100000 in
set_option maxHeartbeats 2000000 in
/-- impl.colNames -/
theorem colNames_any (x : Array Value) (t : Tc) (w : World) (hx : TabV w x t) (hn : t.cols.length ≤ 1048576) :
    Calls Try.prog 39 #[.agg x] w fun e w' => ∃ v, e = .returned v ∧ Below w.heap.size w w' ∧ Got w' w.heap.size 9 1 v ((colNames t).map strX) := by
  obtain ⟨cv, kv, rfl, hcv, hkv⟩ := hx
  obtain ⟨a, p, rfl, hp, hp', hr⟩ := hcv
  unfold maxLen at hp'
  have HCV : Hid (RowAt w a 7 (t.cols.map Cl.cells)) := hr
  have HL := Loc.new w #[.string t.name, .slice a t.cols.length p, kv] 32
  have hb0 : Below w.heap.size w (w.alloc (.cells #[.string t.name, .slice a t.cols.length p, kv] 32)) := (by repeat (first | with_reducible exact Below.refl _ _ | with_reducible assumption | with_reducible refine ch_alloc ?_ _ | with_reducible refine Below.drew ?_ | with_reducible refine below_draws _ ?_ | (with_reducible refine Below.setCell ?_ ?_ _; rotate_left; focus (first | with_reducible exact Nat.le_refl _ | (simp; done) | (simp; omega) | (simp at *; omega))) | with_reducible refine ch_trans ?_ (by with_reducible assumption)))
  clear hr hkv
  obtain ⟨l0, l1, l2⟩ := HL.three
  have HG0 : Hid (Got (w.alloc (.cells #[.string t.name, .slice a t.cols.length p, kv] 32)) w.heap.size 9 1 (.slice none 0 0) (((colNames t).take 0).map strX)) := by
    show Got _ _ _ _ _ _
    simpa using Got.nil _ _ _ _
  clear HL
  go_enter Try.func39, Try.ntmps39
  go_wp2
  go_loopw [3, 9] (fun v j wr => ∃ k : Nat, k ≤ t.cols.length ∧ j = .int .i64 (k : Int) ∧ Hid (Below w.heap.size w wr) ∧ Hid (Got wr w.heap.size 9 1 v (((colNames t).take k).map strX))) (fun _ j _ => t.cols.length - (intOf j).toNat)
  case atStart => exact ⟨0, Nat.zero_le _, rfl, hb0, HG0⟩
  case round =>
    obtain ⟨k, hk, rfl, HB, HG⟩ := hrel
    obtain ⟨a', n', cap', rfl, hg⟩ := HG.out.lit2
    have HG1 : Hid (Got wr w.heap.size 9 1 (.slice a' n' cap') (((colNames t).take k).map strX)) := hg
    clear HG hg HG0
    by_cases hkt : k < t.cols.length
    · have hlti2 : (k : Int) < t.cols.length := by omega
      obtain ⟨b', off', rfl, e0, e1, e2, e3, e4, e5, e6⟩ := (HCV.out.on HB.out).cols k hkt
      have HE : Hid (((colNames t).take k).map strX ++ [#[.string t.cols[k].name]] = ((colNames t).take (k + 1)).map strX) := by
        show _ = _
        rw [List.take_succ_eq_append_getElem (by simpa [colNames] using hkt), List.map_append]
        simp [colNames]
      have hlk : (((colNames t).take k).map strX).length ≤ 1048576 := by simp [colNames]; omega
      have hsz : w.heap.size ≤ wr.heap.size := HB.out.size
      generalize ((colNames t).take k).map strX = T0 at HG1 HE hlk
      go_wp2_with (at_builtin; refine app_one rfl (.tmp 13) (.tmp 16) rfl Try.underlying22 infoStrN rfl (by decide) (by decide) w.heap.size _ T0 rfl (HG1.out.on (by repeat (first | with_reducible exact Below.refl _ _ | with_reducible assumption | with_reducible refine ch_alloc ?_ _ | with_reducible refine Below.drew ?_ | with_reducible refine below_draws _ ?_ | (with_reducible refine Below.setCell ?_ ?_ _; rotate_left; focus (first | with_reducible exact Nat.le_refl _ | (simp; done) | (simp; omega) | (simp at *; omega))) | with_reducible refine ch_trans ?_ (by with_reducible assumption)))) (wr.heap.size + 1) 1 #[.string t.cols[k].name] rfl (Own.at (wr.alloc _) _ _ (by simp)).loc rfl (str_allN _) (by omega) (by simp; omega) ?_; intro v3 w4 hg4 hb4)
      have HG4 : Hid (Got w4 w.heap.size 9 1 v3 (((colNames t).take (k + 1)).map strX)) := by
        show Got _ _ _ _ _ _
        rw [← HE.out]; exact hg4
      have HB4 : Hid (Below w.heap.size w w4) := HB.out.trans ((Below.mono (ch_alloc (ch_alloc (Below.refl _ _) _) _) hsz).trans hb4)
      clear hg4 hb4
      go_round
      case rel => exact ⟨k + 1, by omega, by go_num, HB4, HG4⟩
      case measure => simp [intOf]; omega
    · have hlti2 : (t.cols.length : Int) ≤ k := by omega
      have HG9 : Hid (Got wr w.heap.size 9 1 (.slice a' n' cap') ((colNames t).map strX)) := by
        show Got _ _ _ _ _ _
        have := HG1.out
        rwa [List.take_of_length_le (by simp [colNames]; omega)] at this
      go_wp2
      go_ret
      exact ⟨_, rfl, HB.out, HG9.out⟩
end Go.Proofs.Ytiijahoheajppaa
