/- The key of a row: the given l03Key, the landed keyOf. -/
import Derived.Test.YtikccmgpmbnkfaaKp
import Derived.Test.YtikccmgpmbnkfaaVs
import Derived.Test.YtikccmgpmbnkfaaGr
import Derived.Deep.RegionWith
namespace Go.Proofs.Ytikccmgpmbnkfaa
open Go.ChangeShapes Go.WideShapes Go.ChangeAt Go.RowKit

abbrev Vc.zero : Vc := ⟨0, 0, ByteArray.empty⟩
/-- The values at some places. -/
def valsAt (is : List Int) (vs : List Vc) : List Vc := is.map fun i => vs.getD i.toNat Vc.zero
/-- The key of a row. -/
def keyVals (t : Tc) (vs : List Vc) : List Vc := valsAt t.places vs
theorem valsAt_take {is : List Int} {vs : List Vc} {k i : Nat} (hk : k < is.length) (he : is[k] = (i : Int)) (hi : i < vs.length) : ((valsAt is vs).take (k + 1)).map Vc.cells = ((valsAt is vs).take k).map Vc.cells ++ [vs[i].cells] := by
  have hl : k < (valsAt is vs).length := by simpa [valsAt] using hk
  rw [List.take_succ_eq_append_getElem hl, List.map_append]
  simp [valsAt, he, hi]
theorem Got.vals {w : World} {B : Nat} {T : TypeId} {v : Value} {vs : List Vc} (h : Got w B T 3 v (vs.map Vc.cells)) : ValsV w v vs := by
  obtain ⟨a, cap, e, h1, h2, h3, _⟩ := h.row
  exact ⟨a, cap, by simpa using e, by simpa using h1, h2, h3⟩
theorem infoVal : (Try.prog.info? 118).map (fun i => (i.zero, i.size, i.bytes)) = some (some (.agg #[.int .i64 0, .int .i64 0, .string ByteArray.empty]), 3, 32) := by kernel_rfl
theorem val_one (c : Vc) : ∀ u ∈ c.cells.toList, u.oneCell' = true := by
  intro u hu
  simp at hu
  rcases hu with rfl | rfl | rfl <;> rfl
/-- Places within a row. -/
def within' (is : List Int) (n : Nat) : Prop := ∀ k (h : k < is.length), ∃ i : Nat, i < n ∧ is[k] = (i : Int)
theorem right_within {t : Tc} (h : t.right) : within' t.places t.cols.length := fun k hk => by
  obtain ⟨i, hi, e, _⟩ := right_key h k (by simpa [Tc.places] using hk)
  exact ⟨i, hi, by simpa [Tc.places] using e⟩

end Go.Proofs.Ytikccmgpmbnkfaa
