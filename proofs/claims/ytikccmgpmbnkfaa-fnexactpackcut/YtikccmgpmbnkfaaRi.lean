/- The landed reader of bytes. -/
import Derived.Test.YtikccmgpmbnkfaaRv
import Derived.Test.YtikccmgpmbnkfaaFl
namespace Go.Proofs.Ytikccmgpmbnkfaa
open Go.ChangeShapes Go.WideShapes Go.ChangeAt Go.RowKit

theorem row_drop {w : World} {b off n : Nat} {l : List UInt8} (h : RowAt w (some ⟨b, off, none⟩) 1 (l.map byX)) : RowAt w (some ⟨b, off + n, none⟩) 1 ((l.drop n).map byX) := by
  refine ⟨fun q hq => ?_, Or.inr ⟨b, off + n, rfl, fun i hi j hj => ?_⟩⟩
  · obtain ⟨u, _, rfl⟩ := List.mem_map.1 hq; rfl
  · obtain rfl : j = 0 := by omega
    simp at hi
    obtain ⟨b', off', e, hc⟩ := h.bytes (n + i) (by omega)
    cases e
    have e1 : ((l.drop n).map byX)[i]'(by simp; omega) = byX (l[n + i]'(by omega)) := by simp
    rw [e1, Nat.mul_one, Nat.add_zero, Nat.add_assoc, hc]
    rfl
theorem row_take {w : World} {b off n : Nat} {l : List UInt8} (h : RowAt w (some ⟨b, off, none⟩) 1 (l.map byX)) : RowAt w (some ⟨b, off, none⟩) 1 ((l.take n).map byX) := by
  refine ⟨fun q hq => ?_, Or.inr ⟨b, off, rfl, fun i hi j hj => ?_⟩⟩
  · obtain ⟨u, _, rfl⟩ := List.mem_map.1 hq; rfl
  · obtain rfl : j = 0 := by omega
    simp at hi
    obtain ⟨b', off', e, hc⟩ := h.bytes i (by omega)
    cases e
    have e1 : ((l.take n).map byX)[i]'(by simp; omega) = byX (l[i]'(by omega)) := by simp
    rw [e1, Nat.mul_one, Nat.add_zero, hc]
    rfl
/-- A text out of bytes in memory. -/
theorem conv_back (w : World) (b off cap : Nat) (T : List UInt8) (h : RowAt w (some ⟨b, off, none⟩) 1 (T.map byX)) :
    (convert 33 9 (.slice (some ⟨b, off, none⟩) T.length cap)).run Try.prog w = .ok (.string ⟨T.toArray⟩) w :=
  run_convert_bytes_back (P := Try.prog) w 33 9 5 ⟨b, off, none⟩ cap T Try.underlying33 Try.underlying5 Try.underlying9 (fun j hj => by
    obtain ⟨b', off', e, hc⟩ := h.bytes j hj
    cases e
    rw [add_flat]; exact hc)
theorem Turns.fresh {S : Nat → Prop} {a b : World} (h : Turns S a b) {p : Addr} (hp : a.heap.size ≤ p.block) (u : Value) : Turns S a (b.setCell p u) :=
  ⟨h.os, h.tape, h.output, by simpa [World.setCell] using h.size, fun i hi hn => (Below.heap_setCell _ _ _ _ (by omega)).trans (h.block i hi hn)⟩
end Go.Proofs.Ytikccmgpmbnkfaa
