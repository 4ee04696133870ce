/- Lists of values in memory: the laws' size, copy and look. -/
import Derived.Test.YtihilcffmdjhhafDoorTab
namespace Go.Proofs.YtihilcffmdjhhafDoor
open Go.ChangeShapes Go.WideShapes Go.ChangeAt Go.RowKit

/-- A value's fields. -/
structure Vc where
  ty : Int
  n : Int
  s : ByteArray
abbrev Vc.cells (c : Vc) : Array Value := #[.int .i64 c.ty, .int .i64 c.n, .string c.s]
abbrev Vc.v (c : Vc) : Value := .agg c.cells
theorem RowAt.vals {w : World} {a : Option Addr} {vs : List Vc} (h : RowAt w a 3 (vs.map Vc.cells)) (k : Nat) (hk : k < vs.length) : ∃ b off, a = some ⟨b, off, none⟩ ∧
    w.cell? ⟨b, off + k * 3, none⟩ = some (.int .i64 vs[k].ty) ∧ w.cell? ⟨b, off + k * 3 + 1, none⟩ = some (.int .i64 vs[k].n) ∧ w.cell? ⟨b, off + k * 3 + 2, none⟩ = some (.string vs[k].s) := by
  rcases h.2 with h0 | ⟨b, off, ha, h⟩
  · rw [List.map_eq_nil_iff] at h0; subst h0; exact absurd hk (Nat.not_lt_zero _)
  · have hk' : k < (vs.map Vc.cells).length := by simpa using hk
    have e : (vs.map Vc.cells)[k] = vs[k].cells := by simp
    refine ⟨b, off, ha, (h k hk' 0 (by omega)).trans ?_, (h k hk' 1 (by omega)).trans ?_, (h k hk' 2 (by omega)).trans ?_⟩
    all_goals rw [e]; rfl
theorem Fill.val {w : World} {B : Nat} {T : TypeId} {n k : Nat} {vs : List Vc} (h : Fill w B T 3 n ((vs.take k).map Vc.cells)) (hk : k < vs.length) (hn : k < n) : Fill (stores w B (k * 3) vs[k].cells.toList) B T 3 n ((vs.take (k + 1)).map Vc.cells) := by
  have hl : ((vs.take k).map Vc.cells).length = k := by simp; omega
  have := h.put (by omega) vs[k].cells.toList rfl
  rw [hl] at this
  rw [List.take_succ_eq_append_getElem hk, List.map_append]
  exact this

/-- Values behind a slice. -/
def ValsV (w : World) (v : Value) (vs : List Vc) : Prop := ∃ a cap, v = .slice a vs.length cap ∧ vs.length ≤ cap ∧ cap ≤ maxLen ∧ RowAt w a 3 (vs.map Vc.cells)
theorem ValsV.on {w w' : World} {v : Value} {vs : List Vc} (h : ValsV w v vs) (b : Below w.heap.size w w') : ValsV w' v vs := by
  obtain ⟨a, cap, e, h1, h2, h⟩ := h; exact ⟨a, cap, e, h1, h2, h.on b⟩
theorem ValsV.set {w : World} {v : Value} {vs : List Vc} (h : ValsV w v vs) {B : Nat} (hf : From v B) {p : Addr} (hp : p.block < B) (u : Value) : ValsV (w.setCell p u) v vs := by
  obtain ⟨a, cap, e, h1, h2, h⟩ := h
  exact ⟨a, cap, e, h1, h2, h.set (fun q hq => by subst hq; have := hf _ _ _ e; omega) u⟩
theorem ValsV.lit {w : World} {v : Value} {vs : List Vc} (h : ValsV w v vs) : ∃ a cap, v = .slice a vs.length cap ∧ vs.length ≤ cap ∧ cap ≤ maxLen ∧ ValsV w (.slice a vs.length cap) vs := by
  obtain ⟨a, cap, rfl, h1, h2, h3⟩ := h; exact ⟨a, cap, rfl, h1, h2, a, cap, rfl, h1, h2, h3⟩
theorem ValsV.row {w : World} {a : Option Addr} {n cap : Nat} {vs : List Vc} (h : ValsV w (.slice a n cap) vs) : RowAt w a 3 (vs.map Vc.cells) := by
  obtain ⟨a', cap', e, _, _, h⟩ := h; cases e; exact h
def vfit (vs : List Vc) : Prop := ∀ c ∈ vs, c.s.size ≤ maxLen

theorem Fill.valsV {w : World} {B n : Nat} {T : TypeId} {vs : List Vc} (h : Fill w B T 3 n (vs.map Vc.cells)) (hn : n ≤ maxLen) : ValsV w (.slice (some ⟨B, 0, none⟩) vs.length n) vs :=
  ⟨_, _, rfl, by have := h.2.1; simpa using this, hn, h.row⟩

end Go.Proofs.YtihilcffmdjhhafDoor
