/- Columns, texts and tables in memory. -/
import Derived.Test.YtihilcffmdjhhafDoorColOkS
import Derived.Test.YtihilcffmdjhhafDoorCh
namespace Go.Proofs.YtihilcffmdjhhafDoor
open Go.ChangeShapes Go.WideShapes Go.ChangeAt Go.RowKit

abbrev strX (s : ByteArray) : Array Value := #[.string s]
theorem RowAt.cols {w : World} {a : Option Addr} {cs : List Cl} (h : RowAt w a 7 (cs.map Cl.cells)) (k : Nat) (hk : k < cs.length) : ∃ b off, a = some ⟨b, off, none⟩ ∧
    w.cell? ⟨b, off + k * 7, none⟩ = some (.string cs[k].name) ∧ w.cell? ⟨b, off + k * 7 + 1, none⟩ = some (.int .i64 cs[k].ty) ∧ w.cell? ⟨b, off + k * 7 + 2, none⟩ = some (.bool cs[k].nt) ∧ w.cell? ⟨b, off + k * 7 + 3, none⟩ = some (.bool cs[k].has) ∧
    w.cell? ⟨b, off + k * 7 + 4, none⟩ = some (.int .i64 cs[k].dt) ∧ w.cell? ⟨b, off + k * 7 + 5, none⟩ = some (.int .i64 cs[k].dn) ∧ w.cell? ⟨b, off + k * 7 + 6, none⟩ = some (.string cs[k].ds) := by
  rcases h.2 with h0 | ⟨b, off, ha, h⟩
  · rw [List.map_eq_nil_iff] at h0; subst h0; exact absurd hk (Nat.not_lt_zero _)
  · have hk' : k < (cs.map Cl.cells).length := by simpa using hk
    have e : (cs.map Cl.cells)[k] = cs[k].cells := by simp
    refine ⟨b, off, ha, (h k hk' 0 (by omega)).trans ?_, (h k hk' 1 (by omega)).trans ?_, (h k hk' 2 (by omega)).trans ?_, (h k hk' 3 (by omega)).trans ?_, (h k hk' 4 (by omega)).trans ?_, (h k hk' 5 (by omega)).trans ?_, (h k hk' 6 (by omega)).trans ?_⟩
    all_goals rw [e]; rfl
theorem RowAt.strs {w : World} {a : Option Addr} {ks : List ByteArray} (h : RowAt w a 1 (ks.map strX)) (k : Nat) (hk : k < ks.length) : ∃ b off, a = some ⟨b, off, none⟩ ∧ w.cell? ⟨b, off + k, none⟩ = some (.string ks[k]) := by
  rcases h.2 with h0 | ⟨b, off, ha, h⟩
  · rw [List.map_eq_nil_iff] at h0; subst h0; exact absurd hk (Nat.not_lt_zero _)
  · have hk' : k < (ks.map strX).length := by simpa using hk
    have e : (ks.map strX)[k] = strX ks[k] := by simp
    have := h k hk' 0 (by omega)
    rw [e, Nat.mul_one] at this
    exact ⟨b, off, ha, this⟩

theorem Fill.col {w : World} {B : Nat} {T : TypeId} {n k : Nat} {cs : List Cl} (h : Fill w B T 7 n ((cs.take k).map Cl.cells)) (hk : k < cs.length) (hn : k < n) : Fill (stores w B (k * 7) cs[k].cells.toList) B T 7 n ((cs.take (k + 1)).map Cl.cells) := by
  have hl : ((cs.take k).map Cl.cells).length = k := by simp; omega
  have := h.put (by omega) cs[k].cells.toList rfl
  rw [hl] at this
  rw [List.take_succ_eq_append_getElem hk, List.map_append]
  exact this
theorem Fill.str {w : World} {B : Nat} {T : TypeId} {n k : Nat} {ks : List ByteArray} (h : Fill w B T 1 n ((ks.take k).map strX)) (hk : k < ks.length) (hn : k < n) : Fill (stores w B k [.string ks[k]]) B T 1 n ((ks.take (k + 1)).map strX) := by
  have hl : ((ks.take k).map strX).length = k := by simp; omega
  have := h.put (by omega) [.string ks[k]] rfl
  rw [hl, Nat.mul_one] at this
  rw [List.take_succ_eq_append_getElem hk, List.map_append]
  exact this

/-- Columns behind a slice. -/
def ColsV (w : World) (v : Value) (cs : List Cl) : Prop := ∃ a cap, v = .slice a cs.length cap ∧ cs.length ≤ cap ∧ cap ≤ maxLen ∧ RowAt w a 7 (cs.map Cl.cells)
/-- Texts behind a slice. -/
def StrsV (w : World) (v : Value) (ks : List ByteArray) : Prop := ∃ a cap, v = .slice a ks.length cap ∧ ks.length ≤ cap ∧ cap ≤ maxLen ∧ RowAt w a 1 (ks.map strX)
theorem ColsV.on {w w' : World} {v : Value} {cs : List Cl} (h : ColsV w v cs) (b : Below w.heap.size w w') : ColsV w' v cs := by
  obtain ⟨a, cap, e, h1, h2, h⟩ := h; exact ⟨a, cap, e, h1, h2, h.on b⟩
theorem StrsV.on {w w' : World} {v : Value} {ks : List ByteArray} (h : StrsV w v ks) (b : Below w.heap.size w w') : StrsV w' v ks := by
  obtain ⟨a, cap, e, h1, h2, h⟩ := h; exact ⟨a, cap, e, h1, h2, h.on b⟩

/-- The row behind a slice lies from block B on. -/
def From (v : Value) (B : Nat) : Prop := ∀ a n c, v = .slice (some a) n c → B ≤ a.block
theorem From.mono {v : Value} {B B' : Nat} (h : From v B) (hB : B' ≤ B) : From v B' := fun a n c e => Nat.le_trans hB (h a n c e)
theorem RowAt.set {w : World} {a : Option Addr} {z : Nat} {xs : List (Array Value)} (h : RowAt w a z xs) {p : Addr} (hp : ∀ q, a = some q → q.block ≠ p.block) (u : Value) : RowAt (w.setCell p u) a z xs := by
  obtain ⟨hz, h⟩ := h
  refine ⟨hz, ?_⟩
  rcases h with h | ⟨b, off, ha, h⟩
  · exact Or.inl h
  · refine Or.inr ⟨b, off, ha, fun i hi j hj => (World.cell?_of_block (w := w) (a := ⟨b, off + i * z + j, none⟩) (Below.heap_setCell _ _ _ b (hp ⟨b, off, none⟩ ha))).trans (h i hi j hj)⟩
theorem ColsV.set {w : World} {v : Value} {cs : List Cl} (h : ColsV w v cs) {B : Nat} (hf : From v B) {p : Addr} (hp : p.block < B) (u : Value) : ColsV (w.setCell p u) v cs := by
  obtain ⟨a, cap, e, h1, h2, h⟩ := h
  exact ⟨a, cap, e, h1, h2, h.set (fun q hq => by subst hq; have := hf _ _ _ e; omega) u⟩
theorem StrsV.set {w : World} {v : Value} {ks : List ByteArray} (h : StrsV w v ks) {B : Nat} (hf : From v B) {p : Addr} (hp : p.block < B) (u : Value) : StrsV (w.setCell p u) v ks := by
  obtain ⟨a, cap, e, h1, h2, h⟩ := h
  exact ⟨a, cap, e, h1, h2, h.set (fun q hq => by subst hq; have := hf _ _ _ e; omega) u⟩
theorem from_new (B n c : Nat) : From (.slice (some ⟨B, 0, none⟩) n c) B := fun a _ _ e => by cases e; exact Nat.le_refl _

/-- The place of a name among columns; -1 where there is none. -/
def colAt (cs : List Cl) (s : ByteArray) : Int := match cs.findIdx? (fun c => decide (c.name = s)) with | some i => i | .none => -1
theorem colAt_some {cs : List Cl} {s : ByteArray} {k : Nat} (hk : k < cs.length) (he : cs[k].name = s) (hn : ∀ j (h : j < cs.length), j < k → cs[j].name ≠ s) : colAt cs s = k := by
  have : cs.findIdx? (fun c => decide (c.name = s)) = some k := by
    rw [List.findIdx?_eq_some_iff_getElem]
    exact ⟨hk, by simpa using he, fun j hj => by simpa using hn j (by omega) hj⟩
  rw [colAt, this]
theorem colAt_none {cs : List Cl} {s : ByteArray} (hn : ∀ j (h : j < cs.length), cs[j].name ≠ s) : colAt cs s = -1 := by
  have : cs.findIdx? (fun c => decide (c.name = s)) = .none := by
    rw [List.findIdx?_eq_none_iff]
    intro x hx
    obtain ⟨j, hj, rfl⟩ := List.getElem_of_mem hx
    simpa using hn j hj
  rw [colAt, this]

end Go.Proofs.YtihilcffmdjhhafDoor
