/- Worlds that grow, nothing that was there turned. -/
import Derived.Test.YtiijahoheajppaaCellsV
import Derived.Deep.OwnRows
namespace Go.Proofs.Ytiijahoheajppaa
open Go.ChangeShapes Go.WideShapes Go.ChangeAt Go.RowKit
theorem ch_trans {a b c : World} (h : Below a.heap.size a b) (k : Below b.heap.size b c) : Below a.heap.size a c := h.trans (k.mono h.size)
theorem ch_alloc {a b : World} (h : Below a.heap.size a b) (o : Obj) : Below a.heap.size a (b.alloc o) := h.alloc h.size o
theorem cell_lt {w : World} {p : Addr} {v : Value} (h : w.cell? p = some v) : p.block < w.heap.size := by
  unfold World.cell? at h
  split at h
  · rename_i hh; exact (Array.getElem?_eq_some_iff.1 hh).1
  · cases h

/-- Elements of some cells each, in a row. -/
def RowAt (w : World) (a : Option Addr) (z : Nat) (xs : List (Array Value)) : Prop :=
  (∀ x ∈ xs, x.size = z) ∧ (xs = [] ∨ ∃ b off, a = some ⟨b, off, none⟩ ∧ ∀ i (h : i < xs.length) j, j < z → w.cell? ⟨b, off + i * z + j, none⟩ = xs[i][j]?)
theorem RowAt.on {w w' : World} {a : Option Addr} {z : Nat} {xs : List (Array Value)} (h : RowAt w a z xs) (hb : Below w.heap.size w w') : RowAt w' a z xs := by
  obtain ⟨hz, h⟩ := h
  refine ⟨hz, ?_⟩
  rcases h with h | ⟨b, off, ha, h⟩
  · exact Or.inl h
  · refine Or.inr ⟨b, off, ha, fun i hi j hj => ?_⟩
    have h0 := h i hi j hj
    rw [Array.getElem?_eq_getElem (by rw [hz _ (List.getElem_mem hi)]; exact hj)] at h0 ⊢
    exact (hb.cell (p := ⟨b, off + i * z + j, none⟩) (cell_lt h0)).trans h0
theorem RowAt.nil (w : World) (a : Option Addr) (z : Nat) : RowAt w a z [] := ⟨fun _ h => by simp at h, Or.inl rfl⟩
theorem cell_on {w w' : World} {p : Addr} {v : Value} (h : w.cell? p = some v) (b : Below w.heap.size w w') : w'.cell? p = some v := (b.cell (cell_lt h)).trans h

theorem add_add (b off x j : Nat) : ((Addr.mk b off none).add x).add j = ⟨b, off + x + j, none⟩ := by
  unfold Addr.add
  by_cases hx : x = 0 <;> by_cases hj : j = 0 <;> simp [hx, hj]

theorem str_eq (a b : ByteArray) : (a.toList == b.toList) = decide (a = b) := by
  rw [ByteArray.toList_eq, ByteArray.toList_eq]
  by_cases h : a = b
  · subst h; simp
  · rw [decide_eq_false h]
    simp only [beq_eq_false_iff_ne, ne_eq]
    exact fun e => h (WideShapes.bytes_inj e)
theorem str_yes {a b : ByteArray} (h : a = b) : (a.toList == b.toList) = true := by rw [str_eq]; simpa using h
theorem str_no {a b : ByteArray} (h : a ≠ b) : (a.toList == b.toList) = false := by rw [str_eq]; simpa using h

/-- 'make' of elements of some cells. -/
theorem run_makes {P : Program} (t e : TypeId) (z : Value) (zs : Array Value) (size bytes : Nat) (ht : P.underlying t = some (.slice e)) (hinfo : (P.info? e).map (fun i => (i.zero, i.size, i.bytes)) = some (some z, size, bytes)) (hz : z.cells = zs)
    (kl kc : IntKind) (n : Nat) (hbytes : bytes * n ≤ 281474976710656) (h63 : n ≤ 9223372036854775807) (w : World) :
    (Instr.makeSlice t (.int kl (n : Int)) (.int kc (n : Int))).run P w = .ok (.slice (some ⟨w.heap.size, 0, none⟩) n n) (w.alloc (.cells (madeCells zs (n * size)) e)) := by
  obtain ⟨i, hi, hzz⟩ := Option.map_eq_some_iff.1 hinfo
  simp only [Prod.mk.injEq] at hzz
  obtain ⟨hz', hs, hb⟩ := hzz
  have hb' : (i.bytes : Int) * (n : Int) ≤ 281474976710656 := by
    rw [hb]
    have h : ((bytes * n : Nat) : Int) ≤ 281474976710656 := by omega
    rwa [Int.natCast_mul] at h
  have hr := run_make (P := P) w t e i z ht hi hz' kl kc n n (by omega) (Int.le_refl _) hb' (by omega)
  simp only [Int.toNat_natCast, hs, hz] at hr
  exact hr

/-- A new row that is being filled. -/
def Fill (w : World) (B : Nat) (T : TypeId) (z n : Nat) (xs : List (Array Value)) : Prop :=
  (∀ x ∈ xs, x.size = z) ∧ xs.length ≤ n ∧ ∃ f, w.rowIs B T (n * z) f ∧ ∀ i (h : i < xs.length) j, j < z → some (f (i * z + j)) = xs[i][j]?
theorem Fill.new (w : World) (T : TypeId) (z n : Nat) (c : Array Value) (hc : c.size = n * z) : Fill (w.alloc (.cells c T)) w.heap.size T z n [] :=
  ⟨fun _ h => by simp at h, Nat.zero_le _, fun i => c.getD i default, by
    have := World.rowIs_alloc w c T (fun i => c.getD i default) (fun i hi => by simp [Array.getD, hi])
    rwa [hc] at this, fun i h => by simp at h⟩
theorem Fill.on {w w' : World} {B : Nat} {T : TypeId} {z n : Nat} {xs : List (Array Value)} (h : Fill w B T z n xs) (k : Below w.heap.size w w') : Fill w' B T z n xs := by
  obtain ⟨h0, h1, f, hr, hf⟩ := h
  exact ⟨h0, h1, f, hr.of_block (k.block B hr.lt), hf⟩
theorem Fill.row {w : World} {B : Nat} {T : TypeId} {z n : Nat} {xs : List (Array Value)} (h : Fill w B T z n xs) : RowAt w (some ⟨B, 0, none⟩) z xs := by
  obtain ⟨h0, h1, f, hr, hf⟩ := h
  refine ⟨h0, Or.inr ⟨B, 0, rfl, fun i hi j hj => ?_⟩⟩
  have hlt : i * z + j < n * z := by
    have : (i + 1) * z ≤ n * z := Nat.mul_le_mul_right _ (by omega)
    rw [Nat.add_mul] at this
    omega
  rw [← hf i hi j hj, ← hr.cell hlt, Nat.zero_add]
theorem Fill.lt {w : World} {B : Nat} {T : TypeId} {z n : Nat} {xs : List (Array Value)} (h : Fill w B T z n xs) : B < w.heap.size := by
  obtain ⟨_, _, f, hr, _⟩ := h; exact hr.lt
theorem Fill.cell {w : World} {B : Nat} {T : TypeId} {z n : Nat} {xs : List (Array Value)} (h : Fill w B T z n xs) (j : Nat) (hj : j < z) (hn : xs.length < n) : (∃ v, w.cell? ⟨B, xs.length * z + j, none⟩ = some v) ∧ w.frozen? ⟨B, xs.length * z + j, none⟩ = false := by
  obtain ⟨h0, h1, f, hr, hf⟩ := h
  have hlt : xs.length * z + j < n * z := by
    have : (xs.length + 1) * z ≤ n * z := Nat.mul_le_mul_right _ (by omega)
    rw [Nat.add_mul] at this
    omega
  exact ⟨⟨_, hr.cell hlt⟩, hr.frozen _⟩
theorem Fill.one {w : World} {B : Nat} {T : TypeId} {n k : Nat} {xs : List (Array Value)} (h : Fill w B T 1 n xs) (hx : xs.length = k) (hk : k < n) : ∃ v0 : Value, (w.cell? ⟨B, k, none⟩ = some v0) ∧ w.frozen? ⟨B, k, none⟩ = false := by
  subst hx
  obtain ⟨⟨v0, c0⟩, f0⟩ := h.cell 0 (by omega) hk
  rw [Nat.mul_one] at c0 f0
  exact ⟨v0, c0, f0⟩
theorem Fill.three {w : World} {B : Nat} {T : TypeId} {n k : Nat} {xs : List (Array Value)} (h : Fill w B T 3 n xs) (hx : xs.length = k) (hk : k < n) : ∃ v0 v1 v2 : Value, (w.cell? ⟨B, k * 3, none⟩ = some v0 ∧ w.cell? ⟨B, k * 3 + 1, none⟩ = some v1 ∧ w.cell? ⟨B, k * 3 + 2, none⟩ = some v2) ∧ w.frozen? ⟨B, k * 3, none⟩ = false ∧ w.frozen? ⟨B, k * 3 + 1, none⟩ = false ∧ w.frozen? ⟨B, k * 3 + 2, none⟩ = false := by
  subst hx
  obtain ⟨⟨v0, c0⟩, f0⟩ := h.cell 0 (by omega) hk
  obtain ⟨⟨v1, c1⟩, f1⟩ := h.cell 1 (by omega) hk
  obtain ⟨⟨v2, c2⟩, f2⟩ := h.cell 2 (by omega) hk
  exact ⟨v0, v1, v2, ⟨c0, c1, c2⟩, f0, f1, f2⟩
theorem Fill.seven {w : World} {B : Nat} {T : TypeId} {n k : Nat} {xs : List (Array Value)} (h : Fill w B T 7 n xs) (hx : xs.length = k) (hk : k < n) : ∃ v0 v1 v2 v3 v4 v5 v6 : Value, (w.cell? ⟨B, k * 7, none⟩ = some v0 ∧ w.cell? ⟨B, k * 7 + 1, none⟩ = some v1 ∧ w.cell? ⟨B, k * 7 + 2, none⟩ = some v2 ∧ w.cell? ⟨B, k * 7 + 3, none⟩ = some v3 ∧ w.cell? ⟨B, k * 7 + 4, none⟩ = some v4 ∧ w.cell? ⟨B, k * 7 + 5, none⟩ = some v5 ∧ w.cell? ⟨B, k * 7 + 6, none⟩ = some v6) ∧ w.frozen? ⟨B, k * 7, none⟩ = false ∧ w.frozen? ⟨B, k * 7 + 1, none⟩ = false ∧ w.frozen? ⟨B, k * 7 + 2, none⟩ = false ∧ w.frozen? ⟨B, k * 7 + 3, none⟩ = false ∧ w.frozen? ⟨B, k * 7 + 4, none⟩ = false ∧ w.frozen? ⟨B, k * 7 + 5, none⟩ = false ∧ w.frozen? ⟨B, k * 7 + 6, none⟩ = false := by
  subst hx
  obtain ⟨⟨v0, c0⟩, f0⟩ := h.cell 0 (by omega) hk
  obtain ⟨⟨v1, c1⟩, f1⟩ := h.cell 1 (by omega) hk
  obtain ⟨⟨v2, c2⟩, f2⟩ := h.cell 2 (by omega) hk
  obtain ⟨⟨v3, c3⟩, f3⟩ := h.cell 3 (by omega) hk
  obtain ⟨⟨v4, c4⟩, f4⟩ := h.cell 4 (by omega) hk
  obtain ⟨⟨v5, c5⟩, f5⟩ := h.cell 5 (by omega) hk
  obtain ⟨⟨v6, c6⟩, f6⟩ := h.cell 6 (by omega) hk
  exact ⟨v0, v1, v2, v3, v4, v5, v6, ⟨c0, c1, c2, c3, c4, c5, c6⟩, f0, f1, f2, f3, f4, f5, f6⟩
/-- Stores of some cells, one behind the other. -/
def stores (w : World) (B o : Nat) : List Value → World
  | [] => w
  | v :: r => stores (w.setCell ⟨B, o, none⟩ v) B (o + 1) r
theorem stores_row {B : Nat} {T : TypeId} {m : Nat} : ∀ (vs : List Value) (w : World) (o : Nat) (f : Nat → Value), w.rowIs B T m f → o + vs.length ≤ m → (stores w B o vs).rowIs B T m (fun j => if h : o ≤ j ∧ j < o + vs.length then vs[j - o]'(by omega) else f j)
  | [], w, o, f, h, _ => h.congr fun i _ => by rw [dif_neg (by simp)]
  | v :: r, w, o, f, h, ho => by
    simp only [List.length_cons] at ho ⊢
    refine (stores_row r _ (o + 1) _ (h.set o v) (by omega)).congr fun i _ => ?_
    by_cases e : i = o
    · subst e
      rw [dif_neg (by omega), if_pos rfl, dif_pos (by omega)]
      simp
    · by_cases h1 : o + 1 ≤ i ∧ i < o + 1 + r.length
      · rw [dif_pos h1, dif_pos (by omega)]
        have : i - o = (i - (o + 1)) + 1 := by omega
        simp [this]
      · rw [dif_neg h1, if_neg e, dif_neg (by omega)]
theorem stores_below {a : World} {B b : Nat} (hB : B ≤ b) : ∀ (vs : List Value) (w : World) (o : Nat), Below B a w → Below B a (stores w b o vs)
  | [], _, _, h => h
  | v :: r, _, o, h => stores_below hB r _ (o + 1) (h.setCell hB v)
theorem Fill.put {w : World} {B : Nat} {T : TypeId} {z n : Nat} {xs : List (Array Value)} (h : Fill w B T z n xs) (hn : xs.length < n) (vs : List Value) (hv : vs.length = z) : Fill (stores w B (xs.length * z) vs) B T z n (xs ++ [vs.toArray]) := by
  obtain ⟨h0, h1, f, hr, hf⟩ := h
  have hlt : xs.length * z + z ≤ n * z := by
    have : (xs.length + 1) * z ≤ n * z := Nat.mul_le_mul_right _ (by omega)
    rwa [Nat.add_mul, Nat.one_mul] at this
  refine ⟨fun x hx => ?_, by simp; omega, _, stores_row vs w _ f hr (by omega), fun i hi j hj => ?_⟩
  · rcases List.mem_append.1 hx with hx | hx
    · exact h0 x hx
    · simp at hx; subst hx; simpa using hv
  · by_cases hin : i < xs.length
    · have hh : i * z + j < xs.length * z := by
        have : (i + 1) * z ≤ xs.length * z := Nat.mul_le_mul_right _ (by omega)
        rw [Nat.add_mul, Nat.one_mul] at this
        omega
      rw [List.getElem_append_left hin, ← hf i hin j hj, dif_neg (by omega)]
    · simp at hi
      have : i = xs.length := by omega
      subst this
      rw [dif_pos (by omega)]
      simp [hv, hj]

/-- A variable of some cells. -/
def Loc (w : World) (b : Nat) (cells : Array Value) : Prop := ∀ j (h : j < cells.size), w.cell? ⟨b, j, none⟩ = some cells[j]
theorem Loc.new (w : World) (cells : Array Value) (t : TypeId) : Loc (w.alloc (.cells cells t)) w.heap.size cells := by
  intro j h
  have e : (w.alloc (.cells cells t)).heap[w.heap.size]? = some (.cells cells t) := (MapKept.heap_alloc w _).1
  unfold World.cell?
  simp only [e]
  exact Array.getElem?_eq_getElem h
theorem Loc.on {w w' : World} {b : Nat} {cells : Array Value} (h : Loc w b cells) (k : Below w.heap.size w w') : Loc w' b cells := fun j hj => cell_on (h j hj) k
theorem Loc.on1 {w : World} {b : Nat} {cells : Array Value} (h : Loc w b cells) (o : Obj) : Loc (w.alloc o) b cells := h.on (ch_alloc (Below.refl _ _) o)
theorem Loc.two {w : World} {b : Nat} {a0 a1 : Value} (h : Loc w b #[a0, a1]) : w.cell? ⟨b, 0, none⟩ = some a0 ∧ w.cell? ⟨b, 1, none⟩ = some a1 := ⟨h 0 (by simp), h 1 (by simp)⟩
theorem Loc.one {w : World} {b : Nat} {a0 : Value} (h : Loc w b #[a0]) : w.cell? ⟨b, 0, none⟩ = some a0 := h 0 (by simp)
theorem Loc.three {w : World} {b : Nat} {a0 a1 a2 : Value} (h : Loc w b #[a0, a1, a2]) : w.cell? ⟨b, 0, none⟩ = some a0 ∧ w.cell? ⟨b, 1, none⟩ = some a1 ∧ w.cell? ⟨b, 2, none⟩ = some a2 := ⟨h 0 (by simp), h 1 (by simp), h 2 (by simp)⟩
theorem Loc.six {w : World} {b : Nat} {a0 a1 a2 a3 a4 a5 : Value} (h : Loc w b #[a0, a1, a2, a3, a4, a5]) : w.cell? ⟨b, 0, none⟩ = some a0 ∧ w.cell? ⟨b, 1, none⟩ = some a1 ∧ w.cell? ⟨b, 2, none⟩ = some a2 ∧ w.cell? ⟨b, 3, none⟩ = some a3 ∧ w.cell? ⟨b, 4, none⟩ = some a4 ∧ w.cell? ⟨b, 5, none⟩ = some a5 :=
  ⟨h 0 (by simp), h 1 (by simp), h 2 (by simp), h 3 (by simp), h 4 (by simp), h 5 (by simp)⟩
theorem Loc.seven {w : World} {b : Nat} {a0 a1 a2 a3 a4 a5 a6 : Value} (h : Loc w b #[a0, a1, a2, a3, a4, a5, a6]) : w.cell? ⟨b, 0, none⟩ = some a0 ∧ w.cell? ⟨b, 1, none⟩ = some a1 ∧ w.cell? ⟨b, 2, none⟩ = some a2 ∧ w.cell? ⟨b, 3, none⟩ = some a3 ∧ w.cell? ⟨b, 4, none⟩ = some a4 ∧ w.cell? ⟨b, 5, none⟩ = some a5 ∧ w.cell? ⟨b, 6, none⟩ = some a6 :=
  ⟨h 0 (by simp), h 1 (by simp), h 2 (by simp), h 3 (by simp), h 4 (by simp), h 5 (by simp), h 6 (by simp)⟩
theorem Loc.eight {w : World} {b : Nat} {a0 a1 a2 a3 a4 a5 a6 a7 : Value} (h : Loc w b #[a0, a1, a2, a3, a4, a5, a6, a7]) : w.cell? ⟨b, 0, none⟩ = some a0 ∧ w.cell? ⟨b, 1, none⟩ = some a1 ∧ w.cell? ⟨b, 2, none⟩ = some a2 ∧ w.cell? ⟨b, 3, none⟩ = some a3 ∧ w.cell? ⟨b, 4, none⟩ = some a4 ∧ w.cell? ⟨b, 5, none⟩ = some a5 ∧ w.cell? ⟨b, 6, none⟩ = some a6 ∧ w.cell? ⟨b, 7, none⟩ = some a7 :=
  ⟨h 0 (by simp), h 1 (by simp), h 2 (by simp), h 3 (by simp), h 4 (by simp), h 5 (by simp), h 6 (by simp), h 7 (by simp)⟩

/-- A block of cells, none frozen. -/
def Own (w : World) (b : Nat) (T : TypeId) (cells : Array Value) : Prop := w.heap[b]? = some (.cells cells T)
theorem Own.new (w : World) (T : TypeId) (cells : Array Value) : Own (w.alloc (.cells cells T)) w.heap.size T cells := (MapKept.heap_alloc w _).1
theorem Own.at (w : World) (T : TypeId) (cells : Array Value) {n : Nat} (h : w.heap.size = n) : Own (w.alloc (.cells cells T)) n T cells := h ▸ Own.new w T cells
theorem Own.lt {w : World} {b : Nat} {T : TypeId} {cells : Array Value} (h : Own w b T cells) : b < w.heap.size := (Array.getElem?_eq_some_iff.1 h).1
theorem Own.on {w w' : World} {b : Nat} {T : TypeId} {cells : Array Value} (h : Own w b T cells) (k : Below w.heap.size w w') : Own w' b T cells := (k.block b h.lt).trans h
theorem Own.loc {w : World} {b : Nat} {T : TypeId} {cells : Array Value} (h : Own w b T cells) : Loc w b cells := by
  intro j hj
  unfold Own at h
  unfold World.cell?
  simp only [h]
  exact Array.getElem?_eq_getElem hj
theorem Own.frozen {w : World} {b : Nat} {T : TypeId} {cells : Array Value} (h : Own w b T cells) (j : Nat) : w.frozen? ⟨b, j, none⟩ = false := by
  unfold Own at h
  simp [World.frozen?, h]
theorem Own.set {w : World} {b : Nat} {T : TypeId} {cells : Array Value} (h : Own w b T cells) (j : Nat) (v : Value) : Own (w.setCell ⟨b, j, none⟩ v) b T (cells.setIfInBounds j v) := by
  unfold Own at h ⊢
  simp [World.setCell, Array.getElem?_modify, h]
theorem Own.other {w : World} {b : Nat} {T : TypeId} {cells : Array Value} (h : Own w b T cells) {p : Addr} (hp : b ≠ p.block) (v : Value) : Own (w.setCell p v) b T cells := (Below.heap_setCell _ _ _ _ hp).trans h
end Go.Proofs.Ytiijahoheajppaa
