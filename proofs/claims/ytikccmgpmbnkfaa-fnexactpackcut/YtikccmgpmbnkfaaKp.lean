/- The places of a right table's keys: the landed keyPlacesOf. -/
import Derived.Test.YtikccmgpmbnkfaaAp
import Derived.Test.YtikccmgpmbnkfaaTbOkI
namespace Go.Proofs.Ytikccmgpmbnkfaa
open Go.ChangeShapes Go.WideShapes Go.ChangeAt Go.RowKit

theorem MapIs.look_at {P : Program} {k t e : TypeId} {w : World} {b n : Nat} {L : List (ByteArray × Value)} (h : MapIs P k w b n L) (hk : P.underlying k = some .string) (ht : P.underlying t = some (.map k e)) {z : Value} (hz : (zeroValue e).run P w = .ok z w) {s : ByteArray} (hs : s.size ≤ maxLen) {p : ByteArray × Value} (hp : L.find? (fun p => decide (p.1 = s)) = some p) :
    (Instr.lookup t (.map (some b)) (.string s) false).run P w = .ok p.2 w := by
  obtain ⟨D, ho, h1, h2, _⟩ := h
  obtain ⟨v, ps, hr, hv⟩ := ho.lookup (Maps.string_keyed hk) ht hz (zd := .held z) (zp := []) rfl (WideMaps.keyOf_string_mk hk hs)
  rw [h2 s p hp] at hv
  have hv' : v = p.2 := by simp [rv] at hv; exact hv.1
  rw [hr, hv']
/-- Each key of a right table is at a place. -/
theorem right_key {t : Tc} (h : t.right) (j : Nat) (hj : j < t.keys.length) : ∃ i, ∃ hi : i < t.cols.length, colAt t.cols t.keys[j] = (i : Int) ∧ t.cols[i].nt = true := by
  obtain ⟨h1, g, h2⟩ := h.2.2.2.2.2.2 j hj
  have h3 := lastAt_ge t.cols t.keys j
  refine ⟨_, g, by omega, h2⟩
theorem right_keys {t : Tc} (h : t.right) : t.keys.length ≤ t.cols.length := by
  have hl : ∀ j, j ≤ t.keys.length → (j : Int) - 1 ≤ lastAt t.cols t.keys j := by
    intro j
    induction j with
    | zero => intro _; rw [lastAt]; omega
    | succ j ih =>
      intro hj
      have h1 := ih (by omega)
      have h2 := (h.2.2.2.2.2.2 j (by omega)).1
      rw [lastAt_succ (by omega)]
      omega
  have h0 := h.2.2.2.1
  have h1 := hl t.keys.length (Nat.le_refl _)
  obtain ⟨n, hn⟩ : ∃ n, t.keys.length = n + 1 := ⟨t.keys.length - 1, by omega⟩
  rw [hn, lastAt_succ (by omega)] at h1
  have := (colAt_lt t.cols t.keys[n]).2
  omega
/-- The places of the keys. -/
def Tc.places (t : Tc) : List Int := t.keys.map (colAt t.cols)
abbrev intX (i : Int) : Array Value := #[.int .i64 i]
/-- Numbers behind a slice. -/
def IntsV (w : World) (v : Value) (is : List Int) : Prop := ∃ a cap, v = .slice a is.length cap ∧ is.length ≤ cap ∧ cap ≤ maxLen ∧ RowAt w a 1 (is.map intX)
theorem IntsV.on {w w' : World} {v : Value} {is : List Int} (h : IntsV w v is) (b : Below w.heap.size w w') : IntsV w' v is := by
  obtain ⟨a, cap, e, h1, h2, h⟩ := h; exact ⟨a, cap, e, h1, h2, h.on b⟩
theorem IntsV.lit {w : World} {v : Value} {is : List Int} (h : IntsV w v is) : ∃ a cap, v = .slice a is.length cap ∧ is.length ≤ cap ∧ cap ≤ maxLen ∧ IntsV w (.slice a is.length cap) is := by
  obtain ⟨a, cap, rfl, h1, h2, h3⟩ := h; exact ⟨a, cap, rfl, h1, h2, a, cap, rfl, h1, h2, h3⟩
theorem IntsV.row {w : World} {a : Option Addr} {n cap : Nat} {is : List Int} (h : IntsV w (.slice a n cap) is) : RowAt w a 1 (is.map intX) := by
  obtain ⟨a', cap', e, _, _, h⟩ := h; cases e; exact h
theorem RowAt.ints {w : World} {a : Option Addr} {ks : List Int} (h : RowAt w a 1 (ks.map intX)) (k : Nat) (hk : k < ks.length) : ∃ b off, a = some ⟨b, off, none⟩ ∧ w.cell? ⟨b, off + k, none⟩ = some (.int .i64 ks[k]) := by
  rcases h.2 with h0 | ⟨b, off, ha, h⟩
  · rw [List.map_eq_nil_iff] at h0; subst h0; exact absurd hk (Nat.not_lt_zero _)
  · have hk' : k < (ks.map intX).length := by simpa using hk
    have e : (ks.map intX)[k] = intX ks[k] := by simp
    have := h k hk' 0 (by omega)
    rw [e, Nat.mul_one] at this
    exact ⟨b, off, ha, this⟩

theorem fieldAt (i ty dt dn : Int) (s ds : ByteArray) (nt has : Bool) (w : World) : (Instr.field 163 (.agg #[.int .i64 i, .string s, .int .i64 ty, .bool nt, .bool has, .int .i64 dt, .int .i64 dn, .string ds]) 0).run Try.prog w = .ok (.int .i64 i) w := by kernel_rfl
theorem infoInt : (Try.prog.info? 3).map (fun i => (i.zero, i.size, i.bytes)) = some (some (.int .i64 0), 1, 8) := by kernel_rfl

end Go.Proofs.Ytikccmgpmbnkfaa
