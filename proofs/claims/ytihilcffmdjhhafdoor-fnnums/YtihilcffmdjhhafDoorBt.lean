/- Bytes in memory: the laws' copy, look, marks. -/
import Derived.Test.YtihilcffmdjhhafDoorWm
import Derived.Test.YtihilcffmdjhhafDoorMarkG
import Derived.Deep.RegionWith
import Derived.ChangeOld
namespace Go.Proofs.YtihilcffmdjhhafDoor
open Go.ChangeShapes Go.WideShapes Go.ChangeAt Go.RowKit

abbrev byV (x : UInt8) : Value := .int .u8 (x.toNat : Int)
abbrev byX (x : UInt8) : Array Value := #[byV x]
theorem RowAt.bytes {w : World} {a : Option Addr} {l : List UInt8} (h : RowAt w a 1 (l.map byX)) (k : Nat) (hk : k < l.length) : ∃ b off, a = some ⟨b, off, none⟩ ∧ w.cell? ⟨b, off + k, none⟩ = some (.int .u8 (l[k].toNat : Int)) := by
  rcases h.2 with h0 | ⟨b, off, ha, h⟩
  · rw [List.map_eq_nil_iff] at h0; subst h0; exact absurd hk (Nat.not_lt_zero _)
  · have hk' : k < (l.map byX).length := by simpa using hk
    have e : (l.map byX)[k] = byX l[k] := by simp
    have := h k hk' 0 (by omega)
    rw [e, Nat.mul_one] at this
    exact ⟨b, off, ha, this⟩
theorem Fill.byte {w : World} {B : Nat} {T : TypeId} {n k : Nat} {l : List UInt8} (h : Fill w B T 1 n ((l.take k).map byX)) (hk : k < l.length) (hn : k < n) : Fill (stores w B k [.int .u8 (l[k].toNat : Int)]) B T 1 n ((l.take (k + 1)).map byX) := by
  have hl : ((l.take k).map byX).length = k := by simp; omega
  have := h.put (by omega) [.int .u8 (l[k].toNat : Int)] rfl
  rw [hl, Nat.mul_one] at this
  rw [List.take_succ_eq_append_getElem hk, List.map_append]
  exact this

/-- Bytes behind a slice. -/
def BytesV (w : World) (v : Value) (l : List UInt8) : Prop := ∃ a cap, v = .slice a l.length cap ∧ l.length ≤ cap ∧ cap ≤ maxLen ∧ RowAt w a 1 (l.map byX)
theorem BytesV.on {w w' : World} {v : Value} {l : List UInt8} (h : BytesV w v l) (b : Below w.heap.size w w') : BytesV w' v l := by
  obtain ⟨a, cap, e, h1, h2, h⟩ := h; exact ⟨a, cap, e, h1, h2, h.on b⟩
theorem BytesV.lit {w : World} {v : Value} {l : List UInt8} (h : BytesV w v l) : ∃ a cap, v = .slice a l.length cap ∧ l.length ≤ cap ∧ cap ≤ maxLen ∧ BytesV w (.slice a l.length cap) l := by
  obtain ⟨a, cap, rfl, h1, h2, h3⟩ := h; exact ⟨a, cap, rfl, h1, h2, a, cap, rfl, h1, h2, h3⟩
theorem BytesV.row {w : World} {a : Option Addr} {n cap : Nat} {l : List UInt8} (h : BytesV w (.slice a n cap) l) : RowAt w a 1 (l.map byX) := by
  obtain ⟨a', cap', e, _, _, h⟩ := h; cases e; exact h
theorem Fill.bytesV {w : World} {B : Nat} {T : TypeId} {l : List UInt8} (h : Fill w B T 1 l.length (l.map byX)) (hn : l.length ≤ maxLen) : BytesV w (.slice (some ⟨B, 0, none⟩) l.length l.length) l := ⟨_, _, rfl, Nat.le_refl _, hn, h.row⟩
theorem Got.bytes {w : World} {B : Nat} {T : TypeId} {v : Value} {l : List UInt8} (h : Got w B T 1 v (l.map byX)) : BytesV w v l := by
  obtain ⟨a, cap, e, h1, h2, h3, _⟩ := h.row
  exact ⟨a, cap, by simpa using e, by simpa using h1, h2, h3⟩
theorem byte_one (l : List UInt8) : ∀ x ∈ l.map byX, ∀ u ∈ x.toList, u.oneCell' = true := fun x hx u hu => by
  obtain ⟨c, _, rfl⟩ := List.mem_map.1 hx
  simp at hu; subst hu; rfl
theorem infoByte : (Tryd.prog.info? 5).map (fun i => (i.zero, i.size, i.bytes)) = some (some (.int .u8 0), 1, 1) := by kernel_rfl

/-- The bytes that a law is called with. -/
theorem open_bytes {H : Type} {enc : TypeId × Value → H} {W : World} {base : Nat} {spare : Nat → Bool} {held : Bool} {n : Nat} {cs : List Value} {y : DataW H × List MemPlace} (h : DataW.trod enc Tryd.prog W base spare held n 22 cs = some y) : ∃ v l, cs = [v] ∧ BytesV W v l := by
  rcases open_ints Tryd.underlying22 Tryd.underlying5 (by kernel_rfl) h with ⟨hcs, _⟩ | ⟨x, len, cap, zs, hcs, _, hl, hm, hz, _, hcell, hwz⟩
  · subst hcs
    exact ⟨_, [], rfl, .none, 0, rfl, Nat.le_refl _, Nat.zero_le _, RowAt.nil _ _ _⟩
  · subst hcs
    by_cases h0 : len = 0
    · subst h0
      exact ⟨_, [], rfl, some x, cap, rfl, hl, hm, RowAt.nil _ _ _⟩
    have hz' : len ≤ zs.length := by rw [hz]; split <;> omega
    have hx : x.spot = none := by simpa [Addr.add] using World.cell?_spot (hcell 0 (by omega))
    obtain ⟨b, off, spot⟩ := x
    simp only at hx
    subst hx
    have e1 : (zs.take len).length = len := by simp; omega
    refine ⟨_, (zs.take len).map (fun z => UInt8.ofNat z.toNat), rfl, some ⟨b, off, none⟩, cap, by simp; omega, by simp; omega, hm, fun q hq => by
      obtain ⟨u, _, rfl⟩ := List.mem_map.1 hq; rfl, Or.inr ⟨b, off, rfl, fun i hi j hj => ?_⟩⟩
    simp at hi
    obtain rfl : j = 0 := by omega
    have hc := hcell i (by omega)
    have hgd : zs.getD i 0 = zs[i]'(by omega) := by rw [List.getD_eq_getElem?_getD, List.getElem?_eq_getElem (by omega)]; rfl
    rw [hgd] at hc
    have hw := hwz (zs[i]'(by omega)) (List.getElem_mem _)
    have hb : (0 : Int) ≤ zs[i]'(by omega) ∧ zs[i]'(by omega) ≤ 255 := by
      have e0 : IntKind.u8.min = 0 := by decide
      have e1 : IntKind.u8.max = 255 := by decide
      rw [Lit.wf, Bool.and_eq_true, decide_eq_true_eq, decide_eq_true_eq, e0, e1] at hw
      exact hw
    have e : (⟨b, off, none⟩ : Addr).add i = ⟨b, off + i, none⟩ := by unfold Addr.add; by_cases hj : i = 0 <;> simp [hj]
    rw [e] at hc
    have e3 : ((UInt8.ofNat (zs[i]'(by omega)).toNat).toNat : Int) = zs[i]'(by omega) := by rw [UInt8.toNat_ofNat']; omega
    have e4 : (((zs.take len).map (fun z => UInt8.ofNat z.toNat)).map byX)[i]'(by simp; omega) = byX (UInt8.ofNat (zs[i]'(by omega)).toNat) := by simp
    rw [Nat.mul_one, Nat.add_zero, hc, e4]
    show _ = some (Value.int .u8 _)
    rw [e3]

/-- The mark of a byte at a place. -/
abbrev markY (k i : Nat) : Value := .int .u8 (((k + i) % 256 : Nat) : Int)
theorem wrapY (n : Nat) : IntKind.u8.wrap ((n : Nat) : Int) = ((n % 256 : Nat) : Int) := by
  simp [IntKind.wrap, IntKind.signed, IntKind.bits]
end Go.Proofs.YtihilcffmdjhhafDoor
