/- Rows of bytes that a call gathers, and texts within quotes, plainly. -/
import Derived.Test.YtmkgbdgafjeeiamDoorVals
import Derived.Test.YtmkgbdgafjeeiamDoorNumText
import Derived.Deep.RegionLaw
import Derived.Lib.UnsafeStr
namespace Go.Proofs.YtmkgbdgafjeeiamDoor
open Go.ChangeShapes Go.WideShapes Go.ChangeAt Go.RowKit

/-! ### A row of bytes of the call's own -/
def OwnT (B : Nat) (w : World) (v : Value) (l : List UInt8) : Prop := w.ownsRow B 5 1 v l.length (Lib.byteCells l)
theorem infoU8 : (Tryd.prog.info? 5).map (fun i => (i.zero, i.size, i.bytes)) = some (some (.int .u8 0), 1, 1) := by kernel_rfl
theorem byteCells_app (a b : List UInt8) : Lib.byteCells a ++ Lib.byteCells b = Lib.byteCells (a ++ b) := by simp [Lib.byteCells]
theorem byteCells_one' (l : List UInt8) : ∀ u ∈ Lib.byteCells l, u.oneCell' = true := by
  intro u hu
  simp only [Lib.byteCells, List.mem_map] at hu
  obtain ⟨b, _, rfl⟩ := hu
  rfl
theorem OwnT.alloc {B : Nat} {w : World} {v : Value} {l : List UInt8} (h : OwnT B w v l) (o : Obj) : OwnT B (w.alloc o) v l := World.ownsRow.alloc h o
theorem OwnT.drew {B : Nat} {w : World} {v : Value} {l : List UInt8} (h : OwnT B w v l) : OwnT B w.drew v l := h
theorem own_nil (B : Nat) (w : World) : OwnT B w (.slice none 0 0) [] := World.ownsRow_nil _ _ _ _

theorem app_list {w : World} {ops : Array Oper} {rest : List Oper} {o : Oper} {a : Act} {Q : Exit → Act → World → Prop} (hgd : o.guard = none) (s x : Operand)
    (ho : o.op = .call { callee := .builtin .append, args := #[s, x], argTypes := #[59, 59] })
    (B : Nat) (v : Value) (l : List UInt8) (hs : a.eval s = v) (hown : OwnT B w v l)
    (ad : Addr) (m c : Nat) (news : List UInt8) (hx : a.eval x = .slice (some ad) m c) (hm : news.length = m) (hnews : ∀ j u, (Lib.byteCells news)[j]? = some u → w.cell? (ad.add j) = some u)
    (hlen : l.length + m ≤ 1000000000) (hB : B ≤ w.heap.size)
    (h : ∀ v' w', OwnT B w' v' (l ++ news) → Below B w w' → wpList Tryd.prog ops Q rest (a.put o.dst v') w') : wpList Tryd.prog ops Q (o :: rest) a w := by
  obtain ⟨i0, hi, hz0, hz1, hz2⟩ := info_parts infoU8
  refine wpList_append_own _ hgd s x 59 ho B 5 i0 (.int .u8 0) 1 1 Tryd.underlying59 hi hz0 hz1 hz2 rfl (by decide) v l.length (Lib.byteCells l) hs hown ad m c (Lib.byteCells news) hx (by simp [Lib.byteCells, hm]) hnews (byteCells_one' news) (by unfold maxLen; omega) (by omega) hB ?_
  intro v' w' h1 h2 _
  refine h v' w' ?_ (Below.grown (Below.refl _ _) h2 hB (fun k hk => (World.ownsRow.lt hown k hk).1))
  rw [byteCells_app] at h1
  unfold OwnT
  rw [List.length_append, hm]
  exact h1
theorem app_stepT {w : World} {ops : Array Oper} {o : Oper} {a : Act} {K : Act → World → Prop} {Q : Exit → Act → World → Prop} {E : Prop} (hgd : o.guard = none) (s x : Operand)
    (ho : o.op = .call { callee := .builtin .append, args := #[s, x], argTypes := #[59, 59] })
    (B : Nat) (v : Value) (l : List UInt8) (hs : a.eval s = v) (hown : OwnT B w v l)
    (ad : Addr) (m c : Nat) (news : List UInt8) (hx : a.eval x = .slice (some ad) m c) (hm : news.length = m) (hnews : ∀ j u, (Lib.byteCells news)[j]? = some u → w.cell? (ad.add j) = some u)
    (hlen : l.length + m ≤ 1000000000) (hB : B ≤ w.heap.size)
    (h : ∀ v' w', OwnT B w' v' (l ++ news) → Below B w w' → K (a.put o.dst v') w') : if Region.wanted o (yielded ops a.tmps) = true then Oper.wp Tryd.prog o a w K Q else E := by
  have hw : Region.wanted o (yielded ops a.tmps) = true := by simp [Region.wanted, hgd]
  rw [if_pos hw]
  obtain ⟨i0, hi, hz0, hz1, hz2⟩ := info_parts infoU8
  refine wp_append_own _ s x 59 ho B 5 i0 (.int .u8 0) 1 1 Tryd.underlying59 hi hz0 hz1 hz2 rfl (by decide) v l.length (Lib.byteCells l) hs hown ad m c (Lib.byteCells news) hx (by simp [Lib.byteCells, hm]) hnews (byteCells_one' news) (by unfold maxLen; omega) (by omega) hB ?_
  intro v' w' h1 h2 _
  refine h v' w' ?_ (Below.grown (Below.refl _ _) h2 hB (fun k hk => (World.ownsRow.lt hown k hk).1))
  rw [byteCells_app] at h1
  unfold OwnT
  rw [List.length_append, hm]
  exact h1
/-- The cells of a new block. -/
theorem cells_new (W : World) (l : List UInt8) (t : TypeId) : ∀ j u, (Lib.byteCells l)[j]? = some u → (W.alloc (.cells (Lib.byteCells l).toArray t)).cell? ((⟨W.heap.size, 0, none⟩ : Addr).add j) = some u := by
  intro j u hj
  have e : (⟨W.heap.size, 0, none⟩ : Addr).add j = ⟨W.heap.size, j, none⟩ := by simp [Addr.add]; omega
  rw [e, World.cell?_alloc_at _ _ _ _ rfl]
  simpa using hj
/-- The text of a row. -/
theorem own_text {B : Nat} {w : World} {v : Value} {l : List UInt8} (h : OwnT B w v l) : (convert 59 9 v).run Tryd.prog w = .ok (str l) w := by
  obtain ⟨h1, h2⟩ := h
  rcases h2 with ⟨rfl, h0⟩ | ⟨g, cap, cur, rfl, hg, hh, hn, hm, hc, ht⟩
  · have : l = [] := List.length_eq_zero_iff.1 h0
    subst this
    rw [run_convert_bytes_string w 59 9 5 none 0 0 Tryd.underlying59 Tryd.underlying5 Tryd.underlying9]
    rfl
  · refine run_convert_bytes_back (P := Tryd.prog) w 59 9 5 ⟨g, 0, none⟩ cap l Tryd.underlying59 Tryd.underlying5 Tryd.underlying9 (fun j hj => ?_)
    have hown : w.ownsRow B 5 1 (.slice (some ⟨g, 0, none⟩) l.length cap) l.length (Lib.byteCells l) := ⟨h1, Or.inr ⟨g, cap, cur, rfl, hg, hh, hn, hm, hc, ht⟩⟩
    exact World.ownsRow.cells hown rfl j _ (by simp [Lib.byteCells, List.getElem?_eq_getElem hj])

/-! ### Texts within quotes -/
abbrev hexA : ByteArray := { data := #[48, 49, 50, 51, 52, 53, 54, 55, 56, 57, 97, 98, 99, 100, 101, 102] }
def hexB (i : Nat) : UInt8 := if h : i < 16 then hexA[i]'h else 0
def plainB (c : UInt8) : Bool := decide (33 ≤ (c.toNat : Int)) && decide ((c.toNat : Int) ≤ 126) && ((c.toNat : Int) != 39) && ((c.toNat : Int) != 37)
def escB (c : UInt8) : List UInt8 := if plainB c = true then [c] else [37, hexB (c.toNat / 16), hexB (c.toNat % 16)]
/-- What has been written ahead of a place. -/
def G (s : ByteArray) (k : Nat) : List UInt8 := 39 :: (s.data.toList.take k).flatMap escB
def quoted (s : ByteArray) : List UInt8 := G s s.size ++ [39]
theorem take_snocT (s : ByteArray) (k : Nat) (h : k < s.size) : s.data.toList.take (k + 1) = s.data.toList.take k ++ [s[k]] := by
  rw [List.take_succ_eq_append_getElem (by simpa using h)]; rfl
theorem G_zero (s : ByteArray) : G s 0 = [39] := by simp [G]
theorem G_succ (s : ByteArray) (k : Nat) (h : k < s.size) : G s (k + 1) = G s k ++ escB s[k] := by
  unfold G
  rw [take_snocT s k h, List.flatMap_append]
  simp
theorem escB_len (c : UInt8) : (escB c).length ≤ 3 := by unfold escB; split <;> simp
theorem G_len (s : ByteArray) (k : Nat) : (G s k).length ≤ 1 + 3 * k := by
  unfold G
  have : ∀ l : List UInt8, (l.flatMap escB).length ≤ 3 * l.length := by
    intro l
    induction l with
    | nil => simp
    | cons c r ih => have := escB_len c; rw [List.flatMap_cons, List.length_append, List.length_cons]; omega
  have h2 := this (s.data.toList.take k)
  have h3 := List.length_take_le k s.data.toList
  rw [List.length_cons]
  omega
end Go.Proofs.YtmkgbdgafjeeiamDoor
