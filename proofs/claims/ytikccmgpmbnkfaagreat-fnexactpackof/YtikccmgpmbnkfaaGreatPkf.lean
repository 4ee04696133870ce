/- Packets in memory: the laws' size, copy, look and marks; PackCut, given and landed. Batches as bytes: landed. -/
import Derived.Test.YtikccmgpmbnkfaaGreatPn
import Derived.Test.YtikccmgpmbnkfaaGreatRw
import Derived.Test.YtikccmgpmbnkfaaGreatRi
import Derived.Test.YtikccmgpmbnkfaaGreatPke
import Derived.Test.YtikccmgpmbnkfaaGreatWx
import Derived.Test.YtikccmgpmbnkfaaGreatBk
import Derived.Test.YtikccmgpmbnkfaaGreatGn
import Derived.Test.YtikccmgpmbnkfaaGreatRv
namespace Go.Proofs.YtikccmgpmbnkfaaGreat
open Go.ChangeShapes Go.WideShapes Go.ChangeAt Go.RowKit

set_option maxRecDepth 100000 in
/-- laws.szByteS -/
theorem szByteS_any (v : Value) (l : List UInt8) (n : Int) (w : World) (hv : BytesV w v l) (h0 : 0 ≤ n) (h1 : n ≤ 1048576) :
    Calls Tryz.prog 55 #[v, .int .i64 n] w fun e w' => ∃ r : Int, e = .returned (.int .i64 r) ∧ Below w.heap.size w w' ∧ (r = -1 ∨ (0 ≤ r ∧ r ≤ n ∧ l.length ≤ 1048576)) := by
  obtain ⟨a, p, rfl, hl, hm, _⟩ := hv.lit
  unfold maxLen at hm
  clear hv
  by_cases hn : n - l.length < 0
  · go_enter Tryz.func55, Tryz.ntmps55
    go_wp2
    go_ret
    exact ⟨_, rfl, (by repeat (first | with_reducible exact Below.refl _ _ | with_reducible assumption | with_reducible refine ch_alloc ?_ _ | with_reducible refine Below.drew ?_ | with_reducible refine below_draws _ ?_ | (with_reducible refine Below.setCell ?_ ?_ _; rotate_left; focus (first | with_reducible exact Nat.le_refl _ | (simp; done) | (simp; omega) | (simp at *; omega))) | with_reducible refine ch_trans ?_ (by with_reducible assumption))), Or.inl rfl⟩
  · go_enter Tryz.func55, Tryz.ntmps55
    go_wp2
    go_ret
    exact ⟨n - l.length, by go_num, (by repeat (first | with_reducible exact Below.refl _ _ | with_reducible assumption | with_reducible refine ch_alloc ?_ _ | with_reducible refine Below.drew ?_ | with_reducible refine below_draws _ ?_ | (with_reducible refine Below.setCell ?_ ?_ _; rotate_left; focus (first | with_reducible exact Nat.le_refl _ | (simp; done) | (simp; omega) | (simp at *; omega))) | with_reducible refine ch_trans ?_ (by with_reducible assumption))), Or.inr ⟨by omega, by omega, by omega⟩⟩

set_option maxRecDepth 100000 in
/-- laws.szPack -/
theorem szPack_any (v : Value) (l : List UInt8) (n : Int) (w : World) (hv : BytesV w v l) (h0 : 0 ≤ n) (h1 : n ≤ 1048576) :
    Calls Tryz.prog 23 #[.agg #[v], .int .i64 n] w fun e w' => ∃ r : Int, e = .returned (.int .i64 r) ∧ Below w.heap.size w w' ∧ (r = -1 ∨ (0 ≤ r ∧ r ≤ n ∧ l.length ≤ 1048576)) := by
  have HS : Hid (∀ u : World, Below w.heap.size w u → Calls Tryz.prog 55 #[v, .int .i64 n] u fun e w' => ∃ r : Int, e = .returned (.int .i64 r) ∧ Below u.heap.size u w' ∧ (r = -1 ∨ (0 ≤ r ∧ r ≤ n ∧ l.length ≤ 1048576))) := fun u hu => szByteS_any v l n u (hv.on hu) h0 h1
  obtain ⟨a, p, rfl, hl, hm, _⟩ := hv.lit
  have c0 := (Loc.new w #[.slice a l.length p] 57).one
  clear hv
  go_enter Tryz.func23, Tryz.ntmps23
  go_wp2_with fail
  refine (HS.out _ (by repeat (first | with_reducible exact Below.refl _ _ | with_reducible assumption | with_reducible refine ch_alloc ?_ _ | with_reducible refine Below.drew ?_ | with_reducible refine below_draws _ ?_ | (with_reducible refine Below.setCell ?_ ?_ _; rotate_left; focus (first | with_reducible exact Nat.le_refl _ | (simp; done) | (simp; omega) | (simp at *; omega))) | with_reducible refine ch_trans ?_ (by with_reducible assumption)))).mono ?_
  rintro e w1 ⟨r, rfl, b1, hr⟩
  rcases hr with rfl | ⟨r0, r1, r2⟩
  · go_wp2
    go_ret
    exact ⟨_, rfl, (by repeat (first | with_reducible exact Below.refl _ _ | with_reducible assumption | with_reducible refine ch_alloc ?_ _ | with_reducible refine Below.drew ?_ | with_reducible refine below_draws _ ?_ | (with_reducible refine Below.setCell ?_ ?_ _; rotate_left; focus (first | with_reducible exact Nat.le_refl _ | (simp; done) | (simp; omega) | (simp at *; omega))) | with_reducible refine ch_trans ?_ (by with_reducible assumption))), Or.inl rfl⟩
  · go_wp2
    go_ret
    exact ⟨_, rfl, (by repeat (first | with_reducible exact Below.refl _ _ | with_reducible assumption | with_reducible refine ch_alloc ?_ _ | with_reducible refine Below.drew ?_ | with_reducible refine below_draws _ ?_ | (with_reducible refine Below.setCell ?_ ?_ _; rotate_left; focus (first | with_reducible exact Nat.le_refl _ | (simp; done) | (simp; omega) | (simp at *; omega))) | with_reducible refine ch_trans ?_ (by with_reducible assumption))), Or.inr ⟨r0, r1, r2⟩⟩

set_option maxRecDepth 100000 in
/-- laws.toPack -/
theorem toPack_full (v : Value) (l : List UInt8) (w : World) (hv : BytesV w v l) (hn : l.length ≤ 1048576) :
    Calls Tryz.prog 25 #[.agg #[v]] w fun e w' => ∃ B, e = .returned (.agg #[.slice (some ⟨B, 0, none⟩) l.length l.length]) ∧ w.heap.size ≤ B ∧ B < w'.heap.size ∧ Below w.heap.size w w' ∧ Fill w' B 5 1 l.length (l.map byX) := by
  have HS : Hid (∀ u : World, Below w.heap.size w u → Calls Tryz.prog 16 #[v] u fun e w' => ∃ B, e = .returned (.slice (some ⟨B, 0, none⟩) l.length l.length) ∧ u.heap.size ≤ B ∧ Below u.heap.size u w' ∧ Fill w' B 5 1 l.length (l.map byX)) := fun u hu => (toByteS_full _ l u (hv.on hu) hn).mono fun e w' ⟨he, hb, hf⟩ => ⟨_, he, Nat.le_refl _, hb, hf⟩
  obtain ⟨a, p, rfl, hl, hm, _⟩ := hv.lit
  clear hv
  go_enter Tryz.func25, Tryz.ntmps25
  go_wp2_with fail
  have hb0 : Below w.heap.size w (((w.alloc (.cells #[.slice a l.length p] 57)).alloc (.cells #[.slice none 0 0] 28)).alloc (.cells #[.slice none 0 0] 28)) := (by repeat (first | with_reducible exact Below.refl _ _ | with_reducible assumption | with_reducible refine ch_alloc ?_ _ | with_reducible refine Below.drew ?_ | with_reducible refine below_draws _ ?_ | (with_reducible refine Below.setCell ?_ ?_ _; rotate_left; focus (first | with_reducible exact Nat.le_refl _ | (simp; done) | (simp; omega) | (simp at *; omega))) | with_reducible refine ch_trans ?_ (by with_reducible assumption)))
  have HQ := (Own.at (w.alloc (.cells #[.slice a l.length p] 57)) 28 #[.slice none 0 0] (n := w.heap.size + 1) (by simp)).on (ch_alloc (Below.refl _ _) (.cells #[.slice none 0 0] 28))
  have HO := Own.at ((w.alloc (.cells #[.slice a l.length p] 57)).alloc (.cells #[.slice none 0 0] 28)) 28 #[.slice none 0 0] (n := w.heap.size + 1 + 1) (by simp)
  have hs0 : w.heap.size + 1 + 1 + 1 ≤ (((w.alloc (.cells #[.slice a l.length p] 57)).alloc (.cells #[.slice none 0 0] 28)).alloc (.cells #[.slice none 0 0] 28)).heap.size := by simp
  generalize (((w.alloc (.cells #[.slice a l.length p] 57)).alloc (.cells #[.slice none 0 0] 28)).alloc (.cells #[.slice none 0 0] 28)) = u0 at hb0 HQ HO hs0 ⊢
  refine (HS.out _ hb0).mono ?_
  rintro e w1 ⟨B, rfl, hB, b1, hy⟩
  have HF1 : Hid (Fill w1 B 5 1 l.length (l.map byX)) := hy
  have hlt := hy.lt
  have hb1 := ch_trans hb0 b1
  have HO1 := HO.on b1
  have HQ1 := HQ.on b1
  clear hy b1 HO HQ hb0 HS
  have d0 := HO1.loc 0 (by simp)
  have g0 := HQ1.loc 0 (by simp)
  have f0 := HO1.frozen 0
  have i0 := HQ1.frozen 0
  simp only [List.getElem_toArray, List.getElem_cons_zero] at d0 g0
  go_wp2
  have HQ4 : Own ((w1.setCell ⟨w.heap.size + 1 + 1, 0, none⟩ (.slice (some ⟨B, 0, none⟩) l.length l.length)).setCell ⟨w.heap.size + 1, 0, none⟩ (.slice (some ⟨B, 0, none⟩) l.length l.length)) _ _ #[.slice (some ⟨B, 0, none⟩) l.length l.length] := (Own.past (c := w.heap.size + 1 + 1) (by omega) [.slice (some ⟨B, 0, none⟩) l.length l.length] _ 0 HQ1).fill (old := [_]) [.slice (some ⟨B, 0, none⟩) l.length l.length] rfl
  have HF4 : Hid (Fill ((w1.setCell ⟨w.heap.size + 1 + 1, 0, none⟩ (.slice (some ⟨B, 0, none⟩) l.length l.length)).setCell ⟨w.heap.size + 1, 0, none⟩ (.slice (some ⟨B, 0, none⟩) l.length l.length)) B 5 1 l.length (l.map byX)) := (HF1.out.other (p := ⟨w.heap.size + 1 + 1, 0, none⟩) (by simp; omega) _).other (p := ⟨w.heap.size + 1, 0, none⟩) (by simp; omega) _
  have HB : Hid (Below w.heap.size w ((w1.setCell ⟨w.heap.size + 1 + 1, 0, none⟩ (.slice (some ⟨B, 0, none⟩) l.length l.length)).setCell ⟨w.heap.size + 1, 0, none⟩ (.slice (some ⟨B, 0, none⟩) l.length l.length))) := by
    show Below _ _ _
    exact stores_below (b := w.heap.size + 1) (by omega) [.slice (some ⟨B, 0, none⟩) l.length l.length] _ 0 (stores_below (b := w.heap.size + 1 + 1) (by omega) [.slice (some ⟨B, 0, none⟩) l.length l.length] _ 0 hb1)
  have hz4 : B < ((w1.setCell ⟨w.heap.size + 1 + 1, 0, none⟩ (.slice (some ⟨B, 0, none⟩) l.length l.length)).setCell ⟨w.heap.size + 1, 0, none⟩ (.slice (some ⟨B, 0, none⟩) l.length l.length)).heap.size := HF4.out.lt
  generalize ((w1.setCell ⟨w.heap.size + 1 + 1, 0, none⟩ (.slice (some ⟨B, 0, none⟩) l.length l.length)).setCell ⟨w.heap.size + 1, 0, none⟩ (.slice (some ⟨B, 0, none⟩) l.length l.length)) = W at HQ4 HB HF4 hz4 ⊢
  have e0 := HQ4.loc 0 (by simp)
  simp only [List.getElem_toArray, List.getElem_cons_zero] at e0
  exact bodyPost_ret (v := .agg #[.slice (some ⟨B, 0, none⟩) l.length l.length]) (by simp [results, Tryz.results25, go_sem, e0]) rfl ⟨_, rfl, by omega, hz4, HB.out, HF4.out⟩

set_option maxRecDepth 100000 in
/-- laws.eqPack -/
theorem eqPack_same (v v' : Value) (l : List UInt8) (w : World) (hv : BytesV w v l) (hv' : BytesV w v' l) :
    Calls Tryz.prog 10 #[.agg #[v], .agg #[v']] w fun e w' => e = .returned (.bool true) ∧ Below w.heap.size w w' := by
  have HE : Hid (∀ u : World, Below w.heap.size w u → Calls Tryz.prog 19 #[v, v'] u fun e w' => e = .returned (.bool true) ∧ Below u.heap.size u w') := fun u hu => eqByteS_same v v' l u (hv.on hu) (hv'.on hu)
  obtain ⟨a, p, rfl, _, _, _⟩ := hv.lit
  obtain ⟨a', p', rfl, _, _, _⟩ := hv'.lit
  clear hv hv'
  go_enter Tryz.func10, Tryz.ntmps10
  go_wp2_with fail
  refine (HE.out _ (by repeat (first | with_reducible exact Below.refl _ _ | with_reducible assumption | with_reducible refine ch_alloc ?_ _ | with_reducible refine Below.drew ?_ | with_reducible refine below_draws _ ?_ | (with_reducible refine Below.setCell ?_ ?_ _; rotate_left; focus (first | with_reducible exact Nat.le_refl _ | (simp; done) | (simp; omega) | (simp at *; omega))) | with_reducible refine ch_trans ?_ (by with_reducible assumption)))).mono ?_
  rintro e w1 ⟨rfl, b1⟩
  go_wp2
  go_ret
  exact ⟨rfl, (by repeat (first | with_reducible exact Below.refl _ _ | with_reducible assumption | with_reducible refine ch_alloc ?_ _ | with_reducible refine Below.drew ?_ | with_reducible refine below_draws _ ?_ | (with_reducible refine Below.setCell ?_ ?_ _; rotate_left; focus (first | with_reducible exact Nat.le_refl _ | (simp; done) | (simp; omega) | (simp at *; omega))) | with_reducible refine ch_trans ?_ (by with_reducible assumption)))⟩

set_option maxRecDepth 100000 in
/-- laws.markPack, from laws.markByteS -/
theorem markPack_of {R : World → Prop} (a : Option Addr) (n c : Nat) (k m : Nat) (w : World) (h : Calls Tryz.prog 20 #[.slice a n c, .int .i64 k] (w.alloc (.cells #[.slice a n c] 28)) fun e w' => e = .returned (.int .i64 (m : Int)) ∧ R w') :
    Calls Tryz.prog 13 #[.agg #[.slice a n c], .int .i64 k] w fun e w' => e = .returned (.int .i64 (m : Int)) ∧ R w' := by
  have HH : Hid (Calls Tryz.prog 20 #[.slice a n c, .int .i64 k] (w.alloc (.cells #[.slice a n c] 28)) fun e w' => e = .returned (.int .i64 (m : Int)) ∧ R w') := h
  clear h
  go_enter Tryz.func13, Tryz.ntmps13
  go_wp2_with fail
  refine HH.out.mono ?_
  rintro e w1 ⟨rfl, hR⟩
  have HR : Hid (R w1) := hR
  clear hR HH
  go_wp2
  go_ret
  exact ⟨rfl, HR.out⟩

set_option maxRecDepth 100000 in
/-- laws.heldPack, from laws.heldByteS -/
theorem heldPack_of {R : World → Prop} (a : Option Addr) (n c : Nat) (k m : Nat) (w : World) (h : Calls Tryz.prog 38 #[.slice a n c, .int .i64 k] (w.alloc (.cells #[.slice a n c] 28)) fun e w' => e = .returned (.int .i64 (m : Int)) ∧ R w') :
    Calls Tryz.prog 14 #[.agg #[.slice a n c], .int .i64 k] w fun e w' => e = .returned (.int .i64 (m : Int)) ∧ R w' := by
  have HH : Hid (Calls Tryz.prog 38 #[.slice a n c, .int .i64 k] (w.alloc (.cells #[.slice a n c] 28)) fun e w' => e = .returned (.int .i64 (m : Int)) ∧ R w') := h
  have hm : decide ((m : Int) < 0) = false := by simp
  clear h
  go_enter Tryz.func14, Tryz.ntmps14
  go_wp2_with fail
  refine HH.out.mono ?_
  rintro e w1 ⟨rfl, hR⟩
  have HR : Hid (R w1) := hR
  clear hR HH
  go_wp2
  go_ret
  exact ⟨rfl, HR.out⟩

/-- How many bytes are left. -/
def cutN (n : Int) (l : List UInt8) : Nat := min n.toNat l.length
theorem Got.setP {w : World} {B : Nat} {T : TypeId} {z : Nat} {v : Value} {xs : List (Array Value)} (h : Got w B T z v xs) {p : Addr} (hp : p.block < B) (u : Value) : Got (w.setCell p u) B T z v xs :=
  h.turns ((Turns.refl (· = p.block) w).set rfl u) fun c hc => by have hc : c = p.block := hc; omega
/-- The end of PackCut: its answer is put into its block. -/
theorem cut_end {w W w1 : World} {kv : Value} {xs : List (Array Value)} (hW : Below w.heap.size w W) (HQ : Own W (w.heap.size + 1) 28 #[.slice none 0 0]) (b1 : Below (w.heap.size + 1 + 1) W w1) (hg : Got w1 (w.heap.size + 1 + 1) 5 1 kv xs) :
    (w1.setCell ⟨w.heap.size + 1, 0, none⟩ kv).cell? ⟨w.heap.size + 1, 0, none⟩ = some kv ∧ Below w.heap.size w (w1.setCell ⟨w.heap.size + 1, 0, none⟩ kv) ∧ Got (w1.setCell ⟨w.heap.size + 1, 0, none⟩ kv) w.heap.size 5 1 kv xs := by
  have HQ1 : Own w1 (w.heap.size + 1) 28 #[.slice none 0 0] := (b1.block _ (by omega)).trans HQ
  refine ⟨?_, ?_, ?_⟩
  · have := (HQ1.set 0 kv).loc 0 (by simp)
    simpa using this
  · exact stores_below (b := w.heap.size + 1) (by omega) [kv] _ 0 (hW.trans (b1.mono (by omega)))
  · exact (hg.setP (p := ⟨w.heap.size + 1, 0, none⟩) (by simp) kv).mono (by omega)
theorem cut_own {w W w1 : World} (HQ : Own W (w.heap.size + 1) 28 #[.slice none 0 0]) (b1 : Below (w.heap.size + 1 + 1) W w1) : w1.cell? ⟨w.heap.size + 1, 0, none⟩ = some (.slice none 0 0) ∧ w1.frozen? ⟨w.heap.size + 1, 0, none⟩ = false := by
  have HQ1 : Own w1 (w.heap.size + 1) 28 #[.slice none 0 0] := (b1.block _ (by omega)).trans HQ
  exact ⟨HQ1.loc 0 (by simp), HQ1.frozen 0⟩
end Go.Proofs.YtikccmgpmbnkfaaGreat

namespace Go.Proofs.YtikccmgpmbnkfaaGreat
open Go.ChangeShapes Go.WideShapes Go.ChangeAt Go.RowKit

/-- What is written of words. -/
def wordsL (ks : List ByteArray) : List UInt8 := [UInt8.ofNat ks.length] ++ ks.flatMap textL
/-- What is written of a part. -/
def partL (t : Ptc) : List UInt8 := numL (stmtL t.st).length 2 ++ stmtL t.st ++ wordsL t.cols ++ wordsL t.keys
/-- What is written of a batch ahead of the sum. -/
def batB (t : Btc) : List UInt8 := [80] ++ numL t.lsn.toNat 2 ++ numL t.prev.toNat 2 ++ [UInt8.ofNat t.parts.length] ++ t.parts.flatMap partL
/-- What is written of a batch. -/
def batL (t : Btc) : List UInt8 := batB t ++ numL (sumL (batB t)) 3
theorem fewW_size {ks : List ByteArray} (h : fewW ks) : ∀ s ∈ ks, s.size ≤ 8 := fun s hs => by
  obtain ⟨i, hi, rfl⟩ := List.getElem_of_mem hs
  exact wordB_size (h.2 i hi)
theorem wordsL_length {ks : List ByteArray} (h : fewW ks) : (wordsL ks).length ≤ 249 := by
  have h8 := h.1
  have := flat_text ks fun s hs => Nat.le_trans (fewW_size h s hs) (by omega)
  simp only [wordsL, List.length_append, List.length_cons, List.length_nil]
  omega
theorem partL_length {t : Ptc} (h : t.right) : (partL t).length ≤ 2500 := by
  have h1 := stmtL_length h.1
  have h2 := wordsL_length h.2.1
  have h3 := wordsL_length h.2.2
  simp only [partL, List.length_append, numL_length]
  omega
theorem flat_part : ∀ ts : List Ptc, (∀ t ∈ ts, t.right) → (ts.flatMap partL).length ≤ ts.length * 2500
  | [], _ => by simp
  | t :: r, h => by
    have h1 := partL_length (h t (by simp))
    have h2 := flat_part r fun x hx => h x (by simp [hx])
    rw [List.flatMap_cons, List.length_append, List.length_cons]; omega
theorem batB_length {t : Btc} (h : t.right) : (batB t).length ≤ 160000 := by
  have h1 := flat_part t.parts fun x hx => by
    obtain ⟨i, hi, rfl⟩ := List.getElem_of_mem hx
    exact h.2.2 i hi
  have h60 := h.2.1
  simp only [batB, List.length_append, numL_length, List.length_cons, List.length_nil]
  omega
theorem sumL_lt (l : List UInt8) : sumL l < 16777213 := by
  rcases List.eq_nil_or_concat l with rfl | ⟨l', c, rfl⟩
  · decide
  · rw [List.concat_eq_append, sumL_snoc]; exact Nat.mod_lt _ (by omega)

set_option maxRecDepth 100000 in
set_option maxHeartbeats 2000000 in
/-- (*impl.byteWriter).part -/
theorem part_any (bw : Nat) (x : Array Value) (t : Ptc) (L : List UInt8) (w : World) (h : WIs w bw L) (hx : ∀ u, Wt bw w u → PartV u x t) (hf : t.fit) (hr : t.right) (hL : L.length ≤ 200000) :
    Calls Tryz.prog 71 #[.pointer (some ⟨bw, 0, none⟩), .agg x] w fun e w' => e = .returned (.tuple #[]) ∧ WIs w' bw (L ++ partL t) ∧ Wt bw w w' := by
  obtain ⟨ka, kp, ra, rp, ca, cp, oa, op, ya, yp, za, zp, rfl, _, _, _, _⟩ := (hx w (Wt.refl _ _)).lit
  have hlw := h.lt
  have hsl := stmtL_length hr.1
  have HX : Hid (∀ u, Wt bw w u → StmtV u #[.int .i64 t.st.kind, .string t.st.table, .slice ka t.st.key.length kp, .slice ra t.st.row.length rp, .int .i64 t.st.ddl.kind, .string t.st.ddl.table, .slice ca t.st.ddl.cols.length cp, .slice oa t.st.ddl.keys.length op, .string t.st.ddl.name, .string t.st.ddl.to] t.st ∧ StrsV u (.slice ya t.cols.length yp) t.cols ∧ StrsV u (.slice za t.keys.length zp) t.keys) := fun u hu => by
    obtain ⟨_, _, _, _, _, _, _, _, _, _, _, _, e1, _, h1, h2, h3⟩ := (hx u hu).lit
    cases e1
    exact ⟨h1, h2, h3⟩
  have HSB : Hid (∀ u, Wt bw w u → Calls Tryz.prog 45 #[.agg #[.int .i64 t.st.kind, .string t.st.table, .slice ka t.st.key.length kp, .slice ra t.st.row.length rp, .int .i64 t.st.ddl.kind, .string t.st.ddl.table, .slice ca t.st.ddl.cols.length cp, .slice oa t.st.ddl.keys.length op, .string t.st.ddl.name, .string t.st.ddl.to]] u fun e w' => ∃ v', e = .returned (.tuple #[v', .bool true]) ∧ Below u.heap.size u w' ∧ Got w' u.heap.size 5 1 v' ((stmtL t.st).map byX)) := fun u hu => stmtBytes_impl _ t.st u (HX.out u hu).1 hf.1 true _ (Or.inl ⟨rfl, hr.1, rfl⟩)
  have HD : Hid (partL t = numL (stmtL t.st).length 2 ++ stmtL t.st ++ wordsL t.cols ++ wordsL t.keys) := rfl
  have h8c := hr.2.1.1
  have h8k := hr.2.2.1
  have HCS : Hid (∀ s ∈ t.cols, s.size ≤ 30) := fun s hs => Nat.le_trans (fewW_size hr.2.1 s hs) (by omega)
  have HKS : Hid (∀ s ∈ t.keys, s.size ≤ 30) := fun s hs => Nat.le_trans (fewW_size hr.2.2 s hs) (by omega)
  have hcl := wordsL_length hr.2.1
  obtain ⟨vw, ho, hw⟩ := h
  obtain ⟨aw, nw, cw, rfl, hw⟩ := hw.lit2
  have HW : Hid (Own w bw 120 #[.slice aw nw cw] ∧ Got w (bw + 1) 5 1 (.slice aw nw cw) (L.map byX)) := ⟨ho, hw⟩
  have HAP : Hid (∀ c, (Value.slice aw nw cw).ownBlock = some c → c < w.heap.size) := fun c hc => by
    obtain ⟨cur, h⟩ := hw.tag hc
    exact (Array.getElem?_eq_some_iff.1 h).1
  have hs1 : 1 ≤ (stmtL t.st).length := by simp [stmtL]
  clear ho hw
  generalize stmtL t.st = SL at HSB HD hsl hs1
  generalize partL t = D at HD ⊢
  have hb0 : Below w.heap.size w (w.alloc (.cells #[.int .i64 t.st.kind, .string t.st.table, .slice ka t.st.key.length kp, .slice ra t.st.row.length rp, .int .i64 t.st.ddl.kind, .string t.st.ddl.table, .slice ca t.st.ddl.cols.length cp, .slice oa t.st.ddl.keys.length op, .string t.st.ddl.name, .string t.st.ddl.to, .slice ya t.cols.length yp, .slice za t.keys.length zp] 68)) := (by repeat (first | with_reducible exact Below.refl _ _ | with_reducible assumption | with_reducible refine ch_alloc ?_ _ | with_reducible refine Below.drew ?_ | with_reducible refine below_draws _ ?_ | (with_reducible refine Below.setCell ?_ ?_ _; rotate_left; focus (first | with_reducible exact Nat.le_refl _ | (simp; done) | (simp; omega) | (simp at *; omega))) | with_reducible refine ch_trans ?_ (by with_reducible assumption)))
  have HT0 : Hid (Wt bw w (w.alloc (.cells #[.int .i64 t.st.kind, .string t.st.table, .slice ka t.st.key.length kp, .slice ra t.st.row.length rp, .int .i64 t.st.ddl.kind, .string t.st.ddl.table, .slice ca t.st.ddl.cols.length cp, .slice oa t.st.ddl.keys.length op, .string t.st.ddl.name, .string t.st.ddl.to, .slice ya t.cols.length yp, .slice za t.keys.length zp] 68))) := Wt.new hb0 (by omega)
  have HV0 := Own.new w 68 #[.int .i64 t.st.kind, .string t.st.table, .slice ka t.st.key.length kp, .slice ra t.st.row.length rp, .int .i64 t.st.ddl.kind, .string t.st.ddl.table, .slice ca t.st.ddl.cols.length cp, .slice oa t.st.ddl.keys.length op, .string t.st.ddl.name, .string t.st.ddl.to, .slice ya t.cols.length yp, .slice za t.keys.length zp]
  clear hx hf hr
  obtain ⟨d0, d1, d2, d3, d4, d5, d6, d7, d8, d9, d10, d11⟩ := HV0.loc.twelve
  go_enter Tryz.func71, Tryz.ntmps71
  go_wp2_with fail
  refine (HSB.out _ HT0.out).mono ?_
  rintro e w1 ⟨v1, rfl, b1, hg1⟩
  obtain ⟨a1, c1, rfl, hl1, hm1, hr1, hfrom⟩ := hg1.row
  rw [List.length_map] at hg1 hl1 ⊢
  have HG1 : Hid (Got w1 (w.heap.size + 1) 5 1 (.slice a1 SL.length c1) (SL.map byX)) := by show Got _ _ _ _ _ _; simpa using hg1
  have HT1 : Hid (Wt bw w w1) := HT0.out.trans (Wt.new b1 (by simp; omega))
  have HV1 : Hid (Own w1 w.heap.size 68 #[.int .i64 t.st.kind, .string t.st.table, .slice ka t.st.key.length kp, .slice ra t.st.row.length rp, .int .i64 t.st.ddl.kind, .string t.st.ddl.table, .slice ca t.st.ddl.cols.length cp, .slice oa t.st.ddl.keys.length op, .string t.st.ddl.name, .string t.st.ddl.to, .slice ya t.cols.length yp, .slice za t.keys.length zp]) := HV0.on b1
  have HO1 : Hid (Own w1 bw 120 #[.slice aw nw cw] ∧ Got w1 (bw + 1) 5 1 (.slice aw nw cw) (L.map byX)) := ⟨HW.out.1.on (ch_trans hb0 b1), HW.out.2.on (ch_trans hb0 b1)⟩
  obtain ⟨g1, o1, rfl, hgo⟩ := hr1.bytes 0 (by omega)
  have hg1a : w.heap.size + 1 ≤ g1 := by simpa using hg1.own (c := g1) rfl
  have hg1b : g1 < w1.heap.size := by
    obtain ⟨cur, h⟩ := hg1.tag (c := g1) rfl
    exact (Array.getElem?_eq_some_iff.1 h).1
  have hbv1 : Below w1.heap.size w1 (w1.alloc (.cells #[.int .i64 (SL.length : Int)] 3)) := (by repeat (first | with_reducible exact Below.refl _ _ | with_reducible assumption | with_reducible refine ch_alloc ?_ _ | with_reducible refine Below.drew ?_ | with_reducible refine below_draws _ ?_ | (with_reducible refine Below.setCell ?_ ?_ _; rotate_left; focus (first | with_reducible exact Nat.le_refl _ | (simp; done) | (simp; omega) | (simp at *; omega))) | with_reducible refine ch_trans ?_ (by with_reducible assumption)))
  have hz1 : (w1.alloc (.cells #[.int .i64 (SL.length : Int)] 3)).heap.size = w1.heap.size + 1 := by simp
  have hlw1 : bw < w1.heap.size := by omega
  clear hgo hg1 hr1 hfrom b1 HW hb0 HT0 HV0 d0 d1 d2 d3 d4 d5 d6 d7 d8 d9 d10 d11
  go_wp2_with fail
  refine (nums_x bw 2 (.slice (some ⟨w1.heap.size, 0, none⟩) 1 1) (.slice aw nw cw) [SL.length] L (w1.alloc (.cells #[.int .i64 (SL.length : Int)] 3)) (HO1.out.1.on hbv1) (HO1.out.2.on hbv1) (fun u hu => by simpa using ints_one (hu.own (Own.new w1 3 #[.int .i64 (SL.length : Int)]) (by omega) (by decide))) (by omega) (by simp; omega)).mono ?_
  rintro e w2 ⟨a2, n2, c2, rfl, ho2, hg2, ht2, hu2, hli2⟩
  have HO2 : Own w2 bw 120 #[.slice a2 n2 c2] := ho2
  have HG2 : Hid (Got w2 (bw + 1) 5 1 (.slice a2 n2 c2) ((L ++ numL SL.length 2).map byX)) := by show Got _ _ _ _ _ _; simpa using hg2
  have HS2 : Hid (RowAt w2 (some ⟨g1, o1, none⟩) 1 (SL.map byX)) := by
    have h := (HG1.out.on hbv1).turned hu2 (fun c hc h => by
      have hc : g1 = c := by simpa [Value.ownBlock] using hc
      rcases h with h | h
      · omega
      · have := HAP.out c h; omega)
    obtain ⟨_, _, e1, _, _, h, _⟩ := h.row
    injection e1 with h1 _ _
    subst h1
    exact h
  have HT2 : Hid (Wt bw w w2) := HT1.out.trans ((Wt.new hbv1 (by omega)).trans ht2)
  have HV2 : Hid (Own w2 w.heap.size 68 #[.int .i64 t.st.kind, .string t.st.table, .slice ka t.st.key.length kp, .slice ra t.st.row.length rp, .int .i64 t.st.ddl.kind, .string t.st.ddl.table, .slice ca t.st.ddl.cols.length cp, .slice oa t.st.ddl.keys.length op, .string t.st.ddl.name, .string t.st.ddl.to, .slice ya t.cols.length yp, .slice za t.keys.length zp]) := ht2.own (HV1.out.on hbv1) (by omega) (by decide)
  have g0 := HO2.loc.one
  have hl2 := HO2.lt
  clear ho2 hg2 ht2 hu2 hli2 HO1 HT1 HV1 HG1 hbv1 hz1
  go_wp2_with (at_builtin; refine app_lotT rfl (.tmp 21) (.tmp 22) rfl Tryz.underlying26 infoByte rfl (by decide) (by decide) (bw + 1) _ _ rfl HG2.out g1 o1 _ (SL.map byX) SL.length (by simp) rfl HS2.out (byte_one _) (by simp [numL_length]; omega) (by omega) ?_; intro v3 w3 hg3 hb3 ht3; obtain ⟨a3, n3, c3, rfl, hg3⟩ := hg3.lit2; have HO3 : Own w3 bw 120 #[.slice a2 n2 c2] := (hb3.block bw (by omega)).trans HO2; have k0 := HO3.loc.one; have k1 := HO3.frozen 0; have hO4 := ((Byt.got HG2.out ht3).own HV2.out (by decide)).other (p := ⟨bw, 0, none⟩) (show w.heap.size ≠ bw by omega) (.slice a3 n3 c3); obtain ⟨d0, d1, d2, d3, d4, d5, d6, d7, d8, d9, d10, d11⟩ := hO4.loc.twelve)
  have HG3 : Got w3 (bw + 1) 5 1 (.slice a3 n3 c3) ((L ++ numL SL.length 2 ++ SL).map byX) := by rw [List.map_append]; exact hg3
  have HW4 : Hid (WIs (w3.setCell ⟨bw, 0, none⟩ (.slice a3 n3 c3)) bw (L ++ numL SL.length 2 ++ SL)) := WIs.put HO3 HG3
  have HT4a : Wt bw w2 (w3.setCell ⟨bw, 0, none⟩ (.slice a3 n3 c3)) := (Wt.of (Byt.got HG2.out ht3) hb3).trans (Wt.set bw w3 _)
  have HT4 : Hid (Wt bw w (w3.setCell ⟨bw, 0, none⟩ (.slice a3 n3 c3))) := HT2.out.trans HT4a
  have HV4 : Hid (Own (w3.setCell ⟨bw, 0, none⟩ (.slice a3 n3 c3)) w.heap.size 68 #[.int .i64 t.st.kind, .string t.st.table, .slice ka t.st.key.length kp, .slice ra t.st.row.length rp, .int .i64 t.st.ddl.kind, .string t.st.ddl.table, .slice ca t.st.ddl.cols.length cp, .slice oa t.st.ddl.keys.length op, .string t.st.ddl.name, .string t.st.ddl.to, .slice ya t.cols.length yp, .slice za t.keys.length zp]) := HT4a.own HV2.out (by omega) (by decide)
  clear hg3 hb3 ht3 HG3 HO3 k0 k1 HT4a HT2 HV2 HS2 HG2 g0 HO2 hO4
  generalize w3.setCell ⟨bw, 0, none⟩ (.slice a3 n3 c3) = w4 at HW4 HT4 HV4 ⊢
  refine (words_any bw ya yp t.cols (L ++ numL SL.length 2 ++ SL) w4 HW4.out (fun u hu => (HX.out u (HT4.out.trans hu)).2.1.row) h8c HCS.out (by simp only [List.length_append, numL_length]; omega)).mono ?_
  rintro e w5 ⟨rfl, hw5, ht5⟩
  have HW5 : Hid (WIs w5 bw (L ++ numL SL.length 2 ++ SL ++ wordsL t.cols)) := by show WIs _ _ _; rw [List.append_assoc _ [_]] at hw5; exact hw5
  have HT5 : Hid (Wt bw w w5) := HT4.out.trans ht5
  have HV5 : Hid (Own w5 w.heap.size 68 #[.int .i64 t.st.kind, .string t.st.table, .slice ka t.st.key.length kp, .slice ra t.st.row.length rp, .int .i64 t.st.ddl.kind, .string t.st.ddl.table, .slice ca t.st.ddl.cols.length cp, .slice oa t.st.ddl.keys.length op, .string t.st.ddl.name, .string t.st.ddl.to, .slice ya t.cols.length yp, .slice za t.keys.length zp]) := ht5.own HV4.out (by omega) (by decide)
  clear hw5 ht5 HW4 HT4 HV4 d0 d1 d2 d3 d4 d5 d6 d7 d8 d9 d10 d11
  obtain ⟨d0, d1, d2, d3, d4, d5, d6, d7, d8, d9, d10, d11⟩ := HV5.out.loc.twelve
  go_wp2_with fail
  refine (words_any bw za zp t.keys (L ++ numL SL.length 2 ++ SL ++ wordsL t.cols) w5 HW5.out (fun u hu => (HX.out u (HT5.out.trans hu)).2.2.row) h8k HKS.out (by simp only [List.length_append, numL_length]; omega)).mono ?_
  rintro e w6 ⟨rfl, hw6, ht6⟩
  have HW6 : Hid (WIs w6 bw (L ++ D)) := by
    show WIs _ _ _
    rw [HD.out]
    rw [List.append_assoc _ [_]] at hw6
    simpa [wordsL] using hw6
  have HT6 : Hid (Wt bw w w6) := HT5.out.trans ht6
  clear hw6 ht6 HW5 HT5 HV5
  go_wp2
  first | go_end0 | (refine bodyPost_end (results_none rfl _ _ _) rfl ?_) | (refine bodyPost_ret (results_none rfl _ _ _) rfl ?_)
  exact ⟨rfl, HW6.out, HT6.out⟩

set_option maxRecDepth 100000 in
set_option maxHeartbeats 2000000 in
/-- impl.packBytes -/
theorem packBytes_any (x : Array Value) (t : Btc) (w : World) (hx : BatV w x t) (hf : t.fit) (q : Bool) (L : List UInt8) (hq : (q = true ∧ t.right ∧ L = batL t) ∨ (q = false ∧ ¬ t.right ∧ L = [])) :
    Calls Tryz.prog 35 #[.agg x] w fun e w' => ∃ v', e = .returned (.tuple #[v', .bool q]) ∧ Below w.heap.size w w' ∧ Got w' w.heap.size 5 1 v' (L.map byX) := by
  have hbo := fun u (hu : Below w.heap.size w u) => batchOk_impl x t u (hx.on hu) hf
  obtain ⟨a, p, rfl, hps⟩ := hx
  have HSO : Hid (∀ u : World, Below w.heap.size w u → Calls Tryz.prog 68 #[.agg #[.int .i64 t.lsn, .int .i64 t.prev, .slice a t.parts.length p]] u fun e w' => e = .returned (.bool q) ∧ Below u.heap.size u w') := fun u hu => (hbo u hu).mono fun e w' ⟨r, he, hr, hb⟩ => ⟨by
    rw [he]
    have : r = q := by
      rcases hq with ⟨rfl, h, _⟩ | ⟨rfl, h, _⟩
      · exact hr.2 h
      · cases r with
        | false => rfl
        | true => exact absurd (hr.1 rfl) h
    rw [this], hb⟩
  have HX : Hid (PartsV w (.slice a t.parts.length p) t.parts) := hps
  have HF : Hid (pfits t.parts) := hf
  clear hps hf hbo
  rcases hq with ⟨rfl, hr, rfl⟩ | ⟨rfl, hr, rfl⟩
  rotate_left
  · clear hr HX HF
    go_enter Tryz.func35, Tryz.ntmps35
    go_wp2_with fail
    refine (HSO.out _ (by repeat (first | with_reducible exact Below.refl _ _ | with_reducible assumption | with_reducible refine ch_alloc ?_ _ | with_reducible refine Below.drew ?_ | with_reducible refine below_draws _ ?_ | (with_reducible refine Below.setCell ?_ ?_ _; rotate_left; focus (first | with_reducible exact Nat.le_refl _ | (simp; done) | (simp; omega) | (simp at *; omega))) | with_reducible refine ch_trans ?_ (by with_reducible assumption)))).mono ?_
    rintro e w0 ⟨rfl, b0⟩
    go_wp2
    go_ret2
    exact ⟨_, rfl, (by repeat (first | with_reducible exact Below.refl _ _ | with_reducible assumption | with_reducible refine ch_alloc ?_ _ | with_reducible refine Below.drew ?_ | with_reducible refine below_draws _ ?_ | (with_reducible refine Below.setCell ?_ ?_ _; rotate_left; focus (first | with_reducible exact Nat.le_refl _ | (simp; done) | (simp; omega) | (simp at *; omega))) | with_reducible refine ch_trans ?_ (by with_reducible assumption))), Got.nil _ _ _ _⟩
  have hbl := batB_length hr
  obtain ⟨⟨hn1, hn4, hp0, hp1⟩, h60, hpr⟩ := hr
  have hprr : ∀ t' ∈ t.parts, t'.right := fun x hx => by
    obtain ⟨i, hi, rfl⟩ := List.getElem_of_mem hx
    exact hpr i hi
  have hfl := flat_part t.parts hprr
  have HPR : Hid (∀ t' ∈ t.parts, t'.right) := hprr
  have HD : Hid (batL t = batB t ++ numL (sumL (batB t)) 3) := rfl
  have HB : Hid (batB t = [80] ++ numL t.lsn.toNat 2 ++ numL t.prev.toNat 2 ++ [UInt8.ofNat t.parts.length] ++ t.parts.flatMap partL) := rfl
  clear hpr hprr
  generalize batL t = D at HD ⊢
  generalize batB t = BB at HD HB hbl
  obtain ⟨lsn, prev, ts⟩ := t
  simp only at *
  obtain ⟨N, rfl⟩ : ∃ N : Nat, lsn = (N : Int) := ⟨lsn.toNat, by omega⟩
  obtain ⟨P, rfl⟩ : ∃ P : Nat, prev = (P : Int) := ⟨prev.toNat, by omega⟩
  simp only [Int.toNat_natCast] at HB
  obtain ⟨_, _, e0, hlp, hmp, _⟩ := HX.out.lit
  cases e0
  unfold maxLen at hmp
  go_enter Tryz.func35, Tryz.ntmps35
  go_wp2_with fail
  refine (HSO.out _ (by repeat (first | with_reducible exact Below.refl _ _ | with_reducible assumption | with_reducible refine ch_alloc ?_ _ | with_reducible refine Below.drew ?_ | with_reducible refine below_draws _ ?_ | (with_reducible refine Below.setCell ?_ ?_ _; rotate_left; focus (first | with_reducible exact Nat.le_refl _ | (simp; done) | (simp; omega) | (simp at *; omega))) | with_reducible refine ch_trans ?_ (by with_reducible assumption)))).mono ?_
  rintro e w0 ⟨rfl, b0⟩
  have HV0 : Hid (Own w0 w.heap.size 33 #[.int .i64 (N : Int), .int .i64 (P : Int), .slice a ts.length p]) := (Own.new _ _ _).on b0
  have hb0 : Below w.heap.size w w0 := ch_trans (ch_alloc (Below.refl _ _) _) b0
  have hvw0 : w.heap.size < w0.heap.size := HV0.out.lt
  clear b0 HSO
  obtain ⟨d0, d1, d2⟩ := HV0.out.loc.three
  go_wp2_with fail
  refine (writerOf_any (.slice (some ⟨w0.heap.size, 0, none⟩) 1 1) [80] (w0.alloc (.cells #[.int .i64 80] 3)) (by simpa using ints_one (Own.new w0 3 #[.int .i64 80])) (by simp)).mono ?_
  rintro e w1 ⟨bw, rfl, hbw, b1, hw1⟩
  have HW1 : Hid (WIs w1 bw [80]) := by show WIs _ _ _; simpa [numL_one] using hw1
  have hbw1 : w0.heap.size + 1 ≤ bw := by simpa using hbw
  have hb01 : Below w0.heap.size w0 w1 := ch_trans (ch_alloc (Below.refl _ _) _) b1
  have HV1 : Hid (Own w1 w.heap.size 33 #[.int .i64 (N : Int), .int .i64 (P : Int), .slice a ts.length p]) := HV0.out.on hb01
  have hb1 : Below w.heap.size w w1 := ch_trans hb0 hb01
  have hlw1 : bw < w1.heap.size := hw1.lt
  clear hw1 b1 hb01 hbw d0 d1 d2 HV0 hb0
  obtain ⟨d0, d1, d2⟩ := HV1.out.loc.three
  go_wp2_with fail
  refine (nums_any bw 2 (.slice (some ⟨w1.heap.size, 0, none⟩) 2 2) [N, P] [80] (w1.alloc (.cells #[.int .i64 (N : Int), .int .i64 (P : Int)] 3)) (HW1.out.on (by repeat (first | with_reducible exact Below.refl _ _ | with_reducible assumption | with_reducible refine ch_alloc ?_ _ | with_reducible refine Below.drew ?_ | with_reducible refine below_draws _ ?_ | (with_reducible refine Below.setCell ?_ ?_ _; rotate_left; focus (first | with_reducible exact Nat.le_refl _ | (simp; done) | (simp; omega) | (simp at *; omega))) | with_reducible refine ch_trans ?_ (by with_reducible assumption)))) (fun u hu => by simpa using ints_two (hu.own (Own.new w1 3 #[.int .i64 (N : Int), .int .i64 (P : Int)]) (by omega) (by decide))) (by omega) (by simp)).mono ?_
  rintro e w2 ⟨rfl, hw2, ht2⟩
  have HW2 : Hid (WIs w2 bw ([80] ++ numL N 2 ++ numL P 2)) := by show WIs _ _ _; simpa using hw2
  have HT2 : Hid (Wt bw w1 w2) := (Wt.new (ch_alloc (Below.refl _ _) _) (by omega)).trans ht2
  have HV2 : Hid (Own w2 w.heap.size 33 #[.int .i64 (N : Int), .int .i64 (P : Int), .slice a ts.length p]) := HT2.out.own HV1.out (by omega) (by decide)
  have hlw2 : bw < w2.heap.size := hw2.lt
  clear hw2 ht2 HW1 HV1 d0 d1 d2
  obtain ⟨d0, d1, d2⟩ := HV2.out.loc.three
  go_wp2_with fail
  refine (nums_one bw w2.heap.size 1 ts.length ([80] ++ numL N 2 ++ numL P 2) (w2.alloc (.cells #[.int .i64 (ts.length : Int)] 3)) (HW2.out.on (by repeat (first | with_reducible exact Below.refl _ _ | with_reducible assumption | with_reducible refine ch_alloc ?_ _ | with_reducible refine Below.drew ?_ | with_reducible refine below_draws _ ?_ | (with_reducible refine Below.setCell ?_ ?_ _; rotate_left; focus (first | with_reducible exact Nat.le_refl _ | (simp; done) | (simp; omega) | (simp at *; omega))) | with_reducible refine ch_trans ?_ (by with_reducible assumption)))) (Own.new _ _ _) (by omega) (by omega) (by simp [numL_length])).mono ?_
  rintro e w3 ⟨rfl, hw3, ht3⟩
  have HW3 : Hid (WIs w3 bw ([80] ++ numL N 2 ++ numL P 2 ++ [UInt8.ofNat ts.length])) := by show WIs _ _ _; rw [numL_one] at hw3; exact hw3
  have HT3 : Hid (Wt bw w1 w3) := HT2.out.trans ((Wt.new (ch_alloc (Below.refl _ _) _) (by omega)).trans ht3)
  have HV3 : Hid (Own w3 w.heap.size 33 #[.int .i64 (N : Int), .int .i64 (P : Int), .slice a ts.length p]) := ht3.own (HV2.out.on (ch_alloc (Below.refl _ _) _)) (by omega) (by decide)
  clear hw3 ht3 HW2 HT2 HV2 d0 d1 d2
  obtain ⟨d0, d1, d2⟩ := HV3.out.loc.three
  have HTL : Hid ((ts.take 0).flatMap partL = []) := by show _ = _; simp
  go_wp2
  go_loopw [28] (fun i wr => ∃ k : Nat, k ≤ ts.length ∧ i = .int .i64 (k : Int) ∧ Hid (Wt bw w1 wr) ∧ Hid (WIs wr bw ([80] ++ numL N 2 ++ numL P 2 ++ [UInt8.ofNat ts.length] ++ (ts.take k).flatMap partL))) (fun i _ => ts.length - (intOf i).toNat)
  case atStart => exact ⟨0, Nat.zero_le _, rfl, HT3, by
    show WIs _ _ _
    rw [HTL.out, List.append_nil]; exact HW3.out⟩
  case round =>
    clear HW3 HT3 HV3 d0 d1 d2 HTL
    obtain ⟨k, hk, rfl, HT, HW⟩ := hrel
    have hbr : Below w.heap.size w wr := hb1.trans (HT.out.1.mono (by omega))
    have hlwr : bw < wr.heap.size := HW.out.lt
    by_cases hlt : k < ts.length
    · have hlti : (k : Int) < ts.length := by omega
      obtain ⟨b, off, ka, kp, ra, rp, ca, cp, oa, op, ya, yp, za, zp, rfl, hx, e0, e1, e2, e3, e4, e5, e6, e7, e8, e9, e10, e11⟩ := HX.out.part k hlt
      have d0 := cell_on e0 hbr
      have d1 := cell_on e1 hbr
      have d2 := cell_on e2 hbr
      have d3 := cell_on e3 hbr
      have d4 := cell_on e4 hbr
      have d5 := cell_on e5 hbr
      have d6 := cell_on e6 hbr
      have d7 := cell_on e7 hbr
      have d8 := cell_on e8 hbr
      have d9 := cell_on e9 hbr
      have d10 := cell_on e10 hbr
      have d11 := cell_on e11 hbr
      have HP : Hid (∀ u, Below w.heap.size w u → PartV u #[.int .i64 ts[k].st.kind, .string ts[k].st.table, .slice ka ts[k].st.key.length kp, .slice ra ts[k].st.row.length rp, .int .i64 ts[k].st.ddl.kind, .string ts[k].st.ddl.table, .slice ca ts[k].st.ddl.cols.length cp, .slice oa ts[k].st.ddl.keys.length op, .string ts[k].st.ddl.name, .string ts[k].st.ddl.to, .slice ya ts[k].cols.length yp, .slice za ts[k].keys.length zp] ts[k]) := fun u hu => hx.on hu
      have HRK : Hid ts[k].right := HPR.out _ (List.getElem_mem hlt)
      have HFK : Hid ts[k].fit := HF.out _ (List.getElem_mem hlt)
      have hlen : ([80] ++ numL N 2 ++ numL P 2 ++ [UInt8.ofNat ts.length] ++ (ts.take k).flatMap partL).length ≤ 200000 := by
        have h1 := flat_part (ts.take k) fun x hx => HPR.out x (List.mem_of_mem_take hx)
        have h2 : (ts.take k).length ≤ 60 := by simp; omega
        simp only [List.length_append, List.length_cons, List.length_nil, numL_length]; omega
      have HFL : Hid (([80] ++ numL N 2 ++ numL P 2 ++ [UInt8.ofNat ts.length] ++ (ts.take k).flatMap partL) ++ partL ts[k] = [80] ++ numL N 2 ++ numL P 2 ++ [UInt8.ofNat ts.length] ++ (ts.take (k + 1)).flatMap partL) := by
        show _ = _
        rw [List.take_succ_eq_append_getElem hlt, List.flatMap_append]
        simp
      generalize [80] ++ numL N 2 ++ numL P 2 ++ [UInt8.ofNat ts.length] ++ (ts.take k).flatMap partL = L0 at HW hlen HFL
      have hba : Below wr.heap.size wr (wr.alloc (.cells #[.int .i64 ts[k].st.kind, .string ts[k].st.table, .slice ka ts[k].st.key.length kp, .slice ra ts[k].st.row.length rp, .int .i64 ts[k].st.ddl.kind, .string ts[k].st.ddl.table, .slice ca ts[k].st.ddl.cols.length cp, .slice oa ts[k].st.ddl.keys.length op, .string ts[k].st.ddl.name, .string ts[k].st.ddl.to, .slice ya ts[k].cols.length yp, .slice za ts[k].keys.length zp] 68)) := (by repeat (first | with_reducible exact Below.refl _ _ | with_reducible assumption | with_reducible refine ch_alloc ?_ _ | with_reducible refine Below.drew ?_ | with_reducible refine below_draws _ ?_ | (with_reducible refine Below.setCell ?_ ?_ _; rotate_left; focus (first | with_reducible exact Nat.le_refl _ | (simp; done) | (simp; omega) | (simp at *; omega))) | with_reducible refine ch_trans ?_ (by with_reducible assumption)))
      clear hx e0 e1 e2 e3 e4 e5 e6 e7 e8 e9 e10 e11
      go_wp2_with fail
      refine (part_any bw #[.int .i64 ts[k].st.kind, .string ts[k].st.table, .slice ka ts[k].st.key.length kp, .slice ra ts[k].st.row.length rp, .int .i64 ts[k].st.ddl.kind, .string ts[k].st.ddl.table, .slice ca ts[k].st.ddl.cols.length cp, .slice oa ts[k].st.ddl.keys.length op, .string ts[k].st.ddl.name, .string ts[k].st.ddl.to, .slice ya ts[k].cols.length yp, .slice za ts[k].keys.length zp] ts[k] L0 (wr.alloc (.cells #[.int .i64 ts[k].st.kind, .string ts[k].st.table, .slice ka ts[k].st.key.length kp, .slice ra ts[k].st.row.length rp, .int .i64 ts[k].st.ddl.kind, .string ts[k].st.ddl.table, .slice ca ts[k].st.ddl.cols.length cp, .slice oa ts[k].st.ddl.keys.length op, .string ts[k].st.ddl.name, .string ts[k].st.ddl.to, .slice ya ts[k].cols.length yp, .slice za ts[k].keys.length zp] 68)) (HW.out.on hba) (fun u hu => HP.out u ((ch_trans hbr hba).trans (hu.1.mono (by omega)))) HFK.out HRK.out hlen).mono ?_
      rintro e w5 ⟨rfl, hw5, ht5⟩
      have HW5 : Hid (WIs w5 bw ([80] ++ numL N 2 ++ numL P 2 ++ [UInt8.ofNat ts.length] ++ (ts.take (k + 1)).flatMap partL)) := by
        show WIs _ _ _
        rw [← HFL.out]; exact hw5
      have HT5 : Hid (Wt bw w1 w5) := HT.out.trans ((Wt.new hba (by omega)).trans ht5)
      clear hw5 ht5 HFL HW HT d0 d1 d2 d3 d4 d5 d6 d7 d8 d9 d10 d11 hba HP HRK HFK
      go_wp2
      go_round
      case rel => exact ⟨k + 1, by omega, by go_num, HT5, HW5⟩
      case measure => simp [intOf]; omega
    · have hlti : (ts.length : Int) ≤ k := by omega
      have HWf : Hid (WIs wr bw BB) := by
        have h := HW.out
        rw [List.take_of_length_le (by omega)] at h
        show WIs _ _ _
        rw [HB.out]; exact h
      obtain ⟨aw, nw, cw, hcell, hgw⟩ := writer_out HWf.out
      have HGW : Hid (Got wr (bw + 1) 5 1 (.slice aw nw cw) (BB.map byX)) := hgw
      clear hgw HW HB
      go_wp2_with fail
      refine (sum_impl _ BB wr HGW.out.bytes).mono ?_
      rintro e w6 ⟨rfl, b6⟩
      have HW6 : Hid (WIs w6 bw BB) := HWf.out.on b6
      have HB6 : Hid (Below w.heap.size w w6) := ch_trans hbr b6
      have hlw6 : bw < w6.heap.size := HW6.out.lt
      have hsl := sumL_lt BB
      clear hcell HGW HWf b6
      go_wp2_with fail
      refine (nums_one bw w6.heap.size 3 (sumL BB) BB (w6.alloc (.cells #[.int .i64 (sumL BB : Int)] 3)) (HW6.out.on (by repeat (first | with_reducible exact Below.refl _ _ | with_reducible assumption | with_reducible refine ch_alloc ?_ _ | with_reducible refine Below.drew ?_ | with_reducible refine below_draws _ ?_ | (with_reducible refine Below.setCell ?_ ?_ _; rotate_left; focus (first | with_reducible exact Nat.le_refl _ | (simp; done) | (simp; omega) | (simp at *; omega))) | with_reducible refine ch_trans ?_ (by with_reducible assumption)))) (Own.new _ _ _) (by omega) (by omega) (by omega)).mono ?_
      rintro e w7 ⟨rfl, hw7, ht7⟩
      have HB7 : Hid (Below w.heap.size w w7) := (ch_trans HB6.out (ch_alloc (Below.refl _ _) _)).trans (ht7.1.mono (by omega))
      obtain ⟨a7, n7, c7, hc7, hg7⟩ := writer_out hw7
      have HG7 : Hid (Got w7 w.heap.size 5 1 (.slice a7 n7 c7) (D.map byX)) := by
        show Got _ _ _ _ _ _
        rw [HD.out]; exact hg7.mono (by omega)
      clear hw7 ht7 hg7 HW6 HB6
      go_wp2
      go_ret2
      exact ⟨_, rfl, HB7.out, HG7.out⟩

set_option maxRecDepth 100000 in
set_option maxHeartbeats 1000000 in
/-- impl.PackOf -/
theorem packOf_impl (x : Array Value) (t : Btc) (w : World) (hx : BatV w x t) (hf : t.fit) (q : Bool) (L : List UInt8) (hq : (q = true ∧ t.right ∧ L = batL t) ∨ (q = false ∧ ¬ t.right ∧ L = [])) :
    Calls Tryz.prog 9 #[.agg x] w fun e w' => ∃ v', e = .returned (.tuple #[.agg #[v'], .bool q]) ∧ Below w.heap.size w w' ∧ Got w' w.heap.size 5 1 v' (L.map byX) := by
  have HPB : Hid (∀ u, Below w.heap.size w u → Calls Tryz.prog 35 #[.agg x] u fun e w' => ∃ v', e = .returned (.tuple #[v', .bool q]) ∧ Below u.heap.size u w' ∧ Got w' u.heap.size 5 1 v' (L.map byX)) := fun u hu => packBytes_any x t u (hx.on hu) hf q L hq
  obtain ⟨a, p, rfl, _⟩ := hx
  have hw0 : Below w.heap.size w ((w.alloc (.cells #[.int .i64 t.lsn, .int .i64 t.prev, .slice a t.parts.length p] 33)).alloc (.cells #[.slice none 0 0] 28)) := (by repeat (first | with_reducible exact Below.refl _ _ | with_reducible assumption | with_reducible refine ch_alloc ?_ _ | with_reducible refine Below.drew ?_ | with_reducible refine below_draws _ ?_ | (with_reducible refine Below.setCell ?_ ?_ _; rotate_left; focus (first | with_reducible exact Nat.le_refl _ | (simp; done) | (simp; omega) | (simp at *; omega))) | with_reducible refine ch_trans ?_ (by with_reducible assumption)))
  have hz0 : ((w.alloc (.cells #[.int .i64 t.lsn, .int .i64 t.prev, .slice a t.parts.length p] 33)).alloc (.cells #[.slice none 0 0] 28)).heap.size = w.heap.size + 1 + 1 := by simp
  have HQ := Own.at (w.alloc (.cells #[.int .i64 t.lsn, .int .i64 t.prev, .slice a t.parts.length p] 33)) 28 #[.slice none 0 0] (n := w.heap.size + 1) (by simp)
  clear hq hf
  go_enter Tryz.func9, Tryz.ntmps9
  go_wp2_with fail
  refine (HPB.out _ hw0).mono ?_
  rintro e w1 ⟨kv, rfl, b1, hg⟩
  rw [hz0] at b1 hg
  obtain ⟨a1, n1, c1, rfl, hg⟩ := hg.lit2
  obtain ⟨d0, d1⟩ := cut_own HQ b1
  obtain ⟨k0, k1, k2⟩ := cut_end hw0 HQ b1 hg
  have K2 : Hid (Got (w1.setCell ⟨w.heap.size + 1, 0, none⟩ (.slice a1 n1 c1)) w.heap.size 5 1 (.slice a1 n1 c1) _) := k2
  have K1 : Hid _ := k1
  clear k1 k2 b1 hg HQ hw0 HPB
  go_wp2
  generalize w1.setCell ⟨w.heap.size + 1, 0, none⟩ (.slice a1 n1 c1) = W at k0 K1 K2 ⊢
  exact bodyPost_ret (v := .tuple #[.agg #[.slice a1 n1 c1], .bool q]) (by simp [results, Tryz.results9, go_sem, k0]) rfl ⟨_, rfl, K1.out, K2.out⟩
end Go.Proofs.YtikccmgpmbnkfaaGreat
