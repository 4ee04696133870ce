/- Packets in memory: the laws' size, copy, look and marks; PackCut, given and landed. -/
import Derived.Test.YtikccmgpmbnkfaaPn
import Derived.Test.YtikccmgpmbnkfaaRw
import Derived.Test.YtikccmgpmbnkfaaRi
namespace Go.Proofs.Ytikccmgpmbnkfaa
open Go.ChangeShapes Go.WideShapes Go.ChangeAt Go.RowKit

set_option maxRecDepth 100000 in
/-- laws.szByteS -/
theorem szByteS_any (v : Value) (l : List UInt8) (n : Int) (w : World) (hv : BytesV w v l) (h0 : 0 ≤ n) (h1 : n ≤ 1048576) :
    Calls Try.prog 34 #[v, .int .i64 n] w fun e w' => ∃ r : Int, e = .returned (.int .i64 r) ∧ Below w.heap.size w w' ∧ (r = -1 ∨ (0 ≤ r ∧ r ≤ n ∧ l.length ≤ 1048576)) := by
  obtain ⟨a, p, rfl, hl, hm, _⟩ := hv.lit
  unfold maxLen at hm
  clear hv
  by_cases hn : n - l.length < 0
  · go_enter Try.func34, Try.ntmps34
    go_wp2
    go_ret
    exact ⟨_, rfl, (by repeat (first | with_reducible exact Below.refl _ _ | with_reducible assumption | with_reducible refine ch_alloc ?_ _ | with_reducible refine Below.drew ?_ | with_reducible refine below_draws _ ?_ | (with_reducible refine Below.setCell ?_ ?_ _; rotate_left; focus (first | with_reducible exact Nat.le_refl _ | (simp; done) | (simp; omega) | (simp at *; omega))) | with_reducible refine ch_trans ?_ (by with_reducible assumption))), Or.inl rfl⟩
  · go_enter Try.func34, Try.ntmps34
    go_wp2
    go_ret
    exact ⟨n - l.length, by go_num, (by repeat (first | with_reducible exact Below.refl _ _ | with_reducible assumption | with_reducible refine ch_alloc ?_ _ | with_reducible refine Below.drew ?_ | with_reducible refine below_draws _ ?_ | (with_reducible refine Below.setCell ?_ ?_ _; rotate_left; focus (first | with_reducible exact Nat.le_refl _ | (simp; done) | (simp; omega) | (simp at *; omega))) | with_reducible refine ch_trans ?_ (by with_reducible assumption))), Or.inr ⟨by omega, by omega, by omega⟩⟩

set_option maxRecDepth 100000 in
/-- laws.szPack -/
theorem szPack_any (v : Value) (l : List UInt8) (n : Int) (w : World) (hv : BytesV w v l) (h0 : 0 ≤ n) (h1 : n ≤ 1048576) :
    Calls Try.prog 11 #[.agg #[v], .int .i64 n] w fun e w' => ∃ r : Int, e = .returned (.int .i64 r) ∧ Below w.heap.size w w' ∧ (r = -1 ∨ (0 ≤ r ∧ r ≤ n ∧ l.length ≤ 1048576)) := by
  have HS : Hid (∀ u : World, Below w.heap.size w u → Calls Try.prog 34 #[v, .int .i64 n] u fun e w' => ∃ r : Int, e = .returned (.int .i64 r) ∧ Below u.heap.size u w' ∧ (r = -1 ∨ (0 ≤ r ∧ r ≤ n ∧ l.length ≤ 1048576))) := fun u hu => szByteS_any v l n u (hv.on hu) h0 h1
  obtain ⟨a, p, rfl, hl, hm, _⟩ := hv.lit
  have c0 := (Loc.new w #[.slice a l.length p] 35).one
  clear hv
  go_enter Try.func11, Try.ntmps11
  go_wp2_with fail
  refine (HS.out _ (by repeat (first | with_reducible exact Below.refl _ _ | with_reducible assumption | with_reducible refine ch_alloc ?_ _ | with_reducible refine Below.drew ?_ | with_reducible refine below_draws _ ?_ | (with_reducible refine Below.setCell ?_ ?_ _; rotate_left; focus (first | with_reducible exact Nat.le_refl _ | (simp; done) | (simp; omega) | (simp at *; omega))) | with_reducible refine ch_trans ?_ (by with_reducible assumption)))).mono ?_
  rintro e w1 ⟨r, rfl, b1, hr⟩
  rcases hr with rfl | ⟨r0, r1, r2⟩
  · go_wp2
    go_ret
    exact ⟨_, rfl, (by repeat (first | with_reducible exact Below.refl _ _ | with_reducible assumption | with_reducible refine ch_alloc ?_ _ | with_reducible refine Below.drew ?_ | with_reducible refine below_draws _ ?_ | (with_reducible refine Below.setCell ?_ ?_ _; rotate_left; focus (first | with_reducible exact Nat.le_refl _ | (simp; done) | (simp; omega) | (simp at *; omega))) | with_reducible refine ch_trans ?_ (by with_reducible assumption))), Or.inl rfl⟩
  · go_wp2
    go_ret
    exact ⟨_, rfl, (by repeat (first | with_reducible exact Below.refl _ _ | with_reducible assumption | with_reducible refine ch_alloc ?_ _ | with_reducible refine Below.drew ?_ | with_reducible refine below_draws _ ?_ | (with_reducible refine Below.setCell ?_ ?_ _; rotate_left; focus (first | with_reducible exact Nat.le_refl _ | (simp; done) | (simp; omega) | (simp at *; omega))) | with_reducible refine ch_trans ?_ (by with_reducible assumption))), Or.inr ⟨r0, r1, r2⟩⟩

set_option maxRecDepth 100000 in
/-- laws.toPack -/
theorem toPack_full (v : Value) (l : List UInt8) (w : World) (hv : BytesV w v l) (hn : l.length ≤ 1048576) :
    Calls Try.prog 13 #[.agg #[v]] w fun e w' => ∃ B, e = .returned (.agg #[.slice (some ⟨B, 0, none⟩) l.length l.length]) ∧ w.heap.size ≤ B ∧ B < w'.heap.size ∧ Below w.heap.size w w' ∧ Fill w' B 5 1 l.length (l.map byX) := by
  have HS : Hid (∀ u : World, Below w.heap.size w u → Calls Try.prog 35 #[v] u fun e w' => ∃ B, e = .returned (.slice (some ⟨B, 0, none⟩) l.length l.length) ∧ u.heap.size ≤ B ∧ Below u.heap.size u w' ∧ Fill w' B 5 1 l.length (l.map byX)) := fun u hu => (toByteS_full _ l u (hv.on hu) hn).mono fun e w' ⟨he, hb, hf⟩ => ⟨_, he, Nat.le_refl _, hb, hf⟩
  obtain ⟨a, p, rfl, hl, hm, _⟩ := hv.lit
  clear hv
  go_enter Try.func13, Try.ntmps13
  go_wp2_with fail
  have hb0 : Below w.heap.size w (((w.alloc (.cells #[.slice a l.length p] 35)).alloc (.cells #[.slice none 0 0] 37)).alloc (.cells #[.slice none 0 0] 37)) := (by repeat (first | with_reducible exact Below.refl _ _ | with_reducible assumption | with_reducible refine ch_alloc ?_ _ | with_reducible refine Below.drew ?_ | with_reducible refine below_draws _ ?_ | (with_reducible refine Below.setCell ?_ ?_ _; rotate_left; focus (first | with_reducible exact Nat.le_refl _ | (simp; done) | (simp; omega) | (simp at *; omega))) | with_reducible refine ch_trans ?_ (by with_reducible assumption)))
  have HQ := (Own.at (w.alloc (.cells #[.slice a l.length p] 35)) 37 #[.slice none 0 0] (n := w.heap.size + 1) (by simp)).on (ch_alloc (Below.refl _ _) (.cells #[.slice none 0 0] 37))
  have HO := Own.at ((w.alloc (.cells #[.slice a l.length p] 35)).alloc (.cells #[.slice none 0 0] 37)) 37 #[.slice none 0 0] (n := w.heap.size + 1 + 1) (by simp)
  have hs0 : w.heap.size + 1 + 1 + 1 ≤ (((w.alloc (.cells #[.slice a l.length p] 35)).alloc (.cells #[.slice none 0 0] 37)).alloc (.cells #[.slice none 0 0] 37)).heap.size := by simp
  generalize (((w.alloc (.cells #[.slice a l.length p] 35)).alloc (.cells #[.slice none 0 0] 37)).alloc (.cells #[.slice none 0 0] 37)) = u0 at hb0 HQ HO hs0 ⊢
  refine (HS.out _ hb0).mono ?_
  rintro e w1 ⟨B, rfl, hB, b1, hy⟩
  have HF1 : Hid (Fill w1 B 5 1 l.length (l.map byX)) := hy
  have hlt := hy.lt
  have hb1 := ch_trans hb0 b1
  have HO1 := HO.on b1
  have HQ1 := HQ.on b1
  clear hy b1 HO HQ hb0 HS
  have d0 := HO1.loc 0 (by simp)
  have g0 := HQ1.loc 0 (by simp)
  have f0 := HO1.frozen 0
  have i0 := HQ1.frozen 0
  simp only [List.getElem_toArray, List.getElem_cons_zero] at d0 g0
  go_wp2
  have HQ4 : Own ((w1.setCell ⟨w.heap.size + 1 + 1, 0, none⟩ (.slice (some ⟨B, 0, none⟩) l.length l.length)).setCell ⟨w.heap.size + 1, 0, none⟩ (.slice (some ⟨B, 0, none⟩) l.length l.length)) _ _ #[.slice (some ⟨B, 0, none⟩) l.length l.length] := (Own.past (c := w.heap.size + 1 + 1) (by omega) [.slice (some ⟨B, 0, none⟩) l.length l.length] _ 0 HQ1).fill (old := [_]) [.slice (some ⟨B, 0, none⟩) l.length l.length] rfl
  have HF4 : Hid (Fill ((w1.setCell ⟨w.heap.size + 1 + 1, 0, none⟩ (.slice (some ⟨B, 0, none⟩) l.length l.length)).setCell ⟨w.heap.size + 1, 0, none⟩ (.slice (some ⟨B, 0, none⟩) l.length l.length)) B 5 1 l.length (l.map byX)) := (HF1.out.other (p := ⟨w.heap.size + 1 + 1, 0, none⟩) (by simp; omega) _).other (p := ⟨w.heap.size + 1, 0, none⟩) (by simp; omega) _
  have HB : Hid (Below w.heap.size w ((w1.setCell ⟨w.heap.size + 1 + 1, 0, none⟩ (.slice (some ⟨B, 0, none⟩) l.length l.length)).setCell ⟨w.heap.size + 1, 0, none⟩ (.slice (some ⟨B, 0, none⟩) l.length l.length))) := by
    show Below _ _ _
    exact stores_below (b := w.heap.size + 1) (by omega) [.slice (some ⟨B, 0, none⟩) l.length l.length] _ 0 (stores_below (b := w.heap.size + 1 + 1) (by omega) [.slice (some ⟨B, 0, none⟩) l.length l.length] _ 0 hb1)
  have hz4 : B < ((w1.setCell ⟨w.heap.size + 1 + 1, 0, none⟩ (.slice (some ⟨B, 0, none⟩) l.length l.length)).setCell ⟨w.heap.size + 1, 0, none⟩ (.slice (some ⟨B, 0, none⟩) l.length l.length)).heap.size := HF4.out.lt
  generalize ((w1.setCell ⟨w.heap.size + 1 + 1, 0, none⟩ (.slice (some ⟨B, 0, none⟩) l.length l.length)).setCell ⟨w.heap.size + 1, 0, none⟩ (.slice (some ⟨B, 0, none⟩) l.length l.length)) = W at HQ4 HB HF4 hz4 ⊢
  have e0 := HQ4.loc 0 (by simp)
  simp only [List.getElem_toArray, List.getElem_cons_zero] at e0
  exact bodyPost_ret (v := .agg #[.slice (some ⟨B, 0, none⟩) l.length l.length]) (by simp [results, Try.results13, go_sem, e0]) rfl ⟨_, rfl, by omega, hz4, HB.out, HF4.out⟩

set_option maxRecDepth 100000 in
/-- laws.eqPack -/
theorem eqPack_same (v v' : Value) (l : List UInt8) (w : World) (hv : BytesV w v l) (hv' : BytesV w v' l) :
    Calls Try.prog 15 #[.agg #[v], .agg #[v']] w fun e w' => e = .returned (.bool true) ∧ Below w.heap.size w w' := by
  have HE : Hid (∀ u : World, Below w.heap.size w u → Calls Try.prog 22 #[v, v'] u fun e w' => e = .returned (.bool true) ∧ Below u.heap.size u w') := fun u hu => eqByteS_same v v' l u (hv.on hu) (hv'.on hu)
  obtain ⟨a, p, rfl, _, _, _⟩ := hv.lit
  obtain ⟨a', p', rfl, _, _, _⟩ := hv'.lit
  clear hv hv'
  go_enter Try.func15, Try.ntmps15
  go_wp2_with fail
  refine (HE.out _ (by repeat (first | with_reducible exact Below.refl _ _ | with_reducible assumption | with_reducible refine ch_alloc ?_ _ | with_reducible refine Below.drew ?_ | with_reducible refine below_draws _ ?_ | (with_reducible refine Below.setCell ?_ ?_ _; rotate_left; focus (first | with_reducible exact Nat.le_refl _ | (simp; done) | (simp; omega) | (simp at *; omega))) | with_reducible refine ch_trans ?_ (by with_reducible assumption)))).mono ?_
  rintro e w1 ⟨rfl, b1⟩
  go_wp2
  go_ret
  exact ⟨rfl, (by repeat (first | with_reducible exact Below.refl _ _ | with_reducible assumption | with_reducible refine ch_alloc ?_ _ | with_reducible refine Below.drew ?_ | with_reducible refine below_draws _ ?_ | (with_reducible refine Below.setCell ?_ ?_ _; rotate_left; focus (first | with_reducible exact Nat.le_refl _ | (simp; done) | (simp; omega) | (simp at *; omega))) | with_reducible refine ch_trans ?_ (by with_reducible assumption)))⟩

set_option maxRecDepth 100000 in
/-- laws.markPack, from laws.markByteS -/
theorem markPack_of {R : World → Prop} (a : Option Addr) (n c : Nat) (k m : Nat) (w : World) (h : Calls Try.prog 25 #[.slice a n c, .int .i64 k] (w.alloc (.cells #[.slice a n c] 37)) fun e w' => e = .returned (.int .i64 (m : Int)) ∧ R w') :
    Calls Try.prog 16 #[.agg #[.slice a n c], .int .i64 k] w fun e w' => e = .returned (.int .i64 (m : Int)) ∧ R w' := by
  have HH : Hid (Calls Try.prog 25 #[.slice a n c, .int .i64 k] (w.alloc (.cells #[.slice a n c] 37)) fun e w' => e = .returned (.int .i64 (m : Int)) ∧ R w') := h
  clear h
  go_enter Try.func16, Try.ntmps16
  go_wp2_with fail
  refine HH.out.mono ?_
  rintro e w1 ⟨rfl, hR⟩
  have HR : Hid (R w1) := hR
  clear hR HH
  go_wp2
  go_ret
  exact ⟨rfl, HR.out⟩

set_option maxRecDepth 100000 in
/-- laws.heldPack, from laws.heldByteS -/
theorem heldPack_of {R : World → Prop} (a : Option Addr) (n c : Nat) (k m : Nat) (w : World) (h : Calls Try.prog 26 #[.slice a n c, .int .i64 k] (w.alloc (.cells #[.slice a n c] 37)) fun e w' => e = .returned (.int .i64 (m : Int)) ∧ R w') :
    Calls Try.prog 17 #[.agg #[.slice a n c], .int .i64 k] w fun e w' => e = .returned (.int .i64 (m : Int)) ∧ R w' := by
  have HH : Hid (Calls Try.prog 26 #[.slice a n c, .int .i64 k] (w.alloc (.cells #[.slice a n c] 37)) fun e w' => e = .returned (.int .i64 (m : Int)) ∧ R w') := h
  have hm : decide ((m : Int) < 0) = false := by simp
  clear h
  go_enter Try.func17, Try.ntmps17
  go_wp2_with fail
  refine HH.out.mono ?_
  rintro e w1 ⟨rfl, hR⟩
  have HR : Hid (R w1) := hR
  clear hR HH
  go_wp2
  go_ret
  exact ⟨rfl, HR.out⟩

/-- How many bytes are left. -/
def cutN (n : Int) (l : List UInt8) : Nat := min n.toNat l.length
theorem Got.setP {w : World} {B : Nat} {T : TypeId} {z : Nat} {v : Value} {xs : List (Array Value)} (h : Got w B T z v xs) {p : Addr} (hp : p.block < B) (u : Value) : Got (w.setCell p u) B T z v xs :=
  h.turns ((Turns.refl (· = p.block) w).set rfl u) fun c hc => by have hc : c = p.block := hc; omega
/-- The end of PackCut: its answer is put into its block. -/
theorem cut_end {w W w1 : World} {kv : Value} {xs : List (Array Value)} (hW : Below w.heap.size w W) (HQ : Own W (w.heap.size + 1) 37 #[.slice none 0 0]) (b1 : Below (w.heap.size + 1 + 1) W w1) (hg : Got w1 (w.heap.size + 1 + 1) 5 1 kv xs) :
    (w1.setCell ⟨w.heap.size + 1, 0, none⟩ kv).cell? ⟨w.heap.size + 1, 0, none⟩ = some kv ∧ Below w.heap.size w (w1.setCell ⟨w.heap.size + 1, 0, none⟩ kv) ∧ Got (w1.setCell ⟨w.heap.size + 1, 0, none⟩ kv) w.heap.size 5 1 kv xs := by
  have HQ1 : Own w1 (w.heap.size + 1) 37 #[.slice none 0 0] := (b1.block _ (by omega)).trans HQ
  refine ⟨?_, ?_, ?_⟩
  · have := (HQ1.set 0 kv).loc 0 (by simp)
    simpa using this
  · exact stores_below (b := w.heap.size + 1) (by omega) [kv] _ 0 (hW.trans (b1.mono (by omega)))
  · exact (hg.setP (p := ⟨w.heap.size + 1, 0, none⟩) (by simp) kv).mono (by omega)
theorem cut_own {w W w1 : World} (HQ : Own W (w.heap.size + 1) 37 #[.slice none 0 0]) (b1 : Below (w.heap.size + 1 + 1) W w1) : w1.cell? ⟨w.heap.size + 1, 0, none⟩ = some (.slice none 0 0) ∧ w1.frozen? ⟨w.heap.size + 1, 0, none⟩ = false := by
  have HQ1 : Own w1 (w.heap.size + 1) 37 #[.slice none 0 0] := (b1.block _ (by omega)).trans HQ
  exact ⟨HQ1.loc 0 (by simp), HQ1.frozen 0⟩
set_option maxRecDepth 100000 in
set_option maxHeartbeats 1000000 in
/-- impl.PackCut -/
theorem packCut_impl (B : Nat) (l : List UInt8) (n : Int) (w : World) (hf : RowAt w (some ⟨B, 0, none⟩) 1 (l.map byX)) (hl : l.length ≤ 1048576) :
    Calls Try.prog 14 #[.agg #[.slice (some ⟨B, 0, none⟩) l.length l.length], .int .i64 n] w fun e w' => ∃ kv, e = .returned (.agg #[kv]) ∧ Below w.heap.size w w' ∧ Got w' w.heap.size 5 1 kv ((l.take (cutN n l)).map byX) := by
  have HR : Hid (RowAt w (some ⟨B, 0, none⟩) 1 (l.map byX)) := hf
  obtain ⟨m, hm, hmn⟩ : ∃ m : Nat, m ≤ l.length ∧ cutN n l = m := ⟨_, Nat.min_le_right _ _, rfl⟩
  have HC : Hid (∀ u : World, Below w.heap.size w u → ∀ c, Calls Try.prog 36 #[.slice (some ⟨B, 0, none⟩) m c] u fun e w' => ∃ kv, e = .returned kv ∧ Below u.heap.size u w' ∧ Got w' u.heap.size 5 1 kv ((l.take m).map byX)) := fun u hu c => by
    have h := cloneBytes B 0 c (l.take m) u (row_take (HR.out.on hu)) (by simp; omega)
    rwa [show (l.take m).length = m by simp; omega] at h
  rw [hmn]
  have hw0 : Below w.heap.size w ((w.alloc (.cells #[.slice (some ⟨B, 0, none⟩) l.length l.length] 37)).alloc (.cells #[.slice none 0 0] 37)) := (by repeat (first | with_reducible exact Below.refl _ _ | with_reducible assumption | with_reducible refine ch_alloc ?_ _ | with_reducible refine Below.drew ?_ | with_reducible refine below_draws _ ?_ | (with_reducible refine Below.setCell ?_ ?_ _; rotate_left; focus (first | with_reducible exact Nat.le_refl _ | (simp; done) | (simp; omega) | (simp at *; omega))) | with_reducible refine ch_trans ?_ (by with_reducible assumption)))
  have hz0 : ((w.alloc (.cells #[.slice (some ⟨B, 0, none⟩) l.length l.length] 37)).alloc (.cells #[.slice none 0 0] 37)).heap.size = w.heap.size + 1 + 1 := by simp
  have HQ := Own.at (w.alloc (.cells #[.slice (some ⟨B, 0, none⟩) l.length l.length] 37)) 37 #[.slice none 0 0] (n := w.heap.size + 1) (by simp)
  clear hf
  rcases (by omega : n < 0 ∨ (0 ≤ n ∧ n ≤ l.length) ∨ (l.length : Int) < n) with h | h | h
  · obtain rfl : m = 0 := by unfold cutN at hmn; omega
    clear hmn
    have hd : decide (n < 0) = true := by simpa using h
    go_enter Try.func14, Try.ntmps14
    go_wp2_with fail
    refine (HC.out _ hw0 _).mono ?_
    rintro e w1 ⟨kv, rfl, b1, hg⟩
    rw [hz0] at b1 hg
    obtain ⟨a1, n1, c1, rfl, hg⟩ := hg.lit2
    obtain ⟨d0, d1⟩ := cut_own HQ b1
    obtain ⟨k0, k1, k2⟩ := cut_end hw0 HQ b1 hg
    have K2 : Hid (Got (w1.setCell ⟨w.heap.size + 1, 0, none⟩ (.slice a1 n1 c1)) w.heap.size 5 1 (.slice a1 n1 c1) _) := k2
    have K1 : Hid _ := k1
    clear k1 k2 b1 hg HQ hw0
    go_wp2
    generalize w1.setCell ⟨w.heap.size + 1, 0, none⟩ (.slice a1 n1 c1) = W at k0 K1 K2 ⊢
    exact bodyPost_ret (v := .agg #[.slice a1 n1 c1]) (by simp [results, Try.results14, go_sem, k0]) rfl ⟨_, rfl, K1.out, K2.out⟩
  · obtain ⟨h0, h1⟩ := h
    obtain rfl : n = (m : Int) := by unfold cutN at hmn; omega
    clear hmn
    go_enter Try.func14, Try.ntmps14
    go_wp2_with fail
    refine (HC.out _ hw0 _).mono ?_
    rintro e w1 ⟨kv, rfl, b1, hg⟩
    rw [hz0] at b1 hg
    obtain ⟨a1, n1, c1, rfl, hg⟩ := hg.lit2
    obtain ⟨d0, d1⟩ := cut_own HQ b1
    obtain ⟨k0, k1, k2⟩ := cut_end hw0 HQ b1 hg
    have K2 : Hid (Got (w1.setCell ⟨w.heap.size + 1, 0, none⟩ (.slice a1 n1 c1)) w.heap.size 5 1 (.slice a1 n1 c1) _) := k2
    have K1 : Hid _ := k1
    clear k1 k2 b1 hg HQ hw0
    go_wp2
    generalize w1.setCell ⟨w.heap.size + 1, 0, none⟩ (.slice a1 n1 c1) = W at k0 K1 K2 ⊢
    exact bodyPost_ret (v := .agg #[.slice a1 n1 c1]) (by simp [results, Try.results14, go_sem, k0]) rfl ⟨_, rfl, K1.out, K2.out⟩
  · obtain rfl : m = l.length := by unfold cutN at hmn; omega
    clear hmn
    go_enter Try.func14, Try.ntmps14
    go_wp2_with fail
    refine (HC.out _ hw0 _).mono ?_
    rintro e w1 ⟨kv, rfl, b1, hg⟩
    rw [hz0] at b1 hg
    obtain ⟨a1, n1, c1, rfl, hg⟩ := hg.lit2
    obtain ⟨d0, d1⟩ := cut_own HQ b1
    obtain ⟨k0, k1, k2⟩ := cut_end hw0 HQ b1 hg
    have K2 : Hid (Got (w1.setCell ⟨w.heap.size + 1, 0, none⟩ (.slice a1 n1 c1)) w.heap.size 5 1 (.slice a1 n1 c1) _) := k2
    have K1 : Hid _ := k1
    clear k1 k2 b1 hg HQ hw0
    go_wp2
    generalize w1.setCell ⟨w.heap.size + 1, 0, none⟩ (.slice a1 n1 c1) = W at k0 K1 K2 ⊢
    exact bodyPost_ret (v := .agg #[.slice a1 n1 c1]) (by simp [results, Try.results14, go_sem, k0]) rfl ⟨_, rfl, K1.out, K2.out⟩

set_option maxRecDepth 100000 in
set_option maxHeartbeats 1000000 in
/-- spec.PackCut -/
theorem packCut_spec (B : Nat) (l : List UInt8) (n : Int) (w : World) (hf : RowAt w (some ⟨B, 0, none⟩) 1 (l.map byX)) (hl : l.length ≤ 1048576) :
    Calls Try.prog 12 #[.agg #[.slice (some ⟨B, 0, none⟩) l.length l.length], .int .i64 n] w fun e w' => ∃ kv, e = .returned (.agg #[kv]) ∧ Below w.heap.size w w' ∧ Got w' w.heap.size 5 1 kv ((l.take (cutN n l)).map byX) := by
  have HR : Hid (RowAt w (some ⟨B, 0, none⟩) 1 (l.map byX)) := hf
  obtain ⟨m, hm, hmn⟩ : ∃ m : Nat, m ≤ l.length ∧ cutN n l = m := ⟨_, Nat.min_le_right _ _, rfl⟩
  rw [hmn]
  have hw0 : Below w.heap.size w ((w.alloc (.cells #[.slice (some ⟨B, 0, none⟩) l.length l.length] 37)).alloc (.cells #[.slice none 0 0] 37)) := (by repeat (first | with_reducible exact Below.refl _ _ | with_reducible assumption | with_reducible refine ch_alloc ?_ _ | with_reducible refine Below.drew ?_ | with_reducible refine below_draws _ ?_ | (with_reducible refine Below.setCell ?_ ?_ _; rotate_left; focus (first | with_reducible exact Nat.le_refl _ | (simp; done) | (simp; omega) | (simp at *; omega))) | with_reducible refine ch_trans ?_ (by with_reducible assumption)))
  have hz0 : ((w.alloc (.cells #[.slice (some ⟨B, 0, none⟩) l.length l.length] 37)).alloc (.cells #[.slice none 0 0] 37)).heap.size = w.heap.size + 1 + 1 := by simp
  have HQ := Own.at (w.alloc (.cells #[.slice (some ⟨B, 0, none⟩) l.length l.length] 37)) 37 #[.slice none 0 0] (n := w.heap.size + 1) (by simp)
  have HRT : Hid (∀ u : World, Below w.heap.size w u → RowAt u (some ⟨B, 0, none⟩) 1 ((l.take m).map byX)) := fun u hu => row_take (HR.out.on hu)
  have hlm : ((l.take m).map byX).length = m := by simp; omega
  clear hf
  rcases (by omega : n < 0 ∨ (0 ≤ n ∧ n ≤ l.length) ∨ (l.length : Int) < n) with h | h | h
  · obtain rfl : m = 0 := by unfold cutN at hmn; omega
    have hd : decide (n < 0) = true := by simpa using h
    clear hmn
    go_enter Try.func12, Try.ntmps12
    go_wp2
    have HX := (Own.at (w.alloc (.cells #[.slice (some ⟨B, 0, none⟩) l.length l.length] 37)) 37 #[.slice (some ⟨w.heap.size + 1 + 1, 0, none⟩) 0 0] (n := w.heap.size + 1) (by simp)).on (ch_alloc (Below.refl _ _) (.cells #[] 5))
    have HG := Got.emptyAt ((w.alloc (.cells #[.slice (some ⟨B, 0, none⟩) l.length l.length] 37)).alloc (.cells #[.slice (some ⟨w.heap.size + 1 + 1, 0, none⟩) 0 0] 37)) 5 1 (n := w.heap.size + 1 + 1) (by simp)
    have e0 := HX.loc 0 (by simp)
    simp only [List.getElem_toArray, List.getElem_cons_zero] at e0
    exact bodyPost_ret (v := .agg #[.slice (some ⟨w.heap.size + 1 + 1, 0, none⟩) 0 0]) (by simp [results, Try.results12, go_sem, e0]) rfl ⟨_, rfl, (by repeat (first | with_reducible exact Below.refl _ _ | with_reducible assumption | with_reducible refine ch_alloc ?_ _ | with_reducible refine Below.drew ?_ | with_reducible refine below_draws _ ?_ | (with_reducible refine Below.setCell ?_ ?_ _; rotate_left; focus (first | with_reducible exact Nat.le_refl _ | (simp; done) | (simp; omega) | (simp at *; omega))) | with_reducible refine ch_trans ?_ (by with_reducible assumption))), by rw [List.take_zero]; exact HG.mono (by omega)⟩
  · obtain ⟨h0, h1⟩ := h
    obtain rfl : n = (m : Int) := by unfold cutN at hmn; omega
    have hd : decide ((m : Int) < 0) = false := by simp
    have hd2 : decide ((l.length : Int) < m) = false := by simpa using hm
    clear hmn
    go_enter Try.func12, Try.ntmps12
    go_wp2_with (at_builtin; refine app_lot rfl (.tmp 15) (.tmp 19) rfl Try.underlying33 infoByte rfl (by decide) (by decide) (w.heap.size + 1 + 1) _ [] rfl (Got.emptyAt _ _ _ hz0) B 0 l.length ((l.take m).map byX) m hlm.symm rfl (HRT.out _ (ch_trans hw0 (ch_alloc (Below.refl _ _) _))) (byte_one _) (by simp; omega) (by simp) ?_; intro kv w1 hg1 hb1; rw [List.nil_append] at hg1; obtain ⟨a1, n1, c1, rfl, hg1⟩ := hg1.lit2; have b1' := ((ch_alloc (Below.refl _ _) (.cells #[] 5)).mono (Nat.le_of_eq hz0.symm)).trans hb1; obtain ⟨d0, d1⟩ := cut_own HQ b1')
    obtain ⟨k0, k1, k2⟩ := cut_end hw0 HQ b1' hg1
    have K2 : Hid (Got (w1.setCell ⟨w.heap.size + 1, 0, none⟩ (.slice a1 n1 c1)) w.heap.size 5 1 (.slice a1 n1 c1) _) := k2
    have K1 : Hid _ := k1
    clear k1 k2 b1' hg1 HQ hw0
    generalize w1.setCell ⟨w.heap.size + 1, 0, none⟩ (.slice a1 n1 c1) = W at k0 K1 K2 ⊢
    exact bodyPost_ret (v := .agg #[.slice a1 n1 c1]) (by simp [results, Try.results12, go_sem, k0]) rfl ⟨_, rfl, K1.out, K2.out⟩
  · obtain rfl : m = l.length := by unfold cutN at hmn; omega
    have hd : decide (n < 0) = false := by simp; omega
    have hd2 : decide ((l.length : Int) < n) = true := by simpa using h
    clear hmn
    go_enter Try.func12, Try.ntmps12
    go_wp2_with (at_builtin; refine app_lot rfl (.tmp 15) (.tmp 19) rfl Try.underlying33 infoByte rfl (by decide) (by decide) (w.heap.size + 1 + 1) _ [] rfl (Got.emptyAt _ _ _ hz0) B 0 l.length ((l.take l.length).map byX) l.length hlm.symm rfl (HRT.out _ (ch_trans hw0 (ch_alloc (Below.refl _ _) _))) (byte_one _) (by simp; omega) (by simp) ?_; intro kv w1 hg1 hb1; rw [List.nil_append] at hg1; obtain ⟨a1, n1, c1, rfl, hg1⟩ := hg1.lit2; have b1' := ((ch_alloc (Below.refl _ _) (.cells #[] 5)).mono (Nat.le_of_eq hz0.symm)).trans hb1; obtain ⟨d0, d1⟩ := cut_own HQ b1')
    obtain ⟨k0, k1, k2⟩ := cut_end hw0 HQ b1' hg1
    have K2 : Hid (Got (w1.setCell ⟨w.heap.size + 1, 0, none⟩ (.slice a1 n1 c1)) w.heap.size 5 1 (.slice a1 n1 c1) _) := k2
    have K1 : Hid _ := k1
    clear k1 k2 b1' hg1 HQ hw0
    generalize w1.setCell ⟨w.heap.size + 1, 0, none⟩ (.slice a1 n1 c1) = W at k0 K1 K2 ⊢
    exact bodyPost_ret (v := .agg #[.slice a1 n1 c1]) (by simp [results, Try.results12, go_sem, k0]) rfl ⟨_, rfl, K1.out, K2.out⟩
end Go.Proofs.Ytikccmgpmbnkfaa
