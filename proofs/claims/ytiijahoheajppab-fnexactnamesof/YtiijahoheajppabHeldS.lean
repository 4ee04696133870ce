/- Rows copied: given and landed. Rows copied: the landed copyRows, the given l03Copy. The rows of a table, given and landed. Marks read again: texts, columns. -/
import Derived.Test.YtiijahoheajppabCn
import Derived.Test.YtiijahoheajppabFm
import Derived.Test.YtiijahoheajppabDbO
import Derived.Test.YtiijahoheajppabPa
import Derived.Test.YtiijahoheajppabMarkC
namespace Go.Proofs.Ytiijahoheajppab
open Go.ChangeShapes Go.WideShapes Go.ChangeAt Go.RowKit

/-- A row of the call's own lies in a block of its elements' type. -/
theorem Got.tag {w : World} {B : Nat} {T : TypeId} {z : Nat} {v : Value} {xs : List (Array Value)} (h : Got w B T z v xs) {c : Nat} (hc : v.ownBlock = some c) : ∃ cur, w.heap[c]? = some (.cells cur T (0, 0)) := by
  rcases h.2.2 with ⟨rfl, _⟩ | ⟨g, cap, cur, rfl, _, hg, _⟩
  · cases hc
  · simp [Value.ownBlock] at hc; subst hc; exact ⟨cur, hg⟩
theorem Got.apart {w : World} {B B' : Nat} {T T' : TypeId} {z z' : Nat} {v v' : Value} {xs xs' : List (Array Value)} (h : Got w B T z v xs) (h' : Got w B' T' z' v' xs') (hT : T ≠ T') {c : Nat} (hc : v.ownBlock = some c) : v'.ownBlock ≠ some c := fun hc' => by
  obtain ⟨_, e⟩ := h.tag hc
  obtain ⟨_, e'⟩ := h'.tag hc'
  rw [e] at e'
  cases e'
  exact hT rfl
theorem Got.turned {w w' : World} {B : Nat} {T : TypeId} {z : Nat} {v : Value} {xs : List (Array Value)} (h : Got w B T z v xs) {S : Nat → Prop} (k : Turns S w w') (hS : ∀ c, v.ownBlock = some c → ¬ S c) : Got w' B T z v xs := by
  refine ⟨h.1, h.2.1, ?_⟩
  rcases h.2.2 with hn | ⟨g, cap, cur, rfl, hb, hg, rest⟩
  · exact Or.inl hn
  · exact Or.inr ⟨g, cap, cur, rfl, hb, (k.block g (Array.getElem?_eq_some_iff.1 hg).1 (hS g rfl)).trans hg, rest⟩

/-- Rows of a call's own, each with a block of its own. -/
def RowsY (w : World) (B : Nat) (v : Value) (rs : List (List Vc)) (ys : List Value) (bs : List Nat) : Prop := Got w B 52 1 v (ys.map one1) ∧ ys.length = rs.length ∧ bs.length = rs.length ∧ bs.Nodup ∧
  ∀ i (h : i < rs.length) (hy : i < ys.length) (hb : i < bs.length), Got w B 56 3 ys[i] (rs[i].map Vc.cells) ∧ ∃ cap, ys[i] = .slice (some ⟨bs[i], 0, none⟩) rs[i].length cap
def RowsG (w : World) (B : Nat) (v : Value) (rs : List (List Vc)) : Prop := ∃ (ys : List Value) (bs : List Nat), RowsY w B v rs ys bs
theorem RowsG.on {w w' : World} {B : Nat} {v : Value} {rs : List (List Vc)} (h : RowsG w B v rs) (k : Below w.heap.size w w') : RowsG w' B v rs := by
  obtain ⟨ys, bs, h1, h2, h3, h4, h5⟩ := h
  exact ⟨ys, bs, h1.on k, h2, h3, h4, fun i h hy hb => ⟨(h5 i h hy hb).1.on k, (h5 i h hy hb).2⟩⟩
theorem RowsG.mono {w : World} {B B' : Nat} {v : Value} {rs : List (List Vc)} (h : RowsG w B v rs) (hB : B' ≤ B) : RowsG w B' v rs := by
  obtain ⟨ys, bs, h1, h2, h3, h4, h5⟩ := h
  exact ⟨ys, bs, h1.mono hB, h2, h3, h4, fun i h hy hb => ⟨(h5 i h hy hb).1.mono hB, (h5 i h hy hb).2⟩⟩
theorem RowsG.nil (w : World) (B : Nat) : RowsG w B (.slice none 0 0) [] := ⟨[], [], Got.nil _ _ _ _, rfl, rfl, List.nodup_nil, fun i h => by simp at h⟩
theorem RowsG.emptyAt (w : World) {n : Nat} (h : w.heap.size = n) : RowsG (w.alloc (.cells #[] 52)) n (.slice (some ⟨n, 0, none⟩) 0 0) [] := ⟨[], [], Got.emptyAt _ _ _ h, rfl, rfl, List.nodup_nil, fun i h => by simp at h⟩
theorem RowsG.turned {w w' : World} {B : Nat} {v : Value} {rs : List (List Vc)} (h : RowsG w B v rs) {S : Nat → Prop} (k : Turns S w w') (hS : ∀ c, S c → c < B) : RowsG w' B v rs := by
  obtain ⟨ys, bs, h1, h2, h3, h4, h5⟩ := h
  exact ⟨ys, bs, h1.turns k hS, h2, h3, h4, fun i h hy hb => ⟨(h5 i h hy hb).1.turns k hS, (h5 i h hy hb).2⟩⟩
theorem RowsG.lit {w : World} {B : Nat} {v : Value} {rs : List (List Vc)} (h : RowsG w B v rs) : ∃ a n cap, v = .slice a n cap ∧ RowsG w B (.slice a n cap) rs := by
  obtain ⟨ys, bs, h1, h2⟩ := h
  obtain ⟨a, n, cap, rfl, h1⟩ := h1.lit2
  exact ⟨a, n, cap, rfl, ys, bs, h1, h2⟩
theorem RowsG.rows {w : World} {B : Nat} {v : Value} {rs : List (List Vc)} (h : RowsG w B v rs) : RowsV w v rs := by
  obtain ⟨ys, bs, h1, h2, h3, h4, h5⟩ := h
  obtain ⟨a, cap, e, h6, h7, h8, _⟩ := h1.row
  simp only [List.length_map] at e h6
  exact ⟨a, cap, ys, by rw [e, h2], by omega, h7, h8, h2, fun i hi g => (h5 i g hi (by omega)).1.vals⟩
/-- One more row. -/
theorem RowsY.step {w0 w1 w2 : World} {B : Nat} {v v' : Value} {rs : List (List Vc)} {ys : List Value} {bs : List Nat} {r : List Vc} {kv : Value} (h : RowsY w0 B v rs ys bs) (hb : Below w0.heap.size w0 w1) (hB : B ≤ w0.heap.size) (hk : Got w1 w0.heap.size 56 3 kv (r.map Vc.cells)) (hr : 1 ≤ r.length)
    (hv : Got w2 B 52 1 v' (ys.map one1 ++ [one1 kv])) (ht : Turns (fun c => v.ownBlock = some c) w1 w2) : RowsG w2 B v' (rs ++ [r]) := by
  obtain ⟨h1, h2, h3, h4, h5⟩ := h
  have hkb : ∃ b cap, kv = .slice (some ⟨b, 0, none⟩) r.length cap ∧ w0.heap.size ≤ b := by
    rcases hk.2.2 with ⟨_, hn⟩ | ⟨g, cap, cur, e, hg, _⟩
    · simp at hn; subst hn; simp at hr
    · exact ⟨g, cap, by simpa using e, hg⟩
  obtain ⟨b, cap, rfl, hb0⟩ := hkb
  have hT : (52 : TypeId) ≠ 56 := by decide
  have hout := h1.on hb
  refine ⟨ys ++ [.slice (some ⟨b, 0, none⟩) r.length cap], bs ++ [b], by rw [List.map_append]; exact hv, by simp [h2], by simp [h3], ?_, fun i hi hy hb' => ?_⟩
  · rw [List.nodup_append]
    refine ⟨h4, by simp, fun c hc d hd => ?_⟩
    simp at hd
    subst hd
    obtain ⟨i, hi, rfl⟩ := List.getElem_of_mem hc
    obtain ⟨hg, cap', e⟩ := h5 i (by omega) (by omega) hi
    have := (World.ownsRow.lt hg.2 bs[i] (by rw [e]; rfl)).2
    omega
  · by_cases hlt : i < rs.length
    · obtain ⟨hg, cap', e⟩ := h5 i hlt (by omega) (by omega)
      rw [List.getElem_append_left (by omega), List.getElem_append_left (by omega), List.getElem_append_left (by omega)]
      exact ⟨(hg.on hb).turned ht fun c hc => (hg.on hb).apart hout (Ne.symm hT) hc, cap', e⟩
    · simp at hi
      have e : i = rs.length := by omega
      subst e
      have e1 : (ys ++ [Value.slice (some ⟨b, 0, none⟩) r.length cap])[rs.length] = .slice (some ⟨b, 0, none⟩) r.length cap := by
        rw [List.getElem_append_right (by omega)]; simp [h2]
      have e2 : (bs ++ [b])[rs.length] = b := by rw [List.getElem_append_right (by omega)]; simp [h3]
      have e3 : (rs ++ [r])[rs.length] = r := by rw [List.getElem_append_right (by omega)]; simp
      rw [e1, e2, e3]
      exact ⟨(hk.mono hB).turned ht fun c hc => (hk.mono hB).apart hout (Ne.symm hT) hc, cap, rfl⟩
end Go.Proofs.Ytiijahoheajppab

namespace Go.Proofs.Ytiijahoheajppab
open Go.ChangeShapes Go.WideShapes Go.ChangeAt Go.RowKit

theorem infoRow : (Try.prog.info? 52).map (fun i => (i.zero, i.size, i.bytes)) = some (some (.agg #[.slice none 0 0]), 1, 24) := by kernel_rfl

end Go.Proofs.Ytiijahoheajppab

namespace Go.Proofs.Ytiijahoheajppab
open Go.ChangeShapes Go.WideShapes Go.ChangeAt Go.RowKit

/-- What is told. -/
def isRowsOf (ts : List Tc) (ds : List (List (List Vc))) (s : ByteArray) (rs : List (List Vc)) : Prop := (dbRight ts ds ∧ ∃ i : Nat, tabAt ts s = i ∧ ∃ h : i < ds.length, rs = ds[i]) ∨ ((¬ dbRight ts ds ∨ tabAt ts s = -1) ∧ rs = [])
theorem rowsOf_is (ts : List Tc) (ds : List (List (List Vc))) (s : ByteArray) : ∃ rs, isRowsOf ts ds s rs := by
  by_cases h : dbRight ts ds
  · rcases tabAt_lt ts s with h1 | ⟨i, h1, h2⟩
    · exact ⟨[], Or.inr ⟨Or.inr h1, rfl⟩⟩
    · exact ⟨_, Or.inl ⟨h, i, h1, by rw [h.2.1]; exact h2, rfl⟩⟩
  · exact ⟨[], Or.inr ⟨Or.inl h, rfl⟩⟩
theorem good_rows {t : Tc} (ht : t.right) {rs : List (List Vc)} (h : rowsGood t rs) : (∀ r ∈ rs, 1 ≤ r.length ∧ r.length ≤ 1048576) ∧ rs.length ≤ 1048576 := by
  refine ⟨fun r hr => ?_, by have := h.1; omega⟩
  obtain ⟨i, hi, rfl⟩ := List.getElem_of_mem hr
  have h1 := (h.2.1 i hi).1
  have h2 := ht.2.1
  have h3 := ht.2.2.1
  omega

end Go.Proofs.Ytiijahoheajppab

namespace Go.Proofs.Ytiijahoheajppab
open Go.ChangeShapes Go.WideShapes Go.ChangeAt Go.RowKit

set_option maxRecDepth 100000 in
set_option maxHeartbeats 1000000 in
/-- laws.heldStringS -/
theorem heldStringS_wide (b n cap m : Nat) (T : TypeId) (f : Nat → Value) (k : Nat) (w : World) (hr : w.rowIs b T m f) (hn : n ≤ m) (hl : n ≤ 2000000) (hk : k ≤ 8000000000000000000) (hf : ∀ i, i < n → f i = .string (markB (k + i))) :
    Calls Try.prog 13 #[.slice (some ⟨b, 0, none⟩) n cap, .int .i64 k] w fun e w' => e = .returned (.int .i64 ((k + n : Nat) : Int)) ∧ Below w.heap.size w w' := by
  have HR : Hid (w.rowIs b T m f) := hr
  have HF : Hid (∀ i, i < n → f i = .string (markB (k + i))) := hf
  clear hr hf
  go_enter Try.func13, Try.ntmps13
  go_wp2
  go_loopw [1, 5] (fun q i wr => ∃ j K : Nat, j ≤ n ∧ i = .int .i64 j ∧ q = .int .i64 (K : Int) ∧ Hid (K = k + j) ∧ Below w.heap.size w wr) (fun _ i _ => n - (intOf i).toNat)
  case atStart => exact ⟨0, k, Nat.zero_le _, rfl, rfl, rfl, (by repeat (first | with_reducible exact Below.refl _ _ | with_reducible assumption | with_reducible refine ch_alloc ?_ _ | with_reducible refine Below.drew ?_ | with_reducible refine below_draws _ ?_ | (with_reducible refine Below.setCell ?_ ?_ _; rotate_left; focus (first | with_reducible exact Nat.le_refl _ | (simp; done) | (simp; omega) | (simp at *; omega))) | with_reducible refine ch_trans ?_ (by with_reducible assumption)))⟩
  case round =>
    obtain ⟨j, K, hj, rfl, rfl, HK, hb⟩ := hrel
    have hKb : K ≤ 8100000000000000000 := by have := HK.out; omega
    by_cases hlt : j < n
    · have hlti : (j : Int) < n := by omega
      have g0 := (rowIs_on HR.out hb).cell (i := j) (by omega)
      rw [HF.out j hlt, ← HK.out] at g0
      have HS : Hid (∀ u : World, Calls Try.prog 31 #[.int .i64 (K : Int)] u fun e w' => e = .returned (.string (markB K)) ∧ Below u.heap.size u w') := fun u => markText_any K u (by omega)
      generalize markB K = mb at HS g0
      go_wp2_with fail
      go_region_with (go_at_call 31; refine (HS.out _).mono ?_; rintro e w1 ⟨rfl, b1⟩; have h0 := cell_on (w' := w1) g0 (by repeat (first | with_reducible exact Below.refl _ _ | with_reducible assumption | with_reducible refine ch_alloc ?_ _ | with_reducible refine Below.drew ?_ | with_reducible refine below_draws _ ?_ | (with_reducible refine Below.setCell ?_ ?_ _; rotate_left; focus (first | with_reducible exact Nat.le_refl _ | (simp; done) | (simp; omega) | (simp at *; omega))) | with_reducible refine ch_trans ?_ (by with_reducible assumption))))
      all_goals
        go_wp2
        go_round
        case rel => exact ⟨j + 1, K + 1, by omega, by go_num, by go_num, by show K + 1 = _; have := HK.out; omega, (by repeat (first | with_reducible exact Below.refl _ _ | with_reducible assumption | with_reducible refine ch_alloc ?_ _ | with_reducible refine Below.drew ?_ | with_reducible refine below_draws _ ?_ | (with_reducible refine Below.setCell ?_ ?_ _; rotate_left; focus (first | with_reducible exact Nat.le_refl _ | (simp; done) | (simp; omega) | (simp at *; omega))) | with_reducible refine ch_trans ?_ (by with_reducible assumption)))⟩
        case measure => simp [intOf]; omega
    · have hlti : (n : Int) ≤ j := by omega
      obtain rfl : j = n := by omega
      have HE : Hid (((k + j : Nat) : Int) = K) := by show _ = _; rw [HK.out]
      go_wp2
      go_ret
      exact ⟨by rw [HE.out]; rfl, (by repeat (first | with_reducible exact Below.refl _ _ | with_reducible assumption | with_reducible refine ch_alloc ?_ _ | with_reducible refine Below.drew ?_ | with_reducible refine below_draws _ ?_ | (with_reducible refine Below.setCell ?_ ?_ _; rotate_left; focus (first | with_reducible exact Nat.le_refl _ | (simp; done) | (simp; omega) | (simp at *; omega))) | with_reducible refine ch_trans ?_ (by with_reducible assumption)))⟩

theorem heldStringS_any (b n cap m : Nat) (T : TypeId) (f : Nat → Value) (k : Nat) (w : World) (hr : w.rowIs b T m f) (hn : n ≤ m) (hl : n ≤ 1048576) (hk : k ≤ 8000000000000000000) (hf : ∀ i, i < n → f i = .string (markB (k + i))) :
    Calls Try.prog 13 #[.slice (some ⟨b, 0, none⟩) n cap, .int .i64 k] w fun e w' => e = .returned (.int .i64 ((k + n : Nat) : Int)) ∧ Below w.heap.size w w' :=
  heldStringS_wide b n cap m T f k w hr hn (by omega) hk hf

end Go.Proofs.Ytiijahoheajppab
