/- Lists of a call's own marked, and held: texts. -/
import Derived.Test.YtiijahoheajppaaAp
import Derived.Test.YtiijahoheajppaaHeldS
namespace Go.Proofs.Ytiijahoheajppaa
open Go.ChangeShapes Go.WideShapes Go.ChangeAt Go.RowKit

/-- A list that holds what g tells. -/
def HeldL (w : World) (v : Value) (z : Nat) (g : Nat → Value) (n : Nat) : Prop := (v = .slice none 0 0 ∧ n = 0) ∨ ∃ b cap m T f, v = .slice (some ⟨b, 0, none⟩) n cap ∧ w.rowIs b T m f ∧ n * z ≤ m ∧ ∀ i, i < n * z → f i = g i
theorem HeldL.on {w w' : World} {v : Value} {z n : Nat} {g : Nat → Value} (h : HeldL w v z g n) (b : Below w.heap.size w w') : HeldL w' v z g n := by
  rcases h with h | ⟨b', cap, m, T, f, e, h1, h2⟩
  · exact Or.inl h
  · exact Or.inr ⟨b', cap, m, T, f, e, rowIs_on h1 b, h2⟩
theorem HeldL.turned {w w' : World} {v : Value} {z n : Nat} {g : Nat → Value} (h : HeldL w v z g n) {S : Nat → Prop} (k : Turns S w w') (hS : ∀ c, v.ownBlock = some c → ¬ S c) : HeldL w' v z g n := by
  rcases h with h | ⟨b', cap, m, T, f, e, h1, h2⟩
  · exact Or.inl h
  · exact Or.inr ⟨b', cap, m, T, f, e, h1.of_block (k.block _ h1.lt (hS _ (by rw [e]; rfl))), h2⟩
theorem Turns.down {S : Nat → Prop} {a b : World} (h : Turns S a b) {B : Nat} (hB : ∀ c, S c → B ≤ c) (hs : B ≤ a.heap.size) : Below B a b :=
  ⟨h.os, h.tape, h.output, h.size, fun c hc => h.block c (by omega) fun hS => by have := hB c hS; omega⟩
theorem Got.own {w : World} {B : Nat} {T : TypeId} {z : Nat} {v : Value} {xs : List (Array Value)} (h : Got w B T z v xs) {c : Nat} (hc : v.ownBlock = some c) : B ≤ c := by
  rcases h.2.2 with ⟨e, _⟩ | ⟨g, cap', cur, e, hb, _⟩
  · subst e; cases hc
  · subst e; cases hc; exact hb
theorem Got.rowIs {w : World} {B : Nat} {T : TypeId} {z : Nat} {v : Value} {xs : List (Array Value)} (h : Got w B T z v xs) : (v = .slice none 0 0 ∧ xs.length = 0) ∨ ∃ b cap f, v = .slice (some ⟨b, 0, none⟩) xs.length cap ∧ w.rowIs b T (cap * z) f ∧ xs.length * z ≤ cap * z := by
  rcases h.2.2 with ⟨rfl, hn⟩ | ⟨g, cap, cur, rfl, hb, hg, hc1, hc2, hs, ht⟩
  · exact Or.inl ⟨rfl, hn⟩
  · exact Or.inr ⟨g, cap, fun i => cur.getD i default, rfl, ⟨cur, hg, hs, fun i hi => by simp [Array.getD, hs, hi]⟩, Nat.mul_le_mul_right _ hc1⟩
theorem Got.cols {w : World} {B : Nat} {T : TypeId} {v : Value} {cs : List Cl} (h : Got w B T 7 v (cs.map Cl.cells)) : ColsV w v cs := by
  obtain ⟨a, cap, e, h1, h2, h3, _⟩ := h.row
  exact ⟨a, cap, by simpa using e, by simpa using h1, h2, h3⟩
theorem Got.strs {w : World} {B : Nat} {T : TypeId} {v : Value} {cs : List ByteArray} (h : Got w B T 1 v (cs.map strX)) : StrsV w v cs := by
  obtain ⟨a, cap, e, h1, h2, h3, _⟩ := h.row
  exact ⟨a, cap, by simpa using e, by simpa using h1, h2, h3⟩
theorem own3 {w : World} {b : Nat} {T : TypeId} {x0 x1 x2 : Value} (h : Own w b T #[x0, x1, x2]) (y0 y1 y2 : Value) : Own (((w.setCell ⟨b, 0, none⟩ y0).setCell ⟨b, 1, none⟩ y1).setCell ⟨b, 2, none⟩ y2) b T #[y0, y1, y2] := ((h.set 0 y0).set 1 y1).set 2 y2
theorem turns3 (w : World) (b : Nat) (y0 y1 y2 : Value) : Turns (fun c => c = b) w (((w.setCell ⟨b, 0, none⟩ y0).setCell ⟨b, 1, none⟩ y1).setCell ⟨b, 2, none⟩ y2) := (((Turns.refl (fun c => c = b) w).set (p := ⟨b, 0, none⟩) rfl y0).set (p := ⟨b, 1, none⟩) rfl y1).set (p := ⟨b, 2, none⟩) rfl y2
/-- The mark of a text at a place. -/
abbrev markT (k i : Nat) : Value := .string (markB (k + i))
set_option maxRecDepth 100000 in
theorem markStringS_nil (k : Nat) (w : World) : Calls Try.prog 20 #[.slice none 0 0, .int .i64 k] w fun e w' => e = .returned (.int .i64 k) ∧ Below w.heap.size w w' := by
  go_enter Try.func20, Try.ntmps20
  go_wp2
  go_loopw [1, 5] (fun q i wr => i = .int .i64 0 ∧ q = .int .i64 (k : Int) ∧ Below w.heap.size w wr) (fun _ _ _ => 0)
  case atStart => exact ⟨rfl, rfl, (by repeat (first | with_reducible exact Below.refl _ _ | with_reducible assumption | with_reducible refine ch_alloc ?_ _ | with_reducible refine Below.drew ?_ | with_reducible refine below_draws _ ?_ | (with_reducible refine Below.setCell ?_ ?_ _; rotate_left; focus (first | with_reducible exact Nat.le_refl _ | (simp; done) | (simp; omega) | (simp at *; omega))) | with_reducible refine ch_trans ?_ (by with_reducible assumption)))⟩
  case round =>
    obtain ⟨rfl, rfl, hb⟩ := hrel
    go_wp2
    go_ret
    exact ⟨rfl, (by repeat (first | with_reducible exact Below.refl _ _ | with_reducible assumption | with_reducible refine ch_alloc ?_ _ | with_reducible refine Below.drew ?_ | with_reducible refine below_draws _ ?_ | (with_reducible refine Below.setCell ?_ ?_ _; rotate_left; focus (first | with_reducible exact Nat.le_refl _ | (simp; done) | (simp; omega) | (simp at *; omega))) | with_reducible refine ch_trans ?_ (by with_reducible assumption)))⟩
theorem markStringS_got {w : World} {B : Nat} {T : TypeId} {v : Value} {xs : List (Array Value)} (h : Got w B T 1 v xs) (hl : xs.length ≤ 2000000) (k : Nat) (hk : k ≤ 8000000000000000000) :
    Calls Try.prog 20 #[v, .int .i64 k] w fun e w' => e = .returned (.int .i64 ((k + xs.length : Nat) : Int)) ∧ Turns (fun c => v.ownBlock = some c) w w' ∧ HeldL w' v 1 (markT k) xs.length := by
  rcases h.rowIs with ⟨rfl, hn⟩ | ⟨b, cap, f, rfl, hr, hm⟩
  · refine (markStringS_nil k w).mono fun e w' ⟨he, hb⟩ => ⟨?_, Turns.below (Turns.refl _ _) hb, Or.inl ⟨rfl, hn⟩⟩
    rw [he, hn]; simp
  · rw [Nat.mul_one] at hr
    rw [Nat.mul_one, Nat.mul_one] at hm
    refine (markStringS_wide b xs.length cap cap T f k w hr hm hl hk).mono fun e w' ⟨he, hT, hR⟩ => ⟨he, hT.mono fun c hc => by subst hc; rfl, Or.inr ⟨b, cap, cap, T, _, rfl, hR, by omega, fun i hi => ?_⟩⟩
    rw [Nat.mul_one] at hi
    simp [hi]
set_option maxRecDepth 100000 in
theorem markColS_nil (k : Nat) (w : World) : Calls Try.prog 50 #[.slice none 0 0, .int .i64 k] w fun e w' => e = .returned (.int .i64 k) ∧ Below w.heap.size w w' := by
  go_enter Try.func50, Try.ntmps50
  go_wp2
  go_loopw [1, 5] (fun q i wr => i = .int .i64 0 ∧ q = .int .i64 (k : Int) ∧ Below w.heap.size w wr) (fun _ _ _ => 0)
  case atStart => exact ⟨rfl, rfl, (by repeat (first | with_reducible exact Below.refl _ _ | with_reducible assumption | with_reducible refine ch_alloc ?_ _ | with_reducible refine Below.drew ?_ | with_reducible refine below_draws _ ?_ | (with_reducible refine Below.setCell ?_ ?_ _; rotate_left; focus (first | with_reducible exact Nat.le_refl _ | (simp; done) | (simp; omega) | (simp at *; omega))) | with_reducible refine ch_trans ?_ (by with_reducible assumption)))⟩
  case round =>
    obtain ⟨rfl, rfl, hb⟩ := hrel
    go_wp2
    go_ret
    exact ⟨rfl, (by repeat (first | with_reducible exact Below.refl _ _ | with_reducible assumption | with_reducible refine ch_alloc ?_ _ | with_reducible refine Below.drew ?_ | with_reducible refine below_draws _ ?_ | (with_reducible refine Below.setCell ?_ ?_ _; rotate_left; focus (first | with_reducible exact Nat.le_refl _ | (simp; done) | (simp; omega) | (simp at *; omega))) | with_reducible refine ch_trans ?_ (by with_reducible assumption)))⟩
theorem markColS_got {w : World} {B : Nat} {T : TypeId} {v : Value} {xs : List (Array Value)} (h : Got w B T 7 v xs) (hl : xs.length ≤ 1048576) (k : Nat) (hk : k ≤ 8000000000000000000) :
    Calls Try.prog 50 #[v, .int .i64 k] w fun e w' => e = .returned (.int .i64 ((k + xs.length * 7 : Nat) : Int)) ∧ Turns (fun c => v.ownBlock = some c) w w' ∧ HeldL w' v 7 (markC k) xs.length := by
  rcases h.rowIs with ⟨rfl, hn⟩ | ⟨b, cap, f, rfl, hr, hm⟩
  · refine (markColS_nil k w).mono fun e w' ⟨he, hb⟩ => ⟨?_, Turns.below (Turns.refl _ _) hb, Or.inl ⟨rfl, hn⟩⟩
    rw [he, hn]; simp
  · refine (markColS_any b xs.length cap (cap * 7) T f k w hr hm hl hk).mono fun e w' ⟨he, hT, hR⟩ => ⟨he, hT.mono fun c hc => by subst hc; rfl, Or.inr ⟨b, cap, cap * 7, T, _, rfl, hR, hm, fun i hi => by simp [hi]⟩⟩
end Go.Proofs.Ytiijahoheajppaa
