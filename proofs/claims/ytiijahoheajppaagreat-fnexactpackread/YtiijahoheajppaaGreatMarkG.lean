/- Rows of values of a call's own, marked and read again. -/
import Derived.Test.YtiijahoheajppaaGreatMarkV
namespace Go.Proofs.YtiijahoheajppaaGreat
open Go.ChangeShapes Go.WideShapes Go.ChangeAt Go.RowKit

theorem Turns.toBelow {S : Nat → Prop} {a b : World} (h : Turns S a b) {B : Nat} (hB : ∀ c, S c → B ≤ c) (hs : B ≤ a.heap.size) : Below B a b :=
  ⟨h.os, h.tape, h.output, h.size, fun i hi => h.block i (by omega) fun hc => by have := hB i hc; omega⟩
theorem Got.turns {w w' : World} {B : Nat} {T : TypeId} {z : Nat} {v : Value} {xs : List (Array Value)} (h : Got w B T z v xs) {S : Nat → Prop} (k : Turns S w w') (hS : ∀ c, S c → c < B) : Got w' B T z v xs := by
  obtain ⟨h0, h1, h2⟩ := h
  refine ⟨h0, h1, ?_⟩
  rcases h2 with h2 | ⟨g, cap, cur, e, hb, hg, r⟩
  · exact Or.inl h2
  · exact Or.inr ⟨g, cap, cur, e, hb, (k.block g (Array.getElem?_eq_some_iff.1 hg).1 fun hc => by have := hS g hc; omega).trans hg, r⟩
/-- The values behind a slice are marks, from k on. -/
def Held (w : World) (v : Value) (k n : Nat) : Prop := (v = .slice none 0 0 ∧ n = 0) ∨ ∃ b cap m T f, v = .slice (some ⟨b, 0, none⟩) n cap ∧ w.rowIs b T m f ∧ n * 3 ≤ m ∧ ∀ i, i < n * 3 → f i = markV k i
theorem Held.on {w w' : World} {v : Value} {k n : Nat} (h : Held w v k n) (b : Below w.heap.size w w') : Held w' v k n := by
  rcases h with h | ⟨b', cap, m, T, f, e, h1, h2⟩
  · exact Or.inl h
  · exact Or.inr ⟨b', cap, m, T, f, e, rowIs_on h1 b, h2⟩
set_option maxRecDepth 100000 in
theorem markValS_nil (k : Nat) (w : World) : Calls Tryz.prog 49 #[.slice none 0 0, .int .i64 k] w fun e w' => e = .returned (.int .i64 k) ∧ Below w.heap.size w w' := by
  go_enter Tryz.func49, Tryz.ntmps49
  go_wp2
  go_loopw [1, 5] (fun q i wr => i = .int .i64 0 ∧ q = .int .i64 (k : Int) ∧ Below w.heap.size w wr) (fun _ _ _ => 0)
  case atStart => exact ⟨rfl, rfl, (by repeat (first | with_reducible exact Below.refl _ _ | with_reducible assumption | with_reducible refine ch_alloc ?_ _ | with_reducible refine Below.drew ?_ | with_reducible refine below_draws _ ?_ | (with_reducible refine Below.setCell ?_ ?_ _; rotate_left; focus (first | with_reducible exact Nat.le_refl _ | (simp; done) | (simp; omega) | (simp at *; omega))) | with_reducible refine ch_trans ?_ (by with_reducible assumption)))⟩
  case round =>
    obtain ⟨rfl, rfl, hb⟩ := hrel
    go_wp2
    go_ret
    exact ⟨rfl, (by repeat (first | with_reducible exact Below.refl _ _ | with_reducible assumption | with_reducible refine ch_alloc ?_ _ | with_reducible refine Below.drew ?_ | with_reducible refine below_draws _ ?_ | (with_reducible refine Below.setCell ?_ ?_ _; rotate_left; focus (first | with_reducible exact Nat.le_refl _ | (simp; done) | (simp; omega) | (simp at *; omega))) | with_reducible refine ch_trans ?_ (by with_reducible assumption)))⟩
set_option maxRecDepth 100000 in
theorem heldValS_nil (k : Nat) (w : World) : Calls Tryz.prog 52 #[.slice none 0 0, .int .i64 k] w fun e w' => e = .returned (.int .i64 k) ∧ Below w.heap.size w w' := by
  go_enter Tryz.func52, Tryz.ntmps52
  go_wp2
  go_loopw [1, 5] (fun q i wr => i = .int .i64 0 ∧ q = .int .i64 (k : Int) ∧ Below w.heap.size w wr) (fun _ _ _ => 0)
  case atStart => exact ⟨rfl, rfl, (by repeat (first | with_reducible exact Below.refl _ _ | with_reducible assumption | with_reducible refine ch_alloc ?_ _ | with_reducible refine Below.drew ?_ | with_reducible refine below_draws _ ?_ | (with_reducible refine Below.setCell ?_ ?_ _; rotate_left; focus (first | with_reducible exact Nat.le_refl _ | (simp; done) | (simp; omega) | (simp at *; omega))) | with_reducible refine ch_trans ?_ (by with_reducible assumption)))⟩
  case round =>
    obtain ⟨rfl, rfl, hb⟩ := hrel
    go_wp2
    go_ret
    exact ⟨rfl, (by repeat (first | with_reducible exact Below.refl _ _ | with_reducible assumption | with_reducible refine ch_alloc ?_ _ | with_reducible refine Below.drew ?_ | with_reducible refine below_draws _ ?_ | (with_reducible refine Below.setCell ?_ ?_ _; rotate_left; focus (first | with_reducible exact Nat.le_refl _ | (simp; done) | (simp; omega) | (simp at *; omega))) | with_reducible refine ch_trans ?_ (by with_reducible assumption)))⟩
theorem markValS_got {w : World} {B : Nat} {T : TypeId} {v : Value} {xs : List (Array Value)} (h : Got w B T 3 v xs) (hl : xs.length ≤ 1048576) (k : Nat) (hk : k ≤ 8000000000000000000) :
    Calls Tryz.prog 49 #[v, .int .i64 k] w fun e w' => e = .returned (.int .i64 ((k + xs.length * 3 : Nat) : Int)) ∧ Turns (fun c => B ≤ c) w w' ∧ Held w' v k xs.length := by
  obtain ⟨h0, h1, h2⟩ := h
  rcases h2 with ⟨rfl, hn⟩ | ⟨g, cap, cur, rfl, hb, hg, hc1, hc2, hs, ht⟩
  · refine (markValS_nil k w).mono fun e w' ⟨he, hb⟩ => ⟨?_, Turns.below (Turns.refl _ _) hb, Or.inl ⟨rfl, hn⟩⟩
    rw [he, hn]; simp
  · have hr : w.rowIs g T (cap * 3) (fun i => cur.getD i default) := ⟨cur, hg, hs, fun i hi => by simp [Array.getD, hs, hi]⟩
    refine (markValS_any g xs.length cap (cap * 3) T _ k w hr (Nat.mul_le_mul_right _ hc1) hl hk).mono fun e w' ⟨he, hT, hR⟩ => ⟨he, hT.mono fun c hc => by omega, Or.inr ⟨g, cap, cap * 3, T, _, rfl, hR, Nat.mul_le_mul_right _ hc1, fun i hi => by simp [hi]⟩⟩
theorem heldValS_held {w : World} {v : Value} {k n : Nat} (h : Held w v k n) (hl : n ≤ 1048576) (hk : k ≤ 8000000000000000000) :
    Calls Tryz.prog 52 #[v, .int .i64 k] w fun e w' => e = .returned (.int .i64 ((k + n * 3 : Nat) : Int)) ∧ Below w.heap.size w w' := by
  rcases h with ⟨rfl, hn⟩ | ⟨b, cap, m, T, f, rfl, h1, h2, h3⟩
  · refine (heldValS_nil k w).mono fun e w' ⟨he, hb⟩ => ⟨?_, hb⟩
    rw [he, hn]; simp
  · exact heldValS_any b n cap m T f k w h1 h2 hl hk h3
theorem Fill.rowIs {w : World} {B : Nat} {T : TypeId} {z n : Nat} {xs : List (Array Value)} (h : Fill w B T z n xs) : ∃ f, w.rowIs B T (n * z) f := by
  obtain ⟨_, _, f, hr, _⟩ := h; exact ⟨f, hr⟩
end Go.Proofs.YtiijahoheajppaaGreat
