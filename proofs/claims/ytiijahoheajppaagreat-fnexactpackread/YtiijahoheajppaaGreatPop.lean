/- Places of parts behind a slice: marked, held. -/
import Derived.Test.YtiijahoheajppaaGreatGp
import Derived.Test.YtiijahoheajppaaGreatRv
namespace Go.Proofs.YtiijahoheajppaaGreat
open Go.ChangeShapes Go.WideShapes Go.ChangeAt Go.RowKit

def PartsP := RowP 68 [LeafP 0, LeafP 1, NestP ValsP, NestP ValsP, LeafP 0, LeafP 1, NestP ColsP, NestP StrsP, LeafP 1, LeafP 1, NestP StrsP, NestP StrsP]
theorem PartsP.lay : Lay PartsP := RowP.lay fun j h => by
  match j, h with
  | 0, _ => exact Or.inl ⟨0, rfl⟩
  | 1, _ => exact Or.inl ⟨1, rfl⟩
  | 2, _ => exact Or.inr ⟨ValsP, rfl, leaves_lay _ _, fun w v ps h => RowP.lit h⟩
  | 3, _ => exact Or.inr ⟨ValsP, rfl, leaves_lay _ _, fun w v ps h => RowP.lit h⟩
  | 4, _ => exact Or.inl ⟨0, rfl⟩
  | 5, _ => exact Or.inl ⟨1, rfl⟩
  | 6, _ => exact Or.inr ⟨ColsP, rfl, leaves_lay _ _, fun w v ps h => RowP.lit h⟩
  | 7, _ => exact Or.inr ⟨StrsP, rfl, leaves_lay _ _, fun w v ps h => RowP.lit h⟩
  | 8, _ => exact Or.inl ⟨1, rfl⟩
  | 9, _ => exact Or.inl ⟨1, rfl⟩
  | 10, _ => exact Or.inr ⟨StrsP, rfl, leaves_lay _ _, fun w v ps h => RowP.lit h⟩
  | 11, _ => exact Or.inr ⟨StrsP, rfl, leaves_lay _ _, fun w v ps h => RowP.lit h⟩
theorem PartsP.len {w : World} {v : Value} {ps : List Plc} (h : PartsP w v ps) : ps.length ≤ 92358976733184 := by
  rcases h with ⟨rfl, rfl⟩ | ⟨b, n, cap, m, f, qs, rfl, hn1, hr, hl, rfl, hf⟩
  · simp
  · have h1 := upTo_le (L := 7340032) qs (n * 12) fun c hc => by
      have hi : c / 12 < n := by omega
      have h0 := hf _ hi (c % 12) (by have := Nat.mod_lt c (show 0 < 12 by omega); simpa using this)
      have hd : c / 12 * 12 + c % 12 = c := by omega
      have hj : c % 12 < 12 := Nat.mod_lt _ (by omega)
      simp only [List.length_cons, List.length_nil, Nat.zero_add, Nat.reduceAdd, hd] at h0
      have key : ∀ (j : Nat) (hj : j < [LeafP 0, LeafP 1, NestP ValsP, NestP ValsP, LeafP 0, LeafP 1, NestP ColsP, NestP StrsP, LeafP 1, LeafP 1, NestP StrsP, NestP StrsP].length), ([LeafP 0, LeafP 1, NestP ValsP, NestP ValsP, LeafP 0, LeafP 1, NestP ColsP, NestP StrsP, LeafP 1, LeafP 1, NestP StrsP, NestP StrsP] : List CellP)[j] w ⟨b, c, none⟩ (f c) (qs c) → (qs c).length ≤ 7340032 := fun j hj h0 => by
        match j, hj, h0 with
        | 0, _, h0 => have := h0.2; rw [this]; simp
        | 1, _, h0 => have := h0.2; rw [this]; simp
        | 2, _, h0 => exact Nat.le_trans (ValsP_len h0) (by omega)
        | 3, _, h0 => exact Nat.le_trans (ValsP_len h0) (by omega)
        | 4, _, h0 => have := h0.2; rw [this]; simp
        | 5, _, h0 => have := h0.2; rw [this]; simp
        | 6, _, h0 => exact Nat.le_trans (ColsP_len h0) (by omega)
        | 7, _, h0 => exact Nat.le_trans (StrsP_len h0) (by omega)
        | 8, _, h0 => have := h0.2; rw [this]; simp
        | 9, _, h0 => have := h0.2; rw [this]; simp
        | 10, _, h0 => exact Nat.le_trans (StrsP_len h0) (by omega)
        | 11, _, h0 => exact Nat.le_trans (StrsP_len h0) (by omega)
      exact key _ _ h0
    show (upTo qs (n * 12)).length ≤ _
    have h2 : n * 12 * 7340032 ≤ 92358976733184 := by omega
    omega

theorem PartsP.elem {w : World} {b n : Nat} {f : Nat → Value} {qs : Nat → List Plc} (hf : ∀ i, i < n → ∀ j (h : j < [LeafP 0, LeafP 1, NestP ValsP, NestP ValsP, LeafP 0, LeafP 1, NestP ColsP, NestP StrsP, LeafP 1, LeafP 1, NestP StrsP, NestP StrsP].length), [LeafP 0, LeafP 1, NestP ValsP, NestP ValsP, LeafP 0, LeafP 1, NestP ColsP, NestP StrsP, LeafP 1, LeafP 1, NestP StrsP, NestP StrsP][j] w ⟨b, i * [LeafP 0, LeafP 1, NestP ValsP, NestP ValsP, LeafP 0, LeafP 1, NestP ColsP, NestP StrsP, LeafP 1, LeafP 1, NestP StrsP, NestP StrsP].length + j, none⟩ (f (i * [LeafP 0, LeafP 1, NestP ValsP, NestP ValsP, LeafP 0, LeafP 1, NestP ColsP, NestP StrsP, LeafP 1, LeafP 1, NestP StrsP, NestP StrsP].length + j)) (qs (i * [LeafP 0, LeafP 1, NestP ValsP, NestP ValsP, LeafP 0, LeafP 1, NestP ColsP, NestP StrsP, LeafP 1, LeafP 1, NestP StrsP, NestP StrsP].length + j))) (j : Nat) (hj : j < n) : (leafK 0 (f (j * 12)) ∧ qs (j * 12) = [(⟨b, j * 12, none⟩, 0)]) ∧ (leafK 1 (f (j * 12 + 1)) ∧ qs (j * 12 + 1) = [(⟨b, j * 12 + 1, none⟩, 1)]) ∧ ValsP w (f (j * 12 + 2)) (qs (j * 12 + 2)) ∧ ValsP w (f (j * 12 + 3)) (qs (j * 12 + 3)) ∧ (leafK 0 (f (j * 12 + 4)) ∧ qs (j * 12 + 4) = [(⟨b, j * 12 + 4, none⟩, 0)]) ∧ (leafK 1 (f (j * 12 + 5)) ∧ qs (j * 12 + 5) = [(⟨b, j * 12 + 5, none⟩, 1)]) ∧ ColsP w (f (j * 12 + 6)) (qs (j * 12 + 6)) ∧ StrsP w (f (j * 12 + 7)) (qs (j * 12 + 7)) ∧ (leafK 1 (f (j * 12 + 8)) ∧ qs (j * 12 + 8) = [(⟨b, j * 12 + 8, none⟩, 1)]) ∧ (leafK 1 (f (j * 12 + 9)) ∧ qs (j * 12 + 9) = [(⟨b, j * 12 + 9, none⟩, 1)]) ∧ StrsP w (f (j * 12 + 10)) (qs (j * 12 + 10)) ∧ StrsP w (f (j * 12 + 11)) (qs (j * 12 + 11)) := by
  have h0 := hf j hj 0 (by simp)
  have h1 := hf j hj 1 (by simp)
  have h2 := hf j hj 2 (by simp)
  have h3 := hf j hj 3 (by simp)
  have h4 := hf j hj 4 (by simp)
  have h5 := hf j hj 5 (by simp)
  have h6 := hf j hj 6 (by simp)
  have h7 := hf j hj 7 (by simp)
  have h8 := hf j hj 8 (by simp)
  have h9 := hf j hj 9 (by simp)
  have h10 := hf j hj 10 (by simp)
  have h11 := hf j hj 11 (by simp)
  exact ⟨h0, h1, h2, h3, h4, h5, h6, h7, h8, h9, h10, h11⟩
set_option maxRecDepth 100000 in
theorem markPartS_pl_nil (k : Nat) (w : World) : Calls Tryz.prog 37 #[.slice none 0 0, .int .i64 k] w fun e w' => e = .returned (.int .i64 k) ∧ Below w.heap.size w w' := by
  go_enter Tryz.func37, Tryz.ntmps37
  go_wp2
  go_loopw [1, 5] (fun q i wr => i = .int .i64 0 ∧ q = .int .i64 (k : Int) ∧ Below w.heap.size w wr) (fun _ _ _ => 0)
  case atStart => exact ⟨rfl, rfl, (by repeat (first | with_reducible exact Below.refl _ _ | with_reducible assumption | with_reducible refine ch_alloc ?_ _ | with_reducible refine Below.drew ?_ | with_reducible refine below_draws _ ?_ | (with_reducible refine Below.setCell ?_ ?_ _; rotate_left; focus (first | with_reducible exact Nat.le_refl _ | (simp; done) | (simp; omega) | (simp at *; omega))) | with_reducible refine ch_trans ?_ (by with_reducible assumption)))⟩
  case round =>
    obtain ⟨rfl, rfl, hb⟩ := hrel
    go_wp2
    go_ret
    exact ⟨rfl, (by repeat (first | with_reducible exact Below.refl _ _ | with_reducible assumption | with_reducible refine ch_alloc ?_ _ | with_reducible refine Below.drew ?_ | with_reducible refine below_draws _ ?_ | (with_reducible refine Below.setCell ?_ ?_ _; rotate_left; focus (first | with_reducible exact Nat.le_refl _ | (simp; done) | (simp; omega) | (simp at *; omega))) | with_reducible refine ch_trans ?_ (by with_reducible assumption)))⟩
set_option maxRecDepth 100000 in
theorem heldPartS_pl_nil (k : Nat) (w : World) : Calls Tryz.prog 59 #[.slice none 0 0, .int .i64 k] w fun e w' => e = .returned (.int .i64 k) ∧ Below w.heap.size w w' := by
  go_enter Tryz.func59, Tryz.ntmps59
  go_wp2
  go_loopw [1, 5] (fun q i wr => i = .int .i64 0 ∧ q = .int .i64 (k : Int) ∧ Below w.heap.size w wr) (fun _ _ _ => 0)
  case atStart => exact ⟨rfl, rfl, (by repeat (first | with_reducible exact Below.refl _ _ | with_reducible assumption | with_reducible refine ch_alloc ?_ _ | with_reducible refine Below.drew ?_ | with_reducible refine below_draws _ ?_ | (with_reducible refine Below.setCell ?_ ?_ _; rotate_left; focus (first | with_reducible exact Nat.le_refl _ | (simp; done) | (simp; omega) | (simp at *; omega))) | with_reducible refine ch_trans ?_ (by with_reducible assumption)))⟩
  case round =>
    obtain ⟨rfl, rfl, hb⟩ := hrel
    go_wp2
    go_ret
    exact ⟨rfl, (by repeat (first | with_reducible exact Below.refl _ _ | with_reducible assumption | with_reducible refine ch_alloc ?_ _ | with_reducible refine Below.drew ?_ | with_reducible refine below_draws _ ?_ | (with_reducible refine Below.setCell ?_ ?_ _; rotate_left; focus (first | with_reducible exact Nat.le_refl _ | (simp; done) | (simp; omega) | (simp at *; omega))) | with_reducible refine ch_trans ?_ (by with_reducible assumption)))⟩
set_option maxRecDepth 100000 in
set_option maxHeartbeats 4000000 in
theorem markPartS_pl {w : World} {v : Value} {ps : List Plc} (h : PartsP w v ps) (hn : (ps.map (·.1)).Nodup) (k : Nat) (hk : k ≤ 4000000000000000000) :
    Calls Tryz.prog 37 #[v, .int .i64 k] w fun e w' => e = .returned (.int .i64 ((k + ps.length : Nat) : Int)) ∧ Mk w w' k ps := by
  have hlen := PartsP.len h
  have hblk := PartsP.lay.1 _ _ _ h
  rcases h with ⟨rfl, rfl⟩ | ⟨b, n, cap, m, f, qs, rfl, hn1, hr, hl, rfl, hf⟩
  · exact (markPartS_pl_nil k w).mono fun e w' ⟨h1, h2⟩ => ⟨by simpa using h1, (Mk.refl w k).below h2⟩
  · have HF : Hid (∀ j, j < n → (leafK 0 (f (j * 12)) ∧ qs (j * 12) = [(⟨b, j * 12, none⟩, 0)]) ∧ (leafK 1 (f (j * 12 + 1)) ∧ qs (j * 12 + 1) = [(⟨b, j * 12 + 1, none⟩, 1)]) ∧ ValsP w (f (j * 12 + 2)) (qs (j * 12 + 2)) ∧ ValsP w (f (j * 12 + 3)) (qs (j * 12 + 3)) ∧ (leafK 0 (f (j * 12 + 4)) ∧ qs (j * 12 + 4) = [(⟨b, j * 12 + 4, none⟩, 0)]) ∧ (leafK 1 (f (j * 12 + 5)) ∧ qs (j * 12 + 5) = [(⟨b, j * 12 + 5, none⟩, 1)]) ∧ ColsP w (f (j * 12 + 6)) (qs (j * 12 + 6)) ∧ StrsP w (f (j * 12 + 7)) (qs (j * 12 + 7)) ∧ (leafK 1 (f (j * 12 + 8)) ∧ qs (j * 12 + 8) = [(⟨b, j * 12 + 8, none⟩, 1)]) ∧ (leafK 1 (f (j * 12 + 9)) ∧ qs (j * 12 + 9) = [(⟨b, j * 12 + 9, none⟩, 1)]) ∧ StrsP w (f (j * 12 + 10)) (qs (j * 12 + 10)) ∧ StrsP w (f (j * 12 + 11)) (qs (j * 12 + 11))) := fun j hj => PartsP.elem hf j hj
    have hl' : n * 12 ≤ m := hl
    have HR : Hid (w.rowIs b 68 m f) := hr
    have HN : Hid (((upTo qs (n * 12)).map (·.1)).Nodup) := hn
    have HB : Hid (∀ p ∈ upTo qs (n * 12), p.1.block < w.heap.size) := hblk
    have HLE : Hid ((upTo qs (n * 12)).length ≤ 92358976733184) := hlen
    show Calls _ _ _ _ fun e w' => e = .returned (.int .i64 ((k + (upTo qs (n * 12)).length : Nat) : Int)) ∧ Mk w w' k (upTo qs (n * 12))
    clear hn hblk hlen hf hl hr
    go_enter Tryz.func37, Tryz.ntmps37
    go_wp2
    go_loopw [1, 5] (fun q i wr => ∃ j K : Nat, j ≤ n ∧ i = .int .i64 j ∧ q = .int .i64 (K : Int) ∧ Hid (K = k + (upTo qs (j * 12)).length) ∧ Hid (Mk w wr k (upTo qs (j * 12)))) (fun _ i _ => n - (intOf i).toNat)
    case atStart => exact ⟨0, k, Nat.zero_le _, rfl, rfl, by show k = _; simp [upTo], by have h0 := Mk.refl w k; show Mk _ _ _ _; simpa [upTo] using h0⟩
    case round =>
      obtain ⟨j, K, hj, rfl, rfl, HK, HM0⟩ := hrel
      by_cases hlt : j < n
      · have hlti : (j : Int) < n := by omega
        obtain ⟨l0, l1, l2, l3, l4, l5, l6, l7, l8, l9, l10, l11⟩ := HF.out j hlt
        have hz1 := upTo_mono qs (show j * 12 + 12 ≤ n * 12 by omega)
        have hz2 := HLE.out
        have hK0 : K = k + (upTo qs (j * 12)).length := HK.out
        have n1 := upTo_len qs (j * 12)
        rw [l0.2, List.length_singleton] at n1
        have n2 := upTo_len qs (j * 12 + 1)
        rw [l1.2, List.length_singleton] at n2
        have n3 := upTo_len qs (j * 12 + 2)
        have n4 := upTo_len qs (j * 12 + 3)
        have n5 := upTo_len qs (j * 12 + 4)
        rw [l4.2, List.length_singleton] at n5
        have n6 := upTo_len qs (j * 12 + 5)
        rw [l5.2, List.length_singleton] at n6
        have n7 := upTo_len qs (j * 12 + 6)
        have n8 := upTo_len qs (j * 12 + 7)
        have n9 := upTo_len qs (j * 12 + 8)
        rw [l8.2, List.length_singleton] at n9
        have n10 := upTo_len qs (j * 12 + 9)
        rw [l9.2, List.length_singleton] at n10
        have n11 := upTo_len qs (j * 12 + 10)
        have n12 := upTo_len qs (j * 12 + 11)
        simp only [Nat.add_assoc, Nat.reduceAdd] at n1 n2 n3 n4 n5 n6 n7 n8 n9 n10 n11 n12
        obtain ⟨N0, hN0⟩ : ∃ N, N = (upTo qs (j * 12)).length := ⟨_, rfl⟩
        obtain ⟨N1, hN1⟩ : ∃ N, N = (upTo qs (j * 12 + 1)).length := ⟨_, rfl⟩
        obtain ⟨N2, hN2⟩ : ∃ N, N = (upTo qs (j * 12 + 2)).length := ⟨_, rfl⟩
        obtain ⟨N3, hN3⟩ : ∃ N, N = (upTo qs (j * 12 + 3)).length := ⟨_, rfl⟩
        obtain ⟨N4, hN4⟩ : ∃ N, N = (upTo qs (j * 12 + 4)).length := ⟨_, rfl⟩
        obtain ⟨N5, hN5⟩ : ∃ N, N = (upTo qs (j * 12 + 5)).length := ⟨_, rfl⟩
        obtain ⟨N6, hN6⟩ : ∃ N, N = (upTo qs (j * 12 + 6)).length := ⟨_, rfl⟩
        obtain ⟨N7, hN7⟩ : ∃ N, N = (upTo qs (j * 12 + 7)).length := ⟨_, rfl⟩
        obtain ⟨N8, hN8⟩ : ∃ N, N = (upTo qs (j * 12 + 8)).length := ⟨_, rfl⟩
        obtain ⟨N9, hN9⟩ : ∃ N, N = (upTo qs (j * 12 + 9)).length := ⟨_, rfl⟩
        obtain ⟨N10, hN10⟩ : ∃ N, N = (upTo qs (j * 12 + 10)).length := ⟨_, rfl⟩
        obtain ⟨N11, hN11⟩ : ∃ N, N = (upTo qs (j * 12 + 11)).length := ⟨_, rfl⟩
        obtain ⟨N12, hN12⟩ : ∃ N, N = (upTo qs (j * 12 + 12)).length := ⟨_, rfl⟩
        rw [← hN0] at hK0
        rw [← hN12] at hz1
        rw [← hN1, ← hN0] at n1
        rw [← hN2, ← hN1] at n2
        rw [← hN3, ← hN2] at n3
        rw [← hN4, ← hN3] at n4
        rw [← hN5, ← hN4] at n5
        rw [← hN6, ← hN5] at n6
        rw [← hN7, ← hN6] at n7
        rw [← hN8, ← hN7] at n8
        rw [← hN9, ← hN8] at n9
        rw [← hN10, ← hN9] at n10
        rw [← hN11, ← hN10] at n11
        rw [← hN12, ← hN11] at n12
        have HN0 : Hid (N0 = (upTo qs (j * 12)).length) := hN0
        have HN1 : Hid (N1 = (upTo qs (j * 12 + 1)).length) := hN1
        have HN2 : Hid (N2 = (upTo qs (j * 12 + 2)).length) := hN2
        have HN3 : Hid (N3 = (upTo qs (j * 12 + 3)).length) := hN3
        have HN4 : Hid (N4 = (upTo qs (j * 12 + 4)).length) := hN4
        have HN5 : Hid (N5 = (upTo qs (j * 12 + 5)).length) := hN5
        have HN6 : Hid (N6 = (upTo qs (j * 12 + 6)).length) := hN6
        have HN7 : Hid (N7 = (upTo qs (j * 12 + 7)).length) := hN7
        have HN8 : Hid (N8 = (upTo qs (j * 12 + 8)).length) := hN8
        have HN9 : Hid (N9 = (upTo qs (j * 12 + 9)).length) := hN9
        have HN10 : Hid (N10 = (upTo qs (j * 12 + 10)).length) := hN10
        have HN11 : Hid (N11 = (upTo qs (j * 12 + 11)).length) := hN11
        have HN12 : Hid (N12 = (upTo qs (j * 12 + 12)).length) := hN12
        have hK9 : K ≤ 4000092358976733184 := by omega
        have HZ : Hid (N1 = N0 + 1 ∧ N2 = N1 + 1 ∧ N3 = N2 + (qs (j * 12 + 2)).length ∧ N4 = N3 + (qs (j * 12 + 3)).length ∧ N5 = N4 + 1 ∧ N6 = N5 + 1 ∧ N7 = N6 + (qs (j * 12 + 6)).length ∧ N8 = N7 + (qs (j * 12 + 7)).length ∧ N9 = N8 + 1 ∧ N10 = N9 + 1 ∧ N11 = N10 + (qs (j * 12 + 10)).length ∧ N12 = N11 + (qs (j * 12 + 11)).length ∧ N12 ≤ 92358976733184 ∧ k ≤ 4000000000000000000) := ⟨n1, n2, n3, n4, n5, n6, n7, n8, n9, n10, n11, n12, by omega, hk⟩
        have E0 : Hid (K = k + N0) := hK0
        clear hz1 hz2 hK0 n1 n2 n3 n4 n5 n6 n7 n8 n9 n10 n11 n12 hN0 hN1 hN2 hN3 hN4 hN5 hN6 hN7 hN8 hN9 hN10 hN11 hN12
        obtain ⟨f0, hr0, hk0⟩ := HM0.out.row HR.out
        have g0 := hr0.cell (i := j * 12) (by omega)
        have q0 := hr0.frozen (j * 12)
        have g1 := hr0.cell (i := j * 12 + 1) (by omega)
        have q1 := hr0.frozen (j * 12 + 1)
        go_wp2_with fail
        have HM1 : Hid (Mk w (wr.setCell ⟨b, j * 12, none⟩ (.int .i64 ((K : Int)))) k (upTo qs (j * 12 + 1))) := HM0.out.leaf HR.out (by omega) (M := n * 12) (by omega) l0.1 l0.2 HN.out HB.out (by rw [← HN0.out]; show Value.int .i64 _ = Value.int .i64 _; congr 1; have z0 := E0.out; have z1 := HZ.out; omega)
        clear hr0 hk0 g0 q0 g1 q1
        obtain ⟨u1, hu1⟩ : ∃ u, u = (wr.setCell ⟨b, j * 12, none⟩ (.int .i64 ((K : Int)))) := ⟨_, rfl⟩
        rw [← hu1] at HM1 ⊢
        clear hu1
        obtain ⟨L1, hL1⟩ : ∃ L : Nat, (K : Int) + 1 = (L : Int) := ⟨K + 1, by omega⟩
        rw [hL1]
        have E1k : Hid (L1 = k + N1) := by show _ = _; have z0 := E0.out; have z1 := HZ.out; omega
        clear hL1
        have bL1 : L1 ≤ 4000092358976733184 := by have z0 := E1k.out; have z1 := HZ.out; omega
        refine (markText_any L1 _ (by omega)).mono ?_
        rintro e w1 ⟨rfl, b1x⟩
        generalize htx1 : (if L1 = 0 then [109, 48] else 109 :: markD L1 []) = txt1
        have HM2 : Hid (Mk w w1 k (upTo qs (j * 12 + 1))) := HM1.out.below b1x
        have HX1 : Hid ((if L1 = 0 then [109, 48] else 109 :: markD L1 []) = txt1) := htx1
        clear b1x htx1
        obtain ⟨f2, hr2, hk2⟩ := HM2.out.row HR.out
        have g1 := hr2.cell (i := j * 12 + 1) (by omega)
        have q1 := hr2.frozen (j * 12 + 1)
        obtain ⟨a2, x2, c2, es2⟩ := RowP.lit l2
        have g2 := hr2.cell (i := j * 12 + 2) (by omega)
        have ee2 : f2 (j * 12 + 2) = .slice a2 x2 c2 := by have h0 := hk2 (j * 12 + 2) (by omega); rw [es2] at h0; exact h0.slice
        rw [ee2] at g2
        go_wp2_with fail
        have HM3 : Hid (Mk w (w1.setCell ⟨b, j * 12 + 1, none⟩ (.string ⟨txt1.toArray⟩)) k (upTo qs (j * 12 + 2))) := HM2.out.leaf HR.out (by omega) (M := n * 12) (by omega) l1.1 l1.2 HN.out HB.out (by rw [← HN1.out, show k + N1 = L1 from by have z0 := E1k.out; have z1 := HZ.out; omega]; show _ = Value.string (markB L1); unfold markB; rw [HX1.out])
        clear hr2 hk2 g1 q1 g2 ee2
        obtain ⟨u2, hu2⟩ : ∃ u, u = (w1.setCell ⟨b, j * 12 + 1, none⟩ (.string ⟨txt1.toArray⟩)) := ⟨_, rfl⟩
        rw [← hu2] at HM3 ⊢
        clear hu2
        obtain ⟨L2, hL2⟩ : ∃ L : Nat, (L1 : Int) + 1 = (L : Int) := ⟨L1 + 1, by omega⟩
        rw [hL2]
        have E2k : Hid (L2 = k + N2) := by show _ = _; have z0 := E1k.out; have z1 := HZ.out; omega
        clear hL2
        have bL2 : L2 ≤ 4000092358976733184 := by have z0 := E2k.out; have z1 := HZ.out; omega
        have HT1 : Hid (ValsP u2 (.slice a2 x2 c2) (qs (j * 12 + 2))) := by have h0 := l2; rw [es2] at h0; exact (leaves_lay _ _).2 _ _ _ _ _ HM3.out.marks h0
        refine (markValS_pl HT1.out L2 (by omega)).mono ?_
        rintro e w2 ⟨rfl, hg⟩
        have HM4 : Hid (Mk w w2 k (upTo qs (j * 12 + 3))) := HM3.out.nest (by rw [← HN2.out, ← E2k.out]; exact hg) (M := n * 12) (by omega) HN.out HB.out
        clear hg HT1
        obtain ⟨K1, hK1⟩ : ∃ K' : Nat, K' = L2 + (qs (j * 12 + 2)).length := ⟨_, rfl⟩
        rw [← hK1]
        have E1n : Hid (K1 = k + N3) := by show _ = _; have z0 := E2k.out; have z1 := HZ.out; omega
        clear hK1
        have bK1 : K1 ≤ 4000092358976733184 := by have z0 := E1n.out; have z1 := HZ.out; omega
        obtain ⟨f4, hr4, hk4⟩ := HM4.out.row HR.out
        obtain ⟨a3, x3, c3, es3⟩ := RowP.lit l3
        have g3 := hr4.cell (i := j * 12 + 3) (by omega)
        have ee3 : f4 (j * 12 + 3) = .slice a3 x3 c3 := by have h0 := hk4 (j * 12 + 3) (by omega); rw [es3] at h0; exact h0.slice
        rw [ee3] at g3
        go_wp2_with fail
        clear hr4 hk4 g3 ee3
        obtain ⟨u3, hu3⟩ : ∃ u, u = w2 := ⟨_, rfl⟩
        rw [← hu3] at HM4 ⊢
        clear hu3
        have HT2 : Hid (ValsP u3 (.slice a3 x3 c3) (qs (j * 12 + 3))) := by have h0 := l3; rw [es3] at h0; exact (leaves_lay _ _).2 _ _ _ _ _ HM4.out.marks h0
        refine (markValS_pl HT2.out K1 (by omega)).mono ?_
        rintro e w3 ⟨rfl, hg⟩
        have HM5 : Hid (Mk w w3 k (upTo qs (j * 12 + 4))) := HM4.out.nest (by rw [← HN3.out, ← E1n.out]; exact hg) (M := n * 12) (by omega) HN.out HB.out
        clear hg HT2
        obtain ⟨K2, hK2⟩ : ∃ K' : Nat, K' = K1 + (qs (j * 12 + 3)).length := ⟨_, rfl⟩
        rw [← hK2]
        have E2n : Hid (K2 = k + N4) := by show _ = _; have z0 := E1n.out; have z1 := HZ.out; omega
        clear hK2
        have bK2 : K2 ≤ 4000092358976733184 := by have z0 := E2n.out; have z1 := HZ.out; omega
        obtain ⟨f5, hr5, hk5⟩ := HM5.out.row HR.out
        have g4 := hr5.cell (i := j * 12 + 4) (by omega)
        have q4 := hr5.frozen (j * 12 + 4)
        have g5 := hr5.cell (i := j * 12 + 5) (by omega)
        have q5 := hr5.frozen (j * 12 + 5)
        go_wp2_with fail
        have HM6 : Hid (Mk w (w3.setCell ⟨b, j * 12 + 4, none⟩ (.int .i64 ((K2 : Int)))) k (upTo qs (j * 12 + 5))) := HM5.out.leaf HR.out (by omega) (M := n * 12) (by omega) l4.1 l4.2 HN.out HB.out (by rw [← HN4.out]; show Value.int .i64 _ = Value.int .i64 _; congr 1; have z0 := E2n.out; have z1 := HZ.out; omega)
        clear hr5 hk5 g4 q4 g5 q5
        obtain ⟨u4, hu4⟩ : ∃ u, u = (w3.setCell ⟨b, j * 12 + 4, none⟩ (.int .i64 ((K2 : Int)))) := ⟨_, rfl⟩
        rw [← hu4] at HM6 ⊢
        clear hu4
        obtain ⟨L4, hL4⟩ : ∃ L : Nat, (K2 : Int) + 1 = (L : Int) := ⟨K2 + 1, by omega⟩
        rw [hL4]
        have E4k : Hid (L4 = k + N5) := by show _ = _; have z0 := E2n.out; have z1 := HZ.out; omega
        clear hL4
        have bL4 : L4 ≤ 4000092358976733184 := by have z0 := E4k.out; have z1 := HZ.out; omega
        refine (markText_any L4 _ (by omega)).mono ?_
        rintro e w4 ⟨rfl, b4x⟩
        generalize htx4 : (if L4 = 0 then [109, 48] else 109 :: markD L4 []) = txt4
        have HM7 : Hid (Mk w w4 k (upTo qs (j * 12 + 5))) := HM6.out.below b4x
        have HX4 : Hid ((if L4 = 0 then [109, 48] else 109 :: markD L4 []) = txt4) := htx4
        clear b4x htx4
        obtain ⟨f7, hr7, hk7⟩ := HM7.out.row HR.out
        have g5 := hr7.cell (i := j * 12 + 5) (by omega)
        have q5 := hr7.frozen (j * 12 + 5)
        obtain ⟨a6, x6, c6, es6⟩ := RowP.lit l6
        have g6 := hr7.cell (i := j * 12 + 6) (by omega)
        have ee6 : f7 (j * 12 + 6) = .slice a6 x6 c6 := by have h0 := hk7 (j * 12 + 6) (by omega); rw [es6] at h0; exact h0.slice
        rw [ee6] at g6
        go_wp2_with fail
        have HM8 : Hid (Mk w (w4.setCell ⟨b, j * 12 + 5, none⟩ (.string ⟨txt4.toArray⟩)) k (upTo qs (j * 12 + 6))) := HM7.out.leaf HR.out (by omega) (M := n * 12) (by omega) l5.1 l5.2 HN.out HB.out (by rw [← HN5.out, show k + N5 = L4 from by have z0 := E4k.out; have z1 := HZ.out; omega]; show _ = Value.string (markB L4); unfold markB; rw [HX4.out])
        clear hr7 hk7 g5 q5 g6 ee6
        obtain ⟨u5, hu5⟩ : ∃ u, u = (w4.setCell ⟨b, j * 12 + 5, none⟩ (.string ⟨txt4.toArray⟩)) := ⟨_, rfl⟩
        rw [← hu5] at HM8 ⊢
        clear hu5
        obtain ⟨L5, hL5⟩ : ∃ L : Nat, (L4 : Int) + 1 = (L : Int) := ⟨L4 + 1, by omega⟩
        rw [hL5]
        have E5k : Hid (L5 = k + N6) := by show _ = _; have z0 := E4k.out; have z1 := HZ.out; omega
        clear hL5
        have bL5 : L5 ≤ 4000092358976733184 := by have z0 := E5k.out; have z1 := HZ.out; omega
        have HT3 : Hid (ColsP u5 (.slice a6 x6 c6) (qs (j * 12 + 6))) := by have h0 := l6; rw [es6] at h0; exact (leaves_lay _ _).2 _ _ _ _ _ HM8.out.marks h0
        refine (markColS_pl HT3.out L5 (by omega)).mono ?_
        rintro e w5 ⟨rfl, hg⟩
        have HM9 : Hid (Mk w w5 k (upTo qs (j * 12 + 7))) := HM8.out.nest (by rw [← HN6.out, ← E5k.out]; exact hg) (M := n * 12) (by omega) HN.out HB.out
        clear hg HT3
        obtain ⟨K3, hK3⟩ : ∃ K' : Nat, K' = L5 + (qs (j * 12 + 6)).length := ⟨_, rfl⟩
        rw [← hK3]
        have E3n : Hid (K3 = k + N7) := by show _ = _; have z0 := E5k.out; have z1 := HZ.out; omega
        clear hK3
        have bK3 : K3 ≤ 4000092358976733184 := by have z0 := E3n.out; have z1 := HZ.out; omega
        obtain ⟨f9, hr9, hk9⟩ := HM9.out.row HR.out
        obtain ⟨a7, x7, c7, es7⟩ := RowP.lit l7
        have g7 := hr9.cell (i := j * 12 + 7) (by omega)
        have ee7 : f9 (j * 12 + 7) = .slice a7 x7 c7 := by have h0 := hk9 (j * 12 + 7) (by omega); rw [es7] at h0; exact h0.slice
        rw [ee7] at g7
        go_wp2_with fail
        clear hr9 hk9 g7 ee7
        obtain ⟨u6, hu6⟩ : ∃ u, u = w5 := ⟨_, rfl⟩
        rw [← hu6] at HM9 ⊢
        clear hu6
        have HT4 : Hid (StrsP u6 (.slice a7 x7 c7) (qs (j * 12 + 7))) := by have h0 := l7; rw [es7] at h0; exact (leaves_lay _ _).2 _ _ _ _ _ HM9.out.marks h0
        refine (markStringS_pl HT4.out K3 (by omega)).mono ?_
        rintro e w6 ⟨rfl, hg⟩
        have HM10 : Hid (Mk w w6 k (upTo qs (j * 12 + 8))) := HM9.out.nest (by rw [← HN7.out, ← E3n.out]; exact hg) (M := n * 12) (by omega) HN.out HB.out
        clear hg HT4
        obtain ⟨K4, hK4⟩ : ∃ K' : Nat, K' = K3 + (qs (j * 12 + 7)).length := ⟨_, rfl⟩
        rw [← hK4]
        have E4n : Hid (K4 = k + N8) := by show _ = _; have z0 := E3n.out; have z1 := HZ.out; omega
        clear hK4
        have bK4 : K4 ≤ 4000092358976733184 := by have z0 := E4n.out; have z1 := HZ.out; omega
        obtain ⟨f10, hr10, hk10⟩ := HM10.out.row HR.out
        have g8 := hr10.cell (i := j * 12 + 8) (by omega)
        have q8 := hr10.frozen (j * 12 + 8)
        go_wp2_with fail
        clear hr10 hk10 g8 q8
        obtain ⟨u7, hu7⟩ : ∃ u, u = w6 := ⟨_, rfl⟩
        rw [← hu7] at HM10 ⊢
        clear hu7
        refine (markText_any K4 _ (by omega)).mono ?_
        rintro e w7 ⟨rfl, b7x⟩
        generalize htx7 : (if K4 = 0 then [109, 48] else 109 :: markD K4 []) = txt7
        have HM11 : Hid (Mk w w7 k (upTo qs (j * 12 + 8))) := HM10.out.below b7x
        have HX7 : Hid ((if K4 = 0 then [109, 48] else 109 :: markD K4 []) = txt7) := htx7
        clear b7x htx7
        obtain ⟨f11, hr11, hk11⟩ := HM11.out.row HR.out
        have g8 := hr11.cell (i := j * 12 + 8) (by omega)
        have q8 := hr11.frozen (j * 12 + 8)
        have g9 := hr11.cell (i := j * 12 + 9) (by omega)
        have q9 := hr11.frozen (j * 12 + 9)
        go_wp2_with fail
        have HM12 : Hid (Mk w (w7.setCell ⟨b, j * 12 + 8, none⟩ (.string ⟨txt7.toArray⟩)) k (upTo qs (j * 12 + 9))) := HM11.out.leaf HR.out (by omega) (M := n * 12) (by omega) l8.1 l8.2 HN.out HB.out (by rw [← HN8.out, show k + N8 = K4 from by have z0 := E4n.out; have z1 := HZ.out; omega]; show _ = Value.string (markB K4); unfold markB; rw [HX7.out])
        clear hr11 hk11 g8 q8 g9 q9
        obtain ⟨u8, hu8⟩ : ∃ u, u = (w7.setCell ⟨b, j * 12 + 8, none⟩ (.string ⟨txt7.toArray⟩)) := ⟨_, rfl⟩
        rw [← hu8] at HM12 ⊢
        clear hu8
        obtain ⟨L8, hL8⟩ : ∃ L : Nat, (K4 : Int) + 1 = (L : Int) := ⟨K4 + 1, by omega⟩
        rw [hL8]
        have E8k : Hid (L8 = k + N9) := by show _ = _; have z0 := E4n.out; have z1 := HZ.out; omega
        clear hL8
        have bL8 : L8 ≤ 4000092358976733184 := by have z0 := E8k.out; have z1 := HZ.out; omega
        refine (markText_any L8 _ (by omega)).mono ?_
        rintro e w8 ⟨rfl, b8x⟩
        generalize htx8 : (if L8 = 0 then [109, 48] else 109 :: markD L8 []) = txt8
        have HM13 : Hid (Mk w w8 k (upTo qs (j * 12 + 9))) := HM12.out.below b8x
        have HX8 : Hid ((if L8 = 0 then [109, 48] else 109 :: markD L8 []) = txt8) := htx8
        clear b8x htx8
        obtain ⟨f13, hr13, hk13⟩ := HM13.out.row HR.out
        have g9 := hr13.cell (i := j * 12 + 9) (by omega)
        have q9 := hr13.frozen (j * 12 + 9)
        obtain ⟨a10, x10, c10, es10⟩ := RowP.lit l10
        have g10 := hr13.cell (i := j * 12 + 10) (by omega)
        have ee10 : f13 (j * 12 + 10) = .slice a10 x10 c10 := by have h0 := hk13 (j * 12 + 10) (by omega); rw [es10] at h0; exact h0.slice
        rw [ee10] at g10
        go_wp2_with fail
        have HM14 : Hid (Mk w (w8.setCell ⟨b, j * 12 + 9, none⟩ (.string ⟨txt8.toArray⟩)) k (upTo qs (j * 12 + 10))) := HM13.out.leaf HR.out (by omega) (M := n * 12) (by omega) l9.1 l9.2 HN.out HB.out (by rw [← HN9.out, show k + N9 = L8 from by have z0 := E8k.out; have z1 := HZ.out; omega]; show _ = Value.string (markB L8); unfold markB; rw [HX8.out])
        clear hr13 hk13 g9 q9 g10 ee10
        obtain ⟨u9, hu9⟩ : ∃ u, u = (w8.setCell ⟨b, j * 12 + 9, none⟩ (.string ⟨txt8.toArray⟩)) := ⟨_, rfl⟩
        rw [← hu9] at HM14 ⊢
        clear hu9
        obtain ⟨L9, hL9⟩ : ∃ L : Nat, (L8 : Int) + 1 = (L : Int) := ⟨L8 + 1, by omega⟩
        rw [hL9]
        have E9k : Hid (L9 = k + N10) := by show _ = _; have z0 := E8k.out; have z1 := HZ.out; omega
        clear hL9
        have bL9 : L9 ≤ 4000092358976733184 := by have z0 := E9k.out; have z1 := HZ.out; omega
        have HT5 : Hid (StrsP u9 (.slice a10 x10 c10) (qs (j * 12 + 10))) := by have h0 := l10; rw [es10] at h0; exact (leaves_lay _ _).2 _ _ _ _ _ HM14.out.marks h0
        refine (markStringS_pl HT5.out L9 (by omega)).mono ?_
        rintro e w9 ⟨rfl, hg⟩
        have HM15 : Hid (Mk w w9 k (upTo qs (j * 12 + 11))) := HM14.out.nest (by rw [← HN10.out, ← E9k.out]; exact hg) (M := n * 12) (by omega) HN.out HB.out
        clear hg HT5
        obtain ⟨K5, hK5⟩ : ∃ K' : Nat, K' = L9 + (qs (j * 12 + 10)).length := ⟨_, rfl⟩
        rw [← hK5]
        have E5n : Hid (K5 = k + N11) := by show _ = _; have z0 := E9k.out; have z1 := HZ.out; omega
        clear hK5
        have bK5 : K5 ≤ 4000092358976733184 := by have z0 := E5n.out; have z1 := HZ.out; omega
        obtain ⟨f15, hr15, hk15⟩ := HM15.out.row HR.out
        obtain ⟨a11, x11, c11, es11⟩ := RowP.lit l11
        have g11 := hr15.cell (i := j * 12 + 11) (by omega)
        have ee11 : f15 (j * 12 + 11) = .slice a11 x11 c11 := by have h0 := hk15 (j * 12 + 11) (by omega); rw [es11] at h0; exact h0.slice
        rw [ee11] at g11
        go_wp2_with fail
        clear hr15 hk15 g11 ee11
        obtain ⟨u10, hu10⟩ : ∃ u, u = w9 := ⟨_, rfl⟩
        rw [← hu10] at HM15 ⊢
        clear hu10
        have HT6 : Hid (StrsP u10 (.slice a11 x11 c11) (qs (j * 12 + 11))) := by have h0 := l11; rw [es11] at h0; exact (leaves_lay _ _).2 _ _ _ _ _ HM15.out.marks h0
        refine (markStringS_pl HT6.out K5 (by omega)).mono ?_
        rintro e w10 ⟨rfl, hg⟩
        have HM16 : Hid (Mk w w10 k (upTo qs (j * 12 + 12))) := HM15.out.nest (by rw [← HN11.out, ← E5n.out]; exact hg) (M := n * 12) (by omega) HN.out HB.out
        clear hg HT6
        obtain ⟨K6, hK6⟩ : ∃ K' : Nat, K' = K5 + (qs (j * 12 + 11)).length := ⟨_, rfl⟩
        rw [← hK6]
        have E6n : Hid (K6 = k + N12) := by show _ = _; have z0 := E5n.out; have z1 := HZ.out; omega
        clear hK6
        have bK6 : K6 ≤ 4000092358976733184 := by have z0 := E6n.out; have z1 := HZ.out; omega
        go_wp2
        go_round
        case rel => exact ⟨j + 1, K6, by omega, by go_num, by go_num, by show _ = _; rw [show (j + 1) * 12 = j * 12 + 12 from by omega, ← HN12.out]; have z0 := E6n.out; have z1 := HZ.out; omega, by rw [show (j + 1) * 12 = j * 12 + 12 from by omega]; exact HM16⟩
        case measure => simp [intOf]; omega
      · have hlti : (n : Int) ≤ j := by omega
        obtain rfl : j = n := by omega
        have HE : Hid (((k + (upTo qs (j * 12)).length : Nat) : Int) = K) := by show _ = _; rw [HK.out]
        go_wp2
        go_ret
        exact ⟨by rw [HE.out]; rfl, HM0.out⟩
set_option maxRecDepth 100000 in
set_option maxHeartbeats 4000000 in
theorem heldPartS_pl {w : World} {v : Value} {ps : List Plc} (h : PartsP w v ps) (k : Nat) (hk : k ≤ 4000000000000000000) (hm : Marked w k ps) :
    Calls Tryz.prog 59 #[v, .int .i64 k] w fun e w' => e = .returned (.int .i64 ((k + ps.length : Nat) : Int)) ∧ Below w.heap.size w w' := by
  have hlen := PartsP.len h
  have hblk := PartsP.lay.1 _ _ _ h
  rcases h with ⟨rfl, rfl⟩ | ⟨b, n, cap, m, f, qs, rfl, hn1, hr, hl, rfl, hf⟩
  · exact (heldPartS_pl_nil k w).mono fun e w' ⟨h1, h2⟩ => ⟨by simpa using h1, h2⟩
  · have HF : Hid (∀ j, j < n → (leafK 0 (f (j * 12)) ∧ qs (j * 12) = [(⟨b, j * 12, none⟩, 0)]) ∧ (leafK 1 (f (j * 12 + 1)) ∧ qs (j * 12 + 1) = [(⟨b, j * 12 + 1, none⟩, 1)]) ∧ ValsP w (f (j * 12 + 2)) (qs (j * 12 + 2)) ∧ ValsP w (f (j * 12 + 3)) (qs (j * 12 + 3)) ∧ (leafK 0 (f (j * 12 + 4)) ∧ qs (j * 12 + 4) = [(⟨b, j * 12 + 4, none⟩, 0)]) ∧ (leafK 1 (f (j * 12 + 5)) ∧ qs (j * 12 + 5) = [(⟨b, j * 12 + 5, none⟩, 1)]) ∧ ColsP w (f (j * 12 + 6)) (qs (j * 12 + 6)) ∧ StrsP w (f (j * 12 + 7)) (qs (j * 12 + 7)) ∧ (leafK 1 (f (j * 12 + 8)) ∧ qs (j * 12 + 8) = [(⟨b, j * 12 + 8, none⟩, 1)]) ∧ (leafK 1 (f (j * 12 + 9)) ∧ qs (j * 12 + 9) = [(⟨b, j * 12 + 9, none⟩, 1)]) ∧ StrsP w (f (j * 12 + 10)) (qs (j * 12 + 10)) ∧ StrsP w (f (j * 12 + 11)) (qs (j * 12 + 11))) := fun j hj => PartsP.elem hf j hj
    have hl' : n * 12 ≤ m := hl
    have HR : Hid (w.rowIs b 68 m f) := hr
    have HD : Hid (Marked w k (upTo qs (n * 12))) := hm
    have HLE : Hid ((upTo qs (n * 12)).length ≤ 92358976733184) := hlen
    show Calls _ _ _ _ fun e w' => e = .returned (.int .i64 ((k + (upTo qs (n * 12)).length : Nat) : Int)) ∧ Below w.heap.size w w'
    clear hm hblk hlen hf hl hr
    go_enter Tryz.func59, Tryz.ntmps59
    go_wp2
    go_loopw [1, 5] (fun q i wr => ∃ j K : Nat, j ≤ n ∧ i = .int .i64 j ∧ q = .int .i64 (K : Int) ∧ Hid (K = k + (upTo qs (j * 12)).length) ∧ Below w.heap.size w wr) (fun _ i _ => n - (intOf i).toNat)
    case atStart => exact ⟨0, k, Nat.zero_le _, rfl, rfl, by show k = _; simp [upTo], (by repeat (first | with_reducible exact Below.refl _ _ | with_reducible assumption | with_reducible refine ch_alloc ?_ _ | with_reducible refine Below.drew ?_ | with_reducible refine below_draws _ ?_ | (with_reducible refine Below.setCell ?_ ?_ _; rotate_left; focus (first | with_reducible exact Nat.le_refl _ | (simp; done) | (simp; omega) | (simp at *; omega))) | with_reducible refine ch_trans ?_ (by with_reducible assumption)))⟩
    case round =>
      obtain ⟨j, K, hj, rfl, rfl, HK, hb0⟩ := hrel
      by_cases hlt : j < n
      · have hlti : (j : Int) < n := by omega
        obtain ⟨l0, l1, l2, l3, l4, l5, l6, l7, l8, l9, l10, l11⟩ := HF.out j hlt
        have hz1 := upTo_mono qs (show j * 12 + 12 ≤ n * 12 by omega)
        have hz2 := HLE.out
        have hK0 : K = k + (upTo qs (j * 12)).length := HK.out
        have n1 := upTo_len qs (j * 12)
        rw [l0.2, List.length_singleton] at n1
        have n2 := upTo_len qs (j * 12 + 1)
        rw [l1.2, List.length_singleton] at n2
        have n3 := upTo_len qs (j * 12 + 2)
        have n4 := upTo_len qs (j * 12 + 3)
        have n5 := upTo_len qs (j * 12 + 4)
        rw [l4.2, List.length_singleton] at n5
        have n6 := upTo_len qs (j * 12 + 5)
        rw [l5.2, List.length_singleton] at n6
        have n7 := upTo_len qs (j * 12 + 6)
        have n8 := upTo_len qs (j * 12 + 7)
        have n9 := upTo_len qs (j * 12 + 8)
        rw [l8.2, List.length_singleton] at n9
        have n10 := upTo_len qs (j * 12 + 9)
        rw [l9.2, List.length_singleton] at n10
        have n11 := upTo_len qs (j * 12 + 10)
        have n12 := upTo_len qs (j * 12 + 11)
        simp only [Nat.add_assoc, Nat.reduceAdd] at n1 n2 n3 n4 n5 n6 n7 n8 n9 n10 n11 n12
        have d0 := HD.out.leaf (c := j * 12) (by omega) l0.2
        have d1 := HD.out.leaf (c := j * 12 + 1) (by omega) l1.2
        have d2 := HD.out.at (c := j * 12 + 2) (by omega)
        have d3 := HD.out.at (c := j * 12 + 3) (by omega)
        have d4 := HD.out.leaf (c := j * 12 + 4) (by omega) l4.2
        have d5 := HD.out.leaf (c := j * 12 + 5) (by omega) l5.2
        have d6 := HD.out.at (c := j * 12 + 6) (by omega)
        have d7 := HD.out.at (c := j * 12 + 7) (by omega)
        have d8 := HD.out.leaf (c := j * 12 + 8) (by omega) l8.2
        have d9 := HD.out.leaf (c := j * 12 + 9) (by omega) l9.2
        have d10 := HD.out.at (c := j * 12 + 10) (by omega)
        have d11 := HD.out.at (c := j * 12 + 11) (by omega)
        obtain ⟨N0, hN0⟩ : ∃ N, N = (upTo qs (j * 12)).length := ⟨_, rfl⟩
        obtain ⟨N1, hN1⟩ : ∃ N, N = (upTo qs (j * 12 + 1)).length := ⟨_, rfl⟩
        obtain ⟨N2, hN2⟩ : ∃ N, N = (upTo qs (j * 12 + 2)).length := ⟨_, rfl⟩
        obtain ⟨N3, hN3⟩ : ∃ N, N = (upTo qs (j * 12 + 3)).length := ⟨_, rfl⟩
        obtain ⟨N4, hN4⟩ : ∃ N, N = (upTo qs (j * 12 + 4)).length := ⟨_, rfl⟩
        obtain ⟨N5, hN5⟩ : ∃ N, N = (upTo qs (j * 12 + 5)).length := ⟨_, rfl⟩
        obtain ⟨N6, hN6⟩ : ∃ N, N = (upTo qs (j * 12 + 6)).length := ⟨_, rfl⟩
        obtain ⟨N7, hN7⟩ : ∃ N, N = (upTo qs (j * 12 + 7)).length := ⟨_, rfl⟩
        obtain ⟨N8, hN8⟩ : ∃ N, N = (upTo qs (j * 12 + 8)).length := ⟨_, rfl⟩
        obtain ⟨N9, hN9⟩ : ∃ N, N = (upTo qs (j * 12 + 9)).length := ⟨_, rfl⟩
        obtain ⟨N10, hN10⟩ : ∃ N, N = (upTo qs (j * 12 + 10)).length := ⟨_, rfl⟩
        obtain ⟨N11, hN11⟩ : ∃ N, N = (upTo qs (j * 12 + 11)).length := ⟨_, rfl⟩
        obtain ⟨N12, hN12⟩ : ∃ N, N = (upTo qs (j * 12 + 12)).length := ⟨_, rfl⟩
        rw [← hN0] at hK0
        rw [← hN12] at hz1
        rw [← hN1, ← hN0] at n1
        rw [← hN0] at d0
        rw [← hN2, ← hN1] at n2
        rw [← hN1] at d1
        rw [← hN3, ← hN2] at n3
        rw [← hN2] at d2
        rw [← hN4, ← hN3] at n4
        rw [← hN3] at d3
        rw [← hN5, ← hN4] at n5
        rw [← hN4] at d4
        rw [← hN6, ← hN5] at n6
        rw [← hN5] at d5
        rw [← hN7, ← hN6] at n7
        rw [← hN6] at d6
        rw [← hN8, ← hN7] at n8
        rw [← hN7] at d7
        rw [← hN9, ← hN8] at n9
        rw [← hN8] at d8
        rw [← hN10, ← hN9] at n10
        rw [← hN9] at d9
        rw [← hN11, ← hN10] at n11
        rw [← hN10] at d10
        rw [← hN12, ← hN11] at n12
        rw [← hN11] at d11
        have hK9 : K ≤ 4000092358976733184 := by omega
        have HZ : Hid (N1 = N0 + 1 ∧ N2 = N1 + 1 ∧ N3 = N2 + (qs (j * 12 + 2)).length ∧ N4 = N3 + (qs (j * 12 + 3)).length ∧ N5 = N4 + 1 ∧ N6 = N5 + 1 ∧ N7 = N6 + (qs (j * 12 + 6)).length ∧ N8 = N7 + (qs (j * 12 + 7)).length ∧ N9 = N8 + 1 ∧ N10 = N9 + 1 ∧ N11 = N10 + (qs (j * 12 + 10)).length ∧ N12 = N11 + (qs (j * 12 + 11)).length ∧ N12 ≤ 92358976733184 ∧ k ≤ 4000000000000000000) := ⟨n1, n2, n3, n4, n5, n6, n7, n8, n9, n10, n11, n12, by omega, hk⟩
        have HNz : Hid (N12 = (upTo qs (j * 12 + 12)).length) := hN12
        have E0 : Hid (K = k + N0) := hK0
        have D0 : Hid (w.cell? ⟨b, j * 12, none⟩ = some (mkV 0 (k + N0))) := d0
        have D1 : Hid (w.cell? ⟨b, j * 12 + 1, none⟩ = some (mkV 1 (k + N1))) := d1
        obtain ⟨a2, x2, c2, es2⟩ := RowP.lit l2
        have D2 : Hid (Marked w (k + N2) (qs (j * 12 + 2))) := d2
        have C2 : Hid (w.cell? ⟨b, j * 12 + 2, none⟩ = some (.slice a2 x2 c2)) := by have h0 := HR.out.cell (i := j * 12 + 2) (by omega); rw [es2] at h0; exact h0
        have P2 : Hid (ValsP w (.slice a2 x2 c2) (qs (j * 12 + 2))) := by have h0 := l2; rw [es2] at h0; exact h0
        obtain ⟨a3, x3, c3, es3⟩ := RowP.lit l3
        have D3 : Hid (Marked w (k + N3) (qs (j * 12 + 3))) := d3
        have C3 : Hid (w.cell? ⟨b, j * 12 + 3, none⟩ = some (.slice a3 x3 c3)) := by have h0 := HR.out.cell (i := j * 12 + 3) (by omega); rw [es3] at h0; exact h0
        have P3 : Hid (ValsP w (.slice a3 x3 c3) (qs (j * 12 + 3))) := by have h0 := l3; rw [es3] at h0; exact h0
        have D4 : Hid (w.cell? ⟨b, j * 12 + 4, none⟩ = some (mkV 0 (k + N4))) := d4
        have D5 : Hid (w.cell? ⟨b, j * 12 + 5, none⟩ = some (mkV 1 (k + N5))) := d5
        obtain ⟨a6, x6, c6, es6⟩ := RowP.lit l6
        have D6 : Hid (Marked w (k + N6) (qs (j * 12 + 6))) := d6
        have C6 : Hid (w.cell? ⟨b, j * 12 + 6, none⟩ = some (.slice a6 x6 c6)) := by have h0 := HR.out.cell (i := j * 12 + 6) (by omega); rw [es6] at h0; exact h0
        have P6 : Hid (ColsP w (.slice a6 x6 c6) (qs (j * 12 + 6))) := by have h0 := l6; rw [es6] at h0; exact h0
        obtain ⟨a7, x7, c7, es7⟩ := RowP.lit l7
        have D7 : Hid (Marked w (k + N7) (qs (j * 12 + 7))) := d7
        have C7 : Hid (w.cell? ⟨b, j * 12 + 7, none⟩ = some (.slice a7 x7 c7)) := by have h0 := HR.out.cell (i := j * 12 + 7) (by omega); rw [es7] at h0; exact h0
        have P7 : Hid (StrsP w (.slice a7 x7 c7) (qs (j * 12 + 7))) := by have h0 := l7; rw [es7] at h0; exact h0
        have D8 : Hid (w.cell? ⟨b, j * 12 + 8, none⟩ = some (mkV 1 (k + N8))) := d8
        have D9 : Hid (w.cell? ⟨b, j * 12 + 9, none⟩ = some (mkV 1 (k + N9))) := d9
        obtain ⟨a10, x10, c10, es10⟩ := RowP.lit l10
        have D10 : Hid (Marked w (k + N10) (qs (j * 12 + 10))) := d10
        have C10 : Hid (w.cell? ⟨b, j * 12 + 10, none⟩ = some (.slice a10 x10 c10)) := by have h0 := HR.out.cell (i := j * 12 + 10) (by omega); rw [es10] at h0; exact h0
        have P10 : Hid (StrsP w (.slice a10 x10 c10) (qs (j * 12 + 10))) := by have h0 := l10; rw [es10] at h0; exact h0
        obtain ⟨a11, x11, c11, es11⟩ := RowP.lit l11
        have D11 : Hid (Marked w (k + N11) (qs (j * 12 + 11))) := d11
        have C11 : Hid (w.cell? ⟨b, j * 12 + 11, none⟩ = some (.slice a11 x11 c11)) := by have h0 := HR.out.cell (i := j * 12 + 11) (by omega); rw [es11] at h0; exact h0
        have P11 : Hid (StrsP w (.slice a11 x11 c11) (qs (j * 12 + 11))) := by have h0 := l11; rw [es11] at h0; exact h0
        clear hz1 hz2 hK0 n1 n2 n3 n4 n5 n6 n7 n8 n9 n10 n11 n12 hN0 hN1 hN2 hN3 hN4 hN5 hN6 hN7 hN8 hN9 hN10 hN11 hN12 d0 d1 d2 d3 d4 d5 d6 d7 d8 d9 d10 d11
        clear l0 l1 l2 l3 l4 l5 l6 l7 l8 l9 l10 l11 es2 es3 es6 es7 es10 es11
        have g0 : wr.cell? ⟨b, j * 12, none⟩ = some (.int .i64 ((K : Int))) := by have z0 := E0.out; have z1 := HZ.out; have h0 := cell_on D0.out hb0; rw [h0]; show some (Value.int .i64 _) = _; congr 2; omega
        have g1 : wr.cell? ⟨b, j * 12 + 1, none⟩ = some (.string (markB (k + N1))) := cell_on D1.out hb0
        go_wp2_with fail
        obtain ⟨L1, hL1⟩ : ∃ L : Nat, (K : Int) + 1 = (L : Int) := ⟨K + 1, by omega⟩
        rw [hL1]
        have E1k : Hid (L1 = k + N1) := by have z0 := E0.out; have z1 := HZ.out; show _ = _; omega
        clear hL1
        have bL1 : L1 ≤ 4000092358976733184 := by have z0 := E1k.out; have z1 := HZ.out; omega
        have HS1 : Hid (∀ u : World, Calls Tryz.prog 74 #[.int .i64 (L1 : Int)] u fun e w' => e = .returned (.string (markB (k + N1))) ∧ Below u.heap.size u w') := fun u => by have z0 := E1k.out; rw [← z0]; exact markText_any L1 u (by omega)
        obtain ⟨mb1, hmb1⟩ : ∃ t, t = markB (k + N1) := ⟨_, rfl⟩
        rw [← hmb1] at g1 HS1
        clear hmb1
        refine region_plan [([0, 1, 2, 3, 4, 5, 6], 7)] [8] (by kernel_rfl) (by kernel_rfl) ?_
        have hgd1 := Grows.drawn wr
        generalize { wr with drawn := wr.drawn + 1 } = wd1 at hgd1 ⊢
        have gd1 := cell_on g1 hgd1
        refine plan_on (by simp only [pick, List.getElem?_toArray, List.getElem?_cons_succ, List.getElem?_cons_zero]; rfl) ?_
        repeat (go_big_quiet_step ((intro hu; have j0 := hu.cell gd1; go_simp; (try exact rfl))))
        refine wpQuiet_nil ?_
        refine plan_call rfl rfl (fun Kc hKc => ?_)
        go_simp
        go_at_call 74
        refine (HS1.out _).mono ?_
        rintro e w1 ⟨rfl, bx1⟩
        refine ⟨_, rfl, hKc _ _ ⟨bx1, ?_⟩⟩
        have hb1 : Below w.heap.size w w1 := ch_trans hb0 (ch_trans hgd1 bx1)
        clear hKc Kc gd1 hgd1 bx1 HS1 g0 g1
        refine plan_end (by simp only [pick, List.getElem?_toArray, List.getElem?_cons_succ, List.getElem?_cons_zero]; rfl) ?_
        repeat (go_big_quiet_step ((intro hu; go_simp; (try exact rfl))))
        refine wpQuiet_nil ?_
        have g2 := cell_on C2.out hb1
        go_wp2_with fail
        obtain ⟨L2, hL2⟩ : ∃ L : Nat, (L1 : Int) + 1 = (L : Int) := ⟨L1 + 1, by omega⟩
        rw [hL2]
        have E2k : Hid (L2 = k + N2) := by have z0 := E1k.out; have z1 := HZ.out; show _ = _; omega
        clear hL2
        have bL2 : L2 ≤ 4000092358976733184 := by have z0 := E2k.out; have z1 := HZ.out; omega
        refine (heldValS_pl ((leaves_lay _ _).2 (fun _ => False) _ _ _ _ ((Marks.refl _ w).below hb1) P2.out) L2 (by omega) (by have z0 := E2k.out; rw [z0]; exact D2.out.on hb1)).mono ?_
        rintro e w2 ⟨rfl, bx⟩
        have hb2 : Below w.heap.size w w2 := ch_trans hb1 bx
        obtain ⟨K1, hK1⟩ : ∃ K' : Nat, K' = L2 + (qs (j * 12 + 2)).length := ⟨_, rfl⟩
        rw [← hK1]
        have E1n : Hid (K1 = k + N3) := by have z0 := E2k.out; have z1 := HZ.out; show _ = _; omega
        clear hK1 bx g2
        have bK1 : K1 ≤ 4000092358976733184 := by have z0 := E1n.out; have z1 := HZ.out; omega
        have hk10 : decide ((K1 : Int) < 0) = false := by simp
        have g3 := cell_on C3.out hb2
        go_wp2_with fail
        refine (heldValS_pl ((leaves_lay _ _).2 (fun _ => False) _ _ _ _ ((Marks.refl _ w).below hb2) P3.out) K1 (by omega) (by have z0 := E1n.out; rw [z0]; exact D3.out.on hb2)).mono ?_
        rintro e w3 ⟨rfl, bx⟩
        have hb3 : Below w.heap.size w w3 := ch_trans hb2 bx
        obtain ⟨K2, hK2⟩ : ∃ K' : Nat, K' = K1 + (qs (j * 12 + 3)).length := ⟨_, rfl⟩
        rw [← hK2]
        have E2n : Hid (K2 = k + N4) := by have z0 := E1n.out; have z1 := HZ.out; show _ = _; omega
        clear hK2 bx g3
        have bK2 : K2 ≤ 4000092358976733184 := by have z0 := E2n.out; have z1 := HZ.out; omega
        have hk20 : decide ((K2 : Int) < 0) = false := by simp
        have g4 : w3.cell? ⟨b, j * 12 + 4, none⟩ = some (.int .i64 ((K2 : Int))) := by have z0 := E2n.out; have z1 := HZ.out; have h0 := cell_on D4.out hb3; rw [h0]; show some (Value.int .i64 _) = _; congr 2; omega
        have g5 : w3.cell? ⟨b, j * 12 + 5, none⟩ = some (.string (markB (k + N5))) := cell_on D5.out hb3
        go_wp2_with fail
        obtain ⟨L4, hL4⟩ : ∃ L : Nat, (K2 : Int) + 1 = (L : Int) := ⟨K2 + 1, by omega⟩
        rw [hL4]
        have E4k : Hid (L4 = k + N5) := by have z0 := E2n.out; have z1 := HZ.out; show _ = _; omega
        clear hL4
        have bL4 : L4 ≤ 4000092358976733184 := by have z0 := E4k.out; have z1 := HZ.out; omega
        have HS4 : Hid (∀ u : World, Calls Tryz.prog 74 #[.int .i64 (L4 : Int)] u fun e w' => e = .returned (.string (markB (k + N5))) ∧ Below u.heap.size u w') := fun u => by have z0 := E4k.out; rw [← z0]; exact markText_any L4 u (by omega)
        obtain ⟨mb4, hmb4⟩ : ∃ t, t = markB (k + N5) := ⟨_, rfl⟩
        rw [← hmb4] at g5 HS4
        clear hmb4
        refine region_plan [([0, 1, 2, 3, 4, 5, 6, 7], 8)] [9] (by kernel_rfl) (by kernel_rfl) ?_
        have hgd4 := Grows.drawn w3
        generalize { w3 with drawn := w3.drawn + 1 } = wd4 at hgd4 ⊢
        have gd4 := cell_on g5 hgd4
        refine plan_on (by simp only [pick, List.getElem?_toArray, List.getElem?_cons_succ, List.getElem?_cons_zero]; rfl) ?_
        repeat (go_big_quiet_step ((intro hu; have j0 := hu.cell gd4; go_simp; (try exact rfl))))
        refine wpQuiet_nil ?_
        refine plan_call rfl rfl (fun Kc hKc => ?_)
        go_simp
        go_at_call 74
        refine (HS4.out _).mono ?_
        rintro e w4 ⟨rfl, bx4⟩
        refine ⟨_, rfl, hKc _ _ ⟨bx4, ?_⟩⟩
        have hb4 : Below w.heap.size w w4 := ch_trans hb3 (ch_trans hgd4 bx4)
        clear hKc Kc gd4 hgd4 bx4 HS4 g4 g5
        refine plan_end (by simp only [pick, List.getElem?_toArray, List.getElem?_cons_succ, List.getElem?_cons_zero]; rfl) ?_
        repeat (go_big_quiet_step ((intro hu; go_simp; (try exact rfl))))
        refine wpQuiet_nil ?_
        have g6 := cell_on C6.out hb4
        go_wp2_with fail
        obtain ⟨L5, hL5⟩ : ∃ L : Nat, (L4 : Int) + 1 = (L : Int) := ⟨L4 + 1, by omega⟩
        rw [hL5]
        have E5k : Hid (L5 = k + N6) := by have z0 := E4k.out; have z1 := HZ.out; show _ = _; omega
        clear hL5
        have bL5 : L5 ≤ 4000092358976733184 := by have z0 := E5k.out; have z1 := HZ.out; omega
        refine (heldColS_pl ((leaves_lay _ _).2 (fun _ => False) _ _ _ _ ((Marks.refl _ w).below hb4) P6.out) L5 (by omega) (by have z0 := E5k.out; rw [z0]; exact D6.out.on hb4)).mono ?_
        rintro e w5 ⟨rfl, bx⟩
        have hb5 : Below w.heap.size w w5 := ch_trans hb4 bx
        obtain ⟨K3, hK3⟩ : ∃ K' : Nat, K' = L5 + (qs (j * 12 + 6)).length := ⟨_, rfl⟩
        rw [← hK3]
        have E3n : Hid (K3 = k + N7) := by have z0 := E5k.out; have z1 := HZ.out; show _ = _; omega
        clear hK3 bx g6
        have bK3 : K3 ≤ 4000092358976733184 := by have z0 := E3n.out; have z1 := HZ.out; omega
        have hk30 : decide ((K3 : Int) < 0) = false := by simp
        have g7 := cell_on C7.out hb5
        go_wp2_with fail
        refine (heldStringS_pl ((leaves_lay _ _).2 (fun _ => False) _ _ _ _ ((Marks.refl _ w).below hb5) P7.out) K3 (by omega) (by have z0 := E3n.out; rw [z0]; exact D7.out.on hb5)).mono ?_
        rintro e w6 ⟨rfl, bx⟩
        have hb6 : Below w.heap.size w w6 := ch_trans hb5 bx
        obtain ⟨K4, hK4⟩ : ∃ K' : Nat, K' = K3 + (qs (j * 12 + 7)).length := ⟨_, rfl⟩
        rw [← hK4]
        have E4n : Hid (K4 = k + N8) := by have z0 := E3n.out; have z1 := HZ.out; show _ = _; omega
        clear hK4 bx g7
        have bK4 : K4 ≤ 4000092358976733184 := by have z0 := E4n.out; have z1 := HZ.out; omega
        have hk40 : decide ((K4 : Int) < 0) = false := by simp
        have g8 : w6.cell? ⟨b, j * 12 + 8, none⟩ = some (.string (markB (k + N8))) := cell_on D8.out hb6
        go_wp2_with fail
        have HS7 : Hid (∀ u : World, Calls Tryz.prog 74 #[.int .i64 (K4 : Int)] u fun e w' => e = .returned (.string (markB (k + N8))) ∧ Below u.heap.size u w') := fun u => by have z0 := E4n.out; rw [← z0]; exact markText_any K4 u (by omega)
        obtain ⟨mb7, hmb7⟩ : ∃ t, t = markB (k + N8) := ⟨_, rfl⟩
        rw [← hmb7] at g8 HS7
        clear hmb7
        refine region_plan [([0, 1, 2, 3, 4, 5, 6, 7], 8)] [9] (by kernel_rfl) (by kernel_rfl) ?_
        have hgd7 := Grows.drawn w6
        generalize { w6 with drawn := w6.drawn + 1 } = wd7 at hgd7 ⊢
        have gd7 := cell_on g8 hgd7
        refine plan_on (by simp only [pick, List.getElem?_toArray, List.getElem?_cons_succ, List.getElem?_cons_zero]; rfl) ?_
        repeat (go_big_quiet_step ((intro hu; have j0 := hu.cell gd7; go_simp; (try exact rfl))))
        refine wpQuiet_nil ?_
        refine plan_call rfl rfl (fun Kc hKc => ?_)
        go_simp
        go_at_call 74
        refine (HS7.out _).mono ?_
        rintro e w7 ⟨rfl, bx7⟩
        refine ⟨_, rfl, hKc _ _ ⟨bx7, ?_⟩⟩
        have hb7 : Below w.heap.size w w7 := ch_trans hb6 (ch_trans hgd7 bx7)
        clear hKc Kc gd7 hgd7 bx7 HS7 g8
        refine plan_end (by simp only [pick, List.getElem?_toArray, List.getElem?_cons_succ, List.getElem?_cons_zero]; rfl) ?_
        repeat (go_big_quiet_step ((intro hu; go_simp; (try exact rfl))))
        refine wpQuiet_nil ?_
        have g9 : w7.cell? ⟨b, j * 12 + 9, none⟩ = some (.string (markB (k + N9))) := cell_on D9.out hb7
        go_wp2_with fail
        obtain ⟨L8, hL8⟩ : ∃ L : Nat, (K4 : Int) + 1 = (L : Int) := ⟨K4 + 1, by omega⟩
        rw [hL8]
        have E8k : Hid (L8 = k + N9) := by have z0 := E4n.out; have z1 := HZ.out; show _ = _; omega
        clear hL8
        have bL8 : L8 ≤ 4000092358976733184 := by have z0 := E8k.out; have z1 := HZ.out; omega
        have HS8 : Hid (∀ u : World, Calls Tryz.prog 74 #[.int .i64 (L8 : Int)] u fun e w' => e = .returned (.string (markB (k + N9))) ∧ Below u.heap.size u w') := fun u => by have z0 := E8k.out; rw [← z0]; exact markText_any L8 u (by omega)
        obtain ⟨mb8, hmb8⟩ : ∃ t, t = markB (k + N9) := ⟨_, rfl⟩
        rw [← hmb8] at g9 HS8
        clear hmb8
        refine region_plan [([0, 1, 2, 3, 4, 5, 6, 7], 8)] [9] (by kernel_rfl) (by kernel_rfl) ?_
        have hgd8 := Grows.drawn w7
        generalize { w7 with drawn := w7.drawn + 1 } = wd8 at hgd8 ⊢
        have gd8 := cell_on g9 hgd8
        refine plan_on (by simp only [pick, List.getElem?_toArray, List.getElem?_cons_succ, List.getElem?_cons_zero]; rfl) ?_
        repeat (go_big_quiet_step ((intro hu; have j0 := hu.cell gd8; go_simp; (try exact rfl))))
        refine wpQuiet_nil ?_
        refine plan_call rfl rfl (fun Kc hKc => ?_)
        go_simp
        go_at_call 74
        refine (HS8.out _).mono ?_
        rintro e w8 ⟨rfl, bx8⟩
        refine ⟨_, rfl, hKc _ _ ⟨bx8, ?_⟩⟩
        have hb8 : Below w.heap.size w w8 := ch_trans hb7 (ch_trans hgd8 bx8)
        clear hKc Kc gd8 hgd8 bx8 HS8 g9
        refine plan_end (by simp only [pick, List.getElem?_toArray, List.getElem?_cons_succ, List.getElem?_cons_zero]; rfl) ?_
        repeat (go_big_quiet_step ((intro hu; go_simp; (try exact rfl))))
        refine wpQuiet_nil ?_
        have g10 := cell_on C10.out hb8
        go_wp2_with fail
        obtain ⟨L9, hL9⟩ : ∃ L : Nat, (L8 : Int) + 1 = (L : Int) := ⟨L8 + 1, by omega⟩
        rw [hL9]
        have E9k : Hid (L9 = k + N10) := by have z0 := E8k.out; have z1 := HZ.out; show _ = _; omega
        clear hL9
        have bL9 : L9 ≤ 4000092358976733184 := by have z0 := E9k.out; have z1 := HZ.out; omega
        refine (heldStringS_pl ((leaves_lay _ _).2 (fun _ => False) _ _ _ _ ((Marks.refl _ w).below hb8) P10.out) L9 (by omega) (by have z0 := E9k.out; rw [z0]; exact D10.out.on hb8)).mono ?_
        rintro e w9 ⟨rfl, bx⟩
        have hb9 : Below w.heap.size w w9 := ch_trans hb8 bx
        obtain ⟨K5, hK5⟩ : ∃ K' : Nat, K' = L9 + (qs (j * 12 + 10)).length := ⟨_, rfl⟩
        rw [← hK5]
        have E5n : Hid (K5 = k + N11) := by have z0 := E9k.out; have z1 := HZ.out; show _ = _; omega
        clear hK5 bx g10
        have bK5 : K5 ≤ 4000092358976733184 := by have z0 := E5n.out; have z1 := HZ.out; omega
        have hk50 : decide ((K5 : Int) < 0) = false := by simp
        have g11 := cell_on C11.out hb9
        go_wp2_with fail
        refine (heldStringS_pl ((leaves_lay _ _).2 (fun _ => False) _ _ _ _ ((Marks.refl _ w).below hb9) P11.out) K5 (by omega) (by have z0 := E5n.out; rw [z0]; exact D11.out.on hb9)).mono ?_
        rintro e w10 ⟨rfl, bx⟩
        have hb10 : Below w.heap.size w w10 := ch_trans hb9 bx
        obtain ⟨K6, hK6⟩ : ∃ K' : Nat, K' = K5 + (qs (j * 12 + 11)).length := ⟨_, rfl⟩
        rw [← hK6]
        have E6n : Hid (K6 = k + N12) := by have z0 := E5n.out; have z1 := HZ.out; show _ = _; omega
        clear hK6 bx g11
        have bK6 : K6 ≤ 4000092358976733184 := by have z0 := E6n.out; have z1 := HZ.out; omega
        have hk60 : decide ((K6 : Int) < 0) = false := by simp
        go_wp2
        go_round
        case rel => exact ⟨j + 1, K6, by omega, by go_num, by go_num, by have z0 := E6n.out; have z1 := HZ.out; show _ = _; rw [show (j + 1) * 12 = j * 12 + 12 from by omega, ← HNz.out]; omega, hb10⟩
        case measure => simp [intOf]; omega
      · have hlti : (n : Int) ≤ j := by omega
        obtain rfl : j = n := by omega
        have HE : Hid (((k + (upTo qs (j * 12)).length : Nat) : Int) = K) := by show _ = _; rw [HK.out]
        go_wp2
        go_ret
        exact ⟨by rw [HE.out]; rfl, hb0⟩
end Go.Proofs.YtiijahoheajppaaGreat
