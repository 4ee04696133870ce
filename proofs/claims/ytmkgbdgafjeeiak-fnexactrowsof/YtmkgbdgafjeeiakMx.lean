/- Rows of a call's own marked, and held. -/
import Derived.Test.YtmkgbdgafjeeiakCr
import Derived.Test.YtmkgbdgafjeeiakTr
namespace Go.Proofs.Ytmkgbdgafjeeiak
open Go.ChangeShapes Go.WideShapes Go.ChangeAt Go.RowKit

/-- How many marks the rows ahead of a place take. -/
def tot (rs : List (List Vc)) (i : Nat) : Nat := ((rs.take i).map fun r => r.length * 3).sum
theorem tot_zero (rs : List (List Vc)) : tot rs 0 = 0 := rfl
theorem tot_succ {rs : List (List Vc)} {i : Nat} (h : i < rs.length) : tot rs (i + 1) = tot rs i + rs[i].length * 3 := by
  unfold tot
  rw [List.take_succ_eq_append_getElem h, List.map_append, List.sum_append]
  simp
theorem tot_le {rs : List (List Vc)} {M : Nat} (hM : ∀ r ∈ rs, r.length ≤ M) : ∀ i, i ≤ rs.length → tot rs i ≤ i * (M * 3)
  | 0, _ => by simp [tot_zero]
  | i + 1, h => by
    rw [tot_succ (by omega), Nat.add_mul]
    have h1 := tot_le hM i (by omega)
    have h2 := hM _ (List.getElem_mem (show i < rs.length by omega))
    omega
theorem Got.block {w : World} {B : Nat} {T : TypeId} {z b n cap : Nat} {xs : List (Array Value)} (h : Got w B T z (.slice (some ⟨b, 0, none⟩) n cap) xs) : B ≤ b ∧ ∃ m f, w.rowIs b T m f ∧ xs.length * z ≤ m := by
  rcases h.2.2 with ⟨e, _⟩ | ⟨g, cap', cur, e, hb, hg, hn, _, hs, _⟩
  · cases e
  · cases e
    refine ⟨hb, cap * z, fun i => cur.getD i default, ⟨cur, hg, hs, fun i hi => ?_⟩, Nat.mul_le_mul_right _ hn⟩
    simp [Array.getD, show i < cur.size by omega]
/-- Rows whose values hold marks. -/
def HeldR (w : World) (v : Value) (k : Nat) (rs : List (List Vc)) : Prop := ∃ a cap ys, v = .slice a rs.length cap ∧ cap ≤ maxLen ∧ RowAt w a 1 (List.map one1 ys) ∧ ys.length = rs.length ∧ ∀ i (h : i < rs.length) (hy : i < ys.length), Held w ys[i] (k + tot rs i) rs[i].length
theorem HeldR.on {w w' : World} {v : Value} {k : Nat} {rs : List (List Vc)} (h : HeldR w v k rs) (b : Below w.heap.size w w') : HeldR w' v k rs := by
  obtain ⟨a, cap, ys, e, h1, h2, h3, h4⟩ := h
  exact ⟨a, cap, ys, e, h1, h2.on b, h3, fun i h hy => (h4 i h hy).on b⟩
theorem Held.lit {w : World} {v : Value} {k n : Nat} (h : Held w v k n) : ∃ a m c, v = .slice a m c := by
  rcases h with ⟨rfl, _⟩ | ⟨b, cap, m, T, f, rfl, _⟩
  · exact ⟨_, _, _, rfl⟩
  · exact ⟨_, _, _, rfl⟩
/-- Marked so far. -/
def Mid (w : World) (B : Nat) (v : Value) (rs : List (List Vc)) (ys : List Value) (bs : List Nat) (k j : Nat) : Prop := Got w B 62 1 v (ys.map one1) ∧ ys.length = rs.length ∧ bs.length = rs.length ∧ bs.Nodup ∧
  ∀ i (h : i < rs.length) (hy : i < ys.length) (hb : i < bs.length), (∃ cap, ys[i] = .slice (some ⟨bs[i], 0, none⟩) rs[i].length cap) ∧ B ≤ bs[i] ∧ (∃ m f, w.rowIs bs[i] 104 m f ∧ rs[i].length * 3 ≤ m ∧ (i < j → ∀ c, c < rs[i].length * 3 → f c = markV (k + tot rs i) c))
theorem RowsY.mid {w : World} {B : Nat} {v : Value} {rs : List (List Vc)} {ys : List Value} {bs : List Nat} (h : RowsY w B v rs ys bs) (k : Nat) : Mid w B v rs ys bs k 0 := by
  obtain ⟨h1, h2, h3, h4, h5⟩ := h
  refine ⟨h1, h2, h3, h4, fun i h hy hb => ?_⟩
  obtain ⟨hg, cap, e⟩ := h5 i h hy hb
  rw [e] at hg
  obtain ⟨hB, m, f, hr, hm⟩ := hg.block
  exact ⟨⟨cap, e⟩, hB, m, f, hr, by simpa using hm, fun h => by omega⟩
theorem Mid.on {w w' : World} {B : Nat} {v : Value} {rs : List (List Vc)} {ys : List Value} {bs : List Nat} {k j : Nat} (h : Mid w B v rs ys bs k j) (b : Below w.heap.size w w') : Mid w' B v rs ys bs k j := by
  obtain ⟨h1, h2, h3, h4, h5⟩ := h
  refine ⟨h1.on b, h2, h3, h4, fun i h hy hb => ?_⟩
  obtain ⟨h6, h7, m, f, hr, h8⟩ := h5 i h hy hb
  exact ⟨h6, h7, m, f, hr.of_block (b.block _ hr.lt), h8⟩
theorem Mid.step {w w' : World} {B : Nat} {v : Value} {rs : List (List Vc)} {ys : List Value} {bs : List Nat} {k j : Nat} (h : Mid w B v rs ys bs k j) (hj : j < rs.length) (hjb : j < bs.length) (ht : Turns (· = bs[j]) w w') {m : Nat} {f : Nat → Value} (hr : w'.rowIs bs[j] 104 m f) (hm : rs[j].length * 3 ≤ m) (hf : ∀ c, c < rs[j].length * 3 → f c = markV (k + tot rs j) c) : Mid w' B v rs ys bs k (j + 1) := by
  obtain ⟨h1, h2, h3, h4, h5⟩ := h
  refine ⟨h1.turned ht fun c hc e => ?_, h2, h3, h4, fun i h hy hb => ?_⟩
  · subst e
    obtain ⟨cur, hcur⟩ := h1.tag hc
    obtain ⟨_, _, m', f', hr', _⟩ := h5 j hj (by omega) hjb
    obtain ⟨cc, e1, _⟩ := hr'
    rw [hcur] at e1
    cases e1
  · obtain ⟨h6, h7, m', f', hr', h8, h9⟩ := h5 i h hy hb
    by_cases e : i = j
    · subst e
      exact ⟨h6, h7, m, f, hr, hm, fun _ => hf⟩
    · have hne : bs[i] ≠ bs[j] := by
        rcases Nat.lt_or_gt_of_ne e with hlt | hgt
        · exact List.pairwise_iff_getElem.1 h4 i j hb hjb hlt
        · exact Ne.symm (List.pairwise_iff_getElem.1 h4 j i hjb hb hgt)
      exact ⟨h6, h7, m', f', hr'.of_block (ht.block _ hr'.lt hne), h8, fun hi => h9 (by omega)⟩
theorem Mid.done {w : World} {B : Nat} {v : Value} {rs : List (List Vc)} {ys : List Value} {bs : List Nat} {k : Nat} (h : Mid w B v rs ys bs k rs.length) : HeldR w v k rs := by
  obtain ⟨h1, h2, h3, h4, h5⟩ := h
  obtain ⟨a, cap, e, h6, h7, h8, _⟩ := h1.row
  simp only [List.length_map] at e h6
  refine ⟨a, cap, ys, by rw [e, h2], h7, h8, h2, fun i h hy => ?_⟩
  obtain ⟨⟨cap', e'⟩, _, m, f, hr, hm, hf⟩ := h5 i h hy (by omega)
  exact Or.inr ⟨_, cap', m, _, f, e', hr, hm, hf h⟩

set_option maxRecDepth 100000 in
set_option maxHeartbeats 1000000 in
/-- laws.markRowS -/
theorem markRowS_got (w : World) (B : Nat) (v : Value) (rs : List (List Vc)) (h : RowsG w B v rs) (h1 : ∀ r ∈ rs, r.length ≤ 1048576) (hl : rs.length ≤ 1048576) (k : Nat) (hk : k ≤ 1000000) :
    Calls Try.prog 20 #[v, .int .i64 k] w fun e w' => e = .returned (.int .i64 ((k + tot rs rs.length : Nat) : Int)) ∧ Turns (fun c => B ≤ c) w w' ∧ HeldR w' v k rs := by
  obtain ⟨ys, bs, hY⟩ := h
  obtain ⟨a, cap, e, hlc, hcm, hrow, _⟩ := hY.1.row
  have hyl := hY.2.1
  simp only [List.length_map] at e hlc
  rw [hyl] at e hlc
  subst e
  unfold maxLen at hcm
  have HY : Hid (Mid w B (.slice a rs.length cap) rs ys bs k 0) := hY.mid k
  have HT : Hid (∀ i, i ≤ rs.length → tot rs i ≤ i * 3145728) := fun i hi => by have := tot_le h1 i hi; omega
  have H1 : Hid (∀ r ∈ rs, r.length ≤ 1048576) := h1
  have hbl := hY.2.2.1
  clear hY hrow h1
  go_enter Try.func20, Try.ntmps20
  go_wp2
  go_loopw [1, 5] (fun c i wr => ∃ (j K : Nat), j ≤ rs.length ∧ i = .int .i64 j ∧ c = .int .i64 K ∧ Hid (K = k + tot rs j) ∧ Hid (Turns (fun c => B ≤ c) w wr) ∧ Hid (Mid wr B (.slice a rs.length cap) rs ys bs k j)) (fun _ i _ => rs.length - (intOf i).toNat)
  case atStart => exact ⟨0, k, Nat.zero_le _, rfl, rfl, by show _ = _; simp [tot_zero], Turns.refl _ _, HY⟩
  case round =>
    clear HY
    obtain ⟨j, K, hj, rfl, rfl, HK, HTU, HM⟩ := hrel
    by_cases hlt : j < rs.length
    · have hlti : (j : Int) < rs.length := by omega
      have hKb : K ≤ 8000000000000000000 := by have := HK.out; have := HT.out j hj; omega
      obtain ⟨b, off, e1, c0⟩ : ∃ b off, a = some ⟨b, off, none⟩ ∧ wr.cell? ⟨b, off + j, none⟩ = some (ys[j]'(by omega)) := by
        obtain ⟨a', cap', e, _, _, hrow, _⟩ := HM.out.1.row
        injection e with e1 e2 e3
        subst e1
        rcases hrow.2 with h0 | ⟨b, off, ha, h⟩
        · rw [List.map_eq_nil_iff] at h0; subst h0; simp at hyl; omega
        · have h2 := h j (by simp; omega) 0 (by omega)
          simp only [List.getElem_map, Nat.mul_one, Nat.add_zero] at h2
          exact ⟨b, off, ha, h2⟩
      subst e1
      obtain ⟨⟨cy, ey⟩, hBb, m, f, hr, hm, _⟩ := HM.out.2.2.2.2 j hlt (by omega) (by omega)
      rw [ey] at c0
      have hjb : j < bs.length := by omega
      obtain ⟨bj, hbj⟩ : ∃ bj, bj = bs[j] := ⟨_, rfl⟩
      rw [← hbj] at c0 hr hBb
      have HRR : Hid (wr.rowIs bj 104 m f) := hr
      have hrl := H1.out _ (List.getElem_mem hlt)
      have HBJ : Hid (bj = bs[j]) := hbj
      clear hr ey hbj
      go_wp2_with fail
      refine (markValS_any bj rs[j].length cy m _ f K _ HRR.out hm hrl hKb).mono ?_
      rintro e w1 ⟨rfl, ht, hr1⟩
      have HK1 : Hid (K + rs[j].length * 3 = k + tot rs (j + 1)) := by
        show _ = _
        rw [tot_succ hlt, HK.out, Nat.add_assoc]
      have HTU1 : Hid (Turns (fun c => B ≤ c) w w1) := HTU.out.trans (ht.mono fun c e => by subst e; exact hBb)
      have HM1 : Hid (Mid w1 B (.slice (some ⟨b, off, none⟩) rs.length cap) rs ys bs k (j + 1)) := by
        have hbj := HBJ.out
        subst hbj
        exact HM.out.step hlt (by omega) ht hr1 hm fun c hc => by rw [if_pos hc, HK.out]
      clear ht hr1
      generalize K + rs[j].length * 3 = K1 at HK1 ⊢
      go_wp2
      go_round
      case rel => exact ⟨j + 1, K1, by omega, by go_num, rfl, HK1, HTU1, HM1⟩
      case measure => simp [intOf]; omega
    · have hlti : (rs.length : Int) ≤ j := by omega
      obtain rfl : j = rs.length := by omega
      have hK := HK.out
      subst hK
      go_wp2
      go_ret
      exact ⟨rfl, HTU.out, HM.out.done⟩

set_option maxRecDepth 100000 in
set_option maxHeartbeats 1000000 in
/-- laws.heldRowS -/
theorem heldRowS_held (w : World) (v : Value) (rs : List (List Vc)) (k : Nat) (h : HeldR w v k rs) (h1 : ∀ r ∈ rs, r.length ≤ 1048576) (hl : rs.length ≤ 1048576) (hk : k ≤ 1000000) :
    Calls Try.prog 21 #[v, .int .i64 k] w fun e w' => e = .returned (.int .i64 ((k + tot rs rs.length : Nat) : Int)) ∧ Below w.heap.size w w' := by
  obtain ⟨a, cap, ys, rfl, hcm, hrow, hyl, hh⟩ := h
  unfold maxLen at hcm
  have HR : Hid (RowAt w a 1 (List.map one1 ys)) := hrow
  have HH : Hid (∀ i (h : i < rs.length) (hy : i < ys.length), Held w ys[i] (k + tot rs i) rs[i].length) := hh
  have HT : Hid (∀ i, i ≤ rs.length → tot rs i ≤ i * 3145728) := fun i hi => by have := tot_le h1 i hi; omega
  have H1 : Hid (∀ r ∈ rs, r.length ≤ 1048576) := h1
  clear hrow hh h1
  go_enter Try.func21, Try.ntmps21
  go_wp2
  go_loopw [1, 5] (fun c i wr => ∃ (j K : Nat), j ≤ rs.length ∧ i = .int .i64 j ∧ c = .int .i64 K ∧ Hid (K = k + tot rs j) ∧ Below w.heap.size w wr) (fun _ i _ => rs.length - (intOf i).toNat)
  case atStart => exact ⟨0, k, Nat.zero_le _, rfl, rfl, by show _ = _; simp [tot_zero], (by repeat (first | with_reducible exact Below.refl _ _ | with_reducible assumption | with_reducible refine ch_alloc ?_ _ | with_reducible refine Below.drew ?_ | with_reducible refine below_draws _ ?_ | (with_reducible refine Below.setCell ?_ ?_ _; rotate_left; focus (first | with_reducible exact Nat.le_refl _ | (simp; done) | (simp; omega) | (simp at *; omega))) | with_reducible refine ch_trans ?_ (by with_reducible assumption)))⟩
  case round =>
    obtain ⟨j, K, hj, rfl, rfl, HK, hb⟩ := hrel
    by_cases hlt : j < rs.length
    · have hlti : (j : Int) < rs.length := by omega
      have hKb : K ≤ 8000000000000000000 := by have := HK.out; have := HT.out j hj; omega
      have hyj : j < ys.length := by omega
      obtain ⟨b, off, e1, c0⟩ : ∃ b off, a = some ⟨b, off, none⟩ ∧ wr.cell? ⟨b, off + j, none⟩ = some ys[j] := by
        rcases (HR.out.on hb).2 with h0 | ⟨b, off, ha, h⟩
        · rw [List.map_eq_nil_iff] at h0; subst h0; simp at hyj
        · have h2 := h j (by simp; omega) 0 (by omega)
          simp only [List.getElem_map, Nat.mul_one, Nat.add_zero] at h2
          exact ⟨b, off, ha, h2⟩
      subst e1
      have hhj := (HH.out j hlt hyj).on hb
      obtain ⟨ay, ny, cy, ey⟩ := hhj.lit
      rw [ey] at hhj c0
      have HJ : Hid (Held wr (.slice ay ny cy) K rs[j].length) := by show Held _ _ _ _; rw [HK.out]; exact hhj
      have hrl := H1.out _ (List.getElem_mem hlt)
      clear hhj ey
      go_wp2_with fail
      refine (heldValS_held HJ.out hrl hKb).mono ?_
      rintro e w1 ⟨rfl, b1⟩
      have HK1 : Hid (K + rs[j].length * 3 = k + tot rs (j + 1)) := by
        show _ = _
        rw [tot_succ hlt, HK.out, Nat.add_assoc]
      have hb1 := ch_trans hb b1
      clear b1
      generalize K + rs[j].length * 3 = K1 at HK1 ⊢
      have hk0 : decide ((K1 : Int) < 0) = false := by simp
      go_wp2
      go_round
      case rel => exact ⟨j + 1, K1, by omega, by go_num, rfl, HK1, hb1⟩
      case measure => simp [intOf]; omega
    · have hlti : (rs.length : Int) ≤ j := by omega
      obtain rfl : j = rs.length := by omega
      have hK := HK.out
      subst hK
      go_wp2
      go_ret
      exact ⟨rfl, hb⟩
end Go.Proofs.Ytmkgbdgafjeeiak
