/- The landed reader of bytes. Packets in memory: the laws' size, copy, look and marks; PackCut, given and landed. Batches as bytes: landed. -/
import Derived.Test.YtiijahoheajppaaGreatRv
import Derived.Test.YtiijahoheajppaaGreatCt
import Derived.Test.YtiijahoheajppaaGreatRw
import Derived.Test.YtiijahoheajppaaGreatWs
import Derived.Test.YtiijahoheajppaaGreatWx
import Derived.Test.YtiijahoheajppaaGreatBk
namespace Go.Proofs.YtiijahoheajppaaGreat
open Go.ChangeShapes Go.WideShapes Go.ChangeAt Go.RowKit

/-- The reader at R has l before it. -/
def RdB (w : World) (R : Nat) (l : List UInt8) : Prop := ∃ b off cap, Own w R 133 #[.slice (some ⟨b, off, none⟩) l.length cap] ∧ b < R ∧ l.length ≤ cap ∧ cap ≤ maxLen ∧ RowAt w (some ⟨b, off, none⟩) 1 (l.map byX)
theorem RdB.on {w w' : World} {R : Nat} {l : List UInt8} (h : RdB w R l) (k : Below w.heap.size w w') : RdB w' R l := by
  obtain ⟨b, off, cap, h1, h2, h3, h4, h5⟩ := h
  exact ⟨b, off, cap, h1.on k, h2, h3, h4, h5.on k⟩
theorem row_drop {w : World} {b off n : Nat} {l : List UInt8} (h : RowAt w (some ⟨b, off, none⟩) 1 (l.map byX)) : RowAt w (some ⟨b, off + n, none⟩) 1 ((l.drop n).map byX) := by
  refine ⟨fun q hq => ?_, Or.inr ⟨b, off + n, rfl, fun i hi j hj => ?_⟩⟩
  · obtain ⟨u, _, rfl⟩ := List.mem_map.1 hq; rfl
  · obtain rfl : j = 0 := by omega
    simp at hi
    obtain ⟨b', off', e, hc⟩ := h.bytes (n + i) (by omega)
    cases e
    have e1 : ((l.drop n).map byX)[i]'(by simp; omega) = byX (l[n + i]'(by omega)) := by simp
    rw [e1, Nat.mul_one, Nat.add_zero, Nat.add_assoc, hc]
    rfl
theorem row_take {w : World} {b off n : Nat} {l : List UInt8} (h : RowAt w (some ⟨b, off, none⟩) 1 (l.map byX)) : RowAt w (some ⟨b, off, none⟩) 1 ((l.take n).map byX) := by
  refine ⟨fun q hq => ?_, Or.inr ⟨b, off, rfl, fun i hi j hj => ?_⟩⟩
  · obtain ⟨u, _, rfl⟩ := List.mem_map.1 hq; rfl
  · obtain rfl : j = 0 := by omega
    simp at hi
    obtain ⟨b', off', e, hc⟩ := h.bytes i (by omega)
    cases e
    have e1 : ((l.take n).map byX)[i]'(by simp; omega) = byX (l[i]'(by omega)) := by simp
    rw [e1, Nat.mul_one, Nat.add_zero, hc]
    rfl
/-- What 'take' gives and leaves. -/
def Took (w w' : World) (R : Nat) (T D : List UInt8) (e : Ending) : Prop := ∃ b off cap, e = .returned (.slice (some ⟨b, off, none⟩) T.length cap) ∧ T.length ≤ cap ∧ cap ≤ maxLen ∧ RowAt w' (some ⟨b, off, none⟩) 1 (T.map byX) ∧ b < R ∧ RdB w' R D ∧ Turns (· = R) w w'
theorem took_of {w : World} {R n b off cap : Nat} {l : List UInt8} (ho : Own w R 133 #[.slice (some ⟨b, off, none⟩) l.length cap]) (hbR : b < R) (hlc : l.length ≤ cap) (hcm : cap ≤ maxLen) (hr : RowAt w (some ⟨b, off, none⟩) 1 (l.map byX)) (hn : n ≤ l.length) {off' cap' : Nat} (h : (off' = off + n ∧ cap' = cap - n) ∨ (cap = n ∧ cap' = 0)) :
    Took w (w.setCell ⟨R, 0, none⟩ (.slice (some ⟨b, off', none⟩) (l.length - n) cap')) R (l.take n) (l.drop n) (.returned (.slice (some ⟨b, off, none⟩) n cap)) := by
  have ht : Turns (· = R) w (w.setCell ⟨R, 0, none⟩ (.slice (some ⟨b, off', none⟩) (l.length - n) cap')) := (Turns.refl (· = R) w).set rfl _
  have hl1 : (l.take n).length = n := by simp; omega
  have hl2 : (l.drop n).length = l.length - n := by simp
  have hset : ∀ {o : Nat} {xs : List UInt8}, RowAt w (some ⟨b, o, none⟩) 1 (xs.map byX) → RowAt (w.setCell ⟨R, 0, none⟩ (.slice (some ⟨b, off', none⟩) (l.length - n) cap')) (some ⟨b, o, none⟩) 1 (xs.map byX) := fun h => h.set (fun q hq => by cases hq; exact Nat.ne_of_lt hbR) _
  refine ⟨b, off, cap, by rw [hl1], by omega, hcm, hset (row_take hr), hbR, ⟨b, off', cap', by rw [hl2]; exact ho.set 0 _, hbR, by omega, by omega, ?_⟩, ht⟩
  rcases h with ⟨rfl, _⟩ | ⟨hc, _⟩
  · exact hset (row_drop hr)
  · have : l.drop n = [] := List.drop_of_length_le (by omega)
    rw [this]
    exact RowAt.nil _ _ _
set_option maxRecDepth 100000 in
set_option maxHeartbeats 1000000 in
/-- (*impl.byteReader).take, as many as there are -/
theorem take_in (R n : Nat) (l T D : List UInt8) (w : World) (h : RdB w R l) (hn : n ≤ l.length) (hT : l.take n = T) (hD : l.drop n = D) :
    Calls Tryz.prog 80 #[.pointer (some ⟨R, 0, none⟩), .int .i64 (n : Int)] w fun e w' => Took w w' R T D e := by
  obtain ⟨b, off, cap, ho, hbR, hlc, hcm, hr⟩ := h
  have HT : Hid (∀ off' cap' : Nat, ((off' = off + n ∧ cap' = cap - n) ∨ (cap = n ∧ cap' = 0)) → Took w (w.setCell ⟨R, 0, none⟩ (.slice (some ⟨b, off', none⟩) (l.length - n) cap')) R T D (.returned (.slice (some ⟨b, off, none⟩) n cap))) := fun off' cap' h => by
    rw [← hT, ← hD]; exact took_of ho hbR hlc hcm hr hn h
  have g0 := ho.loc.one
  have i0 := ho.frozen 0
  unfold maxLen at hcm
  have hni : (n : Int) ≤ l.length := by omega
  clear hr hT hD
  by_cases hc : cap = n
  · subst hc
    go_enter Tryz.func80, Tryz.ntmps80
    go_wp2
    go_ret
    have h9 := HT.out off 0 (Or.inr (by simp))
    rw [show l.length - cap = 0 by omega] at h9
    exact h9
  · go_enter Tryz.func80, Tryz.ntmps80
    go_wp2
    go_ret
    exact HT.out (off + n) (cap - n) (Or.inl ⟨rfl, rfl⟩)
set_option maxRecDepth 100000 in
set_option maxHeartbeats 1000000 in
/-- (*impl.byteReader).take, more than there are -/
theorem take_out (R n : Nat) (l : List UInt8) (w : World) (h : RdB w R l) (hn : l.length < n) (hm : n ≤ 1000000000000) :
    Calls Tryz.prog 80 #[.pointer (some ⟨R, 0, none⟩), .int .i64 (n : Int)] w fun e w' => Took w w' R l [] e := by
  obtain ⟨b, off, cap, ho, hbR, hlc, hcm, hr⟩ := h
  have HT : Hid (∀ off' cap' : Nat, ((off' = off + l.length ∧ cap' = cap - l.length) ∨ (cap = l.length ∧ cap' = 0)) → Took w (w.setCell ⟨R, 0, none⟩ (.slice (some ⟨b, off', none⟩) 0 cap')) R l [] (.returned (.slice (some ⟨b, off, none⟩) l.length cap))) := fun off' cap' h => by
    have := took_of ho hbR hlc hcm hr (Nat.le_refl _) h
    rwa [List.take_length, List.drop_length, Nat.sub_self] at this
  have g0 := ho.loc.one
  have i0 := ho.frozen 0
  unfold maxLen at hcm
  have hni : (l.length : Int) < n := by omega
  clear hr
  by_cases hc : cap = l.length
  · subst hc
    go_enter Tryz.func80, Tryz.ntmps80
    go_wp2
    go_ret
    exact HT.out off 0 (Or.inr (by simp))
  · go_enter Tryz.func80, Tryz.ntmps80
    go_wp2
    go_ret
    exact HT.out (off + l.length) (cap - l.length) (Or.inl ⟨rfl, rfl⟩)
theorem take_any (R n : Nat) (l : List UInt8) (w : World) (h : RdB w R l) (hm : n ≤ 1000000000000) :
    Calls Tryz.prog 80 #[.pointer (some ⟨R, 0, none⟩), .int .i64 (n : Int)] w fun e w' => Took w w' R (l.take n) (l.drop n) e := by
  by_cases hn : n ≤ l.length
  · exact take_in R n l _ _ w h hn rfl rfl
  · have := take_out R n l w h (by omega) hm
    rwa [List.take_of_length_le (by omega), List.drop_of_length_le (by omega)]
set_option maxRecDepth 100000 in
set_option maxHeartbeats 1000000 in
/-- (*impl.byteReader).num -/
theorem num_any (R s : Nat) (l : List UInt8) (w : World) (h : RdB w R l) (h1 : 1 ≤ s) (h6 : s ≤ 6) :
    Calls Tryz.prog 81 #[.pointer (some ⟨R, 0, none⟩), .int .i64 (s : Int)] w fun e w' => e = .returned (.int .i64 (rdN s l : Int)) ∧ RdB w' R (l.drop s) ∧ Turns (· = R) w w' := by
  have HTA := take_any R s l w h (by omega)
  have HT : Hid (Calls Tryz.prog 80 #[.pointer (some ⟨R, 0, none⟩), .int .i64 (s : Int)] w fun e w' => Took w w' R (l.take s) (l.drop s) e) := HTA
  obtain ⟨g, hg⟩ : ∃ g : Bool, (g = true ∧ okGet (l.take s) 0 (s : Int) ∧ rdN s l = getL (l.take s) (0 : Int).toNat ((s : Int)).toNat) ∨ (g = false ∧ ¬ okGet (l.take s) 0 (s : Int) ∧ rdN s l = 0) := by
    by_cases hs : s ≤ l.length
    · refine ⟨true, Or.inl ⟨rfl, ⟨by omega, by omega, by omega, by simp; omega⟩, ?_⟩⟩
      unfold rdN getL
      rw [if_pos hs]
      simp [List.take_take]
    · refine ⟨false, Or.inr ⟨rfl, fun hh => ?_, ?_⟩⟩
      · have := hh.2.2.2
        simp at this
        omega
      · unfold rdN
        rw [if_neg hs]
  have HGN : Hid (∀ (u : World) (v : Value), BytesV u v (l.take s) → Calls Tryz.prog 111 #[v, .int .i64 0, .int .i64 (s : Int)] u fun e w' => e = .returned (.tuple #[.int .i64 (rdN s l : Int), .bool g]) ∧ Below u.heap.size u w') := fun u v hu => getNum_impl v (l.take s) 0 s u hu g (rdN s l) hg
  clear HTA h hg
  generalize rdN s l = N at HGN
  generalize l.take s = T at HT HGN
  generalize l.drop s = D at HT
  go_enter Tryz.func81, Tryz.ntmps81
  go_wp2_with fail
  refine HT.out.mono ?_
  rintro e w1 ⟨b, off, cap, rfl, hc1, hc2, hr, hbR, hrd, ht⟩
  have HB : Hid (BytesV w1 (.slice (some ⟨b, off, none⟩) T.length cap) T) := ⟨_, _, rfl, hc1, hc2, hr⟩
  have HD : Hid (RdB w1 R D) := hrd
  have HTu : Hid (Turns (· = R) w w1) := ht
  clear hr hrd ht
  go_wp2_with fail
  refine (HGN.out _ _ HB.out).mono ?_
  rintro e w2 ⟨rfl, b2⟩
  have HD2 : Hid (RdB w2 R D) := HD.out.on b2
  have HT2 : Hid (Turns (· = R) w w2) := HTu.out.below b2
  clear b2
  go_wp2
  go_ret
  exact ⟨rfl, HD2.out, HT2.out⟩

/-- A text out of bytes in memory. -/
theorem conv_back (w : World) (b off cap : Nat) (T : List UInt8) (h : RowAt w (some ⟨b, off, none⟩) 1 (T.map byX)) :
    (convert 26 9 (.slice (some ⟨b, off, none⟩) T.length cap)).run Tryz.prog w = .ok (.string ⟨T.toArray⟩) w :=
  run_convert_bytes_back (P := Tryz.prog) w 26 9 5 ⟨b, off, none⟩ cap T Tryz.underlying26 Tryz.underlying5 Tryz.underlying9 (fun j hj => by
    obtain ⟨b', off', e, hc⟩ := h.bytes j hj
    cases e
    rw [add_flat]; exact hc)
set_option maxRecDepth 100000 in
set_option maxHeartbeats 1000000 in
/-- (*impl.byteReader).flag -/
theorem flag_any (R : Nat) (l : List UInt8) (w : World) (h : RdB w R l) :
    Calls Tryz.prog 138 #[.pointer (some ⟨R, 0, none⟩)] w fun e w' => e = .returned (.bool (decide (rdN 1 l = 1))) ∧ RdB w' R (l.drop 1) ∧ Turns (· = R) w w' := by
  have HN : Hid (Calls Tryz.prog 81 #[.pointer (some ⟨R, 0, none⟩), .int .i64 1] w fun e w' => e = .returned (.int .i64 (rdN 1 l : Int)) ∧ RdB w' R (l.drop 1) ∧ Turns (· = R) w w') := num_any R 1 l w h (by omega) (by omega)
  clear h
  have HE : Hid ((((rdN 1 l : Nat) : Int) == 1) = decide (rdN 1 l = 1)) := by
    show _ = _
    by_cases h : rdN 1 l = 1
    · simp [h]
    · simp [h]; omega
  generalize rdN 1 l = N at HN HE
  generalize l.drop 1 = D at HN
  go_enter Tryz.func138, Tryz.ntmps138
  go_wp2_with fail
  refine HN.out.mono ?_
  rintro e w1 ⟨rfl, hd, ht⟩
  have HD : Hid (RdB w1 R D) := hd
  have HT : Hid (Turns (· = R) w w1) := ht
  clear hd ht
  go_wp2
  go_ret
  exact ⟨by rw [← HE.out]; rfl, HD.out, HT.out⟩
set_option maxRecDepth 100000 in
set_option maxHeartbeats 1000000 in
/-- (*impl.byteReader).text -/
theorem text_any (R : Nat) (l : List UInt8) (w : World) (h : RdB w R l) :
    Calls Tryz.prog 82 #[.pointer (some ⟨R, 0, none⟩)] w fun e w' => e = .returned (.string (rdT l).1) ∧ RdB w' R (rdT l).2 ∧ Turns (· = R) w w' := by
  have HN : Hid (Calls Tryz.prog 81 #[.pointer (some ⟨R, 0, none⟩), .int .i64 1] w fun e w' => e = .returned (.int .i64 (rdN 1 l : Int)) ∧ RdB w' R (l.drop 1) ∧ Turns (· = R) w w') := num_any R 1 l w h (by omega) (by omega)
  have HTK : Hid (∀ u : World, RdB u R (l.drop 1) → Calls Tryz.prog 80 #[.pointer (some ⟨R, 0, none⟩), .int .i64 (rdN 1 l : Int)] u fun e w' => Took u w' R ((l.drop 1).take (rdN 1 l)) (rdT l).2 e) := fun u hu => take_any R (rdN 1 l) (l.drop 1) u hu (by have := rdN_byte l; omega)
  have HE : Hid ((rdT l).1 = ⟨((l.drop 1).take (rdN 1 l)).toArray⟩) := rfl
  clear h
  generalize rdT l = X at HTK HE ⊢
  generalize (l.drop 1).take (rdN 1 l) = T at HTK HE
  generalize rdN 1 l = N at HN HTK
  generalize l.drop 1 = D at HN HTK
  go_enter Tryz.func82, Tryz.ntmps82
  go_wp2_with fail
  refine HN.out.mono ?_
  rintro e w1 ⟨rfl, hd, ht⟩
  have HD : Hid (RdB w1 R D) := hd
  have HT : Hid (Turns (· = R) w w1) := ht
  clear hd ht
  go_wp2_with fail
  refine (HTK.out _ HD.out).mono ?_
  rintro e w2 ⟨b, off, cap, rfl, hc1, hc2, hr, hbR, hrd, ht⟩
  have hcv := conv_back w2 b off cap T hr
  have HD2 : Hid (RdB w2 R X.2) := hrd
  have HT2 : Hid (Turns (· = R) w w2) := HT.out.trans ht
  clear hr hrd ht
  go_wp2
  go_ret
  exact ⟨by rw [HE.out]; rfl, HD2.out, HT2.out⟩
set_option maxRecDepth 100000 in
set_option maxHeartbeats 1000000 in
/-- (*impl.byteReader).signed -/
theorem signed_any (R : Nat) (l : List UInt8) (w : World) (h : RdB w R l) :
    Calls Tryz.prog 137 #[.pointer (some ⟨R, 0, none⟩)] w fun e w' => e = .returned (.int .i64 (if rdN 1 l = 1 then -(rdN 6 (l.drop 1) : Int) else (rdN 6 (l.drop 1) : Int))) ∧ RdB w' R ((l.drop 1).drop 6) ∧ Turns (· = R) w w' := by
  have HF : Hid (Calls Tryz.prog 138 #[.pointer (some ⟨R, 0, none⟩)] w fun e w' => e = .returned (.bool (decide (rdN 1 l = 1))) ∧ RdB w' R (l.drop 1) ∧ Turns (· = R) w w') := flag_any R l w h
  have HN : Hid (∀ u : World, RdB u R (l.drop 1) → Calls Tryz.prog 81 #[.pointer (some ⟨R, 0, none⟩), .int .i64 6] u fun e w' => e = .returned (.int .i64 (rdN 6 (l.drop 1) : Int)) ∧ RdB w' R ((l.drop 1).drop 6) ∧ Turns (· = R) u w') := fun u hu => num_any R 6 (l.drop 1) u hu (by omega) (by omega)
  have hlt := rdN_lt 6 (l.drop 1) (by omega)
  clear h
  generalize (l.drop 1).drop 6 = E at HN ⊢
  generalize rdN 6 (l.drop 1) = M at HN hlt ⊢
  generalize l.drop 1 = D at HF HN
  by_cases hf : rdN 1 l = 1
  · rw [if_pos hf]
    rw [decide_eq_true hf] at HF
    clear hf
    go_enter Tryz.func137, Tryz.ntmps137
    go_wp2_with fail
    refine HF.out.mono ?_
    rintro e w1 ⟨rfl, hd, ht⟩
    have HD : Hid (RdB w1 R D) := hd
    have HT : Hid (Turns (· = R) w w1) := ht
    clear hd ht
    go_wp2_with fail
    refine (HN.out _ HD.out).mono ?_
    rintro e w2 ⟨rfl, hd, ht⟩
    have HD2 : Hid (RdB w2 R E) := hd
    have HT2 : Hid (Turns (· = R) w w2) := HT.out.trans ht
    clear hd ht
    go_wp2
    go_ret
    exact ⟨rfl, HD2.out, HT2.out⟩
  · rw [if_neg hf]
    rw [decide_eq_false hf] at HF
    clear hf
    go_enter Tryz.func137, Tryz.ntmps137
    go_wp2_with fail
    refine HF.out.mono ?_
    rintro e w1 ⟨rfl, hd, ht⟩
    have HD : Hid (RdB w1 R D) := hd
    have HT : Hid (Turns (· = R) w w1) := ht
    clear hd ht
    go_wp2_with fail
    refine (HN.out _ HD.out).mono ?_
    rintro e w2 ⟨rfl, hd, ht⟩
    have HD2 : Hid (RdB w2 R E) := hd
    have HT2 : Hid (Turns (· = R) w w2) := HT.out.trans ht
    clear hd ht
    go_wp2
    go_ret
    exact ⟨rfl, HD2.out, HT2.out⟩

theorem Turns.fresh {S : Nat → Prop} {a b : World} (h : Turns S a b) {p : Addr} (hp : a.heap.size ≤ p.block) (u : Value) : Turns S a (b.setCell p u) :=
  ⟨h.os, h.tape, h.output, by simpa [World.setCell] using h.size, fun i hi hn => (Below.heap_setCell _ _ _ _ (by omega)).trans (h.block i hi hn)⟩
theorem RdB.other {w : World} {R : Nat} {l : List UInt8} (h : RdB w R l) {p : Addr} (hp : R < p.block) (u : Value) : RdB (w.setCell p u) R l := by
  obtain ⟨b, off, cap, ho, hb, h3, h4, hr⟩ := h
  exact ⟨b, off, cap, ho.other (by omega) u, hb, h3, h4, hr.set (fun q hq => by cases hq; show b ≠ p.block; omega) u⟩
/-- Stores into new blocks leave the reader alone. -/
theorem rd_stores {w w1 w2 : World} {R : Nat} {E : List UInt8} (hd : RdB w2 R E) (ht : Turns (· = R) w w2) (hR : R < w.heap.size) (hs : w.heap.size < w1.heap.size) (i : Nat) (v v0 v1 v2 : Value) :
    RdB ((((w2.setCell ⟨w1.heap.size, i, none⟩ v).setCell ⟨w.heap.size, 0, none⟩ v0).setCell ⟨w.heap.size, 1, none⟩ v1).setCell ⟨w.heap.size, 2, none⟩ v2) R E ∧ Turns (· = R) w ((((w2.setCell ⟨w1.heap.size, i, none⟩ v).setCell ⟨w.heap.size, 0, none⟩ v0).setCell ⟨w.heap.size, 1, none⟩ v1).setCell ⟨w.heap.size, 2, none⟩ v2) :=
  ⟨(((hd.other (p := ⟨w1.heap.size, i, none⟩) (Nat.lt_trans hR hs) v).other (p := ⟨w.heap.size, 0, none⟩) hR v0).other (p := ⟨w.heap.size, 1, none⟩) hR v1).other (p := ⟨w.heap.size, 2, none⟩) hR v2,
   (((ht.fresh (p := ⟨w1.heap.size, i, none⟩) (Nat.le_of_lt hs) v).fresh (p := ⟨w.heap.size, 0, none⟩) (Nat.le_refl _) v0).fresh (p := ⟨w.heap.size, 1, none⟩) (Nat.le_refl _) v1).fresh (p := ⟨w.heap.size, 2, none⟩) (Nat.le_refl _) v2⟩
theorem rd_stores3 {w w2 : World} {R : Nat} {E : List UInt8} (hd : RdB w2 R E) (ht : Turns (· = R) w w2) (hR : R < w.heap.size) (v0 v1 v2 : Value) :
    RdB (((w2.setCell ⟨w.heap.size, 0, none⟩ v0).setCell ⟨w.heap.size, 1, none⟩ v1).setCell ⟨w.heap.size, 2, none⟩ v2) R E ∧ Turns (· = R) w (((w2.setCell ⟨w.heap.size, 0, none⟩ v0).setCell ⟨w.heap.size, 1, none⟩ v1).setCell ⟨w.heap.size, 2, none⟩ v2) :=
  ⟨((hd.other (p := ⟨w.heap.size, 0, none⟩) hR v0).other (p := ⟨w.heap.size, 1, none⟩) hR v1).other (p := ⟨w.heap.size, 2, none⟩) hR v2,
   ((ht.fresh (p := ⟨w.heap.size, 0, none⟩) (Nat.le_refl _) v0).fresh (p := ⟨w.heap.size, 1, none⟩) (Nat.le_refl _) v1).fresh (p := ⟨w.heap.size, 2, none⟩) (Nat.le_refl _) v2⟩
set_option maxRecDepth 100000 in
set_option maxHeartbeats 1000000 in
/-- (*impl.byteReader).val -/
theorem val_any (R : Nat) (l : List UInt8) (w : World) (h : RdB w R l) :
    Calls Tryz.prog 113 #[.pointer (some ⟨R, 0, none⟩)] w fun e w' => e = .returned (.agg (rdV l).1.cells) ∧ RdB w' R (rdV l).2 ∧ Turns (· = R) w w' := by
  have HN : Hid (∀ u : World, RdB u R l → Calls Tryz.prog 81 #[.pointer (some ⟨R, 0, none⟩), .int .i64 1] u fun e w' => e = .returned (.int .i64 (rdN 1 l : Int)) ∧ RdB w' R (l.drop 1) ∧ Turns (· = R) u w') := fun u hu => num_any R 1 l u hu (by omega) (by omega)
  have HR : Hid (RdB w R l) := h
  have hRw : R < w.heap.size := by obtain ⟨_, _, _, ho, _⟩ := h; exact ho.lt
  have HN2 : Hid (∀ u : World, RdB u R (l.drop 1) → Calls Tryz.prog 81 #[.pointer (some ⟨R, 0, none⟩), .int .i64 1] u fun e w' => e = .returned (.int .i64 (rdN 1 (l.drop 1) : Int)) ∧ RdB w' R ((l.drop 1).drop 1) ∧ Turns (· = R) u w') := fun u hu => num_any R 1 (l.drop 1) u hu (by omega) (by omega)
  have HS : Hid (∀ u : World, RdB u R (l.drop 1) → Calls Tryz.prog 137 #[.pointer (some ⟨R, 0, none⟩)] u fun e w' => e = .returned (.int .i64 (if rdN 1 (l.drop 1) = 1 then -(rdN 6 ((l.drop 1).drop 1) : Int) else (rdN 6 ((l.drop 1).drop 1) : Int))) ∧ RdB w' R (((l.drop 1).drop 1).drop 6) ∧ Turns (· = R) u w') := fun u hu => signed_any R (l.drop 1) u hu
  have HX : Hid (∀ u : World, RdB u R (l.drop 1) → Calls Tryz.prog 82 #[.pointer (some ⟨R, 0, none⟩)] u fun e w' => e = .returned (.string (rdT (l.drop 1)).1) ∧ RdB w' R (rdT (l.drop 1)).2 ∧ Turns (· = R) u w') := fun u hu => text_any R (l.drop 1) u hu
  clear h
  by_cases h1 : rdN 1 l = 1
  · have e : rdV l = (⟨1, (rdN 1 (l.drop 1) : Int), ⟨#[]⟩⟩, (l.drop 1).drop 1) := by unfold rdV; rw [if_pos h1]
    rw [e]
    rw [h1] at HN
    simp only
    clear HS HX h1 e
    generalize (l.drop 1).drop 1 = E at HN2 ⊢
    generalize rdN 1 (l.drop 1) = M at HN2 ⊢
    generalize l.drop 1 = D at HN HN2
    go_enter Tryz.func113, Tryz.ntmps113
    go_wp2_with fail
    refine (HN.out _ (HR.out.on (by repeat (first | with_reducible exact Below.refl _ _ | with_reducible assumption | with_reducible refine ch_alloc ?_ _ | with_reducible refine Below.drew ?_ | with_reducible refine below_draws _ ?_ | (with_reducible refine Below.setCell ?_ ?_ _; rotate_left; focus (first | with_reducible exact Nat.le_refl _ | (simp; done) | (simp; omega) | (simp at *; omega))) | with_reducible refine ch_trans ?_ (by with_reducible assumption))))).mono ?_
    rintro e w1 ⟨rfl, hd, ht⟩
    have HD : Hid (RdB w1 R D) := hd
    have HO1 : Own w1 w.heap.size 128 #[.int .i64 0, .int .i64 0, .string { data := #[] }] := (Own.new _ _ _).turned ht (by show ¬ (w.heap.size = R); omega)
    have hs1 : w.heap.size < w1.heap.size := HO1.lt
    have HT : Hid (Turns (· = R) w w1) := ((Turns.refl (· = R) w).below (ch_alloc (Below.refl _ _) _)).trans ht
    clear hd ht
    go_wp2_with fail
    refine (HN2.out _ (HD.out.on (by repeat (first | with_reducible exact Below.refl _ _ | with_reducible assumption | with_reducible refine ch_alloc ?_ _ | with_reducible refine Below.drew ?_ | with_reducible refine below_draws _ ?_ | (with_reducible refine Below.setCell ?_ ?_ _; rotate_left; focus (first | with_reducible exact Nat.le_refl _ | (simp; done) | (simp; omega) | (simp at *; omega))) | with_reducible refine ch_trans ?_ (by with_reducible assumption))))).mono ?_
    rintro e w2 ⟨rfl, hd, ht⟩
    have HO2 : Own w2 w.heap.size 128 #[.int .i64 0, .int .i64 0, .string { data := #[] }] := (HO1.on (ch_alloc (Below.refl _ _) _)).turned ht (by show ¬ (w.heap.size = R); omega)
    have HV2 : Own w2 w1.heap.size 128 #[.int .i64 1, .int .i64 0, .string { data := #[] }] := (Own.new _ _ _).turned ht (by show ¬ (w1.heap.size = R); omega)
    have hs2 : w1.heap.size < w2.heap.size := HV2.lt
    have HD2 : Hid (RdB w2 R E) := hd
    have HT2 : Hid (Turns (· = R) w w2) := (HT.out.below (ch_alloc (Below.refl _ _) _)).trans ht
    clear hd ht
    obtain ⟨c0, c1, c2⟩ := HV2.loc.three
    obtain ⟨d0, d1, d2⟩ := HO2.loc.three
    have f0 := HV2.frozen 1
    have k0 := HO2.frozen 0
    have k1 := HO2.frozen 1
    have k2 := HO2.frozen 2
    go_wp2
    have HO3 : Own _ w.heap.size 128 #[.int .i64 1, .int .i64 (M : Int), .string { data := #[] }] := own3 (HO2.other (p := ⟨w1.heap.size, 1, none⟩) (by simp; omega) (.int .i64 (M : Int))) (.int .i64 1) (.int .i64 (M : Int)) (.string { data := #[] })
    have HB3 : Hid (Below w2.heap.size w2 w2) := Below.refl _ _
    have HE3 : Hid (∀ W : World, W = (((w2.setCell ⟨w1.heap.size, 1, none⟩ (.int .i64 (M : Int))).setCell ⟨w.heap.size, 0, none⟩ (.int .i64 1)).setCell ⟨w.heap.size, 1, none⟩ (.int .i64 (M : Int))).setCell ⟨w.heap.size, 2, none⟩ (.string { data := #[] }) → RdB W R E ∧ Turns (· = R) w W) := fun W hW => by
      subst hW
      exact rd_stores HD2.out HT2.out hRw hs1 _ _ _ _ _
    generalize hW : (((w2.setCell ⟨w1.heap.size, 1, none⟩ (.int .i64 (M : Int))).setCell ⟨w.heap.size, 0, none⟩ (.int .i64 1)).setCell ⟨w.heap.size, 1, none⟩ (.int .i64 (M : Int))).setCell ⟨w.heap.size, 2, none⟩ (.string { data := #[] }) = W at HO3 ⊢
    obtain ⟨hA, hB⟩ := HE3.out W hW.symm
    obtain ⟨e0, e1, e2⟩ := HO3.loc.three
    exact bodyPost_ret (v := .agg #[.int .i64 1, .int .i64 (M : Int), .string { data := #[] }]) (by simp [results, Tryz.results113, go_sem, e0, e1, e2]) rfl ⟨rfl, hA, hB⟩
  by_cases h2 : rdN 1 l = 2
  · have e : rdV l = (⟨2, if rdN 1 (l.drop 1) = 1 then -(rdN 6 ((l.drop 1).drop 1) : Int) else (rdN 6 ((l.drop 1).drop 1) : Int), ⟨#[]⟩⟩, ((l.drop 1).drop 1).drop 6) := by unfold rdV; rw [if_neg h1, if_pos h2]
    rw [e]
    rw [h2] at HN
    simp only
    clear HN2 HX h1 h2 e
    generalize ((l.drop 1).drop 1).drop 6 = E at HS ⊢
    generalize (if rdN 1 (l.drop 1) = 1 then -(rdN 6 ((l.drop 1).drop 1) : Int) else (rdN 6 ((l.drop 1).drop 1) : Int)) = M at HS ⊢
    generalize l.drop 1 = D at HN HS
    go_enter Tryz.func113, Tryz.ntmps113
    go_wp2_with fail
    refine (HN.out _ (HR.out.on (by repeat (first | with_reducible exact Below.refl _ _ | with_reducible assumption | with_reducible refine ch_alloc ?_ _ | with_reducible refine Below.drew ?_ | with_reducible refine below_draws _ ?_ | (with_reducible refine Below.setCell ?_ ?_ _; rotate_left; focus (first | with_reducible exact Nat.le_refl _ | (simp; done) | (simp; omega) | (simp at *; omega))) | with_reducible refine ch_trans ?_ (by with_reducible assumption))))).mono ?_
    rintro e w1 ⟨rfl, hd, ht⟩
    have HD : Hid (RdB w1 R D) := hd
    have HO1 : Own w1 w.heap.size 128 #[.int .i64 0, .int .i64 0, .string { data := #[] }] := (Own.new _ _ _).turned ht (by show ¬ (w.heap.size = R); omega)
    have hs1 : w.heap.size < w1.heap.size := HO1.lt
    have HT : Hid (Turns (· = R) w w1) := ((Turns.refl (· = R) w).below (ch_alloc (Below.refl _ _) _)).trans ht
    clear hd ht
    go_wp2_with fail
    refine (HS.out _ (HD.out.on (by repeat (first | with_reducible exact Below.refl _ _ | with_reducible assumption | with_reducible refine ch_alloc ?_ _ | with_reducible refine Below.drew ?_ | with_reducible refine below_draws _ ?_ | (with_reducible refine Below.setCell ?_ ?_ _; rotate_left; focus (first | with_reducible exact Nat.le_refl _ | (simp; done) | (simp; omega) | (simp at *; omega))) | with_reducible refine ch_trans ?_ (by with_reducible assumption))))).mono ?_
    rintro e w2 ⟨rfl, hd, ht⟩
    have HO2 : Own w2 w.heap.size 128 #[.int .i64 0, .int .i64 0, .string { data := #[] }] := (HO1.on (ch_alloc (Below.refl _ _) _)).turned ht (by show ¬ (w.heap.size = R); omega)
    have HV2 : Own w2 w1.heap.size 128 #[.int .i64 2, .int .i64 0, .string { data := #[] }] := (Own.new _ _ _).turned ht (by show ¬ (w1.heap.size = R); omega)
    have hs2 : w1.heap.size < w2.heap.size := HV2.lt
    have HD2 : Hid (RdB w2 R E) := hd
    have HT2 : Hid (Turns (· = R) w w2) := (HT.out.below (ch_alloc (Below.refl _ _) _)).trans ht
    clear hd ht
    obtain ⟨c0, c1, c2⟩ := HV2.loc.three
    obtain ⟨d0, d1, d2⟩ := HO2.loc.three
    have f0 := HV2.frozen 1
    have k0 := HO2.frozen 0
    have k1 := HO2.frozen 1
    have k2 := HO2.frozen 2
    go_wp2
    have HO3 : Own _ w.heap.size 128 #[.int .i64 2, .int .i64 M, .string { data := #[] }] := own3 (HO2.other (p := ⟨w1.heap.size, 1, none⟩) (by simp; omega) (.int .i64 M)) (.int .i64 2) (.int .i64 M) (.string { data := #[] })
    have HB3 : Hid (Below w2.heap.size w2 w2) := Below.refl _ _
    have HE3 : Hid (∀ W : World, W = (((w2.setCell ⟨w1.heap.size, 1, none⟩ (.int .i64 M)).setCell ⟨w.heap.size, 0, none⟩ (.int .i64 2)).setCell ⟨w.heap.size, 1, none⟩ (.int .i64 M)).setCell ⟨w.heap.size, 2, none⟩ (.string { data := #[] }) → RdB W R E ∧ Turns (· = R) w W) := fun W hW => by
      subst hW
      exact rd_stores HD2.out HT2.out hRw hs1 _ _ _ _ _
    generalize hW : (((w2.setCell ⟨w1.heap.size, 1, none⟩ (.int .i64 M)).setCell ⟨w.heap.size, 0, none⟩ (.int .i64 2)).setCell ⟨w.heap.size, 1, none⟩ (.int .i64 M)).setCell ⟨w.heap.size, 2, none⟩ (.string { data := #[] }) = W at HO3 ⊢
    obtain ⟨hA, hB⟩ := HE3.out W hW.symm
    obtain ⟨e0, e1, e2⟩ := HO3.loc.three
    exact bodyPost_ret (v := .agg #[.int .i64 2, .int .i64 M, .string { data := #[] }]) (by simp [results, Tryz.results113, go_sem, e0, e1, e2]) rfl ⟨rfl, hA, hB⟩
  by_cases h3 : rdN 1 l = 3
  · have e : rdV l = (⟨3, 0, (rdT (l.drop 1)).1⟩, (rdT (l.drop 1)).2) := by unfold rdV; rw [if_neg h1, if_neg h2, if_pos h3]
    rw [e]
    rw [h3] at HN
    simp only
    clear HN2 HS h1 h2 h3 e
    generalize (rdT (l.drop 1)).2 = E at HX ⊢
    generalize (rdT (l.drop 1)).1 = X at HX ⊢
    generalize l.drop 1 = D at HN HX
    go_enter Tryz.func113, Tryz.ntmps113
    go_wp2_with fail
    refine (HN.out _ (HR.out.on (by repeat (first | with_reducible exact Below.refl _ _ | with_reducible assumption | with_reducible refine ch_alloc ?_ _ | with_reducible refine Below.drew ?_ | with_reducible refine below_draws _ ?_ | (with_reducible refine Below.setCell ?_ ?_ _; rotate_left; focus (first | with_reducible exact Nat.le_refl _ | (simp; done) | (simp; omega) | (simp at *; omega))) | with_reducible refine ch_trans ?_ (by with_reducible assumption))))).mono ?_
    rintro e w1 ⟨rfl, hd, ht⟩
    have HD : Hid (RdB w1 R D) := hd
    have HO1 : Own w1 w.heap.size 128 #[.int .i64 0, .int .i64 0, .string { data := #[] }] := (Own.new _ _ _).turned ht (by show ¬ (w.heap.size = R); omega)
    have hs1 : w.heap.size < w1.heap.size := HO1.lt
    have HT : Hid (Turns (· = R) w w1) := ((Turns.refl (· = R) w).below (ch_alloc (Below.refl _ _) _)).trans ht
    clear hd ht
    go_wp2_with fail
    refine (HX.out _ (HD.out.on (by repeat (first | with_reducible exact Below.refl _ _ | with_reducible assumption | with_reducible refine ch_alloc ?_ _ | with_reducible refine Below.drew ?_ | with_reducible refine below_draws _ ?_ | (with_reducible refine Below.setCell ?_ ?_ _; rotate_left; focus (first | with_reducible exact Nat.le_refl _ | (simp; done) | (simp; omega) | (simp at *; omega))) | with_reducible refine ch_trans ?_ (by with_reducible assumption))))).mono ?_
    rintro e w2 ⟨rfl, hd, ht⟩
    have HO2 : Own w2 w.heap.size 128 #[.int .i64 0, .int .i64 0, .string { data := #[] }] := (HO1.on (ch_alloc (Below.refl _ _) _)).turned ht (by show ¬ (w.heap.size = R); omega)
    have HV2 : Own w2 w1.heap.size 128 #[.int .i64 3, .int .i64 0, .string { data := #[] }] := (Own.new _ _ _).turned ht (by show ¬ (w1.heap.size = R); omega)
    have hs2 : w1.heap.size < w2.heap.size := HV2.lt
    have HD2 : Hid (RdB w2 R E) := hd
    have HT2 : Hid (Turns (· = R) w w2) := (HT.out.below (ch_alloc (Below.refl _ _) _)).trans ht
    clear hd ht
    obtain ⟨c0, c1, c2⟩ := HV2.loc.three
    obtain ⟨d0, d1, d2⟩ := HO2.loc.three
    have f0 := HV2.frozen 2
    have k0 := HO2.frozen 0
    have k1 := HO2.frozen 1
    have k2 := HO2.frozen 2
    go_wp2
    have HO3 : Own _ w.heap.size 128 #[.int .i64 3, .int .i64 0, .string X] := own3 (HO2.other (p := ⟨w1.heap.size, 2, none⟩) (by simp; omega) (.string X)) (.int .i64 3) (.int .i64 0) (.string X)
    have HB3 : Hid (Below w2.heap.size w2 w2) := Below.refl _ _
    have HE3 : Hid (∀ W : World, W = (((w2.setCell ⟨w1.heap.size, 2, none⟩ (.string X)).setCell ⟨w.heap.size, 0, none⟩ (.int .i64 3)).setCell ⟨w.heap.size, 1, none⟩ (.int .i64 0)).setCell ⟨w.heap.size, 2, none⟩ (.string X) → RdB W R E ∧ Turns (· = R) w W) := fun W hW => by
      subst hW
      exact rd_stores HD2.out HT2.out hRw hs1 _ _ _ _ _
    generalize hW : (((w2.setCell ⟨w1.heap.size, 2, none⟩ (.string X)).setCell ⟨w.heap.size, 0, none⟩ (.int .i64 3)).setCell ⟨w.heap.size, 1, none⟩ (.int .i64 0)).setCell ⟨w.heap.size, 2, none⟩ (.string X) = W at HO3 ⊢
    obtain ⟨hA, hB⟩ := HE3.out W hW.symm
    obtain ⟨e0, e1, e2⟩ := HO3.loc.three
    exact bodyPost_ret (v := .agg #[.int .i64 3, .int .i64 0, .string X]) (by simp [results, Tryz.results113, go_sem, e0, e1, e2]) rfl ⟨rfl, hA, hB⟩
  have e : rdV l = (⟨(rdN 1 l : Int), 0, ⟨#[]⟩⟩, l.drop 1) := by unfold rdV; rw [if_neg h1, if_neg h2, if_neg h3]
  rw [e]
  simp only
  clear HN2 HS HX e
  generalize l.drop 1 = D at HN ⊢
  generalize rdN 1 l = N at HN h1 h2 h3 ⊢
  have n1 : ((N : Int) == 1) = false := by simp; omega
  have n2 : ((N : Int) == 2) = false := by simp; omega
  have n3 : ((N : Int) == 3) = false := by simp; omega
  clear h1 h2 h3
  go_enter Tryz.func113, Tryz.ntmps113
  go_wp2_with fail
  refine (HN.out _ (HR.out.on (by repeat (first | with_reducible exact Below.refl _ _ | with_reducible assumption | with_reducible refine ch_alloc ?_ _ | with_reducible refine Below.drew ?_ | with_reducible refine below_draws _ ?_ | (with_reducible refine Below.setCell ?_ ?_ _; rotate_left; focus (first | with_reducible exact Nat.le_refl _ | (simp; done) | (simp; omega) | (simp at *; omega))) | with_reducible refine ch_trans ?_ (by with_reducible assumption))))).mono ?_
  rintro e w1 ⟨rfl, hd, ht⟩
  have HD : Hid (RdB w1 R D) := hd
  have HO1 : Own w1 w.heap.size 128 #[.int .i64 0, .int .i64 0, .string { data := #[] }] := (Own.new _ _ _).turned ht (by show ¬ (w.heap.size = R); omega)
  have hs1 : w.heap.size < w1.heap.size := HO1.lt
  have HT : Hid (Turns (· = R) w w1) := ((Turns.refl (· = R) w).below (ch_alloc (Below.refl _ _) _)).trans ht
  clear hd ht
  obtain ⟨d0, d1, d2⟩ := HO1.loc.three
  have k0 := HO1.frozen 0
  have k1 := HO1.frozen 1
  have k2 := HO1.frozen 2
  go_wp2
  have HO3 : Own ((((w1.setCell ⟨w.heap.size, 0, none⟩ (.int .i64 (N : Int))).setCell ⟨w.heap.size, 1, none⟩ (.int .i64 0)).setCell ⟨w.heap.size, 2, none⟩ (.string { data := #[] })).alloc (.cells #[.int .i64 (N : Int), .int .i64 0, .string { data := #[] }] 128)) w.heap.size 128 #[.int .i64 (N : Int), .int .i64 0, .string { data := #[] }] := (own3 HO1 (.int .i64 (N : Int)) (.int .i64 0) (.string { data := #[] })).on (ch_alloc (Below.refl _ _) _)
  obtain ⟨hA, hB⟩ := rd_stores3 HD.out HT.out hRw (.int .i64 (N : Int)) (.int .i64 0) (.string { data := #[] })
  have HA : Hid (RdB ((((w1.setCell ⟨w.heap.size, 0, none⟩ (.int .i64 (N : Int))).setCell ⟨w.heap.size, 1, none⟩ (.int .i64 0)).setCell ⟨w.heap.size, 2, none⟩ (.string { data := #[] })).alloc (.cells #[.int .i64 (N : Int), .int .i64 0, .string { data := #[] }] 128)) R D) := hA.on (ch_alloc (Below.refl _ _) _)
  have HB : Hid (Turns (· = R) w ((((w1.setCell ⟨w.heap.size, 0, none⟩ (.int .i64 (N : Int))).setCell ⟨w.heap.size, 1, none⟩ (.int .i64 0)).setCell ⟨w.heap.size, 2, none⟩ (.string { data := #[] })).alloc (.cells #[.int .i64 (N : Int), .int .i64 0, .string { data := #[] }] 128))) := hB.below (ch_alloc (Below.refl _ _) _)
  clear hA hB
  generalize (((w1.setCell ⟨w.heap.size, 0, none⟩ (.int .i64 (N : Int))).setCell ⟨w.heap.size, 1, none⟩ (.int .i64 0)).setCell ⟨w.heap.size, 2, none⟩ (.string { data := #[] })).alloc (.cells #[.int .i64 (N : Int), .int .i64 0, .string { data := #[] }] 128) = W at HO3 HA HB ⊢
  obtain ⟨e0, e1, e2⟩ := HO3.loc.three
  exact bodyPost_ret (v := .agg #[.int .i64 (N : Int), .int .i64 0, .string { data := #[] }]) (by simp [results, Tryz.results113, go_sem, e0, e1, e2]) rfl ⟨rfl, HA.out, HB.out⟩
end Go.Proofs.YtiijahoheajppaaGreat

namespace Go.Proofs.YtiijahoheajppaaGreat
open Go.ChangeShapes Go.WideShapes Go.ChangeAt Go.RowKit

set_option maxRecDepth 100000 in
/-- laws.szByteS -/
theorem szByteS_any (v : Value) (l : List UInt8) (n : Int) (w : World) (hv : BytesV w v l) (h0 : 0 ≤ n) (h1 : n ≤ 1048576) :
    Calls Tryz.prog 55 #[v, .int .i64 n] w fun e w' => ∃ r : Int, e = .returned (.int .i64 r) ∧ Below w.heap.size w w' ∧ (r = -1 ∨ (0 ≤ r ∧ r ≤ n ∧ l.length ≤ 1048576)) := by
  obtain ⟨a, p, rfl, hl, hm, _⟩ := hv.lit
  unfold maxLen at hm
  clear hv
  by_cases hn : n - l.length < 0
  · go_enter Tryz.func55, Tryz.ntmps55
    go_wp2
    go_ret
    exact ⟨_, rfl, (by repeat (first | with_reducible exact Below.refl _ _ | with_reducible assumption | with_reducible refine ch_alloc ?_ _ | with_reducible refine Below.drew ?_ | with_reducible refine below_draws _ ?_ | (with_reducible refine Below.setCell ?_ ?_ _; rotate_left; focus (first | with_reducible exact Nat.le_refl _ | (simp; done) | (simp; omega) | (simp at *; omega))) | with_reducible refine ch_trans ?_ (by with_reducible assumption))), Or.inl rfl⟩
  · go_enter Tryz.func55, Tryz.ntmps55
    go_wp2
    go_ret
    exact ⟨n - l.length, by go_num, (by repeat (first | with_reducible exact Below.refl _ _ | with_reducible assumption | with_reducible refine ch_alloc ?_ _ | with_reducible refine Below.drew ?_ | with_reducible refine below_draws _ ?_ | (with_reducible refine Below.setCell ?_ ?_ _; rotate_left; focus (first | with_reducible exact Nat.le_refl _ | (simp; done) | (simp; omega) | (simp at *; omega))) | with_reducible refine ch_trans ?_ (by with_reducible assumption))), Or.inr ⟨by omega, by omega, by omega⟩⟩

set_option maxRecDepth 100000 in
/-- laws.szPack -/
theorem szPack_any (v : Value) (l : List UInt8) (n : Int) (w : World) (hv : BytesV w v l) (h0 : 0 ≤ n) (h1 : n ≤ 1048576) :
    Calls Tryz.prog 23 #[.agg #[v], .int .i64 n] w fun e w' => ∃ r : Int, e = .returned (.int .i64 r) ∧ Below w.heap.size w w' ∧ (r = -1 ∨ (0 ≤ r ∧ r ≤ n ∧ l.length ≤ 1048576)) := by
  have HS : Hid (∀ u : World, Below w.heap.size w u → Calls Tryz.prog 55 #[v, .int .i64 n] u fun e w' => ∃ r : Int, e = .returned (.int .i64 r) ∧ Below u.heap.size u w' ∧ (r = -1 ∨ (0 ≤ r ∧ r ≤ n ∧ l.length ≤ 1048576))) := fun u hu => szByteS_any v l n u (hv.on hu) h0 h1
  obtain ⟨a, p, rfl, hl, hm, _⟩ := hv.lit
  have c0 := (Loc.new w #[.slice a l.length p] 57).one
  clear hv
  go_enter Tryz.func23, Tryz.ntmps23
  go_wp2_with fail
  refine (HS.out _ (by repeat (first | with_reducible exact Below.refl _ _ | with_reducible assumption | with_reducible refine ch_alloc ?_ _ | with_reducible refine Below.drew ?_ | with_reducible refine below_draws _ ?_ | (with_reducible refine Below.setCell ?_ ?_ _; rotate_left; focus (first | with_reducible exact Nat.le_refl _ | (simp; done) | (simp; omega) | (simp at *; omega))) | with_reducible refine ch_trans ?_ (by with_reducible assumption)))).mono ?_
  rintro e w1 ⟨r, rfl, b1, hr⟩
  rcases hr with rfl | ⟨r0, r1, r2⟩
  · go_wp2
    go_ret
    exact ⟨_, rfl, (by repeat (first | with_reducible exact Below.refl _ _ | with_reducible assumption | with_reducible refine ch_alloc ?_ _ | with_reducible refine Below.drew ?_ | with_reducible refine below_draws _ ?_ | (with_reducible refine Below.setCell ?_ ?_ _; rotate_left; focus (first | with_reducible exact Nat.le_refl _ | (simp; done) | (simp; omega) | (simp at *; omega))) | with_reducible refine ch_trans ?_ (by with_reducible assumption))), Or.inl rfl⟩
  · go_wp2
    go_ret
    exact ⟨_, rfl, (by repeat (first | with_reducible exact Below.refl _ _ | with_reducible assumption | with_reducible refine ch_alloc ?_ _ | with_reducible refine Below.drew ?_ | with_reducible refine below_draws _ ?_ | (with_reducible refine Below.setCell ?_ ?_ _; rotate_left; focus (first | with_reducible exact Nat.le_refl _ | (simp; done) | (simp; omega) | (simp at *; omega))) | with_reducible refine ch_trans ?_ (by with_reducible assumption))), Or.inr ⟨r0, r1, r2⟩⟩

set_option maxRecDepth 100000 in
/-- laws.toPack -/
theorem toPack_full (v : Value) (l : List UInt8) (w : World) (hv : BytesV w v l) (hn : l.length ≤ 1048576) :
    Calls Tryz.prog 25 #[.agg #[v]] w fun e w' => ∃ B, e = .returned (.agg #[.slice (some ⟨B, 0, none⟩) l.length l.length]) ∧ w.heap.size ≤ B ∧ B < w'.heap.size ∧ Below w.heap.size w w' ∧ Fill w' B 5 1 l.length (l.map byX) := by
  have HS : Hid (∀ u : World, Below w.heap.size w u → Calls Tryz.prog 16 #[v] u fun e w' => ∃ B, e = .returned (.slice (some ⟨B, 0, none⟩) l.length l.length) ∧ u.heap.size ≤ B ∧ Below u.heap.size u w' ∧ Fill w' B 5 1 l.length (l.map byX)) := fun u hu => (toByteS_full _ l u (hv.on hu) hn).mono fun e w' ⟨he, hb, hf⟩ => ⟨_, he, Nat.le_refl _, hb, hf⟩
  obtain ⟨a, p, rfl, hl, hm, _⟩ := hv.lit
  clear hv
  go_enter Tryz.func25, Tryz.ntmps25
  go_wp2_with fail
  have hb0 : Below w.heap.size w (((w.alloc (.cells #[.slice a l.length p] 57)).alloc (.cells #[.slice none 0 0] 28)).alloc (.cells #[.slice none 0 0] 28)) := (by repeat (first | with_reducible exact Below.refl _ _ | with_reducible assumption | with_reducible refine ch_alloc ?_ _ | with_reducible refine Below.drew ?_ | with_reducible refine below_draws _ ?_ | (with_reducible refine Below.setCell ?_ ?_ _; rotate_left; focus (first | with_reducible exact Nat.le_refl _ | (simp; done) | (simp; omega) | (simp at *; omega))) | with_reducible refine ch_trans ?_ (by with_reducible assumption)))
  have HQ := (Own.at (w.alloc (.cells #[.slice a l.length p] 57)) 28 #[.slice none 0 0] (n := w.heap.size + 1) (by simp)).on (ch_alloc (Below.refl _ _) (.cells #[.slice none 0 0] 28))
  have HO := Own.at ((w.alloc (.cells #[.slice a l.length p] 57)).alloc (.cells #[.slice none 0 0] 28)) 28 #[.slice none 0 0] (n := w.heap.size + 1 + 1) (by simp)
  have hs0 : w.heap.size + 1 + 1 + 1 ≤ (((w.alloc (.cells #[.slice a l.length p] 57)).alloc (.cells #[.slice none 0 0] 28)).alloc (.cells #[.slice none 0 0] 28)).heap.size := by simp
  generalize (((w.alloc (.cells #[.slice a l.length p] 57)).alloc (.cells #[.slice none 0 0] 28)).alloc (.cells #[.slice none 0 0] 28)) = u0 at hb0 HQ HO hs0 ⊢
  refine (HS.out _ hb0).mono ?_
  rintro e w1 ⟨B, rfl, hB, b1, hy⟩
  have HF1 : Hid (Fill w1 B 5 1 l.length (l.map byX)) := hy
  have hlt := hy.lt
  have hb1 := ch_trans hb0 b1
  have HO1 := HO.on b1
  have HQ1 := HQ.on b1
  clear hy b1 HO HQ hb0 HS
  have d0 := HO1.loc 0 (by simp)
  have g0 := HQ1.loc 0 (by simp)
  have f0 := HO1.frozen 0
  have i0 := HQ1.frozen 0
  simp only [List.getElem_toArray, List.getElem_cons_zero] at d0 g0
  go_wp2
  have HQ4 : Own ((w1.setCell ⟨w.heap.size + 1 + 1, 0, none⟩ (.slice (some ⟨B, 0, none⟩) l.length l.length)).setCell ⟨w.heap.size + 1, 0, none⟩ (.slice (some ⟨B, 0, none⟩) l.length l.length)) _ _ #[.slice (some ⟨B, 0, none⟩) l.length l.length] := (Own.past (c := w.heap.size + 1 + 1) (by omega) [.slice (some ⟨B, 0, none⟩) l.length l.length] _ 0 HQ1).fill (old := [_]) [.slice (some ⟨B, 0, none⟩) l.length l.length] rfl
  have HF4 : Hid (Fill ((w1.setCell ⟨w.heap.size + 1 + 1, 0, none⟩ (.slice (some ⟨B, 0, none⟩) l.length l.length)).setCell ⟨w.heap.size + 1, 0, none⟩ (.slice (some ⟨B, 0, none⟩) l.length l.length)) B 5 1 l.length (l.map byX)) := (HF1.out.other (p := ⟨w.heap.size + 1 + 1, 0, none⟩) (by simp; omega) _).other (p := ⟨w.heap.size + 1, 0, none⟩) (by simp; omega) _
  have HB : Hid (Below w.heap.size w ((w1.setCell ⟨w.heap.size + 1 + 1, 0, none⟩ (.slice (some ⟨B, 0, none⟩) l.length l.length)).setCell ⟨w.heap.size + 1, 0, none⟩ (.slice (some ⟨B, 0, none⟩) l.length l.length))) := by
    show Below _ _ _
    exact stores_below (b := w.heap.size + 1) (by omega) [.slice (some ⟨B, 0, none⟩) l.length l.length] _ 0 (stores_below (b := w.heap.size + 1 + 1) (by omega) [.slice (some ⟨B, 0, none⟩) l.length l.length] _ 0 hb1)
  have hz4 : B < ((w1.setCell ⟨w.heap.size + 1 + 1, 0, none⟩ (.slice (some ⟨B, 0, none⟩) l.length l.length)).setCell ⟨w.heap.size + 1, 0, none⟩ (.slice (some ⟨B, 0, none⟩) l.length l.length)).heap.size := HF4.out.lt
  generalize ((w1.setCell ⟨w.heap.size + 1 + 1, 0, none⟩ (.slice (some ⟨B, 0, none⟩) l.length l.length)).setCell ⟨w.heap.size + 1, 0, none⟩ (.slice (some ⟨B, 0, none⟩) l.length l.length)) = W at HQ4 HB HF4 hz4 ⊢
  have e0 := HQ4.loc 0 (by simp)
  simp only [List.getElem_toArray, List.getElem_cons_zero] at e0
  exact bodyPost_ret (v := .agg #[.slice (some ⟨B, 0, none⟩) l.length l.length]) (by simp [results, Tryz.results25, go_sem, e0]) rfl ⟨_, rfl, by omega, hz4, HB.out, HF4.out⟩

set_option maxRecDepth 100000 in
/-- laws.eqPack -/
theorem eqPack_same (v v' : Value) (l : List UInt8) (w : World) (hv : BytesV w v l) (hv' : BytesV w v' l) :
    Calls Tryz.prog 10 #[.agg #[v], .agg #[v']] w fun e w' => e = .returned (.bool true) ∧ Below w.heap.size w w' := by
  have HE : Hid (∀ u : World, Below w.heap.size w u → Calls Tryz.prog 19 #[v, v'] u fun e w' => e = .returned (.bool true) ∧ Below u.heap.size u w') := fun u hu => eqByteS_same v v' l u (hv.on hu) (hv'.on hu)
  obtain ⟨a, p, rfl, _, _, _⟩ := hv.lit
  obtain ⟨a', p', rfl, _, _, _⟩ := hv'.lit
  clear hv hv'
  go_enter Tryz.func10, Tryz.ntmps10
  go_wp2_with fail
  refine (HE.out _ (by repeat (first | with_reducible exact Below.refl _ _ | with_reducible assumption | with_reducible refine ch_alloc ?_ _ | with_reducible refine Below.drew ?_ | with_reducible refine below_draws _ ?_ | (with_reducible refine Below.setCell ?_ ?_ _; rotate_left; focus (first | with_reducible exact Nat.le_refl _ | (simp; done) | (simp; omega) | (simp at *; omega))) | with_reducible refine ch_trans ?_ (by with_reducible assumption)))).mono ?_
  rintro e w1 ⟨rfl, b1⟩
  go_wp2
  go_ret
  exact ⟨rfl, (by repeat (first | with_reducible exact Below.refl _ _ | with_reducible assumption | with_reducible refine ch_alloc ?_ _ | with_reducible refine Below.drew ?_ | with_reducible refine below_draws _ ?_ | (with_reducible refine Below.setCell ?_ ?_ _; rotate_left; focus (first | with_reducible exact Nat.le_refl _ | (simp; done) | (simp; omega) | (simp at *; omega))) | with_reducible refine ch_trans ?_ (by with_reducible assumption)))⟩

set_option maxRecDepth 100000 in
/-- laws.markPack, from laws.markByteS -/
theorem markPack_of {R : World → Prop} (a : Option Addr) (n c : Nat) (k m : Nat) (w : World) (h : Calls Tryz.prog 20 #[.slice a n c, .int .i64 k] (w.alloc (.cells #[.slice a n c] 28)) fun e w' => e = .returned (.int .i64 (m : Int)) ∧ R w') :
    Calls Tryz.prog 13 #[.agg #[.slice a n c], .int .i64 k] w fun e w' => e = .returned (.int .i64 (m : Int)) ∧ R w' := by
  have HH : Hid (Calls Tryz.prog 20 #[.slice a n c, .int .i64 k] (w.alloc (.cells #[.slice a n c] 28)) fun e w' => e = .returned (.int .i64 (m : Int)) ∧ R w') := h
  clear h
  go_enter Tryz.func13, Tryz.ntmps13
  go_wp2_with fail
  refine HH.out.mono ?_
  rintro e w1 ⟨rfl, hR⟩
  have HR : Hid (R w1) := hR
  clear hR HH
  go_wp2
  go_ret
  exact ⟨rfl, HR.out⟩

set_option maxRecDepth 100000 in
/-- laws.heldPack, from laws.heldByteS -/
theorem heldPack_of {R : World → Prop} (a : Option Addr) (n c : Nat) (k m : Nat) (w : World) (h : Calls Tryz.prog 38 #[.slice a n c, .int .i64 k] (w.alloc (.cells #[.slice a n c] 28)) fun e w' => e = .returned (.int .i64 (m : Int)) ∧ R w') :
    Calls Tryz.prog 14 #[.agg #[.slice a n c], .int .i64 k] w fun e w' => e = .returned (.int .i64 (m : Int)) ∧ R w' := by
  have HH : Hid (Calls Tryz.prog 38 #[.slice a n c, .int .i64 k] (w.alloc (.cells #[.slice a n c] 28)) fun e w' => e = .returned (.int .i64 (m : Int)) ∧ R w') := h
  have hm : decide ((m : Int) < 0) = false := by simp
  clear h
  go_enter Tryz.func14, Tryz.ntmps14
  go_wp2_with fail
  refine HH.out.mono ?_
  rintro e w1 ⟨rfl, hR⟩
  have HR : Hid (R w1) := hR
  clear hR HH
  go_wp2
  go_ret
  exact ⟨rfl, HR.out⟩

/-- How many bytes are left. -/
def cutN (n : Int) (l : List UInt8) : Nat := min n.toNat l.length
theorem Got.setP {w : World} {B : Nat} {T : TypeId} {z : Nat} {v : Value} {xs : List (Array Value)} (h : Got w B T z v xs) {p : Addr} (hp : p.block < B) (u : Value) : Got (w.setCell p u) B T z v xs :=
  h.turns ((Turns.refl (· = p.block) w).set rfl u) fun c hc => by have hc : c = p.block := hc; omega
/-- The end of PackCut: its answer is put into its block. -/
theorem cut_end {w W w1 : World} {kv : Value} {xs : List (Array Value)} (hW : Below w.heap.size w W) (HQ : Own W (w.heap.size + 1) 28 #[.slice none 0 0]) (b1 : Below (w.heap.size + 1 + 1) W w1) (hg : Got w1 (w.heap.size + 1 + 1) 5 1 kv xs) :
    (w1.setCell ⟨w.heap.size + 1, 0, none⟩ kv).cell? ⟨w.heap.size + 1, 0, none⟩ = some kv ∧ Below w.heap.size w (w1.setCell ⟨w.heap.size + 1, 0, none⟩ kv) ∧ Got (w1.setCell ⟨w.heap.size + 1, 0, none⟩ kv) w.heap.size 5 1 kv xs := by
  have HQ1 : Own w1 (w.heap.size + 1) 28 #[.slice none 0 0] := (b1.block _ (by omega)).trans HQ
  refine ⟨?_, ?_, ?_⟩
  · have := (HQ1.set 0 kv).loc 0 (by simp)
    simpa using this
  · exact stores_below (b := w.heap.size + 1) (by omega) [kv] _ 0 (hW.trans (b1.mono (by omega)))
  · exact (hg.setP (p := ⟨w.heap.size + 1, 0, none⟩) (by simp) kv).mono (by omega)
theorem cut_own {w W w1 : World} (HQ : Own W (w.heap.size + 1) 28 #[.slice none 0 0]) (b1 : Below (w.heap.size + 1 + 1) W w1) : w1.cell? ⟨w.heap.size + 1, 0, none⟩ = some (.slice none 0 0) ∧ w1.frozen? ⟨w.heap.size + 1, 0, none⟩ = false := by
  have HQ1 : Own w1 (w.heap.size + 1) 28 #[.slice none 0 0] := (b1.block _ (by omega)).trans HQ
  exact ⟨HQ1.loc 0 (by simp), HQ1.frozen 0⟩
end Go.Proofs.YtiijahoheajppaaGreat

namespace Go.Proofs.YtiijahoheajppaaGreat
open Go.ChangeShapes Go.WideShapes Go.ChangeAt Go.RowKit

/-- What is written of words. -/
def wordsL (ks : List ByteArray) : List UInt8 := [UInt8.ofNat ks.length] ++ ks.flatMap textL
/-- What is written of a part. -/
def partL (t : Ptc) : List UInt8 := numL (stmtL t.st).length 2 ++ stmtL t.st ++ wordsL t.cols ++ wordsL t.keys
/-- What is written of a batch ahead of the sum. -/
def batB (t : Btc) : List UInt8 := [80] ++ numL t.lsn.toNat 2 ++ numL t.prev.toNat 2 ++ [UInt8.ofNat t.parts.length] ++ t.parts.flatMap partL
/-- What is written of a batch. -/
def batL (t : Btc) : List UInt8 := batB t ++ numL (sumL (batB t)) 3
theorem fewW_size {ks : List ByteArray} (h : fewW ks) : ∀ s ∈ ks, s.size ≤ 8 := fun s hs => by
  obtain ⟨i, hi, rfl⟩ := List.getElem_of_mem hs
  exact wordB_size (h.2 i hi)
theorem wordsL_length {ks : List ByteArray} (h : fewW ks) : (wordsL ks).length ≤ 249 := by
  have h8 := h.1
  have := flat_text ks fun s hs => Nat.le_trans (fewW_size h s hs) (by omega)
  simp only [wordsL, List.length_append, List.length_cons, List.length_nil]
  omega
theorem partL_length {t : Ptc} (h : t.right) : (partL t).length ≤ 2500 := by
  have h1 := stmtL_length h.1
  have h2 := wordsL_length h.2.1
  have h3 := wordsL_length h.2.2
  simp only [partL, List.length_append, numL_length]
  omega
theorem flat_part : ∀ ts : List Ptc, (∀ t ∈ ts, t.right) → (ts.flatMap partL).length ≤ ts.length * 2500
  | [], _ => by simp
  | t :: r, h => by
    have h1 := partL_length (h t (by simp))
    have h2 := flat_part r fun x hx => h x (by simp [hx])
    rw [List.flatMap_cons, List.length_append, List.length_cons]; omega
theorem batB_length {t : Btc} (h : t.right) : (batB t).length ≤ 160000 := by
  have h1 := flat_part t.parts fun x hx => by
    obtain ⟨i, hi, rfl⟩ := List.getElem_of_mem hx
    exact h.2.2 i hi
  have h60 := h.2.1
  simp only [batB, List.length_append, numL_length, List.length_cons, List.length_nil]
  omega
theorem sumL_lt (l : List UInt8) : sumL l < 16777213 := by
  rcases List.eq_nil_or_concat l with rfl | ⟨l', c, rfl⟩
  · decide
  · rw [List.concat_eq_append, sumL_snoc]; exact Nat.mod_lt _ (by omega)

set_option maxRecDepth 100000 in
set_option maxHeartbeats 2000000 in
/-- (*impl.byteWriter).part -/
theorem part_any (bw : Nat) (x : Array Value) (t : Ptc) (L : List UInt8) (w : World) (h : WIs w bw L) (hx : ∀ u, Wt bw w u → PartV u x t) (hf : t.fit) (hr : t.right) (hL : L.length ≤ 200000) :
    Calls Tryz.prog 71 #[.pointer (some ⟨bw, 0, none⟩), .agg x] w fun e w' => e = .returned (.tuple #[]) ∧ WIs w' bw (L ++ partL t) ∧ Wt bw w w' := by
  obtain ⟨ka, kp, ra, rp, ca, cp, oa, op, ya, yp, za, zp, rfl, _, _, _, _⟩ := (hx w (Wt.refl _ _)).lit
  have hlw := h.lt
  have hsl := stmtL_length hr.1
  have HX : Hid (∀ u, Wt bw w u → StmtV u #[.int .i64 t.st.kind, .string t.st.table, .slice ka t.st.key.length kp, .slice ra t.st.row.length rp, .int .i64 t.st.ddl.kind, .string t.st.ddl.table, .slice ca t.st.ddl.cols.length cp, .slice oa t.st.ddl.keys.length op, .string t.st.ddl.name, .string t.st.ddl.to] t.st ∧ StrsV u (.slice ya t.cols.length yp) t.cols ∧ StrsV u (.slice za t.keys.length zp) t.keys) := fun u hu => by
    obtain ⟨_, _, _, _, _, _, _, _, _, _, _, _, e1, _, h1, h2, h3⟩ := (hx u hu).lit
    cases e1
    exact ⟨h1, h2, h3⟩
  have HSB : Hid (∀ u, Wt bw w u → Calls Tryz.prog 45 #[.agg #[.int .i64 t.st.kind, .string t.st.table, .slice ka t.st.key.length kp, .slice ra t.st.row.length rp, .int .i64 t.st.ddl.kind, .string t.st.ddl.table, .slice ca t.st.ddl.cols.length cp, .slice oa t.st.ddl.keys.length op, .string t.st.ddl.name, .string t.st.ddl.to]] u fun e w' => ∃ v', e = .returned (.tuple #[v', .bool true]) ∧ Below u.heap.size u w' ∧ Got w' u.heap.size 5 1 v' ((stmtL t.st).map byX)) := fun u hu => stmtBytes_impl _ t.st u (HX.out u hu).1 hf.1 true _ (Or.inl ⟨rfl, hr.1, rfl⟩)
  have HD : Hid (partL t = numL (stmtL t.st).length 2 ++ stmtL t.st ++ wordsL t.cols ++ wordsL t.keys) := rfl
  have h8c := hr.2.1.1
  have h8k := hr.2.2.1
  have HCS : Hid (∀ s ∈ t.cols, s.size ≤ 30) := fun s hs => Nat.le_trans (fewW_size hr.2.1 s hs) (by omega)
  have HKS : Hid (∀ s ∈ t.keys, s.size ≤ 30) := fun s hs => Nat.le_trans (fewW_size hr.2.2 s hs) (by omega)
  have hcl := wordsL_length hr.2.1
  obtain ⟨vw, ho, hw⟩ := h
  obtain ⟨aw, nw, cw, rfl, hw⟩ := hw.lit2
  have HW : Hid (Own w bw 120 #[.slice aw nw cw] ∧ Got w (bw + 1) 5 1 (.slice aw nw cw) (L.map byX)) := ⟨ho, hw⟩
  have HAP : Hid (∀ c, (Value.slice aw nw cw).ownBlock = some c → c < w.heap.size) := fun c hc => by
    obtain ⟨cur, h⟩ := hw.tag hc
    exact (Array.getElem?_eq_some_iff.1 h).1
  have hs1 : 1 ≤ (stmtL t.st).length := by simp [stmtL]
  clear ho hw
  generalize stmtL t.st = SL at HSB HD hsl hs1
  generalize partL t = D at HD ⊢
  have hb0 : Below w.heap.size w (w.alloc (.cells #[.int .i64 t.st.kind, .string t.st.table, .slice ka t.st.key.length kp, .slice ra t.st.row.length rp, .int .i64 t.st.ddl.kind, .string t.st.ddl.table, .slice ca t.st.ddl.cols.length cp, .slice oa t.st.ddl.keys.length op, .string t.st.ddl.name, .string t.st.ddl.to, .slice ya t.cols.length yp, .slice za t.keys.length zp] 68)) := (by repeat (first | with_reducible exact Below.refl _ _ | with_reducible assumption | with_reducible refine ch_alloc ?_ _ | with_reducible refine Below.drew ?_ | with_reducible refine below_draws _ ?_ | (with_reducible refine Below.setCell ?_ ?_ _; rotate_left; focus (first | with_reducible exact Nat.le_refl _ | (simp; done) | (simp; omega) | (simp at *; omega))) | with_reducible refine ch_trans ?_ (by with_reducible assumption)))
  have HT0 : Hid (Wt bw w (w.alloc (.cells #[.int .i64 t.st.kind, .string t.st.table, .slice ka t.st.key.length kp, .slice ra t.st.row.length rp, .int .i64 t.st.ddl.kind, .string t.st.ddl.table, .slice ca t.st.ddl.cols.length cp, .slice oa t.st.ddl.keys.length op, .string t.st.ddl.name, .string t.st.ddl.to, .slice ya t.cols.length yp, .slice za t.keys.length zp] 68))) := Wt.new hb0 (by omega)
  have HV0 := Own.new w 68 #[.int .i64 t.st.kind, .string t.st.table, .slice ka t.st.key.length kp, .slice ra t.st.row.length rp, .int .i64 t.st.ddl.kind, .string t.st.ddl.table, .slice ca t.st.ddl.cols.length cp, .slice oa t.st.ddl.keys.length op, .string t.st.ddl.name, .string t.st.ddl.to, .slice ya t.cols.length yp, .slice za t.keys.length zp]
  clear hx hf hr
  obtain ⟨d0, d1, d2, d3, d4, d5, d6, d7, d8, d9, d10, d11⟩ := HV0.loc.twelve
  go_enter Tryz.func71, Tryz.ntmps71
  go_wp2_with fail
  refine (HSB.out _ HT0.out).mono ?_
  rintro e w1 ⟨v1, rfl, b1, hg1⟩
  obtain ⟨a1, c1, rfl, hl1, hm1, hr1, hfrom⟩ := hg1.row
  rw [List.length_map] at hg1 hl1 ⊢
  have HG1 : Hid (Got w1 (w.heap.size + 1) 5 1 (.slice a1 SL.length c1) (SL.map byX)) := by show Got _ _ _ _ _ _; simpa using hg1
  have HT1 : Hid (Wt bw w w1) := HT0.out.trans (Wt.new b1 (by simp; omega))
  have HV1 : Hid (Own w1 w.heap.size 68 #[.int .i64 t.st.kind, .string t.st.table, .slice ka t.st.key.length kp, .slice ra t.st.row.length rp, .int .i64 t.st.ddl.kind, .string t.st.ddl.table, .slice ca t.st.ddl.cols.length cp, .slice oa t.st.ddl.keys.length op, .string t.st.ddl.name, .string t.st.ddl.to, .slice ya t.cols.length yp, .slice za t.keys.length zp]) := HV0.on b1
  have HO1 : Hid (Own w1 bw 120 #[.slice aw nw cw] ∧ Got w1 (bw + 1) 5 1 (.slice aw nw cw) (L.map byX)) := ⟨HW.out.1.on (ch_trans hb0 b1), HW.out.2.on (ch_trans hb0 b1)⟩
  obtain ⟨g1, o1, rfl, hgo⟩ := hr1.bytes 0 (by omega)
  have hg1a : w.heap.size + 1 ≤ g1 := by simpa using hg1.own (c := g1) rfl
  have hg1b : g1 < w1.heap.size := by
    obtain ⟨cur, h⟩ := hg1.tag (c := g1) rfl
    exact (Array.getElem?_eq_some_iff.1 h).1
  have hbv1 : Below w1.heap.size w1 (w1.alloc (.cells #[.int .i64 (SL.length : Int)] 3)) := (by repeat (first | with_reducible exact Below.refl _ _ | with_reducible assumption | with_reducible refine ch_alloc ?_ _ | with_reducible refine Below.drew ?_ | with_reducible refine below_draws _ ?_ | (with_reducible refine Below.setCell ?_ ?_ _; rotate_left; focus (first | with_reducible exact Nat.le_refl _ | (simp; done) | (simp; omega) | (simp at *; omega))) | with_reducible refine ch_trans ?_ (by with_reducible assumption)))
  have hz1 : (w1.alloc (.cells #[.int .i64 (SL.length : Int)] 3)).heap.size = w1.heap.size + 1 := by simp
  have hlw1 : bw < w1.heap.size := by omega
  clear hgo hg1 hr1 hfrom b1 HW hb0 HT0 HV0 d0 d1 d2 d3 d4 d5 d6 d7 d8 d9 d10 d11
  go_wp2_with fail
  refine (nums_x bw 2 (.slice (some ⟨w1.heap.size, 0, none⟩) 1 1) (.slice aw nw cw) [SL.length] L (w1.alloc (.cells #[.int .i64 (SL.length : Int)] 3)) (HO1.out.1.on hbv1) (HO1.out.2.on hbv1) (fun u hu => by simpa using ints_one (hu.own (Own.new w1 3 #[.int .i64 (SL.length : Int)]) (by omega) (by decide))) (by omega) (by simp; omega)).mono ?_
  rintro e w2 ⟨a2, n2, c2, rfl, ho2, hg2, ht2, hu2, hli2⟩
  have HO2 : Own w2 bw 120 #[.slice a2 n2 c2] := ho2
  have HG2 : Hid (Got w2 (bw + 1) 5 1 (.slice a2 n2 c2) ((L ++ numL SL.length 2).map byX)) := by show Got _ _ _ _ _ _; simpa using hg2
  have HS2 : Hid (RowAt w2 (some ⟨g1, o1, none⟩) 1 (SL.map byX)) := by
    have h := (HG1.out.on hbv1).turned hu2 (fun c hc h => by
      have hc : g1 = c := by simpa [Value.ownBlock] using hc
      rcases h with h | h
      · omega
      · have := HAP.out c h; omega)
    obtain ⟨_, _, e1, _, _, h, _⟩ := h.row
    injection e1 with h1 _ _
    subst h1
    exact h
  have HT2 : Hid (Wt bw w w2) := HT1.out.trans ((Wt.new hbv1 (by omega)).trans ht2)
  have HV2 : Hid (Own w2 w.heap.size 68 #[.int .i64 t.st.kind, .string t.st.table, .slice ka t.st.key.length kp, .slice ra t.st.row.length rp, .int .i64 t.st.ddl.kind, .string t.st.ddl.table, .slice ca t.st.ddl.cols.length cp, .slice oa t.st.ddl.keys.length op, .string t.st.ddl.name, .string t.st.ddl.to, .slice ya t.cols.length yp, .slice za t.keys.length zp]) := ht2.own (HV1.out.on hbv1) (by omega) (by decide)
  have g0 := HO2.loc.one
  have hl2 := HO2.lt
  clear ho2 hg2 ht2 hu2 hli2 HO1 HT1 HV1 HG1 hbv1 hz1
  go_wp2_with (at_builtin; refine app_lotT rfl (.tmp 21) (.tmp 22) rfl Tryz.underlying26 infoByte rfl (by decide) (by decide) (bw + 1) _ _ rfl HG2.out g1 o1 _ (SL.map byX) SL.length (by simp) rfl HS2.out (byte_one _) (by simp [numL_length]; omega) (by omega) ?_; intro v3 w3 hg3 hb3 ht3; obtain ⟨a3, n3, c3, rfl, hg3⟩ := hg3.lit2; have HO3 : Own w3 bw 120 #[.slice a2 n2 c2] := (hb3.block bw (by omega)).trans HO2; have k0 := HO3.loc.one; have k1 := HO3.frozen 0; have hO4 := ((Byt.got HG2.out ht3).own HV2.out (by decide)).other (p := ⟨bw, 0, none⟩) (show w.heap.size ≠ bw by omega) (.slice a3 n3 c3); obtain ⟨d0, d1, d2, d3, d4, d5, d6, d7, d8, d9, d10, d11⟩ := hO4.loc.twelve)
  have HG3 : Got w3 (bw + 1) 5 1 (.slice a3 n3 c3) ((L ++ numL SL.length 2 ++ SL).map byX) := by rw [List.map_append]; exact hg3
  have HW4 : Hid (WIs (w3.setCell ⟨bw, 0, none⟩ (.slice a3 n3 c3)) bw (L ++ numL SL.length 2 ++ SL)) := WIs.put HO3 HG3
  have HT4a : Wt bw w2 (w3.setCell ⟨bw, 0, none⟩ (.slice a3 n3 c3)) := (Wt.of (Byt.got HG2.out ht3) hb3).trans (Wt.set bw w3 _)
  have HT4 : Hid (Wt bw w (w3.setCell ⟨bw, 0, none⟩ (.slice a3 n3 c3))) := HT2.out.trans HT4a
  have HV4 : Hid (Own (w3.setCell ⟨bw, 0, none⟩ (.slice a3 n3 c3)) w.heap.size 68 #[.int .i64 t.st.kind, .string t.st.table, .slice ka t.st.key.length kp, .slice ra t.st.row.length rp, .int .i64 t.st.ddl.kind, .string t.st.ddl.table, .slice ca t.st.ddl.cols.length cp, .slice oa t.st.ddl.keys.length op, .string t.st.ddl.name, .string t.st.ddl.to, .slice ya t.cols.length yp, .slice za t.keys.length zp]) := HT4a.own HV2.out (by omega) (by decide)
  clear hg3 hb3 ht3 HG3 HO3 k0 k1 HT4a HT2 HV2 HS2 HG2 g0 HO2 hO4
  generalize w3.setCell ⟨bw, 0, none⟩ (.slice a3 n3 c3) = w4 at HW4 HT4 HV4 ⊢
  refine (words_any bw ya yp t.cols (L ++ numL SL.length 2 ++ SL) w4 HW4.out (fun u hu => (HX.out u (HT4.out.trans hu)).2.1.row) h8c HCS.out (by simp only [List.length_append, numL_length]; omega)).mono ?_
  rintro e w5 ⟨rfl, hw5, ht5⟩
  have HW5 : Hid (WIs w5 bw (L ++ numL SL.length 2 ++ SL ++ wordsL t.cols)) := by show WIs _ _ _; rw [List.append_assoc _ [_]] at hw5; exact hw5
  have HT5 : Hid (Wt bw w w5) := HT4.out.trans ht5
  have HV5 : Hid (Own w5 w.heap.size 68 #[.int .i64 t.st.kind, .string t.st.table, .slice ka t.st.key.length kp, .slice ra t.st.row.length rp, .int .i64 t.st.ddl.kind, .string t.st.ddl.table, .slice ca t.st.ddl.cols.length cp, .slice oa t.st.ddl.keys.length op, .string t.st.ddl.name, .string t.st.ddl.to, .slice ya t.cols.length yp, .slice za t.keys.length zp]) := ht5.own HV4.out (by omega) (by decide)
  clear hw5 ht5 HW4 HT4 HV4 d0 d1 d2 d3 d4 d5 d6 d7 d8 d9 d10 d11
  obtain ⟨d0, d1, d2, d3, d4, d5, d6, d7, d8, d9, d10, d11⟩ := HV5.out.loc.twelve
  go_wp2_with fail
  refine (words_any bw za zp t.keys (L ++ numL SL.length 2 ++ SL ++ wordsL t.cols) w5 HW5.out (fun u hu => (HX.out u (HT5.out.trans hu)).2.2.row) h8k HKS.out (by simp only [List.length_append, numL_length]; omega)).mono ?_
  rintro e w6 ⟨rfl, hw6, ht6⟩
  have HW6 : Hid (WIs w6 bw (L ++ D)) := by
    show WIs _ _ _
    rw [HD.out]
    rw [List.append_assoc _ [_]] at hw6
    simpa [wordsL] using hw6
  have HT6 : Hid (Wt bw w w6) := HT5.out.trans ht6
  clear hw6 ht6 HW5 HT5 HV5
  go_wp2
  first | go_end0 | (refine bodyPost_end (results_none rfl _ _ _) rfl ?_) | (refine bodyPost_ret (results_none rfl _ _ _) rfl ?_)
  exact ⟨rfl, HW6.out, HT6.out⟩

set_option maxRecDepth 100000 in
set_option maxHeartbeats 2000000 in
/-- impl.packBytes -/
theorem packBytes_any (x : Array Value) (t : Btc) (w : World) (hx : BatV w x t) (hf : t.fit) (q : Bool) (L : List UInt8) (hq : (q = true ∧ t.right ∧ L = batL t) ∨ (q = false ∧ ¬ t.right ∧ L = [])) :
    Calls Tryz.prog 35 #[.agg x] w fun e w' => ∃ v', e = .returned (.tuple #[v', .bool q]) ∧ Below w.heap.size w w' ∧ Got w' w.heap.size 5 1 v' (L.map byX) := by
  have hbo := fun u (hu : Below w.heap.size w u) => batchOk_impl x t u (hx.on hu) hf
  obtain ⟨a, p, rfl, hps⟩ := hx
  have HSO : Hid (∀ u : World, Below w.heap.size w u → Calls Tryz.prog 68 #[.agg #[.int .i64 t.lsn, .int .i64 t.prev, .slice a t.parts.length p]] u fun e w' => e = .returned (.bool q) ∧ Below u.heap.size u w') := fun u hu => (hbo u hu).mono fun e w' ⟨r, he, hr, hb⟩ => ⟨by
    rw [he]
    have : r = q := by
      rcases hq with ⟨rfl, h, _⟩ | ⟨rfl, h, _⟩
      · exact hr.2 h
      · cases r with
        | false => rfl
        | true => exact absurd (hr.1 rfl) h
    rw [this], hb⟩
  have HX : Hid (PartsV w (.slice a t.parts.length p) t.parts) := hps
  have HF : Hid (pfits t.parts) := hf
  clear hps hf hbo
  rcases hq with ⟨rfl, hr, rfl⟩ | ⟨rfl, hr, rfl⟩
  rotate_left
  · clear hr HX HF
    go_enter Tryz.func35, Tryz.ntmps35
    go_wp2_with fail
    refine (HSO.out _ (by repeat (first | with_reducible exact Below.refl _ _ | with_reducible assumption | with_reducible refine ch_alloc ?_ _ | with_reducible refine Below.drew ?_ | with_reducible refine below_draws _ ?_ | (with_reducible refine Below.setCell ?_ ?_ _; rotate_left; focus (first | with_reducible exact Nat.le_refl _ | (simp; done) | (simp; omega) | (simp at *; omega))) | with_reducible refine ch_trans ?_ (by with_reducible assumption)))).mono ?_
    rintro e w0 ⟨rfl, b0⟩
    go_wp2
    go_ret2
    exact ⟨_, rfl, (by repeat (first | with_reducible exact Below.refl _ _ | with_reducible assumption | with_reducible refine ch_alloc ?_ _ | with_reducible refine Below.drew ?_ | with_reducible refine below_draws _ ?_ | (with_reducible refine Below.setCell ?_ ?_ _; rotate_left; focus (first | with_reducible exact Nat.le_refl _ | (simp; done) | (simp; omega) | (simp at *; omega))) | with_reducible refine ch_trans ?_ (by with_reducible assumption))), Got.nil _ _ _ _⟩
  have hbl := batB_length hr
  obtain ⟨⟨hn1, hn4, hp0, hp1⟩, h60, hpr⟩ := hr
  have hprr : ∀ t' ∈ t.parts, t'.right := fun x hx => by
    obtain ⟨i, hi, rfl⟩ := List.getElem_of_mem hx
    exact hpr i hi
  have hfl := flat_part t.parts hprr
  have HPR : Hid (∀ t' ∈ t.parts, t'.right) := hprr
  have HD : Hid (batL t = batB t ++ numL (sumL (batB t)) 3) := rfl
  have HB : Hid (batB t = [80] ++ numL t.lsn.toNat 2 ++ numL t.prev.toNat 2 ++ [UInt8.ofNat t.parts.length] ++ t.parts.flatMap partL) := rfl
  clear hpr hprr
  generalize batL t = D at HD ⊢
  generalize batB t = BB at HD HB hbl
  obtain ⟨lsn, prev, ts⟩ := t
  simp only at *
  obtain ⟨N, rfl⟩ : ∃ N : Nat, lsn = (N : Int) := ⟨lsn.toNat, by omega⟩
  obtain ⟨P, rfl⟩ : ∃ P : Nat, prev = (P : Int) := ⟨prev.toNat, by omega⟩
  simp only [Int.toNat_natCast] at HB
  obtain ⟨_, _, e0, hlp, hmp, _⟩ := HX.out.lit
  cases e0
  unfold maxLen at hmp
  go_enter Tryz.func35, Tryz.ntmps35
  go_wp2_with fail
  refine (HSO.out _ (by repeat (first | with_reducible exact Below.refl _ _ | with_reducible assumption | with_reducible refine ch_alloc ?_ _ | with_reducible refine Below.drew ?_ | with_reducible refine below_draws _ ?_ | (with_reducible refine Below.setCell ?_ ?_ _; rotate_left; focus (first | with_reducible exact Nat.le_refl _ | (simp; done) | (simp; omega) | (simp at *; omega))) | with_reducible refine ch_trans ?_ (by with_reducible assumption)))).mono ?_
  rintro e w0 ⟨rfl, b0⟩
  have HV0 : Hid (Own w0 w.heap.size 33 #[.int .i64 (N : Int), .int .i64 (P : Int), .slice a ts.length p]) := (Own.new _ _ _).on b0
  have hb0 : Below w.heap.size w w0 := ch_trans (ch_alloc (Below.refl _ _) _) b0
  have hvw0 : w.heap.size < w0.heap.size := HV0.out.lt
  clear b0 HSO
  obtain ⟨d0, d1, d2⟩ := HV0.out.loc.three
  go_wp2_with fail
  refine (writerOf_any (.slice (some ⟨w0.heap.size, 0, none⟩) 1 1) [80] (w0.alloc (.cells #[.int .i64 80] 3)) (by simpa using ints_one (Own.new w0 3 #[.int .i64 80])) (by simp)).mono ?_
  rintro e w1 ⟨bw, rfl, hbw, b1, hw1⟩
  have HW1 : Hid (WIs w1 bw [80]) := by show WIs _ _ _; simpa [numL_one] using hw1
  have hbw1 : w0.heap.size + 1 ≤ bw := by simpa using hbw
  have hb01 : Below w0.heap.size w0 w1 := ch_trans (ch_alloc (Below.refl _ _) _) b1
  have HV1 : Hid (Own w1 w.heap.size 33 #[.int .i64 (N : Int), .int .i64 (P : Int), .slice a ts.length p]) := HV0.out.on hb01
  have hb1 : Below w.heap.size w w1 := ch_trans hb0 hb01
  have hlw1 : bw < w1.heap.size := hw1.lt
  clear hw1 b1 hb01 hbw d0 d1 d2 HV0 hb0
  obtain ⟨d0, d1, d2⟩ := HV1.out.loc.three
  go_wp2_with fail
  refine (nums_any bw 2 (.slice (some ⟨w1.heap.size, 0, none⟩) 2 2) [N, P] [80] (w1.alloc (.cells #[.int .i64 (N : Int), .int .i64 (P : Int)] 3)) (HW1.out.on (by repeat (first | with_reducible exact Below.refl _ _ | with_reducible assumption | with_reducible refine ch_alloc ?_ _ | with_reducible refine Below.drew ?_ | with_reducible refine below_draws _ ?_ | (with_reducible refine Below.setCell ?_ ?_ _; rotate_left; focus (first | with_reducible exact Nat.le_refl _ | (simp; done) | (simp; omega) | (simp at *; omega))) | with_reducible refine ch_trans ?_ (by with_reducible assumption)))) (fun u hu => by simpa using ints_two (hu.own (Own.new w1 3 #[.int .i64 (N : Int), .int .i64 (P : Int)]) (by omega) (by decide))) (by omega) (by simp)).mono ?_
  rintro e w2 ⟨rfl, hw2, ht2⟩
  have HW2 : Hid (WIs w2 bw ([80] ++ numL N 2 ++ numL P 2)) := by show WIs _ _ _; simpa using hw2
  have HT2 : Hid (Wt bw w1 w2) := (Wt.new (ch_alloc (Below.refl _ _) _) (by omega)).trans ht2
  have HV2 : Hid (Own w2 w.heap.size 33 #[.int .i64 (N : Int), .int .i64 (P : Int), .slice a ts.length p]) := HT2.out.own HV1.out (by omega) (by decide)
  have hlw2 : bw < w2.heap.size := hw2.lt
  clear hw2 ht2 HW1 HV1 d0 d1 d2
  obtain ⟨d0, d1, d2⟩ := HV2.out.loc.three
  go_wp2_with fail
  refine (nums_one bw w2.heap.size 1 ts.length ([80] ++ numL N 2 ++ numL P 2) (w2.alloc (.cells #[.int .i64 (ts.length : Int)] 3)) (HW2.out.on (by repeat (first | with_reducible exact Below.refl _ _ | with_reducible assumption | with_reducible refine ch_alloc ?_ _ | with_reducible refine Below.drew ?_ | with_reducible refine below_draws _ ?_ | (with_reducible refine Below.setCell ?_ ?_ _; rotate_left; focus (first | with_reducible exact Nat.le_refl _ | (simp; done) | (simp; omega) | (simp at *; omega))) | with_reducible refine ch_trans ?_ (by with_reducible assumption)))) (Own.new _ _ _) (by omega) (by omega) (by simp [numL_length])).mono ?_
  rintro e w3 ⟨rfl, hw3, ht3⟩
  have HW3 : Hid (WIs w3 bw ([80] ++ numL N 2 ++ numL P 2 ++ [UInt8.ofNat ts.length])) := by show WIs _ _ _; rw [numL_one] at hw3; exact hw3
  have HT3 : Hid (Wt bw w1 w3) := HT2.out.trans ((Wt.new (ch_alloc (Below.refl _ _) _) (by omega)).trans ht3)
  have HV3 : Hid (Own w3 w.heap.size 33 #[.int .i64 (N : Int), .int .i64 (P : Int), .slice a ts.length p]) := ht3.own (HV2.out.on (ch_alloc (Below.refl _ _) _)) (by omega) (by decide)
  clear hw3 ht3 HW2 HT2 HV2 d0 d1 d2
  obtain ⟨d0, d1, d2⟩ := HV3.out.loc.three
  have HTL : Hid ((ts.take 0).flatMap partL = []) := by show _ = _; simp
  go_wp2
  go_loopw [28] (fun i wr => ∃ k : Nat, k ≤ ts.length ∧ i = .int .i64 (k : Int) ∧ Hid (Wt bw w1 wr) ∧ Hid (WIs wr bw ([80] ++ numL N 2 ++ numL P 2 ++ [UInt8.ofNat ts.length] ++ (ts.take k).flatMap partL))) (fun i _ => ts.length - (intOf i).toNat)
  case atStart => exact ⟨0, Nat.zero_le _, rfl, HT3, by
    show WIs _ _ _
    rw [HTL.out, List.append_nil]; exact HW3.out⟩
  case round =>
    clear HW3 HT3 HV3 d0 d1 d2 HTL
    obtain ⟨k, hk, rfl, HT, HW⟩ := hrel
    have hbr : Below w.heap.size w wr := hb1.trans (HT.out.1.mono (by omega))
    have hlwr : bw < wr.heap.size := HW.out.lt
    by_cases hlt : k < ts.length
    · have hlti : (k : Int) < ts.length := by omega
      obtain ⟨b, off, ka, kp, ra, rp, ca, cp, oa, op, ya, yp, za, zp, rfl, hx, e0, e1, e2, e3, e4, e5, e6, e7, e8, e9, e10, e11⟩ := HX.out.part k hlt
      have d0 := cell_on e0 hbr
      have d1 := cell_on e1 hbr
      have d2 := cell_on e2 hbr
      have d3 := cell_on e3 hbr
      have d4 := cell_on e4 hbr
      have d5 := cell_on e5 hbr
      have d6 := cell_on e6 hbr
      have d7 := cell_on e7 hbr
      have d8 := cell_on e8 hbr
      have d9 := cell_on e9 hbr
      have d10 := cell_on e10 hbr
      have d11 := cell_on e11 hbr
      have HP : Hid (∀ u, Below w.heap.size w u → PartV u #[.int .i64 ts[k].st.kind, .string ts[k].st.table, .slice ka ts[k].st.key.length kp, .slice ra ts[k].st.row.length rp, .int .i64 ts[k].st.ddl.kind, .string ts[k].st.ddl.table, .slice ca ts[k].st.ddl.cols.length cp, .slice oa ts[k].st.ddl.keys.length op, .string ts[k].st.ddl.name, .string ts[k].st.ddl.to, .slice ya ts[k].cols.length yp, .slice za ts[k].keys.length zp] ts[k]) := fun u hu => hx.on hu
      have HRK : Hid ts[k].right := HPR.out _ (List.getElem_mem hlt)
      have HFK : Hid ts[k].fit := HF.out _ (List.getElem_mem hlt)
      have hlen : ([80] ++ numL N 2 ++ numL P 2 ++ [UInt8.ofNat ts.length] ++ (ts.take k).flatMap partL).length ≤ 200000 := by
        have h1 := flat_part (ts.take k) fun x hx => HPR.out x (List.mem_of_mem_take hx)
        have h2 : (ts.take k).length ≤ 60 := by simp; omega
        simp only [List.length_append, List.length_cons, List.length_nil, numL_length]; omega
      have HFL : Hid (([80] ++ numL N 2 ++ numL P 2 ++ [UInt8.ofNat ts.length] ++ (ts.take k).flatMap partL) ++ partL ts[k] = [80] ++ numL N 2 ++ numL P 2 ++ [UInt8.ofNat ts.length] ++ (ts.take (k + 1)).flatMap partL) := by
        show _ = _
        rw [List.take_succ_eq_append_getElem hlt, List.flatMap_append]
        simp
      generalize [80] ++ numL N 2 ++ numL P 2 ++ [UInt8.ofNat ts.length] ++ (ts.take k).flatMap partL = L0 at HW hlen HFL
      have hba : Below wr.heap.size wr (wr.alloc (.cells #[.int .i64 ts[k].st.kind, .string ts[k].st.table, .slice ka ts[k].st.key.length kp, .slice ra ts[k].st.row.length rp, .int .i64 ts[k].st.ddl.kind, .string ts[k].st.ddl.table, .slice ca ts[k].st.ddl.cols.length cp, .slice oa ts[k].st.ddl.keys.length op, .string ts[k].st.ddl.name, .string ts[k].st.ddl.to, .slice ya ts[k].cols.length yp, .slice za ts[k].keys.length zp] 68)) := (by repeat (first | with_reducible exact Below.refl _ _ | with_reducible assumption | with_reducible refine ch_alloc ?_ _ | with_reducible refine Below.drew ?_ | with_reducible refine below_draws _ ?_ | (with_reducible refine Below.setCell ?_ ?_ _; rotate_left; focus (first | with_reducible exact Nat.le_refl _ | (simp; done) | (simp; omega) | (simp at *; omega))) | with_reducible refine ch_trans ?_ (by with_reducible assumption)))
      clear hx e0 e1 e2 e3 e4 e5 e6 e7 e8 e9 e10 e11
      go_wp2_with fail
      refine (part_any bw #[.int .i64 ts[k].st.kind, .string ts[k].st.table, .slice ka ts[k].st.key.length kp, .slice ra ts[k].st.row.length rp, .int .i64 ts[k].st.ddl.kind, .string ts[k].st.ddl.table, .slice ca ts[k].st.ddl.cols.length cp, .slice oa ts[k].st.ddl.keys.length op, .string ts[k].st.ddl.name, .string ts[k].st.ddl.to, .slice ya ts[k].cols.length yp, .slice za ts[k].keys.length zp] ts[k] L0 (wr.alloc (.cells #[.int .i64 ts[k].st.kind, .string ts[k].st.table, .slice ka ts[k].st.key.length kp, .slice ra ts[k].st.row.length rp, .int .i64 ts[k].st.ddl.kind, .string ts[k].st.ddl.table, .slice ca ts[k].st.ddl.cols.length cp, .slice oa ts[k].st.ddl.keys.length op, .string ts[k].st.ddl.name, .string ts[k].st.ddl.to, .slice ya ts[k].cols.length yp, .slice za ts[k].keys.length zp] 68)) (HW.out.on hba) (fun u hu => HP.out u ((ch_trans hbr hba).trans (hu.1.mono (by omega)))) HFK.out HRK.out hlen).mono ?_
      rintro e w5 ⟨rfl, hw5, ht5⟩
      have HW5 : Hid (WIs w5 bw ([80] ++ numL N 2 ++ numL P 2 ++ [UInt8.ofNat ts.length] ++ (ts.take (k + 1)).flatMap partL)) := by
        show WIs _ _ _
        rw [← HFL.out]; exact hw5
      have HT5 : Hid (Wt bw w1 w5) := HT.out.trans ((Wt.new hba (by omega)).trans ht5)
      clear hw5 ht5 HFL HW HT d0 d1 d2 d3 d4 d5 d6 d7 d8 d9 d10 d11 hba HP HRK HFK
      go_wp2
      go_round
      case rel => exact ⟨k + 1, by omega, by go_num, HT5, HW5⟩
      case measure => simp [intOf]; omega
    · have hlti : (ts.length : Int) ≤ k := by omega
      have HWf : Hid (WIs wr bw BB) := by
        have h := HW.out
        rw [List.take_of_length_le (by omega)] at h
        show WIs _ _ _
        rw [HB.out]; exact h
      obtain ⟨aw, nw, cw, hcell, hgw⟩ := writer_out HWf.out
      have HGW : Hid (Got wr (bw + 1) 5 1 (.slice aw nw cw) (BB.map byX)) := hgw
      clear hgw HW HB
      go_wp2_with fail
      refine (sum_impl _ BB wr HGW.out.bytes).mono ?_
      rintro e w6 ⟨rfl, b6⟩
      have HW6 : Hid (WIs w6 bw BB) := HWf.out.on b6
      have HB6 : Hid (Below w.heap.size w w6) := ch_trans hbr b6
      have hlw6 : bw < w6.heap.size := HW6.out.lt
      have hsl := sumL_lt BB
      clear hcell HGW HWf b6
      go_wp2_with fail
      refine (nums_one bw w6.heap.size 3 (sumL BB) BB (w6.alloc (.cells #[.int .i64 (sumL BB : Int)] 3)) (HW6.out.on (by repeat (first | with_reducible exact Below.refl _ _ | with_reducible assumption | with_reducible refine ch_alloc ?_ _ | with_reducible refine Below.drew ?_ | with_reducible refine below_draws _ ?_ | (with_reducible refine Below.setCell ?_ ?_ _; rotate_left; focus (first | with_reducible exact Nat.le_refl _ | (simp; done) | (simp; omega) | (simp at *; omega))) | with_reducible refine ch_trans ?_ (by with_reducible assumption)))) (Own.new _ _ _) (by omega) (by omega) (by omega)).mono ?_
      rintro e w7 ⟨rfl, hw7, ht7⟩
      have HB7 : Hid (Below w.heap.size w w7) := (ch_trans HB6.out (ch_alloc (Below.refl _ _) _)).trans (ht7.1.mono (by omega))
      obtain ⟨a7, n7, c7, hc7, hg7⟩ := writer_out hw7
      have HG7 : Hid (Got w7 w.heap.size 5 1 (.slice a7 n7 c7) (D.map byX)) := by
        show Got _ _ _ _ _ _
        rw [HD.out]; exact hg7.mono (by omega)
      clear hw7 ht7 hg7 HW6 HB6
      go_wp2
      go_ret2
      exact ⟨_, rfl, HB7.out, HG7.out⟩

set_option maxRecDepth 100000 in
set_option maxHeartbeats 1000000 in
/-- impl.PackOf -/
theorem packOf_impl (x : Array Value) (t : Btc) (w : World) (hx : BatV w x t) (hf : t.fit) (q : Bool) (L : List UInt8) (hq : (q = true ∧ t.right ∧ L = batL t) ∨ (q = false ∧ ¬ t.right ∧ L = [])) :
    Calls Tryz.prog 9 #[.agg x] w fun e w' => ∃ v', e = .returned (.tuple #[.agg #[v'], .bool q]) ∧ Below w.heap.size w w' ∧ Got w' w.heap.size 5 1 v' (L.map byX) := by
  have HPB : Hid (∀ u, Below w.heap.size w u → Calls Tryz.prog 35 #[.agg x] u fun e w' => ∃ v', e = .returned (.tuple #[v', .bool q]) ∧ Below u.heap.size u w' ∧ Got w' u.heap.size 5 1 v' (L.map byX)) := fun u hu => packBytes_any x t u (hx.on hu) hf q L hq
  obtain ⟨a, p, rfl, _⟩ := hx
  have hw0 : Below w.heap.size w ((w.alloc (.cells #[.int .i64 t.lsn, .int .i64 t.prev, .slice a t.parts.length p] 33)).alloc (.cells #[.slice none 0 0] 28)) := (by repeat (first | with_reducible exact Below.refl _ _ | with_reducible assumption | with_reducible refine ch_alloc ?_ _ | with_reducible refine Below.drew ?_ | with_reducible refine below_draws _ ?_ | (with_reducible refine Below.setCell ?_ ?_ _; rotate_left; focus (first | with_reducible exact Nat.le_refl _ | (simp; done) | (simp; omega) | (simp at *; omega))) | with_reducible refine ch_trans ?_ (by with_reducible assumption)))
  have hz0 : ((w.alloc (.cells #[.int .i64 t.lsn, .int .i64 t.prev, .slice a t.parts.length p] 33)).alloc (.cells #[.slice none 0 0] 28)).heap.size = w.heap.size + 1 + 1 := by simp
  have HQ := Own.at (w.alloc (.cells #[.int .i64 t.lsn, .int .i64 t.prev, .slice a t.parts.length p] 33)) 28 #[.slice none 0 0] (n := w.heap.size + 1) (by simp)
  clear hq hf
  go_enter Tryz.func9, Tryz.ntmps9
  go_wp2_with fail
  refine (HPB.out _ hw0).mono ?_
  rintro e w1 ⟨kv, rfl, b1, hg⟩
  rw [hz0] at b1 hg
  obtain ⟨a1, n1, c1, rfl, hg⟩ := hg.lit2
  obtain ⟨d0, d1⟩ := cut_own HQ b1
  obtain ⟨k0, k1, k2⟩ := cut_end hw0 HQ b1 hg
  have K2 : Hid (Got (w1.setCell ⟨w.heap.size + 1, 0, none⟩ (.slice a1 n1 c1)) w.heap.size 5 1 (.slice a1 n1 c1) _) := k2
  have K1 : Hid _ := k1
  clear k1 k2 b1 hg HQ hw0 HPB
  go_wp2
  generalize w1.setCell ⟨w.heap.size + 1, 0, none⟩ (.slice a1 n1 c1) = W at k0 K1 K2 ⊢
  exact bodyPost_ret (v := .tuple #[.agg #[.slice a1 n1 c1], .bool q]) (by simp [results, Tryz.results9, go_sem, k0]) rfl ⟨_, rfl, K1.out, K2.out⟩
end Go.Proofs.YtiijahoheajppaaGreat
