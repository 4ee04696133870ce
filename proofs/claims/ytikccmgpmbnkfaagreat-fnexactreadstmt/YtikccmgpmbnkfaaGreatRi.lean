/- The landed reader of bytes. -/
import Derived.Test.YtikccmgpmbnkfaaGreatRv
import Derived.Test.YtikccmgpmbnkfaaGreatWq
namespace Go.Proofs.YtikccmgpmbnkfaaGreat
open Go.ChangeShapes Go.WideShapes Go.ChangeAt Go.RowKit

/-- The reader at R has l before it. -/
def RdB (w : World) (R : Nat) (l : List UInt8) : Prop := ∃ b off cap, Own w R 133 #[.slice (some ⟨b, off, none⟩) l.length cap] ∧ b < R ∧ l.length ≤ cap ∧ cap ≤ maxLen ∧ RowAt w (some ⟨b, off, none⟩) 1 (l.map byX)
theorem RdB.on {w w' : World} {R : Nat} {l : List UInt8} (h : RdB w R l) (k : Below w.heap.size w w') : RdB w' R l := by
  obtain ⟨b, off, cap, h1, h2, h3, h4, h5⟩ := h
  exact ⟨b, off, cap, h1.on k, h2, h3, h4, h5.on k⟩
theorem row_drop {w : World} {b off n : Nat} {l : List UInt8} (h : RowAt w (some ⟨b, off, none⟩) 1 (l.map byX)) : RowAt w (some ⟨b, off + n, none⟩) 1 ((l.drop n).map byX) := by
  refine ⟨fun q hq => ?_, Or.inr ⟨b, off + n, rfl, fun i hi j hj => ?_⟩⟩
  · obtain ⟨u, _, rfl⟩ := List.mem_map.1 hq; rfl
  · obtain rfl : j = 0 := by omega
    simp at hi
    obtain ⟨b', off', e, hc⟩ := h.bytes (n + i) (by omega)
    cases e
    have e1 : ((l.drop n).map byX)[i]'(by simp; omega) = byX (l[n + i]'(by omega)) := by simp
    rw [e1, Nat.mul_one, Nat.add_zero, Nat.add_assoc, hc]
    rfl
theorem row_take {w : World} {b off n : Nat} {l : List UInt8} (h : RowAt w (some ⟨b, off, none⟩) 1 (l.map byX)) : RowAt w (some ⟨b, off, none⟩) 1 ((l.take n).map byX) := by
  refine ⟨fun q hq => ?_, Or.inr ⟨b, off, rfl, fun i hi j hj => ?_⟩⟩
  · obtain ⟨u, _, rfl⟩ := List.mem_map.1 hq; rfl
  · obtain rfl : j = 0 := by omega
    simp at hi
    obtain ⟨b', off', e, hc⟩ := h.bytes i (by omega)
    cases e
    have e1 : ((l.take n).map byX)[i]'(by simp; omega) = byX (l[i]'(by omega)) := by simp
    rw [e1, Nat.mul_one, Nat.add_zero, hc]
    rfl
/-- What 'take' gives and leaves. -/
def Took (w w' : World) (R : Nat) (T D : List UInt8) (e : Ending) : Prop := ∃ b off cap, e = .returned (.slice (some ⟨b, off, none⟩) T.length cap) ∧ T.length ≤ cap ∧ cap ≤ maxLen ∧ RowAt w' (some ⟨b, off, none⟩) 1 (T.map byX) ∧ b < R ∧ RdB w' R D ∧ Turns (· = R) w w'
theorem took_of {w : World} {R n b off cap : Nat} {l : List UInt8} (ho : Own w R 133 #[.slice (some ⟨b, off, none⟩) l.length cap]) (hbR : b < R) (hlc : l.length ≤ cap) (hcm : cap ≤ maxLen) (hr : RowAt w (some ⟨b, off, none⟩) 1 (l.map byX)) (hn : n ≤ l.length) {off' cap' : Nat} (h : (off' = off + n ∧ cap' = cap - n) ∨ (cap = n ∧ cap' = 0)) :
    Took w (w.setCell ⟨R, 0, none⟩ (.slice (some ⟨b, off', none⟩) (l.length - n) cap')) R (l.take n) (l.drop n) (.returned (.slice (some ⟨b, off, none⟩) n cap)) := by
  have ht : Turns (· = R) w (w.setCell ⟨R, 0, none⟩ (.slice (some ⟨b, off', none⟩) (l.length - n) cap')) := (Turns.refl (· = R) w).set rfl _
  have hl1 : (l.take n).length = n := by simp; omega
  have hl2 : (l.drop n).length = l.length - n := by simp
  have hset : ∀ {o : Nat} {xs : List UInt8}, RowAt w (some ⟨b, o, none⟩) 1 (xs.map byX) → RowAt (w.setCell ⟨R, 0, none⟩ (.slice (some ⟨b, off', none⟩) (l.length - n) cap')) (some ⟨b, o, none⟩) 1 (xs.map byX) := fun h => h.set (fun q hq => by cases hq; exact Nat.ne_of_lt hbR) _
  refine ⟨b, off, cap, by rw [hl1], by omega, hcm, hset (row_take hr), hbR, ⟨b, off', cap', by rw [hl2]; exact ho.set 0 _, hbR, by omega, by omega, ?_⟩, ht⟩
  rcases h with ⟨rfl, _⟩ | ⟨hc, _⟩
  · exact hset (row_drop hr)
  · have : l.drop n = [] := List.drop_of_length_le (by omega)
    rw [this]
    exact RowAt.nil _ _ _
set_option maxRecDepth 100000 in
set_option maxHeartbeats 1000000 in
/-- (*impl.byteReader).take, as many as there are -/
theorem take_in (R n : Nat) (l T D : List UInt8) (w : World) (h : RdB w R l) (hn : n ≤ l.length) (hT : l.take n = T) (hD : l.drop n = D) :
    Calls Tryz.prog 80 #[.pointer (some ⟨R, 0, none⟩), .int .i64 (n : Int)] w fun e w' => Took w w' R T D e := by
  obtain ⟨b, off, cap, ho, hbR, hlc, hcm, hr⟩ := h
  have HT : Hid (∀ off' cap' : Nat, ((off' = off + n ∧ cap' = cap - n) ∨ (cap = n ∧ cap' = 0)) → Took w (w.setCell ⟨R, 0, none⟩ (.slice (some ⟨b, off', none⟩) (l.length - n) cap')) R T D (.returned (.slice (some ⟨b, off, none⟩) n cap))) := fun off' cap' h => by
    rw [← hT, ← hD]; exact took_of ho hbR hlc hcm hr hn h
  have g0 := ho.loc.one
  have i0 := ho.frozen 0
  unfold maxLen at hcm
  have hni : (n : Int) ≤ l.length := by omega
  clear hr hT hD
  by_cases hc : cap = n
  · subst hc
    go_enter Tryz.func80, Tryz.ntmps80
    go_wp2
    go_ret
    have h9 := HT.out off 0 (Or.inr (by simp))
    rw [show l.length - cap = 0 by omega] at h9
    exact h9
  · go_enter Tryz.func80, Tryz.ntmps80
    go_wp2
    go_ret
    exact HT.out (off + n) (cap - n) (Or.inl ⟨rfl, rfl⟩)
set_option maxRecDepth 100000 in
set_option maxHeartbeats 1000000 in
/-- (*impl.byteReader).take, more than there are -/
theorem take_out (R n : Nat) (l : List UInt8) (w : World) (h : RdB w R l) (hn : l.length < n) (hm : n ≤ 1000000000000) :
    Calls Tryz.prog 80 #[.pointer (some ⟨R, 0, none⟩), .int .i64 (n : Int)] w fun e w' => Took w w' R l [] e := by
  obtain ⟨b, off, cap, ho, hbR, hlc, hcm, hr⟩ := h
  have HT : Hid (∀ off' cap' : Nat, ((off' = off + l.length ∧ cap' = cap - l.length) ∨ (cap = l.length ∧ cap' = 0)) → Took w (w.setCell ⟨R, 0, none⟩ (.slice (some ⟨b, off', none⟩) 0 cap')) R l [] (.returned (.slice (some ⟨b, off, none⟩) l.length cap))) := fun off' cap' h => by
    have := took_of ho hbR hlc hcm hr (Nat.le_refl _) h
    rwa [List.take_length, List.drop_length, Nat.sub_self] at this
  have g0 := ho.loc.one
  have i0 := ho.frozen 0
  unfold maxLen at hcm
  have hni : (l.length : Int) < n := by omega
  clear hr
  by_cases hc : cap = l.length
  · subst hc
    go_enter Tryz.func80, Tryz.ntmps80
    go_wp2
    go_ret
    exact HT.out off 0 (Or.inr (by simp))
  · go_enter Tryz.func80, Tryz.ntmps80
    go_wp2
    go_ret
    exact HT.out (off + l.length) (cap - l.length) (Or.inl ⟨rfl, rfl⟩)
theorem take_any (R n : Nat) (l : List UInt8) (w : World) (h : RdB w R l) (hm : n ≤ 1000000000000) :
    Calls Tryz.prog 80 #[.pointer (some ⟨R, 0, none⟩), .int .i64 (n : Int)] w fun e w' => Took w w' R (l.take n) (l.drop n) e := by
  by_cases hn : n ≤ l.length
  · exact take_in R n l _ _ w h hn rfl rfl
  · have := take_out R n l w h (by omega) hm
    rwa [List.take_of_length_le (by omega), List.drop_of_length_le (by omega)]
set_option maxRecDepth 100000 in
set_option maxHeartbeats 1000000 in
/-- (*impl.byteReader).num -/
theorem num_any (R s : Nat) (l : List UInt8) (w : World) (h : RdB w R l) (h1 : 1 ≤ s) (h6 : s ≤ 6) :
    Calls Tryz.prog 81 #[.pointer (some ⟨R, 0, none⟩), .int .i64 (s : Int)] w fun e w' => e = .returned (.int .i64 (rdN s l : Int)) ∧ RdB w' R (l.drop s) ∧ Turns (· = R) w w' := by
  have HTA := take_any R s l w h (by omega)
  have HT : Hid (Calls Tryz.prog 80 #[.pointer (some ⟨R, 0, none⟩), .int .i64 (s : Int)] w fun e w' => Took w w' R (l.take s) (l.drop s) e) := HTA
  obtain ⟨g, hg⟩ : ∃ g : Bool, (g = true ∧ okGet (l.take s) 0 (s : Int) ∧ rdN s l = getL (l.take s) (0 : Int).toNat ((s : Int)).toNat) ∨ (g = false ∧ ¬ okGet (l.take s) 0 (s : Int) ∧ rdN s l = 0) := by
    by_cases hs : s ≤ l.length
    · refine ⟨true, Or.inl ⟨rfl, ⟨by omega, by omega, by omega, by simp; omega⟩, ?_⟩⟩
      unfold rdN getL
      rw [if_pos hs]
      simp [List.take_take]
    · refine ⟨false, Or.inr ⟨rfl, fun hh => ?_, ?_⟩⟩
      · have := hh.2.2.2
        simp at this
        omega
      · unfold rdN
        rw [if_neg hs]
  have HGN : Hid (∀ (u : World) (v : Value), BytesV u v (l.take s) → Calls Tryz.prog 111 #[v, .int .i64 0, .int .i64 (s : Int)] u fun e w' => e = .returned (.tuple #[.int .i64 (rdN s l : Int), .bool g]) ∧ Below u.heap.size u w') := fun u v hu => getNum_impl v (l.take s) 0 s u hu g (rdN s l) hg
  clear HTA h hg
  generalize rdN s l = N at HGN
  generalize l.take s = T at HT HGN
  generalize l.drop s = D at HT
  go_enter Tryz.func81, Tryz.ntmps81
  go_wp2_with fail
  refine HT.out.mono ?_
  rintro e w1 ⟨b, off, cap, rfl, hc1, hc2, hr, hbR, hrd, ht⟩
  have HB : Hid (BytesV w1 (.slice (some ⟨b, off, none⟩) T.length cap) T) := ⟨_, _, rfl, hc1, hc2, hr⟩
  have HD : Hid (RdB w1 R D) := hrd
  have HTu : Hid (Turns (· = R) w w1) := ht
  clear hr hrd ht
  go_wp2_with fail
  refine (HGN.out _ _ HB.out).mono ?_
  rintro e w2 ⟨rfl, b2⟩
  have HD2 : Hid (RdB w2 R D) := HD.out.on b2
  have HT2 : Hid (Turns (· = R) w w2) := HTu.out.below b2
  clear b2
  go_wp2
  go_ret
  exact ⟨rfl, HD2.out, HT2.out⟩

/-- A text out of bytes in memory. -/
theorem conv_back (w : World) (b off cap : Nat) (T : List UInt8) (h : RowAt w (some ⟨b, off, none⟩) 1 (T.map byX)) :
    (convert 26 9 (.slice (some ⟨b, off, none⟩) T.length cap)).run Tryz.prog w = .ok (.string ⟨T.toArray⟩) w :=
  run_convert_bytes_back (P := Tryz.prog) w 26 9 5 ⟨b, off, none⟩ cap T Tryz.underlying26 Tryz.underlying5 Tryz.underlying9 (fun j hj => by
    obtain ⟨b', off', e, hc⟩ := h.bytes j hj
    cases e
    rw [add_flat]; exact hc)
set_option maxRecDepth 100000 in
set_option maxHeartbeats 1000000 in
/-- (*impl.byteReader).flag -/
theorem flag_any (R : Nat) (l : List UInt8) (w : World) (h : RdB w R l) :
    Calls Tryz.prog 138 #[.pointer (some ⟨R, 0, none⟩)] w fun e w' => e = .returned (.bool (decide (rdN 1 l = 1))) ∧ RdB w' R (l.drop 1) ∧ Turns (· = R) w w' := by
  have HN : Hid (Calls Tryz.prog 81 #[.pointer (some ⟨R, 0, none⟩), .int .i64 1] w fun e w' => e = .returned (.int .i64 (rdN 1 l : Int)) ∧ RdB w' R (l.drop 1) ∧ Turns (· = R) w w') := num_any R 1 l w h (by omega) (by omega)
  clear h
  have HE : Hid ((((rdN 1 l : Nat) : Int) == 1) = decide (rdN 1 l = 1)) := by
    show _ = _
    by_cases h : rdN 1 l = 1
    · simp [h]
    · simp [h]; omega
  generalize rdN 1 l = N at HN HE
  generalize l.drop 1 = D at HN
  go_enter Tryz.func138, Tryz.ntmps138
  go_wp2_with fail
  refine HN.out.mono ?_
  rintro e w1 ⟨rfl, hd, ht⟩
  have HD : Hid (RdB w1 R D) := hd
  have HT : Hid (Turns (· = R) w w1) := ht
  clear hd ht
  go_wp2
  go_ret
  exact ⟨by rw [← HE.out]; rfl, HD.out, HT.out⟩
set_option maxRecDepth 100000 in
set_option maxHeartbeats 1000000 in
/-- (*impl.byteReader).text -/
theorem text_any (R : Nat) (l : List UInt8) (w : World) (h : RdB w R l) :
    Calls Tryz.prog 82 #[.pointer (some ⟨R, 0, none⟩)] w fun e w' => e = .returned (.string (rdT l).1) ∧ RdB w' R (rdT l).2 ∧ Turns (· = R) w w' := by
  have HN : Hid (Calls Tryz.prog 81 #[.pointer (some ⟨R, 0, none⟩), .int .i64 1] w fun e w' => e = .returned (.int .i64 (rdN 1 l : Int)) ∧ RdB w' R (l.drop 1) ∧ Turns (· = R) w w') := num_any R 1 l w h (by omega) (by omega)
  have HTK : Hid (∀ u : World, RdB u R (l.drop 1) → Calls Tryz.prog 80 #[.pointer (some ⟨R, 0, none⟩), .int .i64 (rdN 1 l : Int)] u fun e w' => Took u w' R ((l.drop 1).take (rdN 1 l)) (rdT l).2 e) := fun u hu => take_any R (rdN 1 l) (l.drop 1) u hu (by have := rdN_byte l; omega)
  have HE : Hid ((rdT l).1 = ⟨((l.drop 1).take (rdN 1 l)).toArray⟩) := rfl
  clear h
  generalize rdT l = X at HTK HE ⊢
  generalize (l.drop 1).take (rdN 1 l) = T at HTK HE
  generalize rdN 1 l = N at HN HTK
  generalize l.drop 1 = D at HN HTK
  go_enter Tryz.func82, Tryz.ntmps82
  go_wp2_with fail
  refine HN.out.mono ?_
  rintro e w1 ⟨rfl, hd, ht⟩
  have HD : Hid (RdB w1 R D) := hd
  have HT : Hid (Turns (· = R) w w1) := ht
  clear hd ht
  go_wp2_with fail
  refine (HTK.out _ HD.out).mono ?_
  rintro e w2 ⟨b, off, cap, rfl, hc1, hc2, hr, hbR, hrd, ht⟩
  have hcv := conv_back w2 b off cap T hr
  have HD2 : Hid (RdB w2 R X.2) := hrd
  have HT2 : Hid (Turns (· = R) w w2) := HT.out.trans ht
  clear hr hrd ht
  go_wp2
  go_ret
  exact ⟨by rw [HE.out]; rfl, HD2.out, HT2.out⟩
set_option maxRecDepth 100000 in
set_option maxHeartbeats 1000000 in
/-- (*impl.byteReader).signed -/
theorem signed_any (R : Nat) (l : List UInt8) (w : World) (h : RdB w R l) :
    Calls Tryz.prog 137 #[.pointer (some ⟨R, 0, none⟩)] w fun e w' => e = .returned (.int .i64 (if rdN 1 l = 1 then -(rdN 6 (l.drop 1) : Int) else (rdN 6 (l.drop 1) : Int))) ∧ RdB w' R ((l.drop 1).drop 6) ∧ Turns (· = R) w w' := by
  have HF : Hid (Calls Tryz.prog 138 #[.pointer (some ⟨R, 0, none⟩)] w fun e w' => e = .returned (.bool (decide (rdN 1 l = 1))) ∧ RdB w' R (l.drop 1) ∧ Turns (· = R) w w') := flag_any R l w h
  have HN : Hid (∀ u : World, RdB u R (l.drop 1) → Calls Tryz.prog 81 #[.pointer (some ⟨R, 0, none⟩), .int .i64 6] u fun e w' => e = .returned (.int .i64 (rdN 6 (l.drop 1) : Int)) ∧ RdB w' R ((l.drop 1).drop 6) ∧ Turns (· = R) u w') := fun u hu => num_any R 6 (l.drop 1) u hu (by omega) (by omega)
  have hlt := rdN_lt 6 (l.drop 1) (by omega)
  clear h
  generalize (l.drop 1).drop 6 = E at HN ⊢
  generalize rdN 6 (l.drop 1) = M at HN hlt ⊢
  generalize l.drop 1 = D at HF HN
  by_cases hf : rdN 1 l = 1
  · rw [if_pos hf]
    rw [decide_eq_true hf] at HF
    clear hf
    go_enter Tryz.func137, Tryz.ntmps137
    go_wp2_with fail
    refine HF.out.mono ?_
    rintro e w1 ⟨rfl, hd, ht⟩
    have HD : Hid (RdB w1 R D) := hd
    have HT : Hid (Turns (· = R) w w1) := ht
    clear hd ht
    go_wp2_with fail
    refine (HN.out _ HD.out).mono ?_
    rintro e w2 ⟨rfl, hd, ht⟩
    have HD2 : Hid (RdB w2 R E) := hd
    have HT2 : Hid (Turns (· = R) w w2) := HT.out.trans ht
    clear hd ht
    go_wp2
    go_ret
    exact ⟨rfl, HD2.out, HT2.out⟩
  · rw [if_neg hf]
    rw [decide_eq_false hf] at HF
    clear hf
    go_enter Tryz.func137, Tryz.ntmps137
    go_wp2_with fail
    refine HF.out.mono ?_
    rintro e w1 ⟨rfl, hd, ht⟩
    have HD : Hid (RdB w1 R D) := hd
    have HT : Hid (Turns (· = R) w w1) := ht
    clear hd ht
    go_wp2_with fail
    refine (HN.out _ HD.out).mono ?_
    rintro e w2 ⟨rfl, hd, ht⟩
    have HD2 : Hid (RdB w2 R E) := hd
    have HT2 : Hid (Turns (· = R) w w2) := HT.out.trans ht
    clear hd ht
    go_wp2
    go_ret
    exact ⟨rfl, HD2.out, HT2.out⟩

theorem Turns.fresh {S : Nat → Prop} {a b : World} (h : Turns S a b) {p : Addr} (hp : a.heap.size ≤ p.block) (u : Value) : Turns S a (b.setCell p u) :=
  ⟨h.os, h.tape, h.output, by simpa [World.setCell] using h.size, fun i hi hn => (Below.heap_setCell _ _ _ _ (by omega)).trans (h.block i hi hn)⟩
theorem RdB.other {w : World} {R : Nat} {l : List UInt8} (h : RdB w R l) {p : Addr} (hp : R < p.block) (u : Value) : RdB (w.setCell p u) R l := by
  obtain ⟨b, off, cap, ho, hb, h3, h4, hr⟩ := h
  exact ⟨b, off, cap, ho.other (by omega) u, hb, h3, h4, hr.set (fun q hq => by cases hq; show b ≠ p.block; omega) u⟩
/-- Stores into new blocks leave the reader alone. -/
theorem rd_stores {w w1 w2 : World} {R : Nat} {E : List UInt8} (hd : RdB w2 R E) (ht : Turns (· = R) w w2) (hR : R < w.heap.size) (hs : w.heap.size < w1.heap.size) (i : Nat) (v v0 v1 v2 : Value) :
    RdB ((((w2.setCell ⟨w1.heap.size, i, none⟩ v).setCell ⟨w.heap.size, 0, none⟩ v0).setCell ⟨w.heap.size, 1, none⟩ v1).setCell ⟨w.heap.size, 2, none⟩ v2) R E ∧ Turns (· = R) w ((((w2.setCell ⟨w1.heap.size, i, none⟩ v).setCell ⟨w.heap.size, 0, none⟩ v0).setCell ⟨w.heap.size, 1, none⟩ v1).setCell ⟨w.heap.size, 2, none⟩ v2) :=
  ⟨(((hd.other (p := ⟨w1.heap.size, i, none⟩) (Nat.lt_trans hR hs) v).other (p := ⟨w.heap.size, 0, none⟩) hR v0).other (p := ⟨w.heap.size, 1, none⟩) hR v1).other (p := ⟨w.heap.size, 2, none⟩) hR v2,
   (((ht.fresh (p := ⟨w1.heap.size, i, none⟩) (Nat.le_of_lt hs) v).fresh (p := ⟨w.heap.size, 0, none⟩) (Nat.le_refl _) v0).fresh (p := ⟨w.heap.size, 1, none⟩) (Nat.le_refl _) v1).fresh (p := ⟨w.heap.size, 2, none⟩) (Nat.le_refl _) v2⟩
theorem rd_stores3 {w w2 : World} {R : Nat} {E : List UInt8} (hd : RdB w2 R E) (ht : Turns (· = R) w w2) (hR : R < w.heap.size) (v0 v1 v2 : Value) :
    RdB (((w2.setCell ⟨w.heap.size, 0, none⟩ v0).setCell ⟨w.heap.size, 1, none⟩ v1).setCell ⟨w.heap.size, 2, none⟩ v2) R E ∧ Turns (· = R) w (((w2.setCell ⟨w.heap.size, 0, none⟩ v0).setCell ⟨w.heap.size, 1, none⟩ v1).setCell ⟨w.heap.size, 2, none⟩ v2) :=
  ⟨((hd.other (p := ⟨w.heap.size, 0, none⟩) hR v0).other (p := ⟨w.heap.size, 1, none⟩) hR v1).other (p := ⟨w.heap.size, 2, none⟩) hR v2,
   ((ht.fresh (p := ⟨w.heap.size, 0, none⟩) (Nat.le_refl _) v0).fresh (p := ⟨w.heap.size, 1, none⟩) (Nat.le_refl _) v1).fresh (p := ⟨w.heap.size, 2, none⟩) (Nat.le_refl _) v2⟩
set_option maxRecDepth 100000 in
set_option maxHeartbeats 1000000 in
/-- (*impl.byteReader).val -/
theorem val_any (R : Nat) (l : List UInt8) (w : World) (h : RdB w R l) :
    Calls Tryz.prog 113 #[.pointer (some ⟨R, 0, none⟩)] w fun e w' => e = .returned (.agg (rdV l).1.cells) ∧ RdB w' R (rdV l).2 ∧ Turns (· = R) w w' := by
  have HN : Hid (∀ u : World, RdB u R l → Calls Tryz.prog 81 #[.pointer (some ⟨R, 0, none⟩), .int .i64 1] u fun e w' => e = .returned (.int .i64 (rdN 1 l : Int)) ∧ RdB w' R (l.drop 1) ∧ Turns (· = R) u w') := fun u hu => num_any R 1 l u hu (by omega) (by omega)
  have HR : Hid (RdB w R l) := h
  have hRw : R < w.heap.size := by obtain ⟨_, _, _, ho, _⟩ := h; exact ho.lt
  have HN2 : Hid (∀ u : World, RdB u R (l.drop 1) → Calls Tryz.prog 81 #[.pointer (some ⟨R, 0, none⟩), .int .i64 1] u fun e w' => e = .returned (.int .i64 (rdN 1 (l.drop 1) : Int)) ∧ RdB w' R ((l.drop 1).drop 1) ∧ Turns (· = R) u w') := fun u hu => num_any R 1 (l.drop 1) u hu (by omega) (by omega)
  have HS : Hid (∀ u : World, RdB u R (l.drop 1) → Calls Tryz.prog 137 #[.pointer (some ⟨R, 0, none⟩)] u fun e w' => e = .returned (.int .i64 (if rdN 1 (l.drop 1) = 1 then -(rdN 6 ((l.drop 1).drop 1) : Int) else (rdN 6 ((l.drop 1).drop 1) : Int))) ∧ RdB w' R (((l.drop 1).drop 1).drop 6) ∧ Turns (· = R) u w') := fun u hu => signed_any R (l.drop 1) u hu
  have HX : Hid (∀ u : World, RdB u R (l.drop 1) → Calls Tryz.prog 82 #[.pointer (some ⟨R, 0, none⟩)] u fun e w' => e = .returned (.string (rdT (l.drop 1)).1) ∧ RdB w' R (rdT (l.drop 1)).2 ∧ Turns (· = R) u w') := fun u hu => text_any R (l.drop 1) u hu
  clear h
  by_cases h1 : rdN 1 l = 1
  · have e : rdV l = (⟨1, (rdN 1 (l.drop 1) : Int), ⟨#[]⟩⟩, (l.drop 1).drop 1) := by unfold rdV; rw [if_pos h1]
    rw [e]
    rw [h1] at HN
    simp only
    clear HS HX h1 e
    generalize (l.drop 1).drop 1 = E at HN2 ⊢
    generalize rdN 1 (l.drop 1) = M at HN2 ⊢
    generalize l.drop 1 = D at HN HN2
    go_enter Tryz.func113, Tryz.ntmps113
    go_wp2_with fail
    refine (HN.out _ (HR.out.on (by repeat (first | with_reducible exact Below.refl _ _ | with_reducible assumption | with_reducible refine ch_alloc ?_ _ | with_reducible refine Below.drew ?_ | with_reducible refine below_draws _ ?_ | (with_reducible refine Below.setCell ?_ ?_ _; rotate_left; focus (first | with_reducible exact Nat.le_refl _ | (simp; done) | (simp; omega) | (simp at *; omega))) | with_reducible refine ch_trans ?_ (by with_reducible assumption))))).mono ?_
    rintro e w1 ⟨rfl, hd, ht⟩
    have HD : Hid (RdB w1 R D) := hd
    have HO1 : Own w1 w.heap.size 128 #[.int .i64 0, .int .i64 0, .string { data := #[] }] := (Own.new _ _ _).turned ht (by show ¬ (w.heap.size = R); omega)
    have hs1 : w.heap.size < w1.heap.size := HO1.lt
    have HT : Hid (Turns (· = R) w w1) := ((Turns.refl (· = R) w).below (ch_alloc (Below.refl _ _) _)).trans ht
    clear hd ht
    go_wp2_with fail
    refine (HN2.out _ (HD.out.on (by repeat (first | with_reducible exact Below.refl _ _ | with_reducible assumption | with_reducible refine ch_alloc ?_ _ | with_reducible refine Below.drew ?_ | with_reducible refine below_draws _ ?_ | (with_reducible refine Below.setCell ?_ ?_ _; rotate_left; focus (first | with_reducible exact Nat.le_refl _ | (simp; done) | (simp; omega) | (simp at *; omega))) | with_reducible refine ch_trans ?_ (by with_reducible assumption))))).mono ?_
    rintro e w2 ⟨rfl, hd, ht⟩
    have HO2 : Own w2 w.heap.size 128 #[.int .i64 0, .int .i64 0, .string { data := #[] }] := (HO1.on (ch_alloc (Below.refl _ _) _)).turned ht (by show ¬ (w.heap.size = R); omega)
    have HV2 : Own w2 w1.heap.size 128 #[.int .i64 1, .int .i64 0, .string { data := #[] }] := (Own.new _ _ _).turned ht (by show ¬ (w1.heap.size = R); omega)
    have hs2 : w1.heap.size < w2.heap.size := HV2.lt
    have HD2 : Hid (RdB w2 R E) := hd
    have HT2 : Hid (Turns (· = R) w w2) := (HT.out.below (ch_alloc (Below.refl _ _) _)).trans ht
    clear hd ht
    obtain ⟨c0, c1, c2⟩ := HV2.loc.three
    obtain ⟨d0, d1, d2⟩ := HO2.loc.three
    have f0 := HV2.frozen 1
    have k0 := HO2.frozen 0
    have k1 := HO2.frozen 1
    have k2 := HO2.frozen 2
    go_wp2
    have HO3 : Own _ w.heap.size 128 #[.int .i64 1, .int .i64 (M : Int), .string { data := #[] }] := own3 (HO2.other (p := ⟨w1.heap.size, 1, none⟩) (by simp; omega) (.int .i64 (M : Int))) (.int .i64 1) (.int .i64 (M : Int)) (.string { data := #[] })
    have HB3 : Hid (Below w2.heap.size w2 w2) := Below.refl _ _
    have HE3 : Hid (∀ W : World, W = (((w2.setCell ⟨w1.heap.size, 1, none⟩ (.int .i64 (M : Int))).setCell ⟨w.heap.size, 0, none⟩ (.int .i64 1)).setCell ⟨w.heap.size, 1, none⟩ (.int .i64 (M : Int))).setCell ⟨w.heap.size, 2, none⟩ (.string { data := #[] }) → RdB W R E ∧ Turns (· = R) w W) := fun W hW => by
      subst hW
      exact rd_stores HD2.out HT2.out hRw hs1 _ _ _ _ _
    generalize hW : (((w2.setCell ⟨w1.heap.size, 1, none⟩ (.int .i64 (M : Int))).setCell ⟨w.heap.size, 0, none⟩ (.int .i64 1)).setCell ⟨w.heap.size, 1, none⟩ (.int .i64 (M : Int))).setCell ⟨w.heap.size, 2, none⟩ (.string { data := #[] }) = W at HO3 ⊢
    obtain ⟨hA, hB⟩ := HE3.out W hW.symm
    obtain ⟨e0, e1, e2⟩ := HO3.loc.three
    exact bodyPost_ret (v := .agg #[.int .i64 1, .int .i64 (M : Int), .string { data := #[] }]) (by simp [results, Tryz.results113, go_sem, e0, e1, e2]) rfl ⟨rfl, hA, hB⟩
  by_cases h2 : rdN 1 l = 2
  · have e : rdV l = (⟨2, if rdN 1 (l.drop 1) = 1 then -(rdN 6 ((l.drop 1).drop 1) : Int) else (rdN 6 ((l.drop 1).drop 1) : Int), ⟨#[]⟩⟩, ((l.drop 1).drop 1).drop 6) := by unfold rdV; rw [if_neg h1, if_pos h2]
    rw [e]
    rw [h2] at HN
    simp only
    clear HN2 HX h1 h2 e
    generalize ((l.drop 1).drop 1).drop 6 = E at HS ⊢
    generalize (if rdN 1 (l.drop 1) = 1 then -(rdN 6 ((l.drop 1).drop 1) : Int) else (rdN 6 ((l.drop 1).drop 1) : Int)) = M at HS ⊢
    generalize l.drop 1 = D at HN HS
    go_enter Tryz.func113, Tryz.ntmps113
    go_wp2_with fail
    refine (HN.out _ (HR.out.on (by repeat (first | with_reducible exact Below.refl _ _ | with_reducible assumption | with_reducible refine ch_alloc ?_ _ | with_reducible refine Below.drew ?_ | with_reducible refine below_draws _ ?_ | (with_reducible refine Below.setCell ?_ ?_ _; rotate_left; focus (first | with_reducible exact Nat.le_refl _ | (simp; done) | (simp; omega) | (simp at *; omega))) | with_reducible refine ch_trans ?_ (by with_reducible assumption))))).mono ?_
    rintro e w1 ⟨rfl, hd, ht⟩
    have HD : Hid (RdB w1 R D) := hd
    have HO1 : Own w1 w.heap.size 128 #[.int .i64 0, .int .i64 0, .string { data := #[] }] := (Own.new _ _ _).turned ht (by show ¬ (w.heap.size = R); omega)
    have hs1 : w.heap.size < w1.heap.size := HO1.lt
    have HT : Hid (Turns (· = R) w w1) := ((Turns.refl (· = R) w).below (ch_alloc (Below.refl _ _) _)).trans ht
    clear hd ht
    go_wp2_with fail
    refine (HS.out _ (HD.out.on (by repeat (first | with_reducible exact Below.refl _ _ | with_reducible assumption | with_reducible refine ch_alloc ?_ _ | with_reducible refine Below.drew ?_ | with_reducible refine below_draws _ ?_ | (with_reducible refine Below.setCell ?_ ?_ _; rotate_left; focus (first | with_reducible exact Nat.le_refl _ | (simp; done) | (simp; omega) | (simp at *; omega))) | with_reducible refine ch_trans ?_ (by with_reducible assumption))))).mono ?_
    rintro e w2 ⟨rfl, hd, ht⟩
    have HO2 : Own w2 w.heap.size 128 #[.int .i64 0, .int .i64 0, .string { data := #[] }] := (HO1.on (ch_alloc (Below.refl _ _) _)).turned ht (by show ¬ (w.heap.size = R); omega)
    have HV2 : Own w2 w1.heap.size 128 #[.int .i64 2, .int .i64 0, .string { data := #[] }] := (Own.new _ _ _).turned ht (by show ¬ (w1.heap.size = R); omega)
    have hs2 : w1.heap.size < w2.heap.size := HV2.lt
    have HD2 : Hid (RdB w2 R E) := hd
    have HT2 : Hid (Turns (· = R) w w2) := (HT.out.below (ch_alloc (Below.refl _ _) _)).trans ht
    clear hd ht
    obtain ⟨c0, c1, c2⟩ := HV2.loc.three
    obtain ⟨d0, d1, d2⟩ := HO2.loc.three
    have f0 := HV2.frozen 1
    have k0 := HO2.frozen 0
    have k1 := HO2.frozen 1
    have k2 := HO2.frozen 2
    go_wp2
    have HO3 : Own _ w.heap.size 128 #[.int .i64 2, .int .i64 M, .string { data := #[] }] := own3 (HO2.other (p := ⟨w1.heap.size, 1, none⟩) (by simp; omega) (.int .i64 M)) (.int .i64 2) (.int .i64 M) (.string { data := #[] })
    have HB3 : Hid (Below w2.heap.size w2 w2) := Below.refl _ _
    have HE3 : Hid (∀ W : World, W = (((w2.setCell ⟨w1.heap.size, 1, none⟩ (.int .i64 M)).setCell ⟨w.heap.size, 0, none⟩ (.int .i64 2)).setCell ⟨w.heap.size, 1, none⟩ (.int .i64 M)).setCell ⟨w.heap.size, 2, none⟩ (.string { data := #[] }) → RdB W R E ∧ Turns (· = R) w W) := fun W hW => by
      subst hW
      exact rd_stores HD2.out HT2.out hRw hs1 _ _ _ _ _
    generalize hW : (((w2.setCell ⟨w1.heap.size, 1, none⟩ (.int .i64 M)).setCell ⟨w.heap.size, 0, none⟩ (.int .i64 2)).setCell ⟨w.heap.size, 1, none⟩ (.int .i64 M)).setCell ⟨w.heap.size, 2, none⟩ (.string { data := #[] }) = W at HO3 ⊢
    obtain ⟨hA, hB⟩ := HE3.out W hW.symm
    obtain ⟨e0, e1, e2⟩ := HO3.loc.three
    exact bodyPost_ret (v := .agg #[.int .i64 2, .int .i64 M, .string { data := #[] }]) (by simp [results, Tryz.results113, go_sem, e0, e1, e2]) rfl ⟨rfl, hA, hB⟩
  by_cases h3 : rdN 1 l = 3
  · have e : rdV l = (⟨3, 0, (rdT (l.drop 1)).1⟩, (rdT (l.drop 1)).2) := by unfold rdV; rw [if_neg h1, if_neg h2, if_pos h3]
    rw [e]
    rw [h3] at HN
    simp only
    clear HN2 HS h1 h2 h3 e
    generalize (rdT (l.drop 1)).2 = E at HX ⊢
    generalize (rdT (l.drop 1)).1 = X at HX ⊢
    generalize l.drop 1 = D at HN HX
    go_enter Tryz.func113, Tryz.ntmps113
    go_wp2_with fail
    refine (HN.out _ (HR.out.on (by repeat (first | with_reducible exact Below.refl _ _ | with_reducible assumption | with_reducible refine ch_alloc ?_ _ | with_reducible refine Below.drew ?_ | with_reducible refine below_draws _ ?_ | (with_reducible refine Below.setCell ?_ ?_ _; rotate_left; focus (first | with_reducible exact Nat.le_refl _ | (simp; done) | (simp; omega) | (simp at *; omega))) | with_reducible refine ch_trans ?_ (by with_reducible assumption))))).mono ?_
    rintro e w1 ⟨rfl, hd, ht⟩
    have HD : Hid (RdB w1 R D) := hd
    have HO1 : Own w1 w.heap.size 128 #[.int .i64 0, .int .i64 0, .string { data := #[] }] := (Own.new _ _ _).turned ht (by show ¬ (w.heap.size = R); omega)
    have hs1 : w.heap.size < w1.heap.size := HO1.lt
    have HT : Hid (Turns (· = R) w w1) := ((Turns.refl (· = R) w).below (ch_alloc (Below.refl _ _) _)).trans ht
    clear hd ht
    go_wp2_with fail
    refine (HX.out _ (HD.out.on (by repeat (first | with_reducible exact Below.refl _ _ | with_reducible assumption | with_reducible refine ch_alloc ?_ _ | with_reducible refine Below.drew ?_ | with_reducible refine below_draws _ ?_ | (with_reducible refine Below.setCell ?_ ?_ _; rotate_left; focus (first | with_reducible exact Nat.le_refl _ | (simp; done) | (simp; omega) | (simp at *; omega))) | with_reducible refine ch_trans ?_ (by with_reducible assumption))))).mono ?_
    rintro e w2 ⟨rfl, hd, ht⟩
    have HO2 : Own w2 w.heap.size 128 #[.int .i64 0, .int .i64 0, .string { data := #[] }] := (HO1.on (ch_alloc (Below.refl _ _) _)).turned ht (by show ¬ (w.heap.size = R); omega)
    have HV2 : Own w2 w1.heap.size 128 #[.int .i64 3, .int .i64 0, .string { data := #[] }] := (Own.new _ _ _).turned ht (by show ¬ (w1.heap.size = R); omega)
    have hs2 : w1.heap.size < w2.heap.size := HV2.lt
    have HD2 : Hid (RdB w2 R E) := hd
    have HT2 : Hid (Turns (· = R) w w2) := (HT.out.below (ch_alloc (Below.refl _ _) _)).trans ht
    clear hd ht
    obtain ⟨c0, c1, c2⟩ := HV2.loc.three
    obtain ⟨d0, d1, d2⟩ := HO2.loc.three
    have f0 := HV2.frozen 2
    have k0 := HO2.frozen 0
    have k1 := HO2.frozen 1
    have k2 := HO2.frozen 2
    go_wp2
    have HO3 : Own _ w.heap.size 128 #[.int .i64 3, .int .i64 0, .string X] := own3 (HO2.other (p := ⟨w1.heap.size, 2, none⟩) (by simp; omega) (.string X)) (.int .i64 3) (.int .i64 0) (.string X)
    have HB3 : Hid (Below w2.heap.size w2 w2) := Below.refl _ _
    have HE3 : Hid (∀ W : World, W = (((w2.setCell ⟨w1.heap.size, 2, none⟩ (.string X)).setCell ⟨w.heap.size, 0, none⟩ (.int .i64 3)).setCell ⟨w.heap.size, 1, none⟩ (.int .i64 0)).setCell ⟨w.heap.size, 2, none⟩ (.string X) → RdB W R E ∧ Turns (· = R) w W) := fun W hW => by
      subst hW
      exact rd_stores HD2.out HT2.out hRw hs1 _ _ _ _ _
    generalize hW : (((w2.setCell ⟨w1.heap.size, 2, none⟩ (.string X)).setCell ⟨w.heap.size, 0, none⟩ (.int .i64 3)).setCell ⟨w.heap.size, 1, none⟩ (.int .i64 0)).setCell ⟨w.heap.size, 2, none⟩ (.string X) = W at HO3 ⊢
    obtain ⟨hA, hB⟩ := HE3.out W hW.symm
    obtain ⟨e0, e1, e2⟩ := HO3.loc.three
    exact bodyPost_ret (v := .agg #[.int .i64 3, .int .i64 0, .string X]) (by simp [results, Tryz.results113, go_sem, e0, e1, e2]) rfl ⟨rfl, hA, hB⟩
  have e : rdV l = (⟨(rdN 1 l : Int), 0, ⟨#[]⟩⟩, l.drop 1) := by unfold rdV; rw [if_neg h1, if_neg h2, if_neg h3]
  rw [e]
  simp only
  clear HN2 HS HX e
  generalize l.drop 1 = D at HN ⊢
  generalize rdN 1 l = N at HN h1 h2 h3 ⊢
  have n1 : ((N : Int) == 1) = false := by simp; omega
  have n2 : ((N : Int) == 2) = false := by simp; omega
  have n3 : ((N : Int) == 3) = false := by simp; omega
  clear h1 h2 h3
  go_enter Tryz.func113, Tryz.ntmps113
  go_wp2_with fail
  refine (HN.out _ (HR.out.on (by repeat (first | with_reducible exact Below.refl _ _ | with_reducible assumption | with_reducible refine ch_alloc ?_ _ | with_reducible refine Below.drew ?_ | with_reducible refine below_draws _ ?_ | (with_reducible refine Below.setCell ?_ ?_ _; rotate_left; focus (first | with_reducible exact Nat.le_refl _ | (simp; done) | (simp; omega) | (simp at *; omega))) | with_reducible refine ch_trans ?_ (by with_reducible assumption))))).mono ?_
  rintro e w1 ⟨rfl, hd, ht⟩
  have HD : Hid (RdB w1 R D) := hd
  have HO1 : Own w1 w.heap.size 128 #[.int .i64 0, .int .i64 0, .string { data := #[] }] := (Own.new _ _ _).turned ht (by show ¬ (w.heap.size = R); omega)
  have hs1 : w.heap.size < w1.heap.size := HO1.lt
  have HT : Hid (Turns (· = R) w w1) := ((Turns.refl (· = R) w).below (ch_alloc (Below.refl _ _) _)).trans ht
  clear hd ht
  obtain ⟨d0, d1, d2⟩ := HO1.loc.three
  have k0 := HO1.frozen 0
  have k1 := HO1.frozen 1
  have k2 := HO1.frozen 2
  go_wp2
  have HO3 : Own ((((w1.setCell ⟨w.heap.size, 0, none⟩ (.int .i64 (N : Int))).setCell ⟨w.heap.size, 1, none⟩ (.int .i64 0)).setCell ⟨w.heap.size, 2, none⟩ (.string { data := #[] })).alloc (.cells #[.int .i64 (N : Int), .int .i64 0, .string { data := #[] }] 128)) w.heap.size 128 #[.int .i64 (N : Int), .int .i64 0, .string { data := #[] }] := (own3 HO1 (.int .i64 (N : Int)) (.int .i64 0) (.string { data := #[] })).on (ch_alloc (Below.refl _ _) _)
  obtain ⟨hA, hB⟩ := rd_stores3 HD.out HT.out hRw (.int .i64 (N : Int)) (.int .i64 0) (.string { data := #[] })
  have HA : Hid (RdB ((((w1.setCell ⟨w.heap.size, 0, none⟩ (.int .i64 (N : Int))).setCell ⟨w.heap.size, 1, none⟩ (.int .i64 0)).setCell ⟨w.heap.size, 2, none⟩ (.string { data := #[] })).alloc (.cells #[.int .i64 (N : Int), .int .i64 0, .string { data := #[] }] 128)) R D) := hA.on (ch_alloc (Below.refl _ _) _)
  have HB : Hid (Turns (· = R) w ((((w1.setCell ⟨w.heap.size, 0, none⟩ (.int .i64 (N : Int))).setCell ⟨w.heap.size, 1, none⟩ (.int .i64 0)).setCell ⟨w.heap.size, 2, none⟩ (.string { data := #[] })).alloc (.cells #[.int .i64 (N : Int), .int .i64 0, .string { data := #[] }] 128))) := hB.below (ch_alloc (Below.refl _ _) _)
  clear hA hB
  generalize (((w1.setCell ⟨w.heap.size, 0, none⟩ (.int .i64 (N : Int))).setCell ⟨w.heap.size, 1, none⟩ (.int .i64 0)).setCell ⟨w.heap.size, 2, none⟩ (.string { data := #[] })).alloc (.cells #[.int .i64 (N : Int), .int .i64 0, .string { data := #[] }] 128) = W at HO3 HA HB ⊢
  obtain ⟨e0, e1, e2⟩ := HO3.loc.three
  exact bodyPost_ret (v := .agg #[.int .i64 (N : Int), .int .i64 0, .string { data := #[] }]) (by simp [results, Tryz.results113, go_sem, e0, e1, e2]) rfl ⟨rfl, HA.out, HB.out⟩
end Go.Proofs.YtikccmgpmbnkfaaGreat
