/- The walk through the law on numbers. -/
import Derived.Test.YtihilcffmdjhhafDoorNb
import Derived.Test.YtihilcffmdjhhafDoorTextNum
namespace Go.Proofs.YtihilcffmdjhhafDoor.lawFnNums
open Go.ChangeShapes Go.WideShapes Go.ChangeAt Go.RowKit

theorem tn_back (n : Int) (h : numB n = true) : tnB ⟨(numText n).toArray⟩ = true ∧ tnV ⟨(numText n).toArray⟩ = n ∧ 1 ≤ (numText n).length := by
  have hne : numText n ≠ [] := by rw [numText, if_pos h]; exact itoa_ne n
  have := tn_some (s := ⟨(numText n).toArray⟩) (textNum_text n _ (by simpa using hne) (by simp))
  exact ⟨this.2, this.1, Nat.one_le_iff_ne_zero.2 fun e => hne (List.length_eq_zero_iff.1 e)⟩
theorem tn_empty : tnB ⟨#[]⟩ = false ∧ tnV ⟨#[]⟩ = 0 := by
  have h : textNum (ByteArray.mk #[]).data.toList = .none := by
    cases e : textNum (ByteArray.mk #[]).data.toList with
    | none => rfl
    | some n => exact absurd ((textNum_some _ n).1 e).2 (itoa_ne n)
  exact ⟨(tn_none h).2, (tn_none h).1⟩

set_option maxRecDepth 100000 in
set_option maxHeartbeats 1000000 in
theorem walk (a : Option Addr) (len cap : Nat) (w : World) (hcode : Code w.heap.size a len w) (hT : Tab w) (hE : Errs w) :
    Calls Tryd.prog 3 #[.slice a len cap] w fun e w' => e = .returned (.bool true) ∧ Below w.heap.size w w' := by
  by_cases hl : (1048576 : Int) < len
  · go_enter Tryd.func3, Tryd.ntmps3
    go_wp2
    go_ret
    exact ⟨rfl, Below.refl _ _⟩
  have HC : Hid (Code w.heap.size a len w) := hcode
  have HT : Hid (Tab w) := hT
  have HE : Hid (Errs w) := hE
  clear hcode hT hE
  go_enter Tryd.func3, Tryd.ntmps3
  go_wp2_with fail
  refine (draw_putNum a len cap _ HC.out (by omega)).mono ?_
  rintro e w1 ⟨v, l, n, s, rfl, ⟨b, off, c, rfl, _, hr⟩, hl4, hn, hs1, hs7, hb1⟩
  have HR : Hid (RowAt w1 (some ⟨b, off, none⟩) 1 (l.map byX)) := hr
  have HN : Hid (I64 n) := hn
  clear hr hn
  obtain ⟨q, L, hq⟩ : ∃ (q : Bool) (L : List UInt8), (q = true ∧ okPut n s ∧ L = l ++ numL n.toNat s.toNat) ∨ (q = false ∧ ¬ okPut n s ∧ L = []) := by
    by_cases h : okPut n s
    · exact ⟨true, _, Or.inl ⟨rfl, h, rfl⟩⟩
    · exact ⟨false, _, Or.inr ⟨rfl, h, rfl⟩⟩
  have HPI : Hid (∀ u : World, RowAt u (some ⟨b, off, none⟩) 1 (l.map byX) → Calls Tryd.prog 5 #[.slice (some ⟨b, off, none⟩) l.length c, .int .i64 n, .int .i64 s] u fun e w' => ∃ v', e = .returned (.tuple #[v', .bool q]) ∧ Below u.heap.size u w' ∧ Got w' u.heap.size 5 1 v' (L.map byX)) := fun u hu => putNum_impl b off c l n s u hu (by omega) q L hq
  have HPS : Hid (∀ u : World, RowAt u (some ⟨b, off, none⟩) 1 (l.map byX) → Calls Tryd.prog 6 #[.slice (some ⟨b, off, none⟩) l.length c, .int .i64 n, .int .i64 s] u fun e w' => ∃ v', e = .returned (.tuple #[v', .bool q]) ∧ Below u.heap.size u w' ∧ Got w' u.heap.size 5 1 v' (L.map byX)) := fun u hu => putNum_spec b off c l n s u hu (by omega) q L hq
  obtain ⟨g, N, hg⟩ : ∃ (g : Bool) (N : Nat), (g = true ∧ okGet L (l.length : Int) s ∧ N = getL L ((l.length : Int)).toNat s.toNat) ∨ (g = false ∧ ¬ okGet L (l.length : Int) s ∧ N = 0) := by
    by_cases h : okGet L (l.length : Int) s
    · exact ⟨true, _, Or.inl ⟨rfl, h, rfl⟩⟩
    · exact ⟨false, _, Or.inr ⟨rfl, h, rfl⟩⟩
  have HGI : Hid (∀ (u : World) (v : Value), BytesV u v L → Calls Tryd.prog 7 #[v, .int .i64 (l.length : Int), .int .i64 s] u fun e w' => e = .returned (.tuple #[.int .i64 (N : Int), .bool g]) ∧ Below u.heap.size u w') := fun u v hu => getNum_impl v L _ s u hu g N hg
  have HF : Hid (q = true → g = true ∧ (N : Int) = n ∧ (L.length : Int) = l.length + s) := fun hqt => by
    rcases hq with ⟨_, h, rfl⟩ | ⟨h, _, _⟩
    · obtain ⟨o1, o2, o3, o4⟩ := h
      have hok : okGet (l ++ numL n.toNat s.toNat) (l.length : Int) s := ⟨o1, o2, by omega, by rw [List.length_append, numL_length]; omega⟩
      have hLen : ((l ++ numL n.toNat s.toNat).length : Int) = l.length + s := by rw [List.length_append, numL_length]; omega
      rcases hg with ⟨g1, _, g3⟩ | ⟨_, g2, _⟩
      · refine ⟨g1, ?_, hLen⟩
        rw [g3, Int.toNat_natCast, getL_put _ _ _ (Int.ofNat_lt.1 (show ((n.toNat : Nat) : Int) < ((256 ^ s.toNat : Nat) : Int) from by rw [Int.toNat_of_nonneg o3]; exact o4)), Int.toNat_of_nonneg o3]
      · exact absurd hok g2
    · rw [h] at hqt; cases hqt
  have hLb : L.length ≤ 100 := by
    rcases hq with ⟨_, h, rfl⟩ | ⟨_, _, rfl⟩
    · rw [List.length_append, numL_length]; have := h.2.1; omega
    · simp
  have hqq : (q != q) = false := by simp
  clear hq hg
  go_wp2_with fail
  refine (HPI.out _ HR.out).mono ?_
  rintro e w2 ⟨v2, rfl, b2, hg2⟩
  obtain ⟨a2, n2, c2, rfl, hg2⟩ := hg2.lit2
  have hn2 : n2 = L.length := by
    obtain ⟨_, _, e, _⟩ := hg2.row
    cases e; simp
  subst hn2
  have HG2 : Hid (Got w2 w1.heap.size 5 1 (.slice a2 L.length c2) (L.map byX)) := hg2
  clear hg2
  go_wp2_with fail
  refine (HPS.out _ (HR.out.on (by repeat (first | with_reducible exact Below.refl _ _ | with_reducible assumption | with_reducible refine ch_alloc ?_ _ | with_reducible refine Below.drew ?_ | with_reducible refine below_draws _ ?_ | (with_reducible refine Below.setCell ?_ ?_ _; rotate_left; focus (first | with_reducible exact Nat.le_refl _ | (simp; done) | (simp; omega) | (simp at *; omega))) | with_reducible refine ch_trans ?_ (by with_reducible assumption))))).mono ?_
  rintro e w3 ⟨v3, rfl, b3, hg3⟩
  clear hg3
  go_wp2_with fail
  refine (HGI.out _ _ (HG2.out.on (by repeat (first | with_reducible exact Below.refl _ _ | with_reducible assumption | with_reducible refine ch_alloc ?_ _ | with_reducible refine Below.drew ?_ | with_reducible refine below_draws _ ?_ | (with_reducible refine Below.setCell ?_ ?_ _; rotate_left; focus (first | with_reducible exact Nat.le_refl _ | (simp; done) | (simp; omega) | (simp at *; omega))) | with_reducible refine ch_trans ?_ (by with_reducible assumption)))).bytes).mono ?_
  rintro e w4 ⟨rfl, b4⟩
  have HB4 : Hid (Below w.heap.size w w4) := by show Below _ _ _; exact (by repeat (first | with_reducible exact Below.refl _ _ | with_reducible assumption | with_reducible refine ch_alloc ?_ _ | with_reducible refine Below.drew ?_ | with_reducible refine below_draws _ ?_ | (with_reducible refine Below.setCell ?_ ?_ _; rotate_left; focus (first | with_reducible exact Nat.le_refl _ | (simp; done) | (simp; omega) | (simp at *; omega))) | with_reducible refine ch_trans ?_ (by with_reducible assumption)))
  clear b2 b3 b4 hb1
  have HNT : Hid (∀ u : World, Below w.heap.size w u → Calls Tryd.prog 8 #[.int .i64 n] u fun e w' => e = .returned (.string ⟨(numText n).toArray⟩) ∧ Below u.heap.size u w') := fun u hu => numText_impl n u (HT.out.on hu)
  have HTN : Hid (∀ u : World, Below w.heap.size w u → Calls Tryd.prog 9 #[.string ⟨(numText n).toArray⟩] u fun e w' => e = .returned (.tuple #[.int .i64 (tnV ⟨(numText n).toArray⟩), .bool (tnB ⟨(numText n).toArray⟩)]) ∧ Below u.heap.size u w') := fun u hu => textNum_impl _ (by have := numText_len n; simp [ByteArray.size]; omega) u (HT.out.on hu) (HE.out.on hu)
  have hgq : q = false ∨ (q = true ∧ g = true ∧ ((N : Int) != n) = false ∧ ((L.length : Int) != (l.length : Int) + s) = false) := by
    cases h : q
    · exact Or.inl rfl
    · obtain ⟨h1, h2, h3⟩ := HF.out h
      exact Or.inr ⟨rfl, h1, by simp [h2], by simp [h3]⟩
  clear HF
  cases hnb : numB n
  · have hnt : numText n = [] := by rw [numText, if_neg (by rw [hnb]; simp)]
    rw [hnt] at HNT HTN
    have ht0 := tn_empty
    rw [show (⟨([] : List UInt8).toArray⟩ : ByteArray) = ⟨#[]⟩ from rfl, ht0.1, ht0.2] at HTN
    have hrange : n < -1099511627775 ∨ (-1099511627775 ≤ n ∧ 1099511627775 < n) := by
      rcases Int.lt_or_le n (-1099511627775) with h | h
      · exact Or.inl h
      · rcases Int.lt_or_le 1099511627775 n with h' | h'
        · exact Or.inr ⟨h, h'⟩
        · exact absurd ((numB_iff n).2 ⟨h, h'⟩) (by rw [hnb]; simp)
    have he : (ByteArray.mk #[]).toList.isEmpty = true := by rw [ByteArray.toList_eq]; rfl
    clear hnb hnt ht0
    rcases hrange with hr1 | ⟨hr1, hr2⟩
    · rcases hgq with rfl | ⟨rfl, rfl, hg1, hg2⟩
      · go_wp2_with fail
        refine (HNT.out _ HB4.out).mono ?_
        rintro e w5 ⟨rfl, b5⟩
        have HB5 : Hid (Below w.heap.size w w5) := ch_trans HB4.out b5
        clear b5
        go_wp2_with fail
        refine (HTN.out _ HB5.out).mono ?_
        rintro e w6 ⟨rfl, b6⟩
        have HB6 : Hid (Below w.heap.size w w6) := ch_trans HB5.out b6
        clear b6
        go_wp2
        go_ret
        exact ⟨rfl, HB6.out⟩
      · go_wp2_with fail
        refine (HNT.out _ HB4.out).mono ?_
        rintro e w5 ⟨rfl, b5⟩
        have HB5 : Hid (Below w.heap.size w w5) := ch_trans HB4.out b5
        clear b5
        go_wp2_with fail
        refine (HTN.out _ HB5.out).mono ?_
        rintro e w6 ⟨rfl, b6⟩
        have HB6 : Hid (Below w.heap.size w w6) := ch_trans HB5.out b6
        clear b6
        go_wp2
        go_ret
        exact ⟨rfl, HB6.out⟩
    · have hd : decide (n ≤ 1099511627775) = false := decide_eq_false (by omega)
      rcases hgq with rfl | ⟨rfl, rfl, hg1, hg2⟩
      · go_wp2_with fail
        refine (HNT.out _ HB4.out).mono ?_
        rintro e w5 ⟨rfl, b5⟩
        have HB5 : Hid (Below w.heap.size w w5) := ch_trans HB4.out b5
        clear b5
        go_wp2_with fail
        refine (HTN.out _ HB5.out).mono ?_
        rintro e w6 ⟨rfl, b6⟩
        have HB6 : Hid (Below w.heap.size w w6) := ch_trans HB5.out b6
        clear b6
        go_wp2
        go_ret
        exact ⟨rfl, HB6.out⟩
      · go_wp2_with fail
        refine (HNT.out _ HB4.out).mono ?_
        rintro e w5 ⟨rfl, b5⟩
        have HB5 : Hid (Below w.heap.size w w5) := ch_trans HB4.out b5
        clear b5
        go_wp2_with fail
        refine (HTN.out _ HB5.out).mono ?_
        rintro e w6 ⟨rfl, b6⟩
        have HB6 : Hid (Below w.heap.size w w6) := ch_trans HB5.out b6
        clear b6
        go_wp2
        go_ret
        exact ⟨rfl, HB6.out⟩
  · obtain ⟨ht1, ht2, ht3⟩ := tn_back n hnb
    rw [ht1, ht2] at HTN
    obtain ⟨hr1, hr2⟩ := (numB_iff n).1 hnb
    have he : (ByteArray.mk (numText n).toArray).toList.isEmpty = false := by
      rw [ByteArray.toList_eq]
      cases h : numText n with
      | nil => rw [h] at ht3; simp at ht3
      | cons c r => rfl
    have hnn : (n == n) = true := by simp
    clear hnb ht1 ht2 ht3
    generalize (ByteArray.mk (numText n).toArray) = S at HNT HTN he
    rcases hgq with rfl | ⟨rfl, rfl, hg1, hg2⟩
    · go_wp2_with fail
      refine (HNT.out _ HB4.out).mono ?_
      rintro e w5 ⟨rfl, b5⟩
      have HB5 : Hid (Below w.heap.size w w5) := ch_trans HB4.out b5
      clear b5
      go_wp2_with fail
      refine (HTN.out _ HB5.out).mono ?_
      rintro e w6 ⟨rfl, b6⟩
      have HB6 : Hid (Below w.heap.size w w6) := ch_trans HB5.out b6
      clear b6
      go_wp2
      go_ret
      exact ⟨rfl, HB6.out⟩
    · go_wp2_with fail
      refine (HNT.out _ HB4.out).mono ?_
      rintro e w5 ⟨rfl, b5⟩
      have HB5 : Hid (Below w.heap.size w w5) := ch_trans HB4.out b5
      clear b5
      go_wp2_with fail
      refine (HTN.out _ HB5.out).mono ?_
      rintro e w6 ⟨rfl, b6⟩
      have HB6 : Hid (Below w.heap.size w w6) := ch_trans HB5.out b6
      clear b6
      go_wp2
      go_ret
      exact ⟨rfl, HB6.out⟩
end Go.Proofs.YtihilcffmdjhhafDoor.lawFnNums
