/- The given TextVal: its contract. -/
import Derived.Test.YtmkgbdgafjeeiamDoorReadI
import Derived.Test.YtmkgbdgafjeeiamDoorValTextS
import Derived.Deep.DeepCutAuto
namespace Go.Proofs.YtmkgbdgafjeeiamDoor
open Go.ChangeShapes Go.WideShapes Go.ChangeAt Go.RowKit

/-- So far, of every text within quotes. -/
def Sq (l : List UInt8) (i : Nat) (o : List UInt8) : Prop := ∀ r, l = 39 :: (E r ++ [39]) → ∃ r2, r = o ++ r2 ∧ (E o).length + 1 = i
theorem Sq.zero (l : List UInt8) : Sq l 1 [] := fun r _ => ⟨r, rfl, rfl⟩
theorem Sq.next {l : List UInt8} {i : Nat} {o : List UInt8} (h : Sq l i o) (hi : i + 1 < l.length) (r : List UInt8) (hr : l = 39 :: (E r ++ [39])) :
    ∃ c r3, r = o ++ c :: r3 ∧ (39 :: E o).length = i ∧ l = (39 :: E o) ++ (escB c ++ (E r3 ++ [39])) := by
  obtain ⟨r2, rfl, hk'⟩ := h r hr
  cases r2 with
  | nil =>
    rw [List.append_nil] at hr
    rw [hr] at hi
    simp at hi
    omega
  | cons c r3 =>
    refine ⟨c, r3, rfl, by simp; omega, ?_⟩
    rw [hr, E_app, show (c :: r3) = [c] ++ r3 from rfl, E_app, E_one]
    simp
theorem Sq.plain {l : List UInt8} {i : Nat} {o : List UInt8} (h : Sq l i o) (hi : i + 1 < l.length) (x : UInt8) (hx : l[i]? = some x) (hn : ¬ ((x.toNat : Int) = 37 ∧ i + 2 < l.length)) : Sq l (i + 1) (o ++ [x]) := by
  intro r hr
  obtain ⟨c, r3, rfl, hk', hl⟩ := h.next hi r hr
  have e0 : l[i]? = (escB c ++ (E r3 ++ [39]))[0]? := by rw [hl]; exact at_app _ _ i hk' 0
  by_cases hp : plainB c = true
  · rw [escB, if_pos hp] at e0
    simp only [List.cons_append, List.getElem?_cons_zero] at e0
    rw [hx] at e0
    cases e0
    refine ⟨r3, by simp, ?_⟩
    rw [E_app, E_one, escB, if_pos hp, List.length_append]
    simp at hk'
    simp
    omega
  · rw [escB, if_neg hp] at e0 hl
    simp only [List.cons_append, List.getElem?_cons_zero] at e0
    rw [hx] at e0
    cases e0
    refine absurd ⟨rfl, ?_⟩ hn
    rw [hl]
    simp at hk' ⊢
    omega
theorem Sq.esc {l : List UInt8} {i : Nat} {o : List UInt8} (h : Sq l i o) (hi : i + 1 < l.length) (x a b : UInt8) (hx : l[i]? = some x) (h37 : (x.toNat : Int) = 37) (ha : l[i + 1]? = some a) (hb : l[i + 2]? = some b) :
    Sq l (i + 3) (o ++ [UInt8.ofNat (16 * halfF a + halfF b)]) := by
  intro r hr
  obtain ⟨c, r3, rfl, hk', hl⟩ := h.next hi r hr
  have e0 : l[i]? = (escB c ++ (E r3 ++ [39]))[0]? := by rw [hl]; exact at_app _ _ i hk' 0
  have e1 : l[i + 1]? = (escB c ++ (E r3 ++ [39]))[1]? := by rw [hl]; exact at_app _ _ i hk' 1
  have e2 : l[i + 2]? = (escB c ++ (E r3 ++ [39]))[2]? := by rw [hl]; exact at_app _ _ i hk' 2
  by_cases hp : plainB c = true
  · rw [escB, if_pos hp] at e0
    simp only [List.cons_append, List.getElem?_cons_zero] at e0
    rw [hx] at e0
    cases e0
    exact absurd h37 (plain_not37 _ hp)
  · rw [escB, if_neg hp] at e1 e2
    rw [ha] at e1
    rw [hb] at e2
    simp at e1 e2
    subst e1 e2
    rw [half_of, UInt8.ofNat_toNat]
    refine ⟨r3, by simp, ?_⟩
    rw [E_app, E_one, escB, if_neg hp, List.length_append]
    simp at hk'
    simp
    omega
theorem Sq.last {l : List UInt8} {i : Nat} {o : List UInt8} (h : Sq l i o) (hi : l.length ≤ i + 1) : ∀ r, l = 39 :: (E r ++ [39]) → r = o := by
  intro r hr
  obtain ⟨r2, rfl, hk'⟩ := h r hr
  cases r2 with
  | nil => simp
  | cons c r3 =>
    exfalso
    have h1 : l.length = (E o).length + ((escB c).length + (E r3).length) + 2 := by
      rw [hr, E_app, show (c :: r3) = [c] ++ r3 from rfl, E_app, E_one]
      simp
      omega
    have h2 : 1 ≤ (escB c).length := by unfold escB; split <;> simp
    omega
theorem E_len (r : List UInt8) : (E r).length ≤ 3 * r.length := by
  unfold E
  induction r with
  | nil => simp
  | cons c r ih => have := escB_len c; rw [List.flatMap_cons, List.length_append, List.length_cons]; omega
theorem num_quote (l : List UInt8) (h : l.head? = some 39) : textNum l = .none := by
  cases ht : textNum l with
  | none => rfl
  | some m =>
    obtain ⟨_, rfl⟩ := (textNum_some l m).1 ht
    obtain ⟨c, r, hc, hd⟩ := itoa_head m
    rw [hc] at h
    cases h
    exact absurd hd (by decide)
theorem byte_of (x y : Nat) (hx : x < 16) (hy : y < 16) : ((UInt8.ofNat (16 * x + y)).toNat : Int) = 16 * x + y := by
  rw [UInt8.toNat_ofNat']; omega
theorem wrapi (x : Int) (h0 : 0 ≤ x) (h1 : x < 1000000000) : IntKind.i64.wrap x = x := by
  simp [IntKind.wrap, IntKind.bits, IntKind.signed]; omega
theorem wrapb (x y : Nat) (hx : x < 16) (hy : y < 16) : IntKind.u8.wrap (16 * (x : Int) + (y : Int)) = ((UInt8.ofNat (16 * x + y)).toNat : Int) := by
  rw [byte_of x y hx hy]
  simp [IntKind.wrap, IntKind.bits, IntKind.signed]; omega
theorem own_none (B : Nat) (w : World) (hB : B ≤ w.heap.size) : OwnT B (w.alloc (.cells #[] 5)) (.slice (some ⟨w.heap.size, 0, none⟩) 0 0) [] :=
  World.ownsRow_made w #[] 0 hB (Nat.zero_le _) rfl

/-- What the tail finds in memory: the value that was read, and the place of the answer. -/
structure TailV (w : World) (t n : Int) (s : ByteArray) (wx : World) : Prop where
  o0 : wx.cell? ⟨w.heap.size + 1, 0, none⟩ = some (.int .i64 t)
  o1 : wx.cell? ⟨w.heap.size + 1, 1, none⟩ = some (.int .i64 n)
  o2 : wx.cell? ⟨w.heap.size + 1, 2, none⟩ = some (.string s)
  r0 : wx.cell? ⟨w.heap.size, 0, none⟩ = some (.int .i64 0)
  r1 : wx.cell? ⟨w.heap.size, 1, none⟩ = some (.int .i64 0)
  r2 : wx.cell? ⟨w.heap.size, 2, none⟩ = some (.string noS)
  f0 : wx.frozen? ⟨w.heap.size, 0, none⟩ = false
  f1 : wx.frozen? ⟨w.heap.size, 1, none⟩ = false
  f2 : wx.frozen? ⟨w.heap.size, 2, none⟩ = false
  size : w.heap.size + 1 < wx.heap.size
  below : Below w.heap.size w wx
theorem wp_world {P : Program} {c : Code} {Q : Exit → Act → World → Prop} {a : Act} {W : World} (R : World → Prop) (h : R W) (k : ∀ wx, R wx → Code.wp P c Q a wx) : Code.wp P c Q a W := k W h

set_option maxRecDepth 100000 in
set_option maxHeartbeats 2000000 in
theorem textVal_spec_q (s : ByteArray) (h1 : 1 < s.size) (h94 : s.size < 94) (hq : (s[0].toNat : Int) = 39) (w : World) :
    Calls Tryd.prog 16 #[.string s] w fun e w' => ∃ ty n r b, e = .returned (cR ty n r b) ∧ TvR s ty n r b ∧ Below w.heap.size w w' := by
  have hh : s.data.toList.head? = some 39 := by
    rw [head_at s (by omega)]
    congr 1
    apply UInt8.toNat_inj.1
    have e : (39 : UInt8).toNat = 39 := rfl
    omega
  have ht := tn_none (num_quote _ hh)
  have HS : Hid (∀ w : World, Calls Tryd.prog 29 #[.string s] w fun e w' => e = .returned (.tuple #[.int .i64 (tnV s), .bool (tnB s)]) ∧ Below w.heap.size w w') := fun w => textNum_spec s (by omega) w
  rw [ht.1, ht.2] at HS
  have d1 : (s.toList == [116, 114, 117, 101]) = false := by rw [beq_eq_false_iff_ne, ByteArray.toList_eq]; intro e; rw [e] at hh; cases hh
  have d2 : (s.toList == [102, 97, 108, 115, 101]) = false := by rw [beq_eq_false_iff_ne, ByteArray.toList_eq]; intro e; rw [e] at hh; cases hh
  have HH : Hid (s.data.toList.head? = some 39) := hh
  have hqb : ((s[0].toNat : Int) == 39) = true := by simp [hq]
  have h1i : (1 : Int) < s.size := by omega
  have h94i : (s.size : Int) < 94 := by omega
  clear ht hh hq
  go_enter Tryd.func16, Tryd.ntmps16
  go_wp2_with fail
  refine (HS.out _).mono ?_
  rintro e w1 ⟨rfl, hb1⟩
  obtain ⟨hc, hf⟩ := bcell hb1
  have hz : w.heap.size + 1 < w1.heap.size := by have := hb1.size; simp at this; omega
  go_wp2
  go_loopw [7, 8] (fun v i wr => ∃ (k : Nat) (o : List UInt8), 1 ≤ k ∧ k ≤ s.size ∧ i = .int .i64 k ∧ o.length ≤ k ∧ OwnT w1.heap.size wr v o ∧ Below w1.heap.size w1 wr ∧ Sq s.data.toList k o) (fun _ i _ => s.size - (intOf i).toNat)
  case atStart => exact ⟨1, [], by omega, by omega, rfl, by simp, own_none _ _ (Nat.le_refl _), (Below.refl _ _).alloc (Nat.le_refl _) _, Sq.zero _⟩
  case round =>
    obtain ⟨k, o, hk1, hk, rfl, hol, hown, hbel, HQ⟩ := hrel
    have hzr := hbel.size
    have hbb := hb1.trans (hbel.mono hb1.size)
    by_cases hlt : k + 1 < s.size
    · have hlti : (k : Int) < (s.size : Int) - 1 := by omega
      have hks : k < s.size := by omega
      have hx := get_at s k hks
      by_cases h37 : (s[k].toNat : Int) = 37 ∧ k + 2 < s.size
      · obtain ⟨h37, hk2⟩ := h37
        have d37 : ((s[k].toNat : Int) == 37) = true := by simp [h37]
        have hk2i : (k : Int) + 2 < s.size := by omega
        have HN := HQ.esc (by rw [size_len]; omega) _ _ _ hx h37 (get_at s (k + 1) (by omega)) (get_at s (k + 2) hk2)
        have q1 := halfF_lt s[k + 1]
        have q2 := halfF_lt s[k + 2]
        have hby := byte_of _ _ q1 q2
        have hw1 := wrapi ((k : Int) + 1) (by omega) (by omega)
        have hw2 := wrapi ((k : Int) + 2) (by omega) (by omega)
        have hm1 := wrapi (16 * (halfF s[k + 1] : Int)) (by omega) (by omega)
        have hv2 : ∀ (h : ((k : Int) + 2).toNat < s.size), IntKind.u8.wrap (IntKind.i64.wrap (16 * (halfF s[k + 1] : Int) + (halfF (s[((k : Int) + 2).toNat]'h) : Int))) = ((UInt8.ofNat (16 * halfF s[k + 1] + halfF s[k + 2])).toNat : Int) := by
          intro h
          have e : ((k : Int) + 2).toNat = k + 2 := by omega
          simp only [e]
          rw [wrapi _ (by omega) (by omega)]
          exact wrapb _ _ q1 q2
        have hk1i : (k : Int) + 1 < s.size := by omega
        have g1 : (0 : Int) ≤ (k : Int) + 1 := by omega
        have g2 : (0 : Int) ≤ (k : Int) + 2 := by omega
        clear hx h37 HQ hc hf hby
        go_wp2
        go_region_law (first
          | (refine app_stepT rfl (.tmp 60) (.tmp 74) rfl w1.heap.size _ o rfl ((hown.alloc _).drew) ⟨wr.heap.size, 0, none⟩ 1 1 [UInt8.ofNat (16 * halfF s[k + 1] + halfF s[k + 2])] rfl rfl (cells1_new wr _ _) (by omega) (by simp; omega) ?_; intro v' w2 hown1 hb2)
          | (go_simp; go_at_call 30; refine (half_spec _ _).mono ?_; rintro e w' ⟨rfl, rfl⟩))
        all_goals
          have hb3 : Below w1.heap.size w1 w2 := ((hbel.alloc hzr _).drew).trans hb2
          clear hb2
          go_wp2
          go_roundw
          case rel => exact ⟨k + 3, _, by omega, by omega, by go_num, by simp; omega, hown1, hb3, HN⟩
          case measure => simp [intOf]; omega
      · have HN : Sq s.data.toList (k + 1) (o ++ [s[k]]) := HQ.plain (by rw [size_len]; omega) _ hx (by rw [size_len]; exact h37)
        clear hx HQ hc hf
        by_cases h37a : (s[k].toNat : Int) = 37
        · have d37 : ((s[k].toNat : Int) == 37) = true := by simp [h37a]
          have hk2i : ¬ (k : Int) + 2 < s.size := by omega
          clear h37 h37a
          go_wp2_with (first | (at_builtin; refine app_list rfl (.tmp 78) (.tmp 82) rfl w1.heap.size _ o rfl (hown.alloc _) ⟨wr.heap.size, 0, none⟩ 1 1 [s[k]] rfl rfl (cells1_new _ _ _) (by omega) (by simp; omega) ?_; intro v' w2 hown1 hb2))
          go_roundw
          case rel => exact ⟨k + 1, o ++ [s[k]], by omega, by omega, by go_num, by simp; omega, hown1, (hbel.alloc hzr _).trans hb2, HN⟩
          case measure => simp [intOf]; omega
        · have d37 : ((s[k].toNat : Int) == 37) = false := by simp [h37a]
          clear h37 h37a
          go_wp2_with (first | (at_builtin; refine app_list rfl (.tmp 78) (.tmp 82) rfl w1.heap.size _ o rfl (hown.alloc _) ⟨wr.heap.size, 0, none⟩ 1 1 [s[k]] rfl rfl (cells1_new _ _ _) (by omega) (by simp; omega) ?_; intro v' w2 hown1 hb2))
          go_roundw
          case rel => exact ⟨k + 1, o ++ [s[k]], by omega, by omega, by go_num, by simp; omega, hown1, (hbel.alloc hzr _).trans hb2, HN⟩
          case measure => simp [intOf]; omega
    · have hlti : ¬ (k : Int) < (s.size : Int) - 1 := by omega
      have hcv := own_text hown
      have HL : Hid (∀ ty' n' r', Tv s ty' n' r' → ty' = 3 ∧ n' = 0 ∧ r' = ⟨o.toArray⟩) := by
        intro ty' n' r' h
        obtain ⟨rfl, rfl, _, he⟩ := tv_quote s HH.out ty' n' r' h
        have := HQ.last (by rw [size_len]; omega) _ he
        exact ⟨rfl, rfl, by rw [← this, ba_eta]⟩
      have HNE : Hid (s.data.toList ≠ []) := by intro e; have := HH.out; rw [e] at this; cases this
      clear HQ hc hf
      obtain ⟨hc, hf⟩ := bcell hbb
      have hzx : w.heap.size + 1 < wr.heap.size := by omega
      go_upto_region 17 with fail
      refine wp_world (TailV w 3 0 ⟨o.toArray⟩) ?_ ?_
      · constructor
        case size => first | exact hzx | (simp; exact hzx) | (simp; omega)
        case below => repeat (first | exact Below.refl _ _ | (refine Below.setCell ?_ (by first | (simp; done) | (simp; omega) | omega) _) | (refine Below.alloc ?_ (by first | (simp; done) | (simp; omega) | omega) _) | (refine below_of (by assumption) ?_ (by first | (simp; done) | (simp; omega) | omega)))
        all_goals simp [hc, hf, go_sem]
      · intro wx htl
        obtain ⟨o0, o1, o2, r0, r1, r2, f0, f1, f2, hzw, hbx⟩ := htl
        have hz0 : w.heap.size < wx.heap.size := by omega
        clear hc hf hcv hown hbel hbb hb1
        have HV : Hid (∀ w : World, Calls Tryd.prog 31 #[V 3 0 ⟨o.toArray⟩] w fun e w' => e = .returned (.string (valText 3 0 ⟨o.toArray⟩)) ∧ Below w.heap.size w w') := fun w => valText_spec 3 0 ⟨o.toArray⟩ w
        by_cases he : valText 3 0 ⟨o.toArray⟩ = s
        · have HF : Hid (TvR s 3 0 ⟨o.toArray⟩ true) := TvR.yes he (HNE.out)
          rw [he] at HV
          clear he
          go_wp2_with fail
          refine (HV.out _).mono ?_
          rintro e w2 ⟨rfl, hb2⟩
          obtain ⟨hc2, hf2⟩ := bcell hb2
          have hz2 : w.heap.size + 1 < w2.heap.size := by have := hb2.size; omega
          have hz3 : w.heap.size < w2.heap.size := by omega
          go_wp2
          exact bodyPost_ret (v := cR 3 0 ⟨o.toArray⟩ true) (by simp [results, Tryd.results16, go_sem, hc2, r0, r1, r2, hz0]) rfl ⟨_, _, _, true, rfl, HF, by repeat (first | exact hbx | exact Below.refl _ _ | (refine Below.setCell ?_ (by first | (simp; done) | (simp; omega) | omega) _) | (refine Below.alloc ?_ (by first | (simp; done) | (simp; omega) | omega) _) | (refine below_of hb2 ?_ (by first | (simp; done) | (simp; omega) | omega)))⟩
        · have HF : Hid (TvR s 0 0 noS false) := TvR.no HL.out he
          have hqq : ((valText 3 0 ⟨o.toArray⟩).toList == s.toList) = false := by
            rw [beq_eq_false_iff_ne, ByteArray.toList_eq, ByteArray.toList_eq]
            intro e; exact he (by rw [← ba_eta (valText 3 0 ⟨o.toArray⟩), e, ba_eta])
          generalize valText 3 0 ⟨o.toArray⟩ = T at HV hqq
          clear he
          go_wp2_with fail
          refine (HV.out _).mono ?_
          rintro e w2 ⟨rfl, hb2⟩
          obtain ⟨hc2, hf2⟩ := bcell hb2
          have hz2 : w.heap.size + 1 < w2.heap.size := by have := hb2.size; omega
          have hz3 : w.heap.size < w2.heap.size := by omega
          go_wp2
          exact bodyPost_ret (v := cR 0 0 noS false) (by simp [results, Tryd.results16, go_sem, hc2, r0, r1, r2, hz0]) rfl ⟨0, 0, noS, false, rfl, HF, by repeat (first | exact hbx | exact Below.refl _ _ | (refine Below.setCell ?_ (by first | (simp; done) | (simp; omega) | omega) _) | (refine Below.alloc ?_ (by first | (simp; done) | (simp; omega) | omega) _) | (refine below_of hb2 ?_ (by first | (simp; done) | (simp; omega) | omega)))⟩
end Go.Proofs.YtmkgbdgafjeeiamDoor
