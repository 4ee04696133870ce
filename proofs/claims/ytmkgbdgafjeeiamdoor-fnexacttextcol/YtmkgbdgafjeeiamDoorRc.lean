/- A reader over a text: the type of a column, a value, a column. -/
import Derived.Test.YtmkgbdgafjeeiamDoorRp
import Derived.Test.YtmkgbdgafjeeiamDoorTextValI
import Derived.Test.YtmkgbdgafjeeiamDoorLaidW
import Derived.Test.YtmkgbdgafjeeiamDoorCl
namespace Go.Proofs.YtmkgbdgafjeeiamDoor
open Go.ChangeShapes Go.WideShapes Go.ChangeAt Go.RowKit

/-- What the library's variables hold, and that a reader lies behind them. -/
structure Env (w : World) (R : Nat) : Prop where
  uni : Uni w
  tab : Tab w
  errs : Errs w
  r1 : 0 < R
  r2 : 1 < R
  r3 : 5 < R
  r4 : 2 < R
  r5 : 3 < R
theorem var_down {P : Program} {n : String} {g B : Nat} {w w' : World} {cs : Array Value} (hg : P.globalNamed n = some g) (h : w.var? P n = some cs) (hb : Below B w w') (hlt : g < B) : w'.var? P n = some cs := by
  unfold World.var? at h ⊢
  rw [hg] at h ⊢
  simpa [hb.block g hlt] using h
theorem Env.on {w w' : World} {R : Nat} (h : Env w R) (b : Below R w w') : Env w' R := by
  obtain ⟨⟨t1, p1, h1⟩, t2, p2, h2⟩ := h.errs
  exact ⟨h.uni.on b h.r1 h.r2, var_down gTab h.tab b h.r3, ⟨⟨t1, p1, var_down gSyn h1 b h.r4⟩, t2, p2, var_down gRng h2 b h.r5⟩, h.r1, h.r2, h.r3, h.r4, h.r5⟩
theorem Env.turn {w w' : World} {R : Nat} (h : Env w R) (k : Turns (· = R) w w') (hR : R ≤ w.heap.size) : Env w' R := h.on (k.down (fun c hc => by omega) hR)
set_option maxRecDepth 100000 in
set_option maxHeartbeats 1000000 in
/-- impl.typeText -/
theorem typeText_any (ty : Int) (w : World) : Calls Tryd.prog 27 #[.int .i64 ty] w fun e w' => e = .returned (.string (tyT ty)) ∧ w' = w := by
  by_cases h1 : ty = 1
  · subst h1
    go_enter Tryd.func27, Tryd.ntmps27
    go_wp2
    go_ret
    exact ⟨rfl, rfl⟩
  by_cases h2 : ty = 2
  · subst h2
    go_enter Tryd.func27, Tryd.ntmps27
    go_wp2
    go_ret
    exact ⟨rfl, rfl⟩
  by_cases h3 : ty = 3
  · subst h3
    go_enter Tryd.func27, Tryd.ntmps27
    go_wp2
    go_ret
    exact ⟨rfl, rfl⟩
  have HE : Hid (tyT ty = ⟨#[]⟩) := by show _ = _; simp [tyT, h1, h2, h3]
  have b1 : (ty == 1) = false := by simpa using h1
  have b2 : (ty == 2) = false := by simpa using h2
  have b3 : (ty == 3) = false := by simpa using h3
  go_enter Tryd.func27, Tryd.ntmps27
  go_wp2
  go_ret
  exact ⟨by rw [HE.out]; rfl, rfl⟩


set_option maxRecDepth 100000 in
set_option maxHeartbeats 1000000 in
/-- (*reader).colType -/
theorem colType_any (R : Nat) (s : ByteArray) (f : Nat) (w : World) (hs : s.size ≤ 1048576) (hk : f ≤ s.size) (hr : Rd w R s f) (hU : Uni w) (hR1 : 0 < R) (hR2 : 1 < R) :
    Calls Tryd.prog 23 #[.pointer (some ⟨R, 0, none⟩)] w fun e w' => Turns (· = R) w w' ∧ ((∃ (ty : Int) (k' : Nat), e = .returned (.int .i64 ty) ∧ k' ≤ s.size ∧ PType (s.data.toList.drop f) ty (s.data.toList.drop k') ∧ Rd w' R s k') ∨ (e = gone ∧ ∀ ty l, ¬ PType (s.data.toList.drop f) ty l)) := by
  have HR : Hid (Rd w R s f) := hr
  have HU : Hid (Uni w) := hU
  clear hr hU
  go_enter Tryd.func23, Tryd.ntmps23
  go_wp2_with fail
  refine (word_any R s f _ hs hk HR.out HU.out hR1 hR2).mono ?_
  rintro e w1 ⟨hT, h⟩
  have HT : Hid (Turns (· = R) w w1) := hT
  rcases h with ⟨wd, k', rfl, hk', hw, hr1⟩ | ⟨rfl, hw⟩
  rotate_left
  · have HB : Hid (∀ ty l, ¬ PType (s.data.toList.drop f) ty l) := fun ty l h => by rw [PType, hw] at h; simp at h
    clear hT hw
    go_wp2
    exact ⟨rfl, HT.out, Or.inr ⟨rfl, HB.out⟩⟩
  have HR1 : Hid (Rd w1 R s k') := hr1
  have HW : Hid (wordF (s.data.toList.drop f) = some (wd.data.toList, s.data.toList.drop k')) := hw
  clear hT hw hr1 HR HU
  go_wp2
  go_loopw [4] (fun i wr => ∃ j : Nat, i = .int .i64 j ∧ 1 ≤ j ∧ j ≤ 4 ∧ wr = w1 ∧ Hid (∀ ty : Int, 1 ≤ ty → ty < j → wd ≠ tyT ty)) (fun i _ => 4 - (intOf i).toNat)
  case atStart => exact ⟨1, rfl, Nat.le_refl _, by omega, rfl, fun ty h1 h2 => by omega⟩
  case round =>
    obtain ⟨j, rfl, hj1, hj4, rfl, HN⟩ := hrel
    by_cases hj : j ≤ 3
    · have hji : decide ((j : Int) ≤ 3) = true := by simp; omega
      by_cases e : tyT j = wd
      · have HP : Hid (PType (s.data.toList.drop f) j (s.data.toList.drop k')) := ⟨by omega, by rw [e]; exact HW.out⟩
        have hq := str_yes e
        clear e
        go_wp2_with fail
        refine (typeText_any j _).mono ?_
        rintro e w2 ⟨rfl, rfl⟩
        go_wp2
        go_ret
        exact ⟨HT.out, Or.inl ⟨_, k', rfl, hk', HP.out, HR1.out⟩⟩
      · have HN' : Hid (∀ ty : Int, 1 ≤ ty → ty < ((j + 1 : Nat) : Int) → wd ≠ tyT ty) := fun ty h1 h2 => by
          by_cases h3 : ty = j
          · subst h3; exact fun h => e h.symm
          · exact HN.out ty h1 (by omega)
        have hq := str_no e
        clear e
        go_wp2_with fail
        refine (typeText_any j _).mono ?_
        rintro e w2 ⟨rfl, rfl⟩
        go_wp2
        go_round
        case rel => exact ⟨j + 1, by go_num, by omega, by omega, by trivial, HN'⟩
        case measure => simp [intOf]; omega
    · have hji : decide ((j : Int) ≤ 3) = false := by simp; omega
      have HB : Hid (∀ ty l, ¬ PType (s.data.toList.drop f) ty l) := fun ty l h => by
        obtain ⟨h1, h2⟩ := h
        rw [HW.out] at h2
        have h3 : wd = tyT ty := bytes_inj (by simpa using congrArg (fun o => o.map Prod.fst) h2)
        exact HN.out ty (by omega) (by omega) h3
      go_wp2
      first | exact ⟨rfl, HT.out, Or.inr ⟨rfl, HB.out⟩⟩ | exact ⟨trivial, HT.out, Or.inr ⟨rfl, HB.out⟩⟩

set_option maxRecDepth 100000 in
set_option maxHeartbeats 1000000 in
/-- impl.valOf -/
theorem valOf_any (s : ByteArray) (w : World) (hs : s.size ≤ 1048576) (hT : Tab w) (hE : Errs w) :
    Calls Tryd.prog 25 #[.string s] w fun e w' => Below w.heap.size w w' ∧ ((∃ ty n r, e = .returned (V ty n r) ∧ Tv s ty n r) ∨ (e = gone ∧ ∀ ty n r, ¬ Tv s ty n r)) := by
  have HT : Hid (Tab w ∧ Errs w) := ⟨hT, hE⟩
  clear hT hE
  have HQ0 : Own (w.alloc (.cells #[.int .i64 0, .int .i64 0, .string ⟨#[]⟩] 23)) w.heap.size 23 #[.int .i64 0, .int .i64 0, .string ⟨#[]⟩] := Own.new w _ _
  have hv : Below w.heap.size w (w.alloc (.cells #[.int .i64 0, .int .i64 0, .string ⟨#[]⟩] 23)) := ch_alloc (Below.refl _ _) _
  have hz0 : w.heap.size < (w.alloc (.cells #[.int .i64 0, .int .i64 0, .string ⟨#[]⟩] 23)).heap.size := by simp
  go_enter Tryd.func25, Tryd.ntmps25
  go_wp2_with fail
  generalize w.alloc (.cells #[.int .i64 0, .int .i64 0, .string ⟨#[]⟩] 23) = wv at HQ0 hv hz0 ⊢
  refine (textVal_impl s hs _ (HT.out.1.on hv) (HT.out.2.on hv)).mono ?_
  rintro e w1 ⟨ty, n, r, b, rfl, h, b1⟩
  have HQ1 := HQ0.on b1
  have hz1 : w.heap.size < w1.heap.size := Nat.lt_of_lt_of_le hz0 b1.size
  have hb1 := ch_trans hv b1
  obtain ⟨g0, g1, g2⟩ := HQ1.loc.three
  have i0 := HQ1.frozen 0
  have i1 := HQ1.frozen 1
  have i2 := HQ1.frozen 2
  have hne : w.heap.size ≠ w1.heap.size := by omega
  clear HQ0 hv hz0 b1
  rcases h with ⟨rfl, h⟩ | ⟨rfl, _, _, _, h⟩
  · have HV : Hid (Tv s ty n r) := h
    clear h
    go_wp2
    have HB : Hid (Below w.heap.size w ((((w1.setCell ⟨w.heap.size, 0, none⟩ (.int .i64 ty)).setCell ⟨w.heap.size, 1, none⟩ (.int .i64 n)).setCell ⟨w.heap.size, 2, none⟩ (.string r)).alloc (.cells #[.int .i64 ty, .int .i64 n, .string r] 23))) := ch_alloc (hb1.trans ((turns3 w1 w.heap.size (.int .i64 ty) (.int .i64 n) (.string r)).down (fun c hc => by omega) (by omega))) _
    obtain ⟨e0, e1, e2⟩ := ((own3 HQ1 (.int .i64 ty) (.int .i64 n) (.string r)).on (ch_alloc (Below.refl _ _) (.cells #[.int .i64 ty, .int .i64 n, .string r] 23))).loc.three
    generalize (((w1.setCell ⟨w.heap.size, 0, none⟩ (.int .i64 ty)).setCell ⟨w.heap.size, 1, none⟩ (.int .i64 n)).setCell ⟨w.heap.size, 2, none⟩ (.string r)).alloc (.cells #[.int .i64 ty, .int .i64 n, .string r] 23) = W at HB e0 e1 e2 ⊢
    exact bodyPost_ret (v := V ty n r) (by simp [results, Tryd.results25, go_sem, e0, e1, e2]) rfl ⟨HB.out, Or.inl ⟨ty, n, r, rfl, HV.out⟩⟩
  · have HV : Hid (∀ ty n r, ¬ Tv s ty n r) := h
    clear h
    go_wp2
    exact ⟨rfl, ch_alloc hb1 _, Or.inr ⟨rfl, HV.out⟩⟩

theorem first_yes (s : ByteArray) (h0 : 0 < s.size) (he : s[0] = 61) : ((s.extract 0 1).toList == [61]) = true := by
  have : (s.extract 0 1).data.toList = [61] := by
    rw [mid_data, List.drop_zero, take_one s 0 h0, he]; simp
  rw [ByteArray.toList_eq, this]; rfl
theorem first_no (s : ByteArray) (h0 : 0 < s.size) (he : s[0] ≠ 61) : ((s.extract 0 1).toList == [61]) = false := by
  have : (s.extract 0 1).data.toList = [s[0]] := by
    rw [mid_data, List.drop_zero, take_one s 0 h0]; simp
  rw [ByteArray.toList_eq, this]; simpa using he
set_option maxRecDepth 100000 in
set_option maxHeartbeats 1000000 in
/-- strings.CutPrefix of '=' -/
theorem cut_yes (s : ByteArray) (w : World) (h0 : 0 < s.size) (he : s[0] = 61) :
    Calls Tryd.prog 24 #[.string s, .string ⟨#[61]⟩] w fun e w' => e = .returned (.tuple #[.string (s.extract 1 s.size), .bool true]) ∧ w' = w := by
  have hs1 : (1 : Int) ≤ s.size := by omega
  have hp := first_yes s h0 he
  clear he
  go_enter Tryd.func24, Tryd.ntmps24
  go_wp2
  exact bodyPost_ret (v := .tuple #[.string (s.extract 1 s.size), .bool true]) (by simp [results, Tryd.results24, go_sem]) rfl ⟨rfl, rfl⟩
set_option maxRecDepth 100000 in
set_option maxHeartbeats 1000000 in
theorem cut_no (s : ByteArray) (w : World) (he : ∀ h0 : 0 < s.size, s[0] ≠ 61) :
    Calls Tryd.prog 24 #[.string s, .string ⟨#[61]⟩] w fun e w' => e = .returned (.tuple #[.string s, .bool false]) ∧ w' = w := by
  by_cases h0 : 0 < s.size
  · have hs1 : (1 : Int) ≤ s.size := by omega
    have hp := first_no s h0 (he h0)
    clear he
    go_enter Tryd.func24, Tryd.ntmps24
    go_wp2
    exact bodyPost_ret (v := .tuple #[.string s, .bool false]) (by simp [results, Tryd.results24, go_sem]) rfl ⟨rfl, rfl⟩
  · have hs1 : ¬ (1 : Int) ≤ s.size := by omega
    have hs2 : decide ((1 : Int) ≤ s.size) = false := by simp; omega
    clear he
    go_enter Tryd.func24, Tryd.ntmps24
    go_wp2
    exact bodyPost_ret (v := .tuple #[.string s, .bool false]) (by simp [results, Tryd.results24, go_sem]) rfl ⟨rfl, rfl⟩
end Go.Proofs.YtmkgbdgafjeeiamDoor
