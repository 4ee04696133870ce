/- A reader over a text: the next word. -/
import Derived.Test.YtmkgbdgafjeeiamDoorPk
import Derived.Test.YtmkgbdgafjeeiamDoorWm
namespace Go.Proofs.YtmkgbdgafjeeiamDoor
open Go.ChangeShapes Go.WideShapes Go.ChangeAt Go.RowKit

/-- The next word of a line, and what comes behind it. -/
def wordF : List UInt8 → Option (List UInt8 × List UInt8)
  | [] => some ([], [])
  | b :: r => if b = 32 then some ([], r) else if b = 10 then some ([], b :: r) else if b.toNat < 128 then (wordF r).map (fun p => (b :: p.1, p.2)) else none
theorem wordF_end (s : ByteArray) (k : Nat) (h : s.size ≤ k) : wordF (s.data.toList.drop k) = some ([], []) := by
  rw [List.drop_of_length_le (by simpa using h)]; rfl
theorem wordF_blank (s : ByteArray) (k : Nat) (h : k < s.size) (e : s[k] = 32) : wordF (s.data.toList.drop k) = some ([], s.data.toList.drop (k + 1)) := by
  rw [drop_one s k h, wordF, if_pos e]
theorem wordF_line (s : ByteArray) (k : Nat) (h : k < s.size) (e : s[k] = 10) : wordF (s.data.toList.drop k) = some ([], s.data.toList.drop k) := by
  rw [drop_one s k h, wordF, if_neg (by rw [e]; decide), if_pos e]
theorem wordF_more (s : ByteArray) (k : Nat) (h : k < s.size) (e1 : s[k] ≠ 32) (e2 : s[k] ≠ 10) (e3 : s[k].toNat < 128) : wordF (s.data.toList.drop k) = (wordF (s.data.toList.drop (k + 1))).map (fun p => (s[k] :: p.1, p.2)) := by
  rw [drop_one s k h, wordF, if_neg e1, if_neg e2, if_pos e3]
theorem wordF_bad (s : ByteArray) (k : Nat) (h : k < s.size) (e3 : 128 ≤ s[k].toNat) : wordF (s.data.toList.drop k) = none := by
  rw [drop_one s k h, wordF, if_neg (fun e => by rw [e] at e3; revert e3; decide), if_neg (fun e => by rw [e] at e3; revert e3; decide), if_neg (by omega)]
/-- Gone over the signs of a word from one place to another. -/
def Went (s : ByteArray) (f k : Nat) : Prop := f ≤ k ∧ k ≤ s.size ∧ wordF (s.data.toList.drop f) = (wordF (s.data.toList.drop k)).map (fun p => ((s.data.toList.take k).drop f ++ p.1, p.2))
theorem Went.start (s : ByteArray) (f : Nat) (h : f ≤ s.size) : Went s f f := ⟨Nat.le_refl _, h, by simp⟩
theorem Went.step {s : ByteArray} {f k : Nat} (h : Went s f k) (hk : k < s.size) (e1 : s[k] ≠ 32) (e2 : s[k] ≠ 10) (e3 : s[k].toNat < 128) : Went s f (k + 1) := by
  obtain ⟨h1, h2, h3⟩ := h
  refine ⟨by omega, hk, ?_⟩
  rw [h3, wordF_more s k hk e1 e2 e3, Option.map_map]
  congr 1
  funext p
  have : (s.data.toList.take (k + 1)).drop f = (s.data.toList.take k).drop f ++ [s[k]] := by
    rw [take_one s k hk, List.drop_append_of_le_length (by simp; omega)]
  simp [this]
theorem Went.done {s : ByteArray} {f k : Nat} (h : Went s f k) {l : List UInt8} (hw : wordF (s.data.toList.drop k) = some ([], l)) : wordF (s.data.toList.drop f) = some ((s.extract f k).data.toList, l) := by
  rw [h.2.2, hw, mid_data]; simp
theorem Went.bad {s : ByteArray} {f k : Nat} (h : Went s f k) (hk : k < s.size) (e3 : 128 ≤ s[k].toNat) : wordF (s.data.toList.drop f) = none := by
  rw [h.2.2, wordF_bad s k hk e3]; rfl
/-- The rune at a place. -/
def runeAt (s : ByteArray) (k : Nat) : Int := if h : k < s.size then (s[k].toNat : Int) else -1
theorem Rd.turn {w : World} {R : Nat} {s : ByteArray} {k : Nat} (h : Rd w R s k) : Rd (w.setCell ⟨R, 1, none⟩ (.int .i64 ((k : Int) + 1))) R s (k + 1) := Own.set h 1 (.int .i64 ((k : Int) + 1))
/-- Where a reader is. -/
def atOf (w : World) (R : Nat) : Nat := match w.cell? ⟨R, 1, none⟩ with | some (.int _ n) => n.toNat | _ => 0
theorem Rd.at {w : World} {R : Nat} {s : ByteArray} {k : Nat} (h : Rd w R s k) : atOf w R = k := by
  unfold atOf
  rw [h.loc.two.2]
  simp
theorem Rd.on {w w' : World} {R : Nat} {s : ByteArray} {k : Nat} (h : Rd w R s k) (b : Below w.heap.size w w') : Rd w' R s k := Own.on h b

set_option maxRecDepth 100000 in
set_option maxHeartbeats 1000000 in
/-- (*reader).peek -/
theorem peek_any (R : Nat) (s : ByteArray) (k : Nat) (w : World) (hk : k ≤ s.size) (hr : Rd w R s k) (hU : Uni w) :
    Calls Tryd.prog 34 #[.pointer (some ⟨R, 0, none⟩)] w fun e w' => Below w.heap.size w w' ∧ ((e = .returned (.int .i32 (runeAt s k)) ∧ runeAt s k < 128) ∨ (e = gone ∧ ∃ h : k < s.size, 128 ≤ s[k].toNat)) := by
  by_cases h : k < s.size
  · by_cases hlo : s[k].toNat < 128
    · exact (peek_low R s k w h hr (by omega)).mono fun e w' ⟨he, hb⟩ => ⟨hb, Or.inl ⟨by rw [he, runeAt, dif_pos h], by rw [runeAt, dif_pos h]; omega⟩⟩
    · exact (peek_high R s k w h hr (by omega) hU).mono fun e w' ⟨he, hb⟩ => ⟨hb, Or.inr ⟨he, h, by omega⟩⟩
  · obtain rfl : k = s.size := by omega
    exact (peek_end R s w hr).mono fun e w' ⟨he, hb⟩ => ⟨hb, Or.inl ⟨by rw [he, runeAt, dif_neg h], by rw [runeAt, dif_neg h]; decide⟩⟩

set_option maxRecDepth 100000 in
set_option maxHeartbeats 1000000 in
/-- (*reader).word -/
theorem word_any (R : Nat) (s : ByteArray) (f : Nat) (w : World) (hs : s.size ≤ 1048576) (hk : f ≤ s.size) (hr : Rd w R s f) (hU : Uni w) (hR1 : 0 < R) (hR2 : 1 < R) :
    Calls Tryd.prog 22 #[.pointer (some ⟨R, 0, none⟩)] w fun e w' => Turns (· = R) w w' ∧ ((∃ (wd : ByteArray) (k' : Nat), e = .returned (.string wd) ∧ k' ≤ s.size ∧ wordF (s.data.toList.drop f) = some (wd.data.toList, s.data.toList.drop k') ∧ Rd w' R s k') ∨ (e = gone ∧ wordF (s.data.toList.drop f) = none)) := by
  have HR : Hid (Rd w R s f) := hr
  have HU : Hid (Uni w) := hU
  obtain ⟨c0, c1⟩ := hr.loc.two
  have hRl : R < w.heap.size := cell_lt c0
  clear hr hU
  go_enter Tryd.func22, Tryd.ntmps22
  go_wp2_with fail
  refine (peek_any R s f _ hk HR.out HU.out).mono ?_
  rintro e w1 ⟨b1, h⟩
  rcases h with ⟨rfl, hlo⟩ | ⟨rfl, h, hh⟩
  rotate_left
  · have HB : Hid (wordF (s.data.toList.drop f) = none) := wordF_bad s f h hh
    have HT : Hid (Turns (· = R) w w1) := (Turns.refl _ _).below b1
    clear b1 c0 c1
    go_wp2
    exact ⟨rfl, HT.out, Or.inr ⟨rfl, HB.out⟩⟩
  have HW0 : Hid (Went s f f) := Went.start s f hk
  have HT0 : Hid (Turns (· = R) w w1) := (Turns.refl _ _).below b1
  have HR0 : Hid (Rd w1 R s f) := HR.out.on b1
  clear c0 c1 b1 HR
  go_wp2
  go_loopw [4] (fun c wr => ∃ k : Nat, c = .int .i32 (runeAt s k) ∧ runeAt s k < 128 ∧ k ≤ s.size ∧ Hid (Went s f k) ∧ Hid (Turns (· = R) w wr) ∧ Hid (Rd wr R s k)) (fun _ wr => s.size - atOf wr R)
  case atStart => exact ⟨f, rfl, hlo, hk, HW0, HT0, HR0⟩
  case round =>
    clear HW0 HT0 HR0 hlo
    obtain ⟨k, rfl, hlo, hkl, HW, HT, HRd⟩ := hrel
    obtain ⟨c0, c1⟩ := HRd.out.loc.two
    have i1 := HRd.out.frozen 1
    have HUk : Hid (Uni wr) := HU.out.on (HT.out.down (B := R) (fun c hc => by omega) (by omega)) hR1 hR2
    by_cases hgo : ∃ h : k < s.size, s[k] ≠ 32 ∧ s[k] ≠ 10
    · obtain ⟨h, e1, e2⟩ := hgo
      have hra : runeAt s k = (s[k].toNat : Int) := by rw [runeAt, dif_pos h]
      have hn1 : (runeAt s k != 32) = true := by rw [hra]; simpa using u8_ne (b := 32) e1
      have hn2 : (runeAt s k != 10) = true := by rw [hra]; simpa using u8_ne (b := 10) e2
      have hn3 : (runeAt s k != -1) = true := by rw [hra]; simp
      have HW' : Hid (Went s f (k + 1)) := HW.out.step h e1 e2 (by rw [hra] at hlo; omega)
      have HR' : Hid (Rd (wr.setCell ⟨R, 1, none⟩ (.int .i64 ((k : Int) + 1))) R s (k + 1)) := HRd.out.turn
      have HT' : Hid (Turns (· = R) w (wr.setCell ⟨R, 1, none⟩ (.int .i64 ((k : Int) + 1)))) := HT.out.set (p := ⟨R, 1, none⟩) rfl _
      have HU' : Hid (Uni (wr.setCell ⟨R, 1, none⟩ (.int .i64 ((k : Int) + 1)))) := HU.out.on (HT'.out.down (B := R) (fun c hc => by omega) (by omega)) hR1 hR2
      have hat := HRd.out.at
      have hk32 : (k : Int) ≤ 1048576 := by omega
      clear hra e1 e2
      go_wp2_with fail
      generalize wr.setCell ⟨R, 1, none⟩ (.int .i64 ((k : Int) + 1)) = u at HR' HT' HU' ⊢
      refine (peek_any R s (k + 1) _ h HR'.out HU'.out).mono ?_
      rintro e w2 ⟨b2, h2⟩
      have HT2 : Hid (Turns (· = R) w w2) := HT'.out.below b2
      have HR2 : Hid (Rd w2 R s (k + 1)) := HR'.out.on b2
      rcases h2 with ⟨rfl, hlo2⟩ | ⟨rfl, h2, hh⟩
      · clear b2
        go_wp2
        go_round
        case rel => exact ⟨k + 1, rfl, hlo2, h, HW', HT2, HR2⟩
        case measure => rw [HR2.out.at]; omega
      · have HB : Hid (wordF (s.data.toList.drop f) = none) := HW'.out.bad h2 hh
        clear b2
        go_wp2
        exact ⟨rfl, HT2.out, Or.inr ⟨rfl, HB.out⟩⟩
    · by_cases h : k < s.size
      · by_cases e1 : s[k] = 32
        · have hra : runeAt s k = 32 := by rw [runeAt, dif_pos h, e1]; rfl
          have hn1 : (runeAt s k != 32) = false := by rw [hra]; rfl
          have HD : Hid (wordF (s.data.toList.drop f) = some ((s.extract f k).data.toList, s.data.toList.drop (k + 1))) := HW.out.done (wordF_blank s k h e1)
          have hfk : (f : Int) ≤ k := by have := HW.out.1; omega
          have hki : (k : Int) ≤ s.size := by omega
          have HP : Hid (∀ u : World, Rd u R s k → Uni u → Calls Tryd.prog 34 #[.pointer (some ⟨R, 0, none⟩)] u fun e w' => e = .returned (.int .i32 (runeAt s k)) ∧ Below u.heap.size u w') := fun u h1 h2 => (peek_any R s k u hkl h1 h2).mono fun e w' ⟨hb, h⟩ => by
            rcases h with ⟨he, _⟩ | ⟨_, h, hh⟩
            · exact ⟨he, hb⟩
            · rw [runeAt, dif_pos h] at hlo; omega
          go_wp2
          refine region_grown (by kernel_rfl) (by kernel_rfl) ?_
          repeat (go_big_quiet_step ((intro hu; have j0 := hu.cell c0; have j1 := hu.cell c1; go_simp; (try exact rfl))))
          refine wpQuiet_nil ?_
          intro w2 b2
          have hb2 : Below wr.heap.size wr w2 := b2
          have HR2 : Hid (Rd w2 R s k) := HRd.out.on hb2
          have HU2 : Hid (Uni w2) := HUk.out.on hb2 HUk.out.lt.1 HUk.out.lt.2
          have HT2 : Hid (Turns (· = R) w w2) := HT.out.below hb2
          clear b2 hb2 c0 c1 i1 HRd HUk HT
          go_wp2_with fail
          refine (HP.out _ HR2.out HU2.out).mono ?_
          rintro e w3 ⟨rfl, b3⟩
          have HR3 : Hid (Rd w3 R s k) := HR2.out.on b3
          have HT3 : Hid (Turns (· = R) w w3) := HT2.out.below b3
          clear b3 HR2 HT2 HU2 HP
          have hq : (runeAt s k == 32) = true := by rw [hra]; rfl
          obtain ⟨c0, c1⟩ := HR3.out.loc.two
          have i1 := HR3.out.frozen 1
          have HR4 : Hid (Rd (w3.setCell ⟨R, 1, none⟩ (.int .i64 ((k : Int) + 1))) R s (k + 1)) := HR3.out.turn
          have HT4 : Hid (Turns (· = R) w (w3.setCell ⟨R, 1, none⟩ (.int .i64 ((k : Int) + 1)))) := HT3.out.set (p := ⟨R, 1, none⟩) rfl _
          have hk32 : (k : Int) ≤ 1048576 := by omega
          clear hra
          go_wp2
          generalize w3.setCell ⟨R, 1, none⟩ (.int .i64 ((k : Int) + 1)) = u at HR4 HT4 ⊢
          go_ret
          exact ⟨HT4.out, Or.inl ⟨_, k + 1, rfl, h, HD.out, HR4.out⟩⟩
        · have e2 : s[k] = 10 := Classical.byContradiction fun e2 => hgo ⟨h, e1, e2⟩
          have hra : runeAt s k = 10 := by rw [runeAt, dif_pos h, e2]; rfl
          have hn1 : (runeAt s k != 32) = true := by rw [hra]; rfl
          have hn2 : (runeAt s k != 10) = false := by rw [hra]; rfl
          have HD : Hid (wordF (s.data.toList.drop f) = some ((s.extract f k).data.toList, s.data.toList.drop k)) := HW.out.done (wordF_line s k h e2)
          have hfk : (f : Int) ≤ k := by have := HW.out.1; omega
          have hki : (k : Int) ≤ s.size := by omega
          have HP : Hid (∀ u : World, Rd u R s k → Uni u → Calls Tryd.prog 34 #[.pointer (some ⟨R, 0, none⟩)] u fun e w' => e = .returned (.int .i32 (runeAt s k)) ∧ Below u.heap.size u w') := fun u h1 h2 => (peek_any R s k u hkl h1 h2).mono fun e w' ⟨hb, h⟩ => by
            rcases h with ⟨he, _⟩ | ⟨_, h, hh⟩
            · exact ⟨he, hb⟩
            · rw [runeAt, dif_pos h] at hlo; omega
          go_wp2
          refine region_grown (by kernel_rfl) (by kernel_rfl) ?_
          repeat (go_big_quiet_step ((intro hu; have j0 := hu.cell c0; have j1 := hu.cell c1; go_simp; (try exact rfl))))
          refine wpQuiet_nil ?_
          intro w2 b2
          have hb2 : Below wr.heap.size wr w2 := b2
          have HR2 : Hid (Rd w2 R s k) := HRd.out.on hb2
          have HU2 : Hid (Uni w2) := HUk.out.on hb2 HUk.out.lt.1 HUk.out.lt.2
          have HT2 : Hid (Turns (· = R) w w2) := HT.out.below hb2
          clear b2 hb2 c0 c1 i1 HRd HUk HT
          go_wp2_with fail
          refine (HP.out _ HR2.out HU2.out).mono ?_
          rintro e w3 ⟨rfl, b3⟩
          have HR3 : Hid (Rd w3 R s k) := HR2.out.on b3
          have HT3 : Hid (Turns (· = R) w w3) := HT2.out.below b3
          clear b3 HR2 HT2 HU2 HP
          have hq : (runeAt s k == 32) = false := by rw [hra]; rfl
          clear hra
          go_wp2
          go_ret
          exact ⟨HT3.out, Or.inl ⟨_, k, rfl, hkl, HD.out, HR3.out⟩⟩
      · have hra : runeAt s k = -1 := by rw [runeAt, dif_neg h]
        have hn1 : (runeAt s k != 32) = true := by rw [hra]; rfl
        have hn2 : (runeAt s k != 10) = true := by rw [hra]; rfl
        have hn3 : (runeAt s k != -1) = false := by rw [hra]; rfl
        have HD : Hid (wordF (s.data.toList.drop f) = some ((s.extract f k).data.toList, s.data.toList.drop k)) := HW.out.done (by rw [wordF_end s k (by omega), List.drop_of_length_le (by simp; omega)])
        have hfk : (f : Int) ≤ k := by have := HW.out.1; omega
        have hki : (k : Int) ≤ s.size := by omega
        have HP : Hid (∀ u : World, Rd u R s k → Uni u → Calls Tryd.prog 34 #[.pointer (some ⟨R, 0, none⟩)] u fun e w' => e = .returned (.int .i32 (runeAt s k)) ∧ Below u.heap.size u w') := fun u h1 h2 => (peek_any R s k u hkl h1 h2).mono fun e w' ⟨hb, h⟩ => by
          rcases h with ⟨he, _⟩ | ⟨_, h, hh⟩
          · exact ⟨he, hb⟩
          · rw [runeAt, dif_pos h] at hlo; omega
        go_wp2
        refine region_grown (by kernel_rfl) (by kernel_rfl) ?_
        repeat (go_big_quiet_step ((intro hu; have j0 := hu.cell c0; have j1 := hu.cell c1; go_simp; (try exact rfl))))
        refine wpQuiet_nil ?_
        intro w2 b2
        have hb2 : Below wr.heap.size wr w2 := b2
        have HR2 : Hid (Rd w2 R s k) := HRd.out.on hb2
        have HU2 : Hid (Uni w2) := HUk.out.on hb2 HUk.out.lt.1 HUk.out.lt.2
        have HT2 : Hid (Turns (· = R) w w2) := HT.out.below hb2
        clear b2 hb2 c0 c1 i1 HRd HUk HT
        go_wp2_with fail
        refine (HP.out _ HR2.out HU2.out).mono ?_
        rintro e w3 ⟨rfl, b3⟩
        have HR3 : Hid (Rd w3 R s k) := HR2.out.on b3
        have HT3 : Hid (Turns (· = R) w w3) := HT2.out.below b3
        clear b3 HR2 HT2 HU2 HP
        have hq : (runeAt s k == 32) = false := by rw [hra]; rfl
        clear hra
        go_wp2
        go_ret
        exact ⟨HT3.out, Or.inl ⟨_, k, rfl, hkl, HD.out, HR3.out⟩⟩
end Go.Proofs.YtmkgbdgafjeeiamDoor
