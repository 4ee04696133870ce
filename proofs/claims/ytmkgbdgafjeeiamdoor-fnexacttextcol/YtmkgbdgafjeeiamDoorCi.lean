/- The text of a column: the landed one. -/
import Derived.Test.YtmkgbdgafjeeiamDoorRq
import Derived.Test.YtmkgbdgafjeeiamDoorColOkI
import Derived.Test.YtmkgbdgafjeeiamDoorValLaw
namespace Go.Proofs.YtmkgbdgafjeeiamDoor
open Go.ChangeShapes Go.WideShapes Go.ChangeAt Go.RowKit

theorem ret_s {a b : ByteArray} (h : a = b) : Ending.returned (.string a) = .returned (.string b) := by rw [h]
set_option maxRecDepth 100000 in
set_option maxHeartbeats 1000000 in
/-- impl.ColText -/
theorem colText_impl (c : Cl) (w : World) (hn : c.name.size ≤ maxLen) (hT : Tab w) : Calls Tryd.prog 13 #[c.v] w fun e w' => e = .returned (.string ⟨c.text.toArray⟩) ∧ Below w.heap.size w w' := by
  have HT : Hid (Tab w) := hT
  have HO : Hid (∀ u : World, Calls Tryd.prog 26 #[c.v] u fun e w' => e = .returned (.bool c.ok) ∧ Below u.heap.size u w') := fun u => colOk_impl c u hn
  have HL := Loc.new w c.cells 25
  have hbv : Below w.heap.size w (w.alloc (.cells c.cells 25)) := ch_alloc (Below.refl _ _) _
  have HX : Hid (c.ok = true → c.text = joinL c.words) := fun h => by rw [Cl.text, if_pos h]
  have HN : Hid (c.ok = false → c.text = []) := fun h => by rw [Cl.text, if_neg (by simp [h])]
  have HV : Hid (∀ u : World, Tab u → Calls Tryd.prog 28 #[V c.dt c.dn c.ds] u fun e w' => e = .returned (.string (valText c.dt c.dn c.ds)) ∧ Below u.heap.size u w') := fun u hu => valText_impl _ _ _ u hu
  have HY : Hid (∀ u : World, Calls Tryd.prog 27 #[.int .i64 c.ty] u fun e w' => e = .returned (.string (tyT c.ty)) ∧ w' = u) := fun u => typeText_any _ u
  clear hT
  go_enter Tryd.func13, Tryd.ntmps13
  obtain ⟨l0, l1, l2, l3, l4, l5, l6⟩ := HL.seven
  go_wp2_with fail
  refine (HO.out _).mono ?_
  rintro e w1 ⟨rfl, b1⟩
  have HL1 := HL.on b1
  have hb1 := ch_trans hbv b1
  clear b1 hbv l0 l1 l2 l3 l4 l5 l6 HL
  cases hok : c.ok
  · have HE : Hid (c.text = []) := HN.out hok
    go_wp2
    go_ret
    exact ⟨by rw [HE.out]; rfl, hb1⟩
  have HE : Hid (c.text = joinL c.words) := HX.out hok
  have hn8 : c.name.size ≤ 8 := by
    have h := (ok_parts hok).1
    simp only [wordB, Bool.and_eq_true, decide_eq_true_eq] at h
    exact h.2.2
  have hty : (tyT c.ty).size ≤ 4 := by
    rcases (ok_parts hok).2.1 with h | h | h <;> rw [h] <;> decide
  have hvt : (valText c.dt c.dn c.ds).size ≤ 1048576 := vt_size _ _ _
  clear HX HN hok
  obtain ⟨l0, l1, l2, l3, l4, l5, l6⟩ := HL1.seven
  go_wp2_with fail
  refine region_grown (by kernel_rfl) (by kernel_rfl) ?_
  repeat (go_big_quiet_step (first | (intro hu; go_at_call 27; exact hu.call ((HY.out _).mono fun e w' ⟨h1, h2⟩ => ⟨h1, h2 ▸ Below.refl _ _⟩)) | (intro hu; have j0 := hu.cell l0; have j1 := hu.cell l1; go_simp; (try exact rfl))))
  refine wpQuiet_nil ?_
  intro w2 b2
  have hb2 : Below w1.heap.size w1 w2 := b2
  have HL2 := HL1.on hb2
  have hbw := ch_trans hb1 hb2
  clear b2 hb2 hb1 HL1 l0 l1 l2 l3 l4 l5 l6
  obtain ⟨l0, l1, l2, l3, l4, l5, l6⟩ := HL2.seven
  cases hnt : c.nt <;> cases hh : c.has
  all_goals
    rw [hnt] at l2
    rw [hh] at l3
  · have HF : Hid (c.name ++ ⟨#[32]⟩ ++ tyT c.ty = ⟨c.text.toArray⟩) := by
      show _ = _
      rw [HE.out]
      apply bytes_inj
      simp [Cl.words, hnt, hh, joinL]
    clear hnt hh
    go_wp2
    go_ret
    exact ⟨ret_s HF.out, hbw⟩
  · have HF : Hid (c.name ++ ⟨#[32]⟩ ++ tyT c.ty ++ (⟨#[32, 61]⟩ ++ valText c.dt c.dn c.ds) = ⟨c.text.toArray⟩) := by
      show _ = _
      rw [HE.out]
      apply bytes_inj
      simp [Cl.words, hnt, hh, joinL]
    have HTW : Hid (Tab w2) := HT.out.on hbw
    clear hnt hh
    go_wp2_with fail
    refine (HV.out _ HTW.out).mono ?_
    rintro e w3 ⟨rfl, b3⟩
    have hb3 := ch_trans hbw b3
    clear b3 l0 l1 l2 l3 l4 l5 l6
    go_wp2
    go_ret
    exact ⟨ret_s HF.out, hb3⟩
  · have HF : Hid (c.name ++ ⟨#[32]⟩ ++ tyT c.ty ++ ⟨#[32, 110, 111, 116]⟩ = ⟨c.text.toArray⟩) := by
      show _ = _
      rw [HE.out]
      apply bytes_inj
      simp [Cl.words, hnt, hh, joinL]
    clear hnt hh
    go_wp2
    go_ret
    exact ⟨ret_s HF.out, hbw⟩
  · have HF : Hid (c.name ++ ⟨#[32]⟩ ++ tyT c.ty ++ ⟨#[32, 110, 111, 116]⟩ ++ (⟨#[32, 61]⟩ ++ valText c.dt c.dn c.ds) = ⟨c.text.toArray⟩) := by
      show _ = _
      rw [HE.out]
      apply bytes_inj
      simp [Cl.words, hnt, hh, joinL]
    have HTW : Hid (Tab w2) := HT.out.on hbw
    clear hnt hh
    go_wp2_with fail
    refine (HV.out _ HTW.out).mono ?_
    rintro e w3 ⟨rfl, b3⟩
    have hb3 := ch_trans hbw b3
    clear b3 l0 l1 l2 l3 l4 l5 l6
    go_wp2
    go_ret
    exact ⟨ret_s HF.out, hb3⟩
end Go.Proofs.YtmkgbdgafjeeiamDoor
