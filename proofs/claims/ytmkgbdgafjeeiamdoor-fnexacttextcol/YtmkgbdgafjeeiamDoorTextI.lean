/- The landed text of a text value. -/
import Derived.Test.YtmkgbdgafjeeiamDoorEsc
import Derived.Test.YtmkgbdgafjeeiamDoorMeths
namespace Go.Proofs.YtmkgbdgafjeeiamDoor
open Go.ChangeShapes Go.WideShapes Go.ChangeAt Go.RowKit

set_option maxRecDepth 100000 in
theorem plain_impl (c : UInt8) (w : World) : Calls Tryd.prog 110 #[.int .u8 c.toNat] w fun e w' => e = .returned (.bool (plainB c)) ∧ w' = w := by
  unfold plainB
  cases h1 : decide (33 ≤ (c.toNat : Int))
  · go_enter Tryd.func110, Tryd.ntmps110
    go_wp2
    go_ret
    exact ⟨rfl, rfl⟩
  cases h2 : decide ((c.toNat : Int) ≤ 126)
  · go_enter Tryd.func110, Tryd.ntmps110
    go_wp2
    go_ret
    exact ⟨rfl, rfl⟩
  cases h3 : ((c.toNat : Int) != 39)
  · go_enter Tryd.func110, Tryd.ntmps110
    go_wp2
    go_ret
    exact ⟨rfl, rfl⟩
  cases h4 : ((c.toNat : Int) != 37)
  all_goals
    go_enter Tryd.func110, Tryd.ntmps110
    go_wp2
    go_ret
    exact ⟨rfl, rfl⟩

theorem wrap16 (c : UInt8) : IntKind.u8.wrap ((c.toNat : Int) / 16) = (c.toNat : Int) / 16 := by
  have := c.toNat_lt
  simp [IntKind.wrap, IntKind.bits, IntKind.signed]
  omega
theorem wrap16_lt (c : UInt8) : IntKind.u8.wrap ((c.toNat : Int) / 16) < 16 := by
  have := c.toNat_lt
  rw [wrap16]
  omega
theorem tmod16 (c : UInt8) : (c.toNat : Int).tmod 16 = (c.toNat : Int) % 16 := Int.tmod_eq_emod_of_nonneg (by omega)
theorem rem16_lo (c : UInt8) : 0 ≤ (c.toNat : Int).tmod 16 := by rw [tmod16]; omega
theorem rem16_lt (c : UInt8) : (c.toNat : Int).tmod 16 < 16 := by rw [tmod16]; omega
theorem cells1_new (W : World) (x : UInt8) (t : TypeId) : ∀ j u, (Lib.byteCells [x])[j]? = some u → (W.alloc (.cells #[.int .u8 x.toNat] t)).cell? ((⟨W.heap.size, 0, none⟩ : Addr).add j) = some u := cells_new W [x] t
theorem cells3_new (W : World) (x y : UInt8) (t : TypeId) : ∀ j u, (Lib.byteCells [37, x, y])[j]? = some u → (W.alloc (.cells #[.int .u8 37, .int .u8 x.toNat, .int .u8 y.toNat] t)).cell? ((⟨W.heap.size, 0, none⟩ : Addr).add j) = some u := cells_new W [37, x, y] t
theorem hexB_eq (i j : Nat) (h : j < 16) (e : i = j) : hexA[j]'h = hexB i := by subst e; rw [hexB, dif_pos h]
theorem hex_hi (c : UInt8) (h : (IntKind.u8.wrap ((c.toNat : Int) / 16)).toNat < hexA.size) : hexA[(IntKind.u8.wrap ((c.toNat : Int) / 16)).toNat]'h = hexB (c.toNat / 16) :=
  hexB_eq _ _ h (by rw [wrap16]; omega)
theorem hex_lo (c : UInt8) (h : ((c.toNat : Int).tmod 16).toNat < hexA.size) : hexA[((c.toNat : Int).tmod 16).toNat]'h = hexB (c.toNat % 16) :=
  hexB_eq _ _ h (by rw [tmod16]; omega)
/-- A new row of one byte. -/
theorem own_one (w : World) (x : UInt8) : OwnT w.heap.size (w.alloc (.cells #[.int .u8 x.toNat] 5)) (.slice (some ⟨w.heap.size, 0, none⟩) 1 1) [x] :=
  ⟨rfl, Or.inr ⟨w.heap.size, 1, #[.int .u8 x.toNat], rfl, Nat.le_refl _, heap_alloc_new _ _, Nat.le_refl _, by unfold maxLen; omega, rfl, rfl⟩⟩

set_option maxRecDepth 100000 in
set_option maxHeartbeats 1000000 in
theorem text_text (s : ByteArray) (hs : s.size ≤ 1048576) (w : World) : Calls Tryd.prog 108 #[.string s] w fun e w' => e = .returned (str (quoted s)) ∧ Below w.heap.size w w' := by
  go_enter Tryd.func108, Tryd.ntmps108
  go_wp2
  go_loopw [3, 4] (fun v i wr => ∃ k : Nat, k ≤ s.size ∧ i = .int .i64 k ∧ OwnT w.heap.size wr v (G s k) ∧ Below w.heap.size w wr) (fun _ i _ => s.size - (intOf i).toNat)
  case atStart =>
    exact ⟨0, Nat.zero_le _, rfl, by rw [G_zero]; exact own_one w 39, (Below.refl _ _).alloc (Nat.le_refl _) _⟩
  case round =>
    obtain ⟨k, hk, rfl, hown, hbel⟩ := hrel
    have hz := hbel.size
    have hgl := G_len s k
    by_cases hlt : k < s.size
    · have HG : Hid (G s (k + 1) = _) := G_succ s k hlt
      cases hp : plainB s[k]
      · have HP : Hid (plainB s[k] = _) := hp
        clear hp
        go_wp2_with (first | (go_at_call 110; refine (plain_impl _ _).mono ?_; rw [HP.out]; rintro e w' ⟨rfl, hw⟩; subst w'))
        have hq1 := wrap16_lt s[k]
        have hq2 := rem16_lo s[k]
        have hq3 := rem16_lt s[k]
        go_region_law (refine app_stepT rfl (.tmp 22) (.tmp 33) rfl w.heap.size _ (G s k) rfl ((hown.alloc _).drew) ⟨wr.heap.size, 0, none⟩ 3 3 [37, _, _] rfl rfl (cells3_new wr _ _ _) (by omega) (by simp; omega) ?_; intro v' w1 hown1 hb1)
        all_goals
          rw [hex_hi, hex_lo] at hown1
          have hb2 : Below w.heap.size w w1 := ((hbel.alloc hz _).drew).trans hb1
          clear hb1
          go_wp2
          go_roundw
          case rel => exact ⟨k + 1, by omega, by go_num, by rw [HG.out, escB, if_neg (by rw [HP.out]; decide)]; exact hown1, hb2⟩
          case measure => simp [intOf]; omega
      · have HP : Hid (plainB s[k] = _) := hp
        clear hp
        go_wp2_with (first | (go_at_call 110; refine (plain_impl _ _).mono ?_; rw [HP.out]; rintro e w' ⟨rfl, hw⟩; subst w') | (at_builtin; refine app_list rfl (.tmp 16) (.tmp 20) rfl w.heap.size _ (G s k) rfl (hown.alloc _) ⟨wr.heap.size, 0, none⟩ 1 1 [s[k]] rfl rfl (cells_new _ _ _) (by omega) (by simp; omega) ?_; intro v' w1 hown1 hb1))
        go_roundw
        case rel => exact ⟨k + 1, by omega, by go_num, by rw [HG.out, escB, if_pos HP.out]; exact hown1, (hbel.alloc hz _).trans hb1⟩
        case measure => simp [intOf]; omega
    · have hk' : k = s.size := by omega
      subst hk'
      go_wp2_with (first | (at_builtin; refine app_list rfl (.tmp 35) (.tmp 36) rfl w.heap.size _ (G s s.size) rfl (hown.alloc _) ⟨wr.heap.size, 0, none⟩ 1 1 [39] rfl rfl (cells_new _ _ _) (by omega) (by simp; omega) ?_; intro v' w1 hown1 hb1; have hcv := own_text hown1))
      go_ret
      exact ⟨rfl, (hbel.alloc hz _).trans hb1⟩
end Go.Proofs.YtmkgbdgafjeeiamDoor
