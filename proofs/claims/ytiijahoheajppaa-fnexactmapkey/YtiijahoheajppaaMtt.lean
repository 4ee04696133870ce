/- The laws' copies of texts, values and one table, with their shape; a table marked. -/
import Derived.Test.YtiijahoheajppaaMs
import Derived.Test.YtiijahoheajppaaNw
import Derived.Test.YtiijahoheajppaaCp
import Derived.Test.YtiijahoheajppaaVs
namespace Go.Proofs.Ytiijahoheajppaa
open Go.ChangeShapes Go.WideShapes Go.ChangeAt Go.RowKit

theorem toStringS_shp (kv : Value) (ks : List ByteArray) (w : World) (hc : StrsV w kv ks) (hn : ks.length ≤ 1048576) :
    Calls Try.prog 9 #[kv] w fun e w' => ∃ v, e = .returned v ∧ Below w.heap.size w w' ∧ StrsV w' v ks ∧ New StrsS w.heap.size w' v :=
  (toStringS_full kv ks w hc hn).mono fun e w' ⟨h1, h2, h3⟩ => ⟨_, h1, h2, h3.strsV (by unfold maxLen; omega), h3.strsN hn⟩
theorem toValS_shp (v : Value) (vs : List Vc) (w : World) (hv : ValsV w v vs) (hn : vs.length ≤ 1048576) :
    Calls Try.prog 16 #[v] w fun e w' => ∃ y, e = .returned y ∧ Below w.heap.size w w' ∧ ValsV w' y vs ∧ New ValsS w.heap.size w' y :=
  (toValS_any v vs w hv hn).mono fun e w' ⟨h1, h2, h3⟩ => ⟨_, h1, h2, h3.valsV (by unfold maxLen; omega), h3.valsN hn⟩
theorem toTable_shp (x : Array Value) (t : Tc) (w : World) (hx : TabV w x t) (hf : t.few) :
    Calls Try.prog 10 #[.agg x] w fun e w' => ∃ cv kv, e = .returned (.agg #[.string t.name, cv, kv]) ∧ Below w.heap.size w w' ∧ TabV w' #[.string t.name, cv, kv] t ∧ New ColsS w.heap.size w' cv ∧ New StrsS w.heap.size w' kv :=
  (toTable_full x t w hx hf).mono fun e w' ⟨B1, B2, h1, h2, h3, h4, h5, h6⟩ => ⟨_, _, h1, h4, ⟨_, _, rfl, h5.colsV (by have := hf.1; unfold maxLen; omega), h6.strsV (by have := hf.2; unfold maxLen; omega)⟩, New.mono ColsS.good (h5.colsN hf.1) h2, New.mono StrsS.good (h6.strsN hf.2) (by omega)⟩

set_option maxRecDepth 100000 in
set_option maxHeartbeats 1000000 in
/-- laws.markTable -/
theorem markTable_shape (S : Nat → Prop) (nm v d : Value) (k : Nat) (w : World) (hv : ColsS S w v) (hd : StrsS S w d) (hS : ∀ c, S c → c < w.heap.size) (hk : k ≤ 4000000000000000000) :
    Calls Try.prog 21 #[.agg #[nm, v, d], .int .i64 k] w fun e w' => ∃ k' : Nat, e = .returned (.int .i64 k') ∧ k' ≤ k + 100000000 ∧ Marks S w w' := by
  obtain ⟨b, n, cap, rfl, hn, hv⟩ := hv.lit
  obtain ⟨b', n', cap', rfl, hn', hd⟩ := hd.lit
  have HM0 : Hid (Marks S w (w.alloc (.cells #[nm, .slice (some ⟨b, 0, none⟩) n cap, .slice (some ⟨b', 0, none⟩) n' cap'] 32))) := (Marks.refl S w).below (ch_alloc (Below.refl _ _) _)
  have HV : Hid (ColsS S (w.alloc (.cells #[nm, .slice (some ⟨b, 0, none⟩) n cap, .slice (some ⟨b', 0, none⟩) n' cap'] 32)) (.slice (some ⟨b, 0, none⟩) n cap)) := ColsS.stays S _ _ _ _ HM0.out (kind1.refl _) hv
  have HD : Hid (StrsS S w (.slice (some ⟨b', 0, none⟩) n' cap')) := hd
  have HL := Loc.new w #[nm, .slice (some ⟨b, 0, none⟩) n cap, .slice (some ⟨b', 0, none⟩) n' cap'] 32
  have HS : Hid (∀ c, S c → c < w.heap.size) := hS
  clear hv hd hS
  go_enter Try.func21, Try.ntmps21
  go_wp2_with fail
  refine (markColS_shape S _ k _ HV.out (by omega)).mono ?_
  rintro e w1 ⟨K, rfl, hK, hM⟩
  have hns : ¬ S w.heap.size := fun h => by have := HS.out _ h; omega
  obtain ⟨l0, l1, l2⟩ := HL.three
  have c2 := hM.turns.cell (p := ⟨w.heap.size, 2, none⟩) hns l2
  have HM1 : Hid (Marks S w w1) := HM0.out.trans hM
  have HD1 : Hid (StrsS S w1 (.slice (some ⟨b', 0, none⟩) n' cap')) := StrsS.stays S _ _ _ _ HM1.out (kind1.refl _) HD.out
  clear hM l0 l1 l2
  go_wp2_with fail
  refine (markStringS_shape S _ K _ HD1.out (by omega)).mono ?_
  rintro e w2 ⟨K2, rfl, hK2, hM⟩
  have HM2 : Hid (Marks S w w2) := HM1.out.trans hM
  clear hM c2
  go_wp2
  go_ret
  exact ⟨K2, rfl, by omega, HM2.out⟩
end Go.Proofs.Ytiijahoheajppaa
