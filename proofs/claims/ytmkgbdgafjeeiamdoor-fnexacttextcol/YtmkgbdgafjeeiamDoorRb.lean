/- The face of the readers at a column: the column whose text it is, or nothing. -/
import Derived.Test.YtmkgbdgafjeeiamDoorRa2
namespace Go.Proofs.YtmkgbdgafjeeiamDoor
open Go.ChangeShapes Go.WideShapes Go.ChangeAt Go.RowKit

/-- What is read of a text: the column that has it, or nothing. -/
def isCol (s : ByteArray) (c : Cl) (q : Bool) : Prop := (q = true ∧ c.ok = true ∧ c.text = s.data.toList) ∨ (q = false ∧ c = ⟨⟨#[]⟩, 0, false, false, 0, 0, ⟨#[]⟩⟩ ∧ ∀ d : Cl, d.ok = true → d.text ≠ s.data.toList)

set_option maxRecDepth 100000 in
set_option maxHeartbeats 2000000 in
theorem readAll_impl (s : ByteArray) (w : World) (hs : s.size ≤ 1048576) (hE : Env w w.heap.size) :
    Calls Tryd.prog 10 #[.string s, .func (.func 11) #[] #[], .func (.func 13) #[] #[]] w fun e w' => Below w.heap.size w w' ∧ ∃ (c : Cl) (q : Bool), e = .returned (.tuple #[c.v, .bool q]) ∧ isCol s c q := by
  have hmf : ∀ (fn : Fn) (first cap : Array Value) (w : World), (Instr.makeFunc fn first cap).run Tryd.prog w = .ok (.func fn first cap) w := fun _ _ _ _ => rfl
  have hv0 : Below w.heap.size w (w.alloc (.cells #[.string ⟨#[]⟩, .int .i64 0, .bool false, .bool false, .int .i64 0, .int .i64 0, .string ⟨#[]⟩] 25)) := ch_alloc (Below.refl _ _) _
  have hv1 : Below w.heap.size w ((w.alloc (.cells #[.string ⟨#[]⟩, .int .i64 0, .bool false, .bool false, .int .i64 0, .int .i64 0, .string ⟨#[]⟩] 25)).alloc (.cells #[.bool false] 4)) := ch_alloc hv0 _
  have hv : Below w.heap.size w (((w.alloc (.cells #[.string ⟨#[]⟩, .int .i64 0, .bool false, .bool false, .int .i64 0, .int .i64 0, .string ⟨#[]⟩] 25)).alloc (.cells #[.bool false] 4)).alloc (.cells #[.string s, .int .i64 0] 47)) := ch_alloc hv1 _
  have HA : Own (((w.alloc (.cells #[.string ⟨#[]⟩, .int .i64 0, .bool false, .bool false, .int .i64 0, .int .i64 0, .string ⟨#[]⟩] 25)).alloc (.cells #[.bool false] 4)).alloc (.cells #[.string s, .int .i64 0] 47)) w.heap.size 25 #[.string ⟨#[]⟩, .int .i64 0, .bool false, .bool false, .int .i64 0, .int .i64 0, .string ⟨#[]⟩] := ((Own.new w _ _).on (ch_alloc (Below.refl _ _) _)).on (ch_alloc (Below.refl _ _) _)
  have HB : Own (((w.alloc (.cells #[.string ⟨#[]⟩, .int .i64 0, .bool false, .bool false, .int .i64 0, .int .i64 0, .string ⟨#[]⟩] 25)).alloc (.cells #[.bool false] 4)).alloc (.cells #[.string s, .int .i64 0] 47)) (w.heap.size + 1) 4 #[.bool false] := (Own.at (w.alloc (.cells #[.string ⟨#[]⟩, .int .i64 0, .bool false, .bool false, .int .i64 0, .int .i64 0, .string ⟨#[]⟩] 25)) _ _ (by simp)).on (ch_alloc (Below.refl _ _) _)
  have HR : Hid (Rd (((w.alloc (.cells #[.string ⟨#[]⟩, .int .i64 0, .bool false, .bool false, .int .i64 0, .int .i64 0, .string ⟨#[]⟩] 25)).alloc (.cells #[.bool false] 4)).alloc (.cells #[.string s, .int .i64 0] 47)) (w.heap.size + 1 + 1) s 0) := Own.at ((w.alloc (.cells #[.string ⟨#[]⟩, .int .i64 0, .bool false, .bool false, .int .i64 0, .int .i64 0, .string ⟨#[]⟩] 25)).alloc (.cells #[.bool false] 4)) _ _ (by simp)
  have hz : w.heap.size + 1 + 1 < (((w.alloc (.cells #[.string ⟨#[]⟩, .int .i64 0, .bool false, .bool false, .int .i64 0, .int .i64 0, .string ⟨#[]⟩] 25)).alloc (.cells #[.bool false] 4)).alloc (.cells #[.string s, .int .i64 0] 47)).heap.size := by simp
  have HE : Hid (Env (((w.alloc (.cells #[.string ⟨#[]⟩, .int .i64 0, .bool false, .bool false, .int .i64 0, .int .i64 0, .string ⟨#[]⟩] 25)).alloc (.cells #[.bool false] 4)).alloc (.cells #[.string s, .int .i64 0] 47)) (w.heap.size + 1 + 1)) := by
    have h := hE.on hv
    exact ⟨h.uni, h.tab, h.errs, by have := h.r1; omega, by have := h.r2; omega, by have := h.r3; omega, by have := h.r4; omega, by have := h.r5; omega⟩
  have HTB : Hid (Tab w) := hE.tab
  clear hE hv0 hv1
  go_enter_defers Tryd.func10, Tryd.ntmps10
  go_wp2_with fail
  generalize ((w.alloc (.cells #[.string ⟨#[]⟩, .int .i64 0, .bool false, .bool false, .int .i64 0, .int .i64 0, .string ⟨#[]⟩] 25)).alloc (.cells #[.bool false] 4)).alloc (.cells #[.string s, .int .i64 0] 47) = wv at hv HA HB HR hz HE ⊢
  refine (colFn_any (w.heap.size + 1 + 1) s 0 _ hs (Nat.zero_le _) HR.out HE.out).mono ?_
  rintro e w1 ⟨hT, h⟩
  have HA1 := HA.turned hT (by omega)
  have HB1 := HB.turned hT (by omega)
  have hb1 : Below w.heap.size w w1 := hv.trans (hT.down (fun c hc => by omega) (by omega))
  clear hT HA HB HR HE hv hz
  rcases h with ⟨c, rfl, k', hp⟩ | ⟨rfl, hp⟩
  rotate_left
  · have HI : Hid (isCol s ⟨⟨#[]⟩, 0, false, false, 0, 0, ⟨#[]⟩⟩ false) := Or.inr ⟨rfl, rfl, fun d hd e => hp d [] (by
      have := col_read hd
      rw [Cl.text, if_pos hd] at e
      rw [e] at this
      simpa using this)⟩
    clear hp
    go_wp2
    refine leaves_cons (f := 21) (args := #[.pointer (some ⟨w.heap.size, 0, none⟩), .pointer (some ⟨w.heap.size + 1, 0, none⟩)]) (by simp) (by simp [go_sem]) ?_
    refine (catch_panicking w.heap.size (w.heap.size + 1) _ _ _ _ _ _ _ _ 49 (.agg #[]) [] _ HA1 HB1 (by omega)).mono ?_
    rintro e u' w9 ⟨rfl, rfl, hT, hA, hB⟩
    obtain ⟨e0, e1, e2, e3, e4, e5, e6⟩ := hA.loc.seven
    have f0 := hB.loc.one
    have HBW : Hid (Below w.heap.size w w9) := hb1.trans (hT.down (fun c hc => by omega) hb1.size)
    clear hT hA hB
    change Leaves _ _ _ _ [] .returning w9
    exact ⟨.tuple #[.agg #[.string ⟨#[]⟩, .int .i64 0, .bool false, .bool false, .int .i64 0, .int .i64 0, .string ⟨#[]⟩], .bool false], by simp [results, Tryd.results10, go_sem, e0, e1, e2, e3, e4, e5, e6, f0], HBW.out, ⟨⟨#[]⟩, 0, false, false, 0, 0, ⟨#[]⟩⟩, false, rfl, HI.out⟩
  have HP : Hid (PCol [] (s.data.toList.drop 0) c (s.data.toList.drop k')) := hp
  obtain ⟨g0, g1, g2, g3, g4, g5, g6⟩ := HA1.loc.seven
  have i0 := HA1.frozen 0
  have i1 := HA1.frozen 1
  have i2 := HA1.frozen 2
  have i3 := HA1.frozen 3
  have i4 := HA1.frozen 4
  have i5 := HA1.frozen 5
  have i6 := HA1.frozen 6
  have HA2 : Own (stores w1 w.heap.size 0 [.string c.name, .int .i64 c.ty, .bool c.nt, .bool c.has, .int .i64 c.dt, .int .i64 c.dn, .string c.ds]) w.heap.size 25 #[.string c.name, .int .i64 c.ty, .bool c.nt, .bool c.has, .int .i64 c.dt, .int .i64 c.dn, .string c.ds] := Own.fill (old := [.string ⟨#[]⟩, .int .i64 0, .bool false, .bool false, .int .i64 0, .int .i64 0, .string ⟨#[]⟩]) HA1 [.string c.name, .int .i64 c.ty, .bool c.nt, .bool c.has, .int .i64 c.dt, .int .i64 c.dn, .string c.ds] rfl
  have HB2 : Own (stores w1 w.heap.size 0 [.string c.name, .int .i64 c.ty, .bool c.nt, .bool c.has, .int .i64 c.dt, .int .i64 c.dn, .string c.ds]) (w.heap.size + 1) 4 #[.bool false] := Own.past (by omega) [.string c.name, .int .i64 c.ty, .bool c.nt, .bool c.has, .int .i64 c.dt, .int .i64 c.dn, .string c.ds] w1 0 HB1
  have hb2 : Below w.heap.size w (stores w1 w.heap.size 0 [.string c.name, .int .i64 c.ty, .bool c.nt, .bool c.has, .int .i64 c.dt, .int .i64 c.dn, .string c.ds]) := hb1.trans ((stores_turns w.heap.size [.string c.name, .int .i64 c.ty, .bool c.nt, .bool c.has, .int .i64 c.dt, .int .i64 c.dn, .string c.ds] w1 w1 0 (Turns.refl _ _)).down (B := w.heap.size) (fun c hc => by omega) hb1.size)
  have hnm : c.name.size ≤ maxLen := by
    obtain ⟨m1, m2, g, _⟩ := hp
    have := word_size g
    unfold maxLen; omega
  clear hp
  simp only [stores, Nat.zero_add, Nat.reduceAdd] at HA2 HB2 hb2
  go_wp2_with fail
  clear g0 g1 g2 g3 g4 g5 g6 i0 i1 i2 i3 i4 i5 i6 HA1 HB1 hb1
  generalize (((((((w1.setCell ⟨w.heap.size, 0, none⟩ (.string c.name)).setCell ⟨w.heap.size, 1, none⟩ (.int .i64 c.ty)).setCell ⟨w.heap.size, 2, none⟩ (.bool c.nt)).setCell ⟨w.heap.size, 3, none⟩ (.bool c.has)).setCell ⟨w.heap.size, 4, none⟩ (.int .i64 c.dt)).setCell ⟨w.heap.size, 5, none⟩ (.int .i64 c.dn)).setCell ⟨w.heap.size, 6, none⟩ (.string c.ds)) = u2 at HA2 HB2 hb2 ⊢
  refine (colText_impl c _ hnm (HTB.out.on hb2)).mono ?_
  rintro e w3 ⟨rfl, b3⟩
  have HA3 := HA2.on b3
  have HB3 := HB2.on b3
  have hb3 := ch_trans hb2 b3
  clear b3 HA2 HB2 hb2
  by_cases htx : c.text = s.data.toList
  · have HI : Hid (isCol s c true) := Or.inl ⟨rfl, by
      cases hok : c.ok
      · exfalso
        rw [Cl.text, if_neg (by simp [hok])] at htx
        have := HP.out
        rw [List.drop_zero, ← htx] at this
        exact this.some
      · rfl, htx⟩
    have hse : (⟨c.text.toArray⟩ : ByteArray) = s := bytes_inj (by simpa using htx)
    have hq : ((⟨c.text.toArray⟩ : ByteArray).toList != s.toList) = false := by rw [hse]; simp
    have hq2 : ((⟨c.text.toArray⟩ : ByteArray).toList == s.toList) = true := str_yes hse
    obtain ⟨g0, g1, g2, g3, g4, g5, g6⟩ := HA3.loc.seven
    have k0 := HB3.loc.one
    have i0 := HA3.frozen 0
    have i1 := HA3.frozen 1
    have i2 := HA3.frozen 2
    have i3 := HA3.frozen 3
    have i4 := HA3.frozen 4
    have i5 := HA3.frozen 5
    have i6 := HA3.frozen 6
    have m0 := HB3.frozen 0
    clear htx hse HP
    generalize (⟨c.text.toArray⟩ : ByteArray) = tx at hq hq2 ⊢
    go_wp2
    clear g0 g1 g2 g3 g4 g5 g6 k0 i0 i1 i2 i3 i4 i5 i6 m0
    have HA4 : Own ((stores w3 w.heap.size 0 [.string c.name, .int .i64 c.ty, .bool c.nt, .bool c.has, .int .i64 c.dt, .int .i64 c.dn, .string c.ds]).setCell ⟨w.heap.size + 1, 0, none⟩ (.bool true)) w.heap.size 25 #[.string c.name, .int .i64 c.ty, .bool c.nt, .bool c.has, .int .i64 c.dt, .int .i64 c.dn, .string c.ds] := (Own.fill (old := [.string c.name, .int .i64 c.ty, .bool c.nt, .bool c.has, .int .i64 c.dt, .int .i64 c.dn, .string c.ds]) HA3 [.string c.name, .int .i64 c.ty, .bool c.nt, .bool c.has, .int .i64 c.dt, .int .i64 c.dn, .string c.ds] rfl).other (by simp) (.bool true)
    have HB4 : Own ((stores w3 w.heap.size 0 [.string c.name, .int .i64 c.ty, .bool c.nt, .bool c.has, .int .i64 c.dt, .int .i64 c.dn, .string c.ds]).setCell ⟨w.heap.size + 1, 0, none⟩ (.bool true)) (w.heap.size + 1) 4 #[.bool true] := (Own.past (by omega) [.string c.name, .int .i64 c.ty, .bool c.nt, .bool c.has, .int .i64 c.dt, .int .i64 c.dn, .string c.ds] w3 0 HB3).set 0 (.bool true)
    have hb4 : Below w.heap.size w ((stores w3 w.heap.size 0 [.string c.name, .int .i64 c.ty, .bool c.nt, .bool c.has, .int .i64 c.dt, .int .i64 c.dn, .string c.ds]).setCell ⟨w.heap.size + 1, 0, none⟩ (.bool true)) := (hb3.trans ((stores_turns w.heap.size [.string c.name, .int .i64 c.ty, .bool c.nt, .bool c.has, .int .i64 c.dt, .int .i64 c.dn, .string c.ds] w3 w3 0 (Turns.refl _ _)).down (B := w.heap.size) (fun c hc => by omega) hb3.size)).setCell (by simp) _
    simp only [stores, Nat.zero_add, Nat.reduceAdd] at HA4 HB4 hb4
    generalize ((((((((w3.setCell ⟨w.heap.size, 0, none⟩ (.string c.name)).setCell ⟨w.heap.size, 1, none⟩ (.int .i64 c.ty)).setCell ⟨w.heap.size, 2, none⟩ (.bool c.nt)).setCell ⟨w.heap.size, 3, none⟩ (.bool c.has)).setCell ⟨w.heap.size, 4, none⟩ (.int .i64 c.dt)).setCell ⟨w.heap.size, 5, none⟩ (.int .i64 c.dn)).setCell ⟨w.heap.size, 6, none⟩ (.string c.ds)).setCell ⟨w.heap.size + 1, 0, none⟩ (.bool true)) = W at HA4 HB4 hb4 ⊢
    refine leaves_cons (f := 21) (args := #[.pointer (some ⟨w.heap.size, 0, none⟩), .pointer (some ⟨w.heap.size + 1, 0, none⟩)]) (by simp) (by simp [go_sem]) ?_
    refine (catch_idle w.heap.size (w.heap.size + 1) _).mono ?_
    rintro e u' w9 ⟨rfl, rfl, hw9⟩
    rw [hw9]
    obtain ⟨e0, e1, e2, e3, e4, e5, e6⟩ := HA4.loc.seven
    have f0 := HB4.loc.one
    change Leaves _ _ _ _ [] .returning W
    exact ⟨.tuple #[c.v, .bool true], by simp [results, Tryd.results10, go_sem, e0, e1, e2, e3, e4, e5, e6, f0], hb4, c, true, rfl, HI.out⟩
  · have HI : Hid (isCol s ⟨⟨#[]⟩, 0, false, false, 0, 0, ⟨#[]⟩⟩ false) := Or.inr ⟨rfl, rfl, fun d hd e => by
      have h1 := col_read hd
      have e' := e
      rw [Cl.text, if_pos hd] at e
      rw [e] at h1
      have h2 := HP.out
      rw [List.drop_zero] at h2
      have := h2.unique h1
      subst this
      exact htx e'⟩
    have hse : (⟨c.text.toArray⟩ : ByteArray) ≠ s := fun e => htx (by rw [← e])
    have hq := str_no hse
    have hq2 : ((⟨c.text.toArray⟩ : ByteArray).toList != s.toList) = true := by rw [bne, hq]; rfl
    clear htx hse HP
    generalize (⟨c.text.toArray⟩ : ByteArray) = tx at hq hq2 ⊢
    go_wp2
    refine leaves_cons (f := 21) (args := #[.pointer (some ⟨w.heap.size, 0, none⟩), .pointer (some ⟨w.heap.size + 1, 0, none⟩)]) (by simp) (by simp [go_sem]) ?_
    refine (catch_panicking w.heap.size (w.heap.size + 1) _ _ _ _ _ _ _ _ 49 (.agg #[]) [] _ HA3 HB3 (by omega)).mono ?_
    rintro e u' w9 ⟨rfl, rfl, hT, hA, hB⟩
    obtain ⟨e0, e1, e2, e3, e4, e5, e6⟩ := hA.loc.seven
    have f0 := hB.loc.one
    have HBW : Hid (Below w.heap.size w w9) := hb3.trans (hT.down (fun c hc => by omega) hb3.size)
    clear hT hA hB
    change Leaves _ _ _ _ [] .returning w9
    exact ⟨.tuple #[.agg #[.string ⟨#[]⟩, .int .i64 0, .bool false, .bool false, .int .i64 0, .int .i64 0, .string ⟨#[]⟩], .bool false], by simp [results, Tryd.results10, go_sem, e0, e1, e2, e3, e4, e5, e6, f0], HBW.out, ⟨⟨#[]⟩, 0, false, false, 0, 0, ⟨#[]⟩⟩, false, rfl, HI.out⟩

set_option maxRecDepth 100000 in
set_option maxHeartbeats 1000000 in
/-- impl.TextCol -/
theorem textCol_impl (s : ByteArray) (w : World) (hs : s.size ≤ 1048576) (hE : Env w w.heap.size) :
    Calls Tryd.prog 5 #[.string s] w fun e w' => Below w.heap.size w w' ∧ ∃ (c : Cl) (q : Bool), e = .returned (.tuple #[c.v, .bool q]) ∧ isCol s c q := by
  have hmf : ∀ (fn : Fn) (first cap : Array Value) (w : World), (Instr.makeFunc fn first cap).run Tryd.prog w = .ok (.func fn first cap) w := fun _ _ _ _ => rfl
  have hv : Below w.heap.size w (w.alloc (.cells #[.string ⟨#[]⟩, .int .i64 0, .bool false, .bool false, .int .i64 0, .int .i64 0, .string ⟨#[]⟩] 25)) := ch_alloc (Below.refl _ _) _
  have HQ0 : Own (w.alloc (.cells #[.string ⟨#[]⟩, .int .i64 0, .bool false, .bool false, .int .i64 0, .int .i64 0, .string ⟨#[]⟩] 25)) w.heap.size 25 #[.string ⟨#[]⟩, .int .i64 0, .bool false, .bool false, .int .i64 0, .int .i64 0, .string ⟨#[]⟩] := Own.new w _ _
  have HE : Hid (Env (w.alloc (.cells #[.string ⟨#[]⟩, .int .i64 0, .bool false, .bool false, .int .i64 0, .int .i64 0, .string ⟨#[]⟩] 25)) (w.alloc (.cells #[.string ⟨#[]⟩, .int .i64 0, .bool false, .bool false, .int .i64 0, .int .i64 0, .string ⟨#[]⟩] 25)).heap.size) := by
    have h := hE.on hv
    have hz : w.heap.size ≤ (w.alloc (.cells #[.string ⟨#[]⟩, .int .i64 0, .bool false, .bool false, .int .i64 0, .int .i64 0, .string ⟨#[]⟩] 25)).heap.size := by simp
    exact ⟨h.uni, h.tab, h.errs, Nat.lt_of_lt_of_le h.r1 hz, Nat.lt_of_lt_of_le h.r2 hz, Nat.lt_of_lt_of_le h.r3 hz, Nat.lt_of_lt_of_le h.r4 hz, Nat.lt_of_lt_of_le h.r5 hz⟩
  clear hE
  go_enter Tryd.func5, Tryd.ntmps5
  go_wp2_with fail
  generalize w.alloc (.cells #[.string ⟨#[]⟩, .int .i64 0, .bool false, .bool false, .int .i64 0, .int .i64 0, .string ⟨#[]⟩] 25) = wv at hv HQ0 HE ⊢
  refine (readAll_impl s _ hs HE.out).mono ?_
  rintro e w1 ⟨b1, c, q, rfl, hi⟩
  have HI : Hid (isCol s c q) := hi
  have HQ1 := HQ0.on b1
  have hb1 := ch_trans hv b1
  clear b1 hv HQ0 HE hi
  obtain ⟨g0, g1, g2, g3, g4, g5, g6⟩ := HQ1.loc.seven
  have i0 := HQ1.frozen 0
  have i1 := HQ1.frozen 1
  have i2 := HQ1.frozen 2
  have i3 := HQ1.frozen 3
  have i4 := HQ1.frozen 4
  have i5 := HQ1.frozen 5
  have i6 := HQ1.frozen 6
  have HQ9 : Hid (Own (stores w1 w.heap.size 0 [.string c.name, .int .i64 c.ty, .bool c.nt, .bool c.has, .int .i64 c.dt, .int .i64 c.dn, .string c.ds]) w.heap.size 25 #[.string c.name, .int .i64 c.ty, .bool c.nt, .bool c.has, .int .i64 c.dt, .int .i64 c.dn, .string c.ds]) := Own.fill (old := [.string ⟨#[]⟩, .int .i64 0, .bool false, .bool false, .int .i64 0, .int .i64 0, .string ⟨#[]⟩]) HQ1 [.string c.name, .int .i64 c.ty, .bool c.nt, .bool c.has, .int .i64 c.dt, .int .i64 c.dn, .string c.ds] rfl
  have HB9 : Hid (Below w.heap.size w (stores w1 w.heap.size 0 [.string c.name, .int .i64 c.ty, .bool c.nt, .bool c.has, .int .i64 c.dt, .int .i64 c.dn, .string c.ds])) := hb1.trans ((stores_turns w.heap.size [.string c.name, .int .i64 c.ty, .bool c.nt, .bool c.has, .int .i64 c.dt, .int .i64 c.dn, .string c.ds] w1 w1 0 (Turns.refl _ _)).down (B := w.heap.size) (fun c hc => by omega) hb1.size)
  go_wp2
  clear g0 g1 g2 g3 g4 g5 g6 i0 i1 i2 i3 i4 i5 i6
  simp only [stores, Nat.zero_add, Nat.reduceAdd] at HQ9 HB9
  generalize (((((((w1.setCell ⟨w.heap.size, 0, none⟩ (.string c.name)).setCell ⟨w.heap.size, 1, none⟩ (.int .i64 c.ty)).setCell ⟨w.heap.size, 2, none⟩ (.bool c.nt)).setCell ⟨w.heap.size, 3, none⟩ (.bool c.has)).setCell ⟨w.heap.size, 4, none⟩ (.int .i64 c.dt)).setCell ⟨w.heap.size, 5, none⟩ (.int .i64 c.dn)).setCell ⟨w.heap.size, 6, none⟩ (.string c.ds)) = W at HQ9 HB9 ⊢
  obtain ⟨e0, e1, e2, e3, e4, e5, e6⟩ := HQ9.out.loc.seven
  exact bodyPost_ret (v := .tuple #[c.v, .bool q]) (by simp [results, Tryd.results5, go_sem, e0, e1, e2, e3, e4, e5, e6]) rfl ⟨HB9.out, c, q, rfl, HI.out⟩
end Go.Proofs.YtmkgbdgafjeeiamDoor
