/- The face of the readers: what is read, or nothing. -/
import Derived.Test.YtmkgbdgafjeeiamDoorCi
import Derived.Defers
import Derived.Recover
namespace Go.Proofs.YtmkgbdgafjeeiamDoor
open Go.ChangeShapes Go.WideShapes Go.ChangeAt Go.RowKit

set_option maxRecDepth 100000 in
set_option maxHeartbeats 1000000 in
/-- The closure that TextCol hands on. -/
theorem colFn_any (R : Nat) (s : ByteArray) (f : Nat) (w : World) (hs : s.size ≤ 1048576) (hk : f ≤ s.size) (hr : Rd w R s f) (hE : Env w R) :
    Calls Tryd.prog 11 #[.pointer (some ⟨R, 0, none⟩)] w fun e w' => Turns (· = R) w w' ∧ ((∃ (c : Cl), e = .returned c.v ∧ ∃ k' : Nat, PCol [] (s.data.toList.drop f) c (s.data.toList.drop k')) ∨ (e = gone ∧ ∀ c l, ¬ PCol [] (s.data.toList.drop f) c l)) := by
  have HC : Hid (∀ u : World, Rd u R s f → Env u R → Calls Tryd.prog 12 #[.pointer (some ⟨R, 0, none⟩), .string ⟨#[]⟩] u fun e w' => Turns (· = R) u w' ∧ ((∃ (c : Cl), e = .returned c.v ∧ ∃ k' : Nat, PCol [] (s.data.toList.drop f) c (s.data.toList.drop k')) ∨ (e = gone ∧ ∀ c l, ¬ PCol [] (s.data.toList.drop f) c l))) := fun u h1 h2 => (col_any R s ⟨#[]⟩ f u hs hk h1 h2).mono fun e w' ⟨hT, h⟩ => ⟨hT, h.imp (fun ⟨c, k', h1, _, h2, _⟩ => ⟨c, h1, k', h2⟩) id⟩
  have HR : Hid (Rd w R s f) := hr
  have HE : Hid (Env w R) := hE
  clear hr hE
  have hRl : R < w.heap.size := cell_lt HR.out.loc.two.1
  have HQ0 : Own (w.alloc (.cells #[.string ⟨#[]⟩, .int .i64 0, .bool false, .bool false, .int .i64 0, .int .i64 0, .string ⟨#[]⟩] 25)) w.heap.size 25 #[.string ⟨#[]⟩, .int .i64 0, .bool false, .bool false, .int .i64 0, .int .i64 0, .string ⟨#[]⟩] := Own.new w _ _
  have hv : Below w.heap.size w (w.alloc (.cells #[.string ⟨#[]⟩, .int .i64 0, .bool false, .bool false, .int .i64 0, .int .i64 0, .string ⟨#[]⟩] 25)) := ch_alloc (Below.refl _ _) _
  have HR0 : Hid (Rd (w.alloc (.cells #[.string ⟨#[]⟩, .int .i64 0, .bool false, .bool false, .int .i64 0, .int .i64 0, .string ⟨#[]⟩] 25)) R s f) := HR.out.on hv
  have HE0 : Hid (Env (w.alloc (.cells #[.string ⟨#[]⟩, .int .i64 0, .bool false, .bool false, .int .i64 0, .int .i64 0, .string ⟨#[]⟩] 25)) R) := HE.out.on (hv.mono (by omega))
  clear HR HE
  go_enter Tryd.func11, Tryd.ntmps11
  go_wp2_with fail
  generalize w.alloc (.cells #[.string ⟨#[]⟩, .int .i64 0, .bool false, .bool false, .int .i64 0, .int .i64 0, .string ⟨#[]⟩] 25) = wv at HQ0 hv HR0 HE0 ⊢
  refine (HC.out _ HR0.out HE0.out).mono ?_
  rintro e w1 ⟨hT, h⟩
  have HT1 : Hid (Turns (· = R) w w1) := ((Turns.refl _ _).below hv).trans hT
  have HQ1 := HQ0.turned hT (by omega)
  clear hT HQ0 hv HR0 HE0
  rcases h with ⟨c, rfl, hp⟩ | ⟨rfl, hp⟩
  · have HP : Hid (∃ k' : Nat, PCol [] (s.data.toList.drop f) c (s.data.toList.drop k')) := hp
    obtain ⟨g0, g1, g2, g3, g4, g5, g6⟩ := HQ1.loc.seven
    have i0 := HQ1.frozen 0
    have i1 := HQ1.frozen 1
    have i2 := HQ1.frozen 2
    have i3 := HQ1.frozen 3
    have i4 := HQ1.frozen 4
    have i5 := HQ1.frozen 5
    have i6 := HQ1.frozen 6
    have HQ9 : Hid (Own (stores w1 w.heap.size 0 [.string c.name, .int .i64 c.ty, .bool c.nt, .bool c.has, .int .i64 c.dt, .int .i64 c.dn, .string c.ds]) w.heap.size 25 #[.string c.name, .int .i64 c.ty, .bool c.nt, .bool c.has, .int .i64 c.dt, .int .i64 c.dn, .string c.ds]) := Own.fill (old := [.string ⟨#[]⟩, .int .i64 0, .bool false, .bool false, .int .i64 0, .int .i64 0, .string ⟨#[]⟩]) HQ1 [.string c.name, .int .i64 c.ty, .bool c.nt, .bool c.has, .int .i64 c.dt, .int .i64 c.dn, .string c.ds] rfl
    have HTW : Hid (Turns (· = R) w (stores w1 w.heap.size 0 [.string c.name, .int .i64 c.ty, .bool c.nt, .bool c.has, .int .i64 c.dt, .int .i64 c.dn, .string c.ds])) := HT1.out.grow ((stores_turns w.heap.size [.string c.name, .int .i64 c.ty, .bool c.nt, .bool c.has, .int .i64 c.dt, .int .i64 c.dn, .string c.ds] w1 w1 0 (Turns.refl _ _)).down (B := w.heap.size) (fun c hc => by omega) HT1.out.size) (Nat.le_refl _)
    clear hp
    go_wp2
    clear g0 g1 g2 g3 g4 g5 g6 i0 i1 i2 i3 i4 i5 i6
    simp only [stores, Nat.zero_add, Nat.reduceAdd] at HQ9 HTW
    generalize (((((((w1.setCell ⟨w.heap.size, 0, none⟩ (.string c.name)).setCell ⟨w.heap.size, 1, none⟩ (.int .i64 c.ty)).setCell ⟨w.heap.size, 2, none⟩ (.bool c.nt)).setCell ⟨w.heap.size, 3, none⟩ (.bool c.has)).setCell ⟨w.heap.size, 4, none⟩ (.int .i64 c.dt)).setCell ⟨w.heap.size, 5, none⟩ (.int .i64 c.dn)).setCell ⟨w.heap.size, 6, none⟩ (.string c.ds)) = W at HQ9 HTW ⊢
    obtain ⟨e0, e1, e2, e3, e4, e5, e6⟩ := HQ9.out.loc.seven
    exact bodyPost_ret (v := c.v) (by simp [results, Tryd.results11, go_sem, e0, e1, e2, e3, e4, e5, e6]) rfl ⟨HTW.out, Or.inl ⟨c, rfl, HP.out⟩⟩
  · have HB : Hid (∀ c l, ¬ PCol [] (s.data.toList.drop f) c l) := hp
    clear hp
    go_wp2
    first | exact ⟨rfl, HT1.out, Or.inr ⟨rfl, HB.out⟩⟩ | exact ⟨trivial, HT1.out, Or.inr ⟨rfl, HB.out⟩⟩

set_option maxRecDepth 100000 in
set_option maxHeartbeats 2000000 in
/-- The deferred call where the body gave up. -/
theorem catch_panicking (A B : Nat) (c0 c1 c2 c3 c4 c5 c6 o : Value) (u : TypeId) (pv : Value) (older : List PanicEntry) (w : World) (hA : Own w A 25 #[c0, c1, c2, c3, c4, c5, c6]) (hB : Own w B 4 #[o]) (hne : A ≠ B) :
    CallsD Tryd.prog 21 #[.pointer (some ⟨A, 0, none⟩), .pointer (some ⟨B, 0, none⟩)] (.panicking ({ v := .iface u pv, recovered := false } :: older)) w fun e u' w' =>
      e = .returned (.tuple #[]) ∧ u' = .panicking ({ v := .iface u pv, recovered := true } :: older) ∧ Turns (fun c => c = A ∨ c = B) w w' ∧ Own w' A 25 #[.string ⟨#[]⟩, .int .i64 0, .bool false, .bool false, .int .i64 0, .int .i64 0, .string ⟨#[]⟩] ∧ Own w' B 4 #[.bool false] := by
  refine callsD_of_wpS Tryd.func21 rfl fun c₀ cs hu => ?_
  apply wpS_seq
  apply wpS_region
  simp [wpOpsS, go_sem, recoverD, hu, Tryd.ntmps21, Exit.thenS]
  refine wpS_cond (t := true) (by simp [Act.eval, Array.replicate]) ?_
  simp only [if_true]
  have ht : (#[.pointer (some ⟨A, 0, none⟩), .pointer (some ⟨B, 0, none⟩)] ++ ((Array.replicate 4 undef).setIfInBounds 1 (Value.iface u pv)).setIfInBounds 2 (Value.bool true)) = #[.pointer (some ⟨A, 0, none⟩), .pointer (some ⟨B, 0, none⟩), undef, .iface u pv, .bool true, undef] := by simp [Array.replicate]
  rw [ht]
  refine wpS_of_wp ?_
  have hAl : A ≠ w.heap.size := Nat.ne_of_lt hA.lt
  have hBl : B ≠ w.heap.size := Nat.ne_of_lt hB.lt
  have hAt : A < w.heap.size := hA.lt
  have hBt : B < w.heap.size := hB.lt
  obtain ⟨g0, g1, g2, g3, g4, g5, g6⟩ := hA.loc.seven
  have k0 := hB.loc.one
  have i0 := hA.frozen 0
  have i1 := hA.frozen 1
  have i2 := hA.frozen 2
  have i3 := hA.frozen 3
  have i4 := hA.frozen 4
  have i5 := hA.frozen 5
  have i6 := hA.frozen 6
  have m0 := hB.frozen 0
  have HAB : Hid (Own w A 25 #[c0, c1, c2, c3, c4, c5, c6] ∧ Own w B 4 #[o] ∧ A ≠ B) := ⟨hA, hB, hne⟩
  clear ht hA hB
  go_wp2
  clear g0 g1 g2 g3 g4 g5 g6 k0 i0 i1 i2 i3 i4 i5 i6 m0
  have HWA : Own (((stores w A 0 [.string ⟨#[]⟩, .int .i64 0, .bool false, .bool false, .int .i64 0, .int .i64 0, .string ⟨#[]⟩]).setCell ⟨B, 0, none⟩ (.bool false)).alloc (.cells #[.string ⟨#[]⟩, .int .i64 0, .bool false, .bool false, .int .i64 0, .int .i64 0, .string ⟨#[]⟩] 25)) A 25 #[.string ⟨#[]⟩, .int .i64 0, .bool false, .bool false, .int .i64 0, .int .i64 0, .string ⟨#[]⟩] := ((Own.fill (old := [c0, c1, c2, c3, c4, c5, c6]) HAB.out.1 [.string ⟨#[]⟩, .int .i64 0, .bool false, .bool false, .int .i64 0, .int .i64 0, .string ⟨#[]⟩] rfl).other HAB.out.2.2 (.bool false)).on (ch_alloc (Below.refl _ _) _)
  have HWB : Own (((stores w A 0 [.string ⟨#[]⟩, .int .i64 0, .bool false, .bool false, .int .i64 0, .int .i64 0, .string ⟨#[]⟩]).setCell ⟨B, 0, none⟩ (.bool false)).alloc (.cells #[.string ⟨#[]⟩, .int .i64 0, .bool false, .bool false, .int .i64 0, .int .i64 0, .string ⟨#[]⟩] 25)) B 4 #[.bool false] := ((Own.past (Ne.symm HAB.out.2.2) [.string ⟨#[]⟩, .int .i64 0, .bool false, .bool false, .int .i64 0, .int .i64 0, .string ⟨#[]⟩] w 0 HAB.out.2.1).set 0 (.bool false)).on (ch_alloc (Below.refl _ _) _)
  have HTW : Turns (fun c => c = A ∨ c = B) w (((stores w A 0 [.string ⟨#[]⟩, .int .i64 0, .bool false, .bool false, .int .i64 0, .int .i64 0, .string ⟨#[]⟩]).setCell ⟨B, 0, none⟩ (.bool false)).alloc (.cells #[.string ⟨#[]⟩, .int .i64 0, .bool false, .bool false, .int .i64 0, .int .i64 0, .string ⟨#[]⟩] 25)) := ((((stores_turns A [.string ⟨#[]⟩, .int .i64 0, .bool false, .bool false, .int .i64 0, .int .i64 0, .string ⟨#[]⟩] w w 0 (Turns.refl _ _)).mono (S' := fun c => c = A ∨ c = B) fun c h => Or.inl h).set (p := ⟨B, 0, none⟩) (Or.inr rfl) (.bool false))).below (ch_alloc (Below.refl _ _) _)
  simp only [stores, Nat.zero_add, Nat.reduceAdd] at HWA HWB HTW
  exact ⟨rfl, _, rfl, .tuple #[], by simp [results, Tryd.results21], rfl, rfl, HTW, HWA, HWB⟩
set_option maxRecDepth 100000 in
set_option maxHeartbeats 2000000 in
/-- The deferred call where the body returned. -/
theorem catch_idle (A B : Nat) (w : World) :
    CallsD Tryd.prog 21 #[.pointer (some ⟨A, 0, none⟩), .pointer (some ⟨B, 0, none⟩)] .returning w fun e u' w' => e = .returned (.tuple #[]) ∧ u' = .returning ∧ w' = w := by
  refine callsD_of_wpS Tryd.func21 rfl fun c₀ cs hu => ?_
  apply wpS_seq
  apply wpS_region
  simp [wpOpsS, go_sem, recoverD, hu, Tryd.ntmps21, Exit.thenS]
  refine wpS_cond (t := false) (by simp [Act.eval, Array.replicate]) ?_
  simp only [Bool.false_eq_true, if_false]
  refine wpS_of_wp (wp_skip ?_)
  cases c₀
  simp_all [bodyPostS, results, Tryd.results21]

end Go.Proofs.YtmkgbdgafjeeiamDoor
