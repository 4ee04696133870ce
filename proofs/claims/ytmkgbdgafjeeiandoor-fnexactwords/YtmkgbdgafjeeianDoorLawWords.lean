/- For every text the landed Words answers as the given one does, and its answer owns its memory: 'FnExactWords' returns true at every argument, the library's tables lying as its text lays them; its argument reads afterwards as it read before. -/
import Derived.Test.YtmkgbdgafjeeianDoorWd
import Derived.Test.YtmkgbdgafjeeianDoorWm
import Derived.Test.YtmkgbdgafjeeianDoorTab
import Derived.ShutString
import Derived.Test.YtmkgbdgafjeeianDoorLaidU
import Derived.Test.YtmkgbdgafjeeianDoorCards
import Derived.Test.YtmkgbdgafjeeianDoorTie
namespace Go.Proofs.YtmkgbdgafjeeianDoor.lawWords
open Go.ChangeShapes Go.WideShapes Go.ChangeAt Go.RowKit
open Go.ChangeMaps (open_string shut_string)

set_option maxRecDepth 100000 in
set_option maxHeartbeats 1000000 in
theorem walk (s : ByteArray) (w : World) (hM : MaxL w) :
    Calls Tryd.prog 3 #[.string s] w fun e w' => e = .returned (.bool true) ∧ Below w.heap.size w w' := by
  by_cases h : (1048576 : Int) < s.size
  · go_enter Tryd.func3, Tryd.ntmps3
    go_wp2
    go_ret
    exact ⟨rfl, Below.refl _ _⟩
  have hs : s.size ≤ 1048576 := by omega
  have HM : Hid (MaxL w) := hM
  have HW0 : Hid (∀ u : World, Calls Tryd.prog 4 #[.string s] u fun e w' => ∃ kv, e = .returned kv ∧ Below u.heap.size u w' ∧ Got w' u.heap.size 9 1 kv ((pcs 32 s).map strX)) := fun u => words_spec s u hs
  have HW1 : Hid (∀ u : World, MaxL u → Calls Tryd.prog 5 #[.string s] u fun e w' => ∃ kv, e = .returned kv ∧ Below u.heap.size u w' ∧ Got w' u.heap.size 9 1 kv ((pcs 32 s).map strX)) := fun u hu => words_impl s u hu hs
  have hl : (pcs 32 s).length ≤ 1048577 := by have := pcs_len 32 s; omega
  clear hM
  generalize pcs 32 s = ps at HW0 HW1 hl
  go_enter Tryd.func3, Tryd.ntmps3
  go_wp2_with fail
  refine (HW0.out _).mono ?_
  rintro e w1 ⟨kv0, rfl, b1, hg0⟩
  obtain ⟨a0, n0, e0, rfl, hg0⟩ := hg0.lit2
  have HG0 : Hid (StrsV w1 (.slice a0 n0 e0) ps) := hg0.strs
  have HM1 : Hid (MaxL w1) := HM.out.on b1 HM.out.lt
  clear hg0
  go_wp2_with fail
  refine (HW1.out _ HM1.out).mono ?_
  rintro e w2 ⟨kv1, rfl, b2, hg1⟩
  obtain ⟨a1, n1, e1, rfl, hg1⟩ := hg1.lit2
  have HG1 : Hid (Got w2 w1.heap.size 9 1 (.slice a1 n1 e1) (ps.map strX)) := hg1
  clear hg1
  go_wp2_with fail
  refine (eqStringS_same _ _ ps _ HG1.out.strs (HG0.out.on b2)).mono ?_
  rintro e w3 ⟨rfl, b3⟩
  have hb13 := ch_trans b2 b3
  have HG3 : Hid (Got w3 w1.heap.size 9 1 (.slice a1 n1 e1) (ps.map strX)) := HG1.out.on b3
  clear b2 b3 HG1
  go_wp2_with fail
  refine (markStringS_got HG3.out (by simp; omega) 1 (by omega)).mono ?_
  rintro e w4 ⟨rfl, hT, hh⟩
  have hb14 : Below w1.heap.size w1 w4 := hb13.trans (hT.down (fun c hc => HG3.out.own hc) hb13.size)
  rw [List.length_map] at hh ⊢
  have HH : Hid (HeldL w4 (.slice a1 n1 e1) 1 (markT 1) ps.length) := hh
  have HHS : Hid (∀ u : World, HeldL u (.slice a1 n1 e1) 1 (markT 1) ps.length → Calls Tryd.prog 8 #[.slice a1 n1 e1, .int .i64 1] u fun e w' => e = .returned (.int .i64 ((1 + ps.length : Nat) : Int)) ∧ Below u.heap.size u w') := fun u hu => heldStringS_held (k := 1) hu (by omega) (by decide)
  clear hT hh hb13 HG3
  generalize 1 + ps.length = M at HHS ⊢
  have hm0 : decide ((M : Int) < 0) = false := by simp
  have hmm : ((M : Int) != M) = false := by simp
  have hme : ((M : Int) == M) = true := by simp
  go_wp2_with fail
  refine (HHS.out _ HH.out).mono ?_
  rintro e w5 ⟨rfl, b5⟩
  have hb15 := ch_trans hb14 b5
  have HH5 : Hid (HeldL w5 (.slice a1 n1 e1) 1 (markT 1) ps.length) := HH.out.on b5
  have HM5 : Hid (MaxL w5) := HM1.out.on hb15 HM1.out.lt
  clear b5 hb14 HH
  go_wp2_with fail
  refine (HW1.out _ HM5.out).mono ?_
  rintro e w6 ⟨kv2, rfl, b6, hg2⟩
  obtain ⟨a2, n2, e2, rfl, hg2⟩ := hg2.lit2
  have HG2 : Hid (StrsV w6 (.slice a2 n2 e2) ps) := hg2.strs
  clear hg2
  go_wp2_with fail
  refine (eqStringS_same _ _ ps _ HG2.out (HG0.out.on (ch_trans hb15 b6))).mono ?_
  rintro e w7 ⟨rfl, b7⟩
  have h57 := ch_trans b6 b7
  clear b6 b7 HG2
  go_wp2_with fail
  refine (HHS.out _ (HH5.out.on h57)).mono ?_
  rintro e w8 ⟨rfl, b8⟩
  have hb8 := ch_trans b1 (ch_trans hb15 (ch_trans h57 b8))
  clear b8 h57 hb15 b1
  go_wp2
  go_ret
  exact ⟨rfl, hb8⟩

set_option maxRecDepth 1000000 in
/-- What the walk gives, for every argument and every world that holds the tables. -/
theorem contract (H : Type) (enc : TypeId × Value → H) (W : World) (base : Nat) (args : Array Value) (ds gs : List (DataW H)) (before : List MemPlace)
    (hval : ∀ (j : Nat) t v, Tryd.f3.params[j]? = some t → args[j]? = some v → Value.okWide Tryd.prog W .any base t v)
    (hW : DataW.Whole enc Tryd.prog Tryd.f3.params.toList Rows.fnExactWordsSpec.vars false W args.toList ds gs before) (hM : MaxL W) :
    Calls Tryd.prog 3 args W fun e W' => ∃ v, e = .returned v ∧ Rows.fnExactWordsSpec.post enc Tryd.prog Tryd.f3 false true false false W args v W' := by
  have hW' := hW
  obtain ⟨p, q, hA0, hV, rfl, hfz, hnd⟩ := hW
  have hA : DataW.TrodAll enc Tryd.prog W 0 (fun _ => true) true Tryd.f3.params.toList args.toList ds p := hA0
  rw [Tryd.params3] at hA hval
  obtain ⟨v0, vs0, d0, ds0, p0, q0, hargs, rfl, rfl, h0, r0⟩ := trodAll_cons hA
  obtain ⟨rfl, rfl, rfl⟩ := trodAll_nil r0
  obtain rfl : args = #[v0] := by cases args; simp_all
  obtain ⟨rfl, rfl⟩ := trodVars_none hV
  obtain ⟨s, rfl, rfl, rfl, hs⟩ := open_string Tryd.underlying9 (hval 0 9 v0 rfl rfl) h0
  clear hA0
  simp only [List.append_nil] at hW'
  refine (walk s W hM).mono fun e W' ⟨he, bel⟩ => ?_
  subst he
  exact ⟨_, rfl, _, _, _, [], [], [], hW', trodAll_mk1 (shut_bool Tryd.underlying4 _), trodAll_mk1 (shut_string Tryd.underlying9 hs), rfl, bel.frame _, fun h => by cases h⟩

set_option maxRecDepth 1000000 in
theorem laid_met (os : Os) : laidMet Tryd.prog Rows.fnExactWordsRow.laid ((startU Tryd.prog os).forCall (fun _ _ => 0) ⟨#[], #[.string ByteArray.empty], []⟩).memory :=
  laidMet_of_run' 8 (by kernel_rfl) (by kernel_rfl)
set_option maxRecDepth 1000000 in
theorem reads (os : Os) {H : Type} (enc : TypeId × Value → H) : ∃ places, DataW.whole enc Tryd.prog ((startU Tryd.prog os).forCall (fun _ _ => 0) ⟨#[], #[.string ByteArray.empty], []⟩).memory Tryd.f3.params.toList Rows.fnExactWordsSpec.vars false #[Value.string ByteArray.empty].toList 8 = some ([.lit (.string [])], [], places) :=
  ⟨[], by kernel_rfl⟩

set_option maxRecDepth 100000 in
theorem lifted (os : Os) (started : os.Started) (H : Type) (enc : TypeId × Value → H) (F : Stop.Interp) :
    ReturnsInHanded {} Tryd.checked os 3 .any ((OpenSpec.ofChange Rows.fnExactWordsSpec).preRow enc Tryd.prog Tryd.f3 Rows.fnExactWordsRow.domain false Rows.fnExactWordsRow.laid) (((OpenSpec.ofChange Rows.fnExactWordsSpec).at F).post enc Tryd.prog Tryd.f3 false true false false) := by
  obtain ⟨places, hx⟩ := reads os enc
  refine returnsInHanded_of_row (C := Tryd.checked) (s := OpenSpec.ofChange Rows.fnExactWordsSpec) ownU started (by kernel_rfl) Tryd.func3
    (witness_row_atRef (enc := enc) (C := Tryd.checked) false (startU Tryd.prog os) #[.string ByteArray.empty] rfl (by kernel_rfl) (by kernel_rfl) (by kernel_rfl)
      (OpenSpec.preRow_of_cond 8 hx (by kernel_rfl) (fun k hk => by cases hk) (by kernel_rfl) (laid_met os))) ?_
  intro W base args ds gs before hval hW _ _ _ _ hSh _
  exact contract H enc W base args ds gs before hval hW (Tryd.laysM146.s1_3 W hSh)

theorem said : Rows.FnExactWordsSaid :=
  OpenClaim.holds_of_cond 3 Tryd.f3 rfl rfl rfl rfl rfl rfl rfl ⟨rfl, rfl, rfl, rfl, rfl⟩ rfl rfl rfl rfl rfl (by kernel_rfl) Tryd.func3 (by kernel_rfl)
    (of_decide_eq_true (by kernel_rfl)) (by unfold Func.isWrapper; first | (rw [if_pos (by decide +kernel)]; kernel_rfl) | (rw [if_neg (by decide +kernel)]; exact ⟨rfl, rfl⟩))
    (fun os started H enc _ F => by rw [OpenClaim.pre_eq_preRow]; exact lifted os started H enc F)

theorem plain (f : FuncId) (fn : Func) (hf : Tryd.pinned.checked.prog.funcNamed "loop.example/g00462/laws.FnExactWords" = some f) (hfn : Tryd.pinned.checked.prog.funcs[f]? = some fn) :
    ∀ (j : Nat) t, fn.params[j]? = some t → Tryd.pinned.checked.prog.wantsStandIn t = false := by
  obtain rfl : f = 3 := Option.some.inj ((show Tryd.prog.funcNamed "loop.example/g00462/laws.FnExactWords" = some 3 by kernel_rfl).symm.trans hf) |>.symm
  obtain rfl : fn = Tryd.f3 := (Option.some.inj (Tryd.func3.symm.trans hfn)).symm
  intro j t ht
  rw [Tryd.params3] at ht
  obtain rfl : t = 9 := by simpa using Array.mem_of_getElem? ht
  exact (show Tryd.prog.wantsStandIn 9 = false by kernel_rfl)

theorem card : Rows.FnExactWordsCardSaid :=
  Claim7.holds_tied_plain_at .later [] _ _ _ _ said (fun _ h => by cases h) (by kernel_rfl) (fun _ h => by cases h) fnExactWords_row_tie rfl ⟨rfl, rfl⟩ (by kernel_rfl) rfl (fun f fn hf hfn => ⟨by kernel_rfl, plain f fn hf hfn⟩) (by kernel_rfl)
end Go.Proofs.YtmkgbdgafjeeianDoor.lawWords
namespace Go.Proofs.YtmkgbdgafjeeianDoor
theorem fnExactWords_holds : Rows.FnExactWordsCardSaid := lawWords.card
#print axioms fnExactWords_holds
end Go.Proofs.YtmkgbdgafjeeianDoor
