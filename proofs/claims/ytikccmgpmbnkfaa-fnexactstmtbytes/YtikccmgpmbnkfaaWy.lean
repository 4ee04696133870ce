/- The given writer of statements: texts, flags, changes. -/
import Derived.Test.YtikccmgpmbnkfaaOg
import Derived.Test.YtikccmgpmbnkfaaWx
namespace Go.Proofs.Ytikccmgpmbnkfaa
open Go.ChangeShapes Go.WideShapes Go.ChangeAt Go.RowKit
section
variable {P : Program} {w : World} {ops : Array Oper} {o : Oper} {a : Act} {Q : Exit → Act → World → Prop} {rest : List Oper} {t T : TypeId} {z bytes : Nat} {zv : Value}
theorem app_lotT (hgd : o.guard = none) (s y : Operand) (ho : o.op = .call { callee := .builtin .append, args := #[s, y], argTypes := #[t, t] })
    (ht : P.underlying t = some (.slice T)) (hinfo : (P.info? T).map (fun i => (i.zero, i.size, i.bytes)) = some (some zv, z, bytes)) (hzs : zv.cells.size = z) (hsz : 0 < z) (hby : bytes ≤ 1000)
    (B : Nat) (v : Value) (xs : List (Array Value)) (hs : a.eval s = v) (hown : Got w B T z v xs) (b off c : Nat) (ys : List (Array Value)) (n : Nat) (hn : n = ys.length) (hy : a.eval y = .slice (some ⟨b, off, none⟩) n c) (hrow : RowAt w (some ⟨b, off, none⟩) z ys) (h1 : ∀ x ∈ ys, ∀ u ∈ x.toList, u.oneCell' = true) (hlen : xs.length + ys.length < 1000000000) (hB : B ≤ w.heap.size)
    (h : ∀ v' w', Got w' B T z v' (xs ++ ys) → Below B w w' → Turns (fun c => v.ownBlock = some c) w w' → wpList P ops Q rest (a.put o.dst v') w') : wpList P ops Q (o :: rest) a w := by
  subst hn
  obtain ⟨v', w', hr, h2, h3, h4⟩ := app_all ht hinfo hzs hsz hby hown hrow h1 hlen hB (c := c) o.type
  refine wpList_plain hgd fun _ hK => ?_
  unfold Oper.wp execOp
  simp only [ho, resolve, invoke, builtin, Sem.run_bind, Sem.run_pure, Result.andThen_ok, List.map_toArray, List.map_cons, List.map_nil, hs, hy, hr]
  exact hK _ _ (h v' w' h2 h3 h4)
theorem app_calmT {K : Act → World → Prop} (s y : Operand) (ho : o.op = .call { callee := .builtin .append, args := #[s, y], argTypes := #[t, t] })
    (ht : P.underlying t = some (.slice T)) (hinfo : (P.info? T).map (fun i => (i.zero, i.size, i.bytes)) = some (some zv, z, bytes)) (hzs : zv.cells.size = z) (hsz : 0 < z) (hby : bytes ≤ 1000)
    (B : Nat) (v : Value) (xs : List (Array Value)) (hs : a.eval s = v) (hown : Got w B T z v xs) (b off c : Nat) (ys : List (Array Value)) (n : Nat) (hn : n = ys.length) (hy : a.eval y = .slice (some ⟨b, off, none⟩) n c) (hrow : RowAt w (some ⟨b, off, none⟩) z ys) (h1 : ∀ x ∈ ys, ∀ u ∈ x.toList, u.oneCell' = true) (hlen : xs.length + ys.length < 1000000000) (hB : B ≤ w.heap.size)
    (h : ∀ v' w', Got w' B T z v' (xs ++ ys) → Below B w w' → Turns (fun c => v.ownBlock = some c) w w' → K (a.put o.dst v') w') : calm P o a w K := by
  subst hn
  obtain ⟨v', w', hr, h2, h3, h4⟩ := app_all ht hinfo hzs hsz hby hown hrow h1 hlen hB (c := c) o.type
  unfold calm execOp
  simp only [ho, resolve, invoke, builtin, Sem.run_bind, Sem.run_pure, Result.andThen_ok, List.map_toArray, List.map_cons, List.map_nil, hs, hy, hr, calmUpon]
  exact h v' w' h2 h3 h4
end
/-- Worlds in which the call's own bytes may have turned. -/
def Gb (B : Nat) (w w' : World) : Prop := Below B w w' ∧ Byt w w'
theorem Gb.rel (B : Nat) : Rel (Gb B) := ⟨fun _ => ⟨Below.refl _ _, Byt.refl _⟩, fun h k => ⟨Below.trans h.1 k.1, h.2.trans k.2⟩⟩
theorem Gb.refl (B : Nat) (w : World) : Gb B w w := (Gb.rel B).refl w
theorem Gb.trans {B : Nat} {a b c : World} (h : Gb B a b) (k : Gb B b c) : Gb B a c := (Gb.rel B).trans h k
theorem Gb.new {B : Nat} {w w' : World} (k : Below w.heap.size w w') (h : B ≤ w.heap.size) : Gb B w w' := ⟨k.mono h, (Byt.refl w).below k⟩
theorem Gb.got {B : Nat} {w w' : World} {v : Value} {xs : List (Array Value)} (h : Got w B 5 1 v xs) (k : Turns (fun c => v.ownBlock = some c) w w') (b : Below B w w') : Gb B w w' := ⟨b, Byt.got h k⟩

set_option maxRecDepth 100000 in
set_option maxHeartbeats 1000000 in
/-- spec.l06Word -/
theorem l06Word_any (v : Value) (B : Nat) (l : List UInt8) (s : ByteArray) (w : World) (hg : Got w B 5 1 v (l.map byX)) (hs : okWord s) (hl : l.length ≤ 1000000) (hB : B ≤ w.heap.size) :
    Calls Try.prog 40 #[v, .string s] w fun e w' => ∃ v', e = .returned v' ∧ Gb B w w' ∧ Got w' B 5 1 v' ((l ++ textL s).map byX) := by
  obtain ⟨a, n, c, rfl, hg⟩ := hg.lit2
  have HG : Hid (Got w B 5 1 (.slice a n c) (l.map byX)) := hg
  have hs8 := okWord_size hs
  have HWB : Hid (∀ u : World, Calls Try.prog 72 #[.string s] u fun e w' => ∃ v', e = .returned (.tuple #[v', .bool true]) ∧ Below u.heap.size u w' ∧ Got w' u.heap.size 5 1 v' ((textL s).map byX)) := fun u => wordBytes_spec s u (by unfold maxLen; omega) true _ (Or.inl ⟨rfl, hs, rfl⟩)
  have HX : Hid (1 ≤ (textL s).length ∧ (textL s).length ≤ 9) := by
    show _ ∧ _
    rw [textL_length]; omega
  clear hg hs
  generalize textL s = X at HWB HX ⊢
  go_enter Try.func40, Try.ntmps40
  go_wp2_with fail
  refine (HWB.out _).mono ?_
  rintro e w1 ⟨v1, rfl, b1, hg1⟩
  obtain ⟨a1, c1, rfl, _, _, hr1, _⟩ := hg1.row
  obtain ⟨b2, off2, rfl, _⟩ := hr1.bytes 0 (by have := HX.out.1; omega)
  rw [List.length_map]
  have HR1 : Hid (RowAt w1 (some ⟨b2, off2, none⟩) 1 (X.map byX)) := hr1
  have HG1 : Hid (Got w1 B 5 1 (.slice a n c) (l.map byX)) := HG.out.on b1
  have HB1 : Hid (Gb B w w1) := Gb.new b1 hB
  have hx9 := HX.out.2
  have hB1 : B ≤ w1.heap.size := Nat.le_trans hB b1.size
  clear hg1 hr1 b1
  go_wp2_with (at_builtin; refine app_lotT rfl (.tmp 12) (.tmp 13) rfl Try.underlying33 infoByte rfl (by decide) (by decide) B _ _ rfl HG1.out b2 off2 _ (X.map byX) X.length (by simp) rfl HR1.out (byte_one _) (by simp only [List.length_map]; omega) hB1 ?_; intro v3 w3 hg3 hb3 ht3; have HG3 : Hid (Got w3 B 5 1 v3 ((l ++ X).map byX)) := (by show Got _ _ _ _ _ _; rw [List.map_append]; exact hg3); have HB3 : Hid (Gb B w w3) := HB1.out.trans (Gb.got HG1.out ht3 hb3); clear hg3 hb3 ht3)
  go_ret
  exact ⟨_, rfl, HB3.out, HG3.out⟩

set_option maxRecDepth 100000 in
/-- spec.l06Bool -/
theorem l06Bool_any (b : Bool) (w : World) : Calls Try.prog 74 #[.bool b] w fun e w' => e = .returned (.int .u8 ((flagN b).toNat : Int)) ∧ w' = w := by
  cases b
  · go_enter Try.func74, Try.ntmps74
    go_wp2
    go_ret
    exact ⟨rfl, rfl⟩
  · go_enter Try.func74, Try.ntmps74
    go_wp2
    go_ret
    exact ⟨rfl, rfl⟩
end Go.Proofs.Ytikccmgpmbnkfaa
