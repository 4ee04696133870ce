/- A region that draws its order, in worlds that only grow: one walk serves every order. The key of a row: the given l03Key, the landed keyOf. Values laid by names: the closure, landed; the place of a name, given. -/
import Derived.Test.YtiijahoheajppaaCh
import Derived.Deep.QuietTactic
import Derived.BigQuiet
import Derived.Test.YtiijahoheajppaaKp
import Derived.Test.YtiijahoheajppaaVs
import Derived.Deep.RegionWith
import Derived.Test.YtiijahoheajppaaDs
namespace Go.Proofs.Ytiijahoheajppaa
open Go.ChangeShapes Go.WideShapes Go.ChangeAt Go.RowKit

/-- A world grown out of another, nothing that was there turned. -/
def Grows (u w : World) : Prop := Below u.heap.size u w
theorem Grows.drawn (u : World) : Grows u { u with drawn := u.drawn + 1 } := ⟨rfl, rfl, rfl, Nat.le_refl _, fun _ _ => rfl⟩
theorem region_grown {P : Program} {id : Nat} {Q : Exit → Act → World → Prop} {a : Act} {u : World} {l : List Oper} (hm : P.follows .mixedOrders = true) (hB : Region.lexB .any l.toArray = true)
    (h : wpQuiet P l.toArray (Grows u) (fun a' => ∀ w', Grows u w' → Q .normal a' w') l a) : (Code.region id l.toArray true).wp P Q a u :=
  wp_region_quiet (C := Grows u) hm hB (Grows.drawn u) (by simpa using h)
/-- A callee that returns a value and only grows the world. -/
theorem Grows.call {P : Program} {f : FuncId} {args : Array Value} {u w : World} {v : Value} (hw : Grows u w) (h : Calls P f args w fun e w' => e = .returned v ∧ Below w.heap.size w w') : Calls P f args w fun e w' => e = .returned v ∧ Grows u w' :=
  h.mono fun _ _ ⟨h1, h2⟩ => ⟨h1, ch_trans hw h2⟩
theorem Grows.cell {u w : World} {p : Addr} {v : Value} (hw : Grows u w) (h : u.cell? p = some v) : w.cell? p = some v := cell_on h hw
end Go.Proofs.Ytiijahoheajppaa

namespace Go.Proofs.Ytiijahoheajppaa
open Go.ChangeShapes Go.WideShapes Go.ChangeAt Go.RowKit

abbrev Vc.zero : Vc := ⟨0, 0, ByteArray.empty⟩
/-- The values at some places. -/
def valsAt (is : List Int) (vs : List Vc) : List Vc := is.map fun i => vs.getD i.toNat Vc.zero
/-- The key of a row. -/
def keyVals (t : Tc) (vs : List Vc) : List Vc := valsAt t.places vs
theorem valsAt_take {is : List Int} {vs : List Vc} {k i : Nat} (hk : k < is.length) (he : is[k] = (i : Int)) (hi : i < vs.length) : ((valsAt is vs).take (k + 1)).map Vc.cells = ((valsAt is vs).take k).map Vc.cells ++ [vs[i].cells] := by
  have hl : k < (valsAt is vs).length := by simpa [valsAt] using hk
  rw [List.take_succ_eq_append_getElem hl, List.map_append]
  simp [valsAt, he, hi]
theorem Got.vals {w : World} {B : Nat} {T : TypeId} {v : Value} {vs : List Vc} (h : Got w B T 3 v (vs.map Vc.cells)) : ValsV w v vs := by
  obtain ⟨a, cap, e, h1, h2, h3, _⟩ := h.row
  exact ⟨a, cap, by simpa using e, by simpa using h1, h2, h3⟩
theorem infoVal : (Try.prog.info? 58).map (fun i => (i.zero, i.size, i.bytes)) = some (some (.agg #[.int .i64 0, .int .i64 0, .string ByteArray.empty]), 3, 32) := by kernel_rfl
theorem val_one (c : Vc) : ∀ u ∈ c.cells.toList, u.oneCell' = true := by
  intro u hu
  simp at hu
  rcases hu with rfl | rfl | rfl <;> rfl
/-- Places within a row. -/
def within' (is : List Int) (n : Nat) : Prop := ∀ k (h : k < is.length), ∃ i : Nat, i < n ∧ is[k] = (i : Int)
theorem right_within {t : Tc} (h : t.right) : within' t.places t.cols.length := fun k hk => by
  obtain ⟨i, hi, e, _⟩ := right_key h k (by simpa [Tc.places] using hk)
  exact ⟨i, hi, by simpa [Tc.places] using e⟩

end Go.Proofs.Ytiijahoheajppaa

namespace Go.Proofs.Ytiijahoheajppaa
open Go.ChangeShapes Go.WideShapes Go.ChangeAt Go.RowKit

/-- What stands at a name: the value that comes with it, else the other one. -/
def mapC (src : List ByteArray) (vs rest : List Vc) (i : Nat) (s : ByteArray) : Vc := if idxS src s = -1 then rest.getD i Vc.zero else vs.getD (idxS src s).toNat Vc.zero
def mapL (src dst : List ByteArray) (vs rest : List Vc) : List Vc := dst.mapIdx (mapC src vs rest)
theorem mapL_len (src dst : List ByteArray) (vs rest : List Vc) : (mapL src dst vs rest).length = dst.length := List.length_mapIdx
theorem mapL_at (src dst : List ByteArray) (vs rest : List Vc) (k : Nat) (h : k < dst.length) : (mapL src dst vs rest)[k]'(by rw [mapL_len]; exact h) = mapC src vs rest k dst[k] := by
  unfold mapL
  rw [List.getElem_mapIdx]
theorem mapL_take {src dst : List ByteArray} {vs rest : List Vc} {k : Nat} (h : k < dst.length) {c : Vc} (hc : mapC src vs rest k dst[k] = c) : ((mapL src dst vs rest).take (k + 1)).map Vc.cells = ((mapL src dst vs rest).take k).map Vc.cells ++ [c.cells] := by
  have hl : k < (mapL src dst vs rest).length := by rw [mapL_len]; exact h
  rw [List.take_succ_eq_append_getElem hl, List.map_append, mapL_at _ _ _ _ _ h, hc]
  rfl

set_option maxRecDepth 100000 in
set_option maxHeartbeats 2000000 in
/-- The closure of impl.mappingOf -/
theorem mapping_any (X Y b n : Nat) (src dst : List ByteArray) (tv vv rv : Value) (vs rest : List Vc) (w : World) (hX : w.cell? ⟨X, 0, none⟩ = some tv) (hY : w.cell? ⟨Y, 0, none⟩ = some (.map (some b))) (ht : StrsV w tv dst) (hm : MapIs Try.prog 9 w b n (nplist src src.length)) (hv : ValsV w vv vs) (hr : ValsV w rv rest)
    (hl : src.length ≤ vs.length) (hw : ∀ i (h : i < dst.length), dst[i] ∈ src ∨ i < rest.length) (hn : dst.length ≤ 1048576) (hf : ∀ s ∈ dst, s.size ≤ maxLen) :
    Calls Try.prog 68 #[vv, rv, .pointer (some ⟨X, 0, none⟩), .pointer (some ⟨Y, 0, none⟩)] w fun e w' => ∃ kv, e = .returned kv ∧ Below w.heap.size w w' ∧ Got w' w.heap.size 58 3 kv ((mapL src dst vs rest).map Vc.cells) := by
  obtain ⟨a, p, rfl, h1, h2, ht⟩ := ht
  obtain ⟨a', p', rfl, h1', h2', hv⟩ := hv
  obtain ⟨a'', p'', rfl, h1'', h2'', hr⟩ := hr
  unfold maxLen at h2 h2' h2''
  have HT : Hid (RowAt w a 1 (dst.map strX)) := ht
  have HV : Hid (RowAt w a' 3 (vs.map Vc.cells)) := hv
  have HR : Hid (RowAt w a'' 3 (rest.map Vc.cells)) := hr
  have HM : Hid (MapIs Try.prog 9 w b n (nplist src src.length)) := hm
  have HX : Hid (w.cell? ⟨X, 0, none⟩ = some (.slice a dst.length p)) := hX
  have HY : Hid (w.cell? ⟨Y, 0, none⟩ = some (.map (some b))) := hY
  have HW : Hid (∀ i (h : i < dst.length), dst[i] ∈ src ∨ i < rest.length) := hw
  have HF : Hid (∀ s ∈ dst, s.size ≤ maxLen) := hf
  clear ht hv hr hm hw hf hY
  go_enter Try.func68, Try.ntmps68
  go_wp2
  have HG0 : Hid (Got w w.heap.size 58 3 (.slice none 0 0) (((mapL src dst vs rest).take 0).map Vc.cells)) := Got.nil _ _ _ _
  go_loopw [7, 14] (fun v i wr => ∃ k : Nat, k ≤ dst.length ∧ i = .int .i64 k ∧ Below w.heap.size w wr ∧ Hid (Got wr w.heap.size 58 3 v (((mapL src dst vs rest).take k).map Vc.cells))) (fun _ i _ => dst.length - (intOf i).toNat)
  case atStart => exact ⟨0, Nat.zero_le _, rfl, Below.refl _ _, HG0⟩
  case round =>
    clear HG0 hX
    obtain ⟨k, hk, rfl, hb, HG⟩ := hrel
    obtain ⟨ag, ng, cg, rfl, hg⟩ := HG.out.lit2
    have HG' : Hid (Got wr w.heap.size 58 3 (.slice ag ng cg) (((mapL src dst vs rest).take k).map Vc.cells)) := hg
    have hX := cell_on HX.out hb
    have hY := cell_on HY.out hb
    clear HG hg
    by_cases hlt : k < dst.length
    · have hlti : (k : Int) < dst.length := by omega
      obtain ⟨b1, off1, rfl, d0⟩ := (HT.out.on hb).strs k hlt
      have hM := HM.out.on hb HM.out.lt
      have hsz := HF.out _ (List.getElem_mem hlt)
      have hwk := HW.out k hlt
      rcases nplist_at src dst[k] with ⟨g1, g0, g2⟩ | ⟨i, hi, g1, g0, g2⟩
      · have hkr : k < rest.length := hwk.elim (fun h => absurd h g1) id
        have hkri : (k : Int) < rest.length := by omega
        have hlook := hM.look_no Try.underlying9 Try.underlying64 (zeroI _) hsz g2
        obtain ⟨b2, off2, rfl, e0, e1, e2⟩ := (HR.out.on hb).vals k hkr
        have HPL : Hid _ := mapL_take (src := src) (vs := vs) (rest := rest) (k := k) hlt (c := rest[k]) (by unfold mapC; rw [if_pos g0]; simp [hkr])
        have hB : w.heap.size ≤ (wr.alloc (.cells #[.int .i64 rest[k].ty, .int .i64 rest[k].n, .string rest[k].s] 58)).heap.size := by have := hb.size; simp; omega
        clear g0 g1 g2 hM hsz hwk
        go_wp2_with (at_builtin; refine app_one rfl (.tmp 33) (.tmp 38) rfl Try.underlying39 infoVal rfl (by decide) (by decide) w.heap.size _ (((mapL src dst vs rest).take k).map Vc.cells) rfl (HG'.out.on (ch_alloc (Below.refl _ _) _)) wr.heap.size 1 rest[k].cells rfl (Loc.new _ _ _) rfl (val_one _) (by simp; omega) hB ?_; intro v' w2 hg2 hb2)
        have HG2 : Hid (Got w2 w.heap.size 58 3 v' (((mapL src dst vs rest).take (k + 1)).map Vc.cells)) := by
          show Got _ _ _ _ _ _
          rw [HPL.out]; exact hg2
        have hb3 : Below w.heap.size w w2 := Below.trans (ch_alloc hb _) hb2
        go_round
        case rel => exact ⟨k + 1, by omega, by go_num, hb3, HG2⟩
        case measure => simp [intOf]; omega
      · have hiv : i < vs.length := by omega
        have hii : (i : Int) < vs.length := by omega
        have hlook : _ = Result.ok (Value.tuple #[.int .i64 (i : Int), .bool true]) _ := hM.look_yes Try.underlying9 Try.underlying64 (zeroI _) hsz g2
        obtain ⟨b2, off2, rfl, e0, e1, e2⟩ := (HV.out.on hb).vals i hiv
        have HPL : Hid _ := mapL_take (src := src) (vs := vs) (rest := rest) (k := k) hlt (c := vs[i]) (by unfold mapC; rw [g0, if_neg (by omega), Int.toNat_natCast]; simp [hiv])
        have hB : w.heap.size ≤ (wr.alloc (.cells #[.int .i64 vs[i].ty, .int .i64 vs[i].n, .string vs[i].s] 58)).heap.size := by have := hb.size; simp; omega
        clear g0 g1 g2 hM hsz hwk
        go_wp2_with (at_builtin; refine app_one rfl (.tmp 26) (.tmp 31) rfl Try.underlying39 infoVal rfl (by decide) (by decide) w.heap.size _ (((mapL src dst vs rest).take k).map Vc.cells) rfl (HG'.out.on (ch_alloc (Below.refl _ _) _)) wr.heap.size 1 vs[i].cells rfl (Loc.new _ _ _) rfl (val_one _) (by simp; omega) hB ?_; intro v' w2 hg2 hb2)
        have HG2 : Hid (Got w2 w.heap.size 58 3 v' (((mapL src dst vs rest).take (k + 1)).map Vc.cells)) := by
          show Got _ _ _ _ _ _
          rw [HPL.out]; exact hg2
        have hb3 : Below w.heap.size w w2 := Below.trans (ch_alloc hb _) hb2
        go_round
        case rel => exact ⟨k + 1, by omega, by go_num, hb3, HG2⟩
        case measure => simp [intOf]; omega
    · have hlti : (dst.length : Int) ≤ k := by omega
      have HI : Hid (Got wr w.heap.size 58 3 (.slice ag ng cg) ((mapL src dst vs rest).map Vc.cells)) := by
        have h := HG'.out
        rw [List.take_of_length_le (by rw [mapL_len]; omega)] at h
        exact h
      go_wp2
      go_ret
      exact ⟨_, rfl, hb, HI.out⟩

set_option maxRecDepth 100000 in
set_option maxHeartbeats 1000000 in
/-- impl.mappingOf -/
theorem mappingOf_any (fv tv : Value) (src : List ByteArray) (w : World) (hc : StrsV w fv src) (hf : ∀ s ∈ src, s.size ≤ maxLen) (dst : List ByteArray) (ht : StrsV w tv dst) :
    Calls Try.prog 53 #[fv, tv] w fun e w' => ∃ X Y b, e = .returned (.func (.func 68) #[] #[.pointer (some ⟨X, 0, none⟩), .pointer (some ⟨Y, 0, none⟩)]) ∧ Below w.heap.size w w' ∧ w'.cell? ⟨X, 0, none⟩ = some tv ∧ w'.cell? ⟨Y, 0, none⟩ = some (.map (some b)) ∧ MapIs Try.prog 9 w' b src.length (nplist src src.length) := by
  have hmf : ∀ (fn : Fn) (first cap : Array Value) (w : World), (Instr.makeFunc fn first cap).run Try.prog w = .ok (.func fn first cap) w := fun _ _ _ _ => rfl
  obtain ⟨a, p, rfl, _, _, _⟩ := ht
  have hb0 : Below w.heap.size w (w.alloc (.cells #[.slice a dst.length p] 22)) := (by repeat (first | with_reducible exact Below.refl _ _ | with_reducible assumption | with_reducible refine ch_alloc ?_ _ | with_reducible refine Below.drew ?_ | with_reducible refine below_draws _ ?_ | (with_reducible refine Below.setCell ?_ ?_ _; rotate_left; focus (first | with_reducible exact Nat.le_refl _ | (simp; done) | (simp; omega) | (simp at *; omega))) | with_reducible refine ch_trans ?_ (by with_reducible assumption)))
  have HL := Loc.new w #[.slice a dst.length p] 22
  have HP := placesOf_any fv src (w.alloc (.cells #[.slice a dst.length p] 22)) (hc.on hb0) hf
  clear hc
  go_enter Try.func53, Try.ntmps53
  go_wp2_with fail
  refine HP.mono ?_
  rintro e w1 ⟨b, rfl, hbb, b1, hm⟩
  have hb1 := ch_trans hb0 b1
  have hX := cell_on HL.one b1
  have hsz : w.heap.size < w1.heap.size := Nat.lt_of_lt_of_le (by simp) b1.size
  have HM : Hid (MapIs Try.prog 9 (w1.alloc (.cells #[.map (some b)] 64)) b src.length (nplist src src.length)) := hm.on (ch_alloc (Below.refl _ _) _) hm.lt
  have hX2 := cell_on hX (ch_alloc (Below.refl w1.heap.size w1) (.cells #[.map (some b)] 64))
  have hY2 := (Loc.new w1 #[.map (some b)] 64).one
  have hb2 : Below w.heap.size w (w1.alloc (.cells #[.map (some b)] 64)) := (by repeat (first | with_reducible exact Below.refl _ _ | with_reducible assumption | with_reducible refine ch_alloc ?_ _ | with_reducible refine Below.drew ?_ | with_reducible refine below_draws _ ?_ | (with_reducible refine Below.setCell ?_ ?_ _; rotate_left; focus (first | with_reducible exact Nat.le_refl _ | (simp; done) | (simp; omega) | (simp at *; omega))) | with_reducible refine ch_trans ?_ (by with_reducible assumption)))
  clear HP hm HL b1 hX
  go_wp2
  go_ret
  exact ⟨_, _, _, rfl, hb2, hX2, hY2, HM.out⟩

set_option maxRecDepth 100000 in
set_option maxHeartbeats 1000000 in
/-- spec.l10At -/
theorem l10At_any (kv : Value) (ks : List ByteArray) (s : ByteArray) (w : World) (hc : StrsV w kv ks) :
    Calls Try.prog 51 #[kv, .string s] w fun e w' => e = .returned (.int .i64 (idxS ks s)) ∧ Below w.heap.size w w' := by
  obtain ⟨a, cap, rfl, hl, hm, hc⟩ := hc
  unfold maxLen at hm
  have HC : Hid (RowAt w a 1 (ks.map strX)) := hc
  clear hc
  go_enter Try.func51, Try.ntmps51
  go_wp2
  go_loopw [9] (fun i wr => ∃ k : Nat, k ≤ ks.length ∧ i = .int .i64 k ∧ Below w.heap.size w wr ∧ Hid (∀ j (h : j < ks.length), j < k → ks[j] ≠ s)) (fun i _ => ks.length - (intOf i).toNat)
  case atStart => exact ⟨0, Nat.zero_le _, rfl, Below.refl _ _, fun j h hj => by omega⟩
  case round =>
    obtain ⟨k, hk, rfl, hb, HN⟩ := hrel
    by_cases hlt : k < ks.length
    · have hlti : (k : Int) < ks.length := by omega
      obtain ⟨b, off, rfl, c0⟩ := (HC.out.on hb).strs k hlt
      by_cases hq : ks[k] = s
      · have HR : Hid (idxS ks s = k) := idxS_some hlt hq HN.out
        have hq' := str_yes hq
        clear hq
        go_wp2
        go_ret
        exact ⟨ret_i HR.out.symm, hb⟩
      · have HN' : Hid (∀ j (h : j < ks.length), j < k + 1 → ks[j] ≠ s) := fun j h hj => by
          by_cases e : j = k
          · subst e; exact hq
          · exact HN.out j h (by omega)
        have hq' := str_no hq
        clear hq
        go_wp2
        go_round
        case rel => exact ⟨k + 1, by omega, by go_num, hb, HN'⟩
        case measure => simp [intOf]; omega
    · have hlti : (ks.length : Int) ≤ k := by omega
      have HR : Hid (idxS ks s = -1) := idxS_none fun j h => HN.out j h (by omega)
      go_wp2
      go_ret
      exact ⟨ret_i HR.out.symm, hb⟩
end Go.Proofs.Ytiijahoheajppaa
