/- Append of a whole list, an empty or a nil one too; tables appended; slices.Grow and slices.Concat of tables. The place of a table in its catalog: given and landed. Names that rise, and the place of a table among them. -/
import Derived.Test.YtihilcffmdjhhalGreatCn
import Derived.Test.YtihilcffmdjhhalGreatCtO
import Derived.Lib.AppendZeros
namespace Go.Proofs.YtihilcffmdjhhalGreat
open Go.ChangeShapes Go.WideShapes Go.ChangeAt Go.RowKit

section
variable {P : Program} {w : World} {t T : TypeId} {zv : Value} {z bytes : Nat}
theorem app_zero (ht : P.underlying t = some (.slice T)) (hinfo : (P.info? T).map (fun i => (i.zero, i.size, i.bytes)) = some (some zv, z, bytes)) (hzs : zv.cells.size = z) (hsz : 0 < z) (hby : bytes ≤ 1000)
    {B : Nat} {v : Value} {xs : List (Array Value)} (hown : Got w B T z v xs) (a : Option Addr) (c : Nat) (hlen : xs.length < 900000000) (hB : B ≤ w.heap.size) (ty : TypeId) :
    ∃ v' w', (Builtin.append_ #[t, t] ty #[v, .slice a 0 c]).run P w = .ok v' w' ∧ Got w' B T z v' xs ∧ Below B w w' ∧ Turns (fun c => v.ownBlock = some c) w w' := by
  obtain ⟨i, hi, hzz⟩ := Option.map_eq_some_iff.1 hinfo
  simp only [Prod.mk.injEq] at hzz
  obtain ⟨hz0, hz1, hz2⟩ := hzz
  cases a with
  | none =>
    refine ⟨v, w, ?_, hown, Below.refl _ _, Turns.refl _ _⟩
    obtain ⟨h0, h1, h2⟩ := hown
    rcases h2 with ⟨rfl, hn⟩ | ⟨g, cap, cur, rfl, hb, hg, hc1, hc2, hs, ht'⟩
    · simp [Builtin.append_, run_underlying ht, sizeOf, typeInfo, hi, Builtin.lenOf, Builtin.firstCells]
    · simp [Builtin.append_, run_underlying ht, sizeOf, typeInfo, hi, Builtin.lenOf, Builtin.firstCells, hc1, storeCells]
  | some a =>
    obtain ⟨v', w', hr, h2, h3, _⟩ := run_append_own_wide (P := P) w B t ty T i zv z bytes ht hi hz0 hz1 hz2 hzs hsz v xs.length (xs.flatMap Array.toList) hown.2 a 0 c [] (by simp) (fun j u hj => by simp at hj) (fun u hu => by simp at hu) (by unfold maxLen; omega) (by
      have : ((xs.length + 0) + (xs.length + 0) / 4 + 192) * bytes ≤ 2000000000 * 1000 := Nat.mul_le_mul (by omega) hby
      omega) hB
    refine ⟨v', w', hr, ⟨hown.1, by simpa using h2⟩, Below.grown (Below.refl _ _) h3 hB (fun k hk => (World.ownsRow.lt hown.2 k hk).1), ⟨h3.os, h3.tape, h3.output, h3.size, fun c hc hn => h3.block c hc fun e => hn e.symm⟩⟩
/-- Any list behind those of a row of the call's own. -/
theorem app_each (ht : P.underlying t = some (.slice T)) (hinfo : (P.info? T).map (fun i => (i.zero, i.size, i.bytes)) = some (some zv, z, bytes)) (hzs : zv.cells.size = z) (hsz : 0 < z) (hby : bytes ≤ 1000)
    {B : Nat} {v : Value} {xs : List (Array Value)} (hown : Got w B T z v xs) {a : Option Addr} {c : Nat} {ys : List (Array Value)} (hy : RowAt w a z ys) (h1 : ∀ x ∈ ys, ∀ u ∈ x.toList, u.oneCell' = true) (hlen : xs.length + ys.length < 900000000) (hB : B ≤ w.heap.size) (ty : TypeId) :
    ∃ v' w', (Builtin.append_ #[t, t] ty #[v, .slice a ys.length c]).run P w = .ok v' w' ∧ Got w' B T z v' (xs ++ ys) ∧ Below B w w' ∧ Turns (fun c => v.ownBlock = some c) w w' := by
  by_cases h0 : ys = []
  · subst h0
    obtain ⟨v', w', h2, h3, h4, h5⟩ := app_zero ht hinfo hzs hsz hby hown a c (by simpa using hlen) hB ty
    exact ⟨v', w', h2, by simpa using h3, h4, h5⟩
  · rcases hy.2 with h | ⟨b, off, rfl, _⟩
    · exact absurd h h0
    · exact app_all ht hinfo hzs hsz hby hown hy h1 (by omega) hB ty
variable {ops : Array Oper} {rest : List Oper} {o : Oper} {a : Act} {Q : Exit → Act → World → Prop}
theorem app_list (hgd : o.guard = none) (s y : Operand) (ho : o.op = .call { callee := .builtin .append, args := #[s, y], argTypes := #[t, t] })
    (ht : P.underlying t = some (.slice T)) (hinfo : (P.info? T).map (fun i => (i.zero, i.size, i.bytes)) = some (some zv, z, bytes)) (hzs : zv.cells.size = z) (hsz : 0 < z) (hby : bytes ≤ 1000)
    (B : Nat) (v : Value) (xs : List (Array Value)) (hs : a.eval s = v) (hown : Got w B T z v xs) (b : Option Addr) (c : Nat) (ys : List (Array Value)) (n : Nat) (hn : n = ys.length) (hy : a.eval y = .slice b n c) (hrow : RowAt w b z ys) (h1 : ∀ x ∈ ys, ∀ u ∈ x.toList, u.oneCell' = true) (hlen : xs.length + ys.length < 900000000) (hB : B ≤ w.heap.size)
    (h : ∀ v' w', Got w' B T z v' (xs ++ ys) → Below B w w' → wpList P ops Q rest (a.put o.dst v') w') : wpList P ops Q (o :: rest) a w := by
  subst hn
  obtain ⟨v', w', hr, h2, h3, _⟩ := app_each ht hinfo hzs hsz hby hown hrow h1 hlen hB (c := c) o.type
  refine wpList_plain hgd fun _ hK => ?_
  unfold Oper.wp execOp
  simp only [ho, resolve, invoke, builtin, Sem.run_bind, Sem.run_pure, Result.andThen_ok, List.map_toArray, List.map_cons, List.map_nil, hs, hy, hr]
  exact hK _ _ (h v' w' h2 h3)
end
theorem infoTab : (Tryz.prog.info? 68).map (fun i => (i.zero, i.size, i.bytes)) = some (some (.agg #[.string ByteArray.empty, .slice none 0 0, .slice none 0 0]), 3, 64) := by kernel_rfl
/-- The tables of a list, as its cells. -/
theorem TabsV.row {w : World} {a : Option Addr} {n cap : Nat} {ts : List Tc} (h : TabsV w (.slice a n cap) ts) : ∃ xs, xs.length = ts.length ∧ RowAt w a 3 xs ∧ (∀ x ∈ xs, ∀ u ∈ x.toList, u.oneCell' = true) ∧ ∀ i (h : i < xs.length) (g : i < ts.length), TabV w xs[i] ts[i] := by
  obtain ⟨a', cap', xs, e, h1, h2, h3, h4, h5⟩ := h
  cases e
  refine ⟨xs, h4, h3, fun x hx u hu => ?_, h5⟩
  obtain ⟨i, hi, rfl⟩ := List.getElem_of_mem hx
  obtain ⟨c1, p1, c2, p2, ex, _⟩ := (h5 i hi (by omega)).lit
  rw [ex] at hu
  simp at hu
  rcases hu with rfl | rfl | rfl <;> rfl
theorem TabsV.both {w : World} {B : Nat} {T : TypeId} {v : Value} {xs ys : List (Array Value)} {ts us : List Tc} (h : Got w B T 3 v (xs ++ ys)) (hx : xs.length = ts.length) (hy : ys.length = us.length) (h1 : ∀ i (h : i < xs.length) (g : i < ts.length), TabV w xs[i] ts[i]) (h2 : ∀ i (h : i < ys.length) (g : i < us.length), TabV w ys[i] us[i]) : TabsV w v (ts ++ us) := by
  obtain ⟨a, cap, e, g1, g2, g3, _⟩ := h.row
  refine ⟨a, cap, xs ++ ys, by rw [e]; simp [hx, hy], by simp at g1 ⊢; omega, g2, g3, by simp [hx, hy], fun i h g => ?_⟩
  by_cases hi : i < xs.length
  · rw [List.getElem_append_left hi, List.getElem_append_left (by omega)]
    exact h1 i hi (by omega)
  · rw [List.getElem_append_right (by omega), List.getElem_append_right (by omega)]
    have e : i - xs.length = i - ts.length := by rw [hx]
    have := h2 (i - xs.length) (by simp at h; omega) (by simp at g; omega)
    simpa only [e] using this
end Go.Proofs.YtihilcffmdjhhalGreat

namespace Go.Proofs.YtihilcffmdjhhalGreat
open Go.ChangeShapes Go.WideShapes Go.ChangeAt Go.RowKit

/-- The place of the first table of that name; -1 where there is none. -/
def tabAt (ts : List Tc) (s : ByteArray) : Int := match ts.findIdx? (fun t => decide (t.name = s)) with | some i => i | .none => -1
theorem tabAt_some {ts : List Tc} {s : ByteArray} {k : Nat} (hk : k < ts.length) (he : ts[k].name = s) (hn : ∀ j (h : j < ts.length), j < k → ts[j].name ≠ s) : tabAt ts s = k := by
  have : ts.findIdx? (fun t => decide (t.name = s)) = some k := by
    rw [List.findIdx?_eq_some_iff_getElem]
    exact ⟨hk, by simpa using he, fun j hj => by simpa using hn j (by omega) hj⟩
  rw [tabAt, this]
theorem tabAt_none {ts : List Tc} {s : ByteArray} (hn : ∀ j (h : j < ts.length), ts[j].name ≠ s) : tabAt ts s = -1 := by
  have : ts.findIdx? (fun t => decide (t.name = s)) = .none := by
    rw [List.findIdx?_eq_none_iff]
    intro x hx
    obtain ⟨j, hj, rfl⟩ := List.getElem_of_mem hx
    simpa using hn j hj
  rw [tabAt, this]

set_option maxRecDepth 100000 in
set_option maxHeartbeats 1000000 in
/-- spec.l02At -/
theorem tabAt_spec (v : Value) (ts : List Tc) (s : ByteArray) (w : World) (hx : TabsV w v ts) :
    Calls Tryz.prog 55 #[.agg #[v], .string s] w fun e w' => e = .returned (.int .i64 (tabAt ts s)) ∧ Below w.heap.size w w' := by
  obtain ⟨a, cap, rfl, hl, hm⟩ := hx.lit
  unfold maxLen at hm
  have HX : Hid (TabsV w (.slice a ts.length cap) ts) := hx
  clear hx
  go_enter Tryz.func55, Tryz.ntmps55
  go_wp2
  go_loopw [10] (fun i wr => ∃ k : Nat, k ≤ ts.length ∧ i = .int .i64 k ∧ Below w.heap.size w wr ∧ Hid (∀ j (h : j < ts.length), j < k → ts[j].name ≠ s)) (fun i _ => ts.length - (intOf i).toNat)
  case atStart => exact ⟨0, Nat.zero_le _, rfl, (by repeat (first | with_reducible exact Below.refl _ _ | with_reducible assumption | with_reducible refine ch_alloc ?_ _ | with_reducible refine Below.drew ?_ | with_reducible refine below_draws _ ?_ | (with_reducible refine Below.setCell ?_ ?_ _; rotate_left; focus (first | with_reducible exact Nat.le_refl _ | (simp; done) | (simp; omega) | (simp at *; omega))) | with_reducible refine ch_trans ?_ (by with_reducible assumption))), fun j h hj => by omega⟩
  case round =>
    obtain ⟨k, hk, rfl, hb, HN⟩ := hrel
    by_cases hlt : k < ts.length
    · have hlti : (k : Int) < ts.length := by omega
      obtain ⟨b, off, c1, p1, c2, p2, rfl, d0, d1, d2, hx⟩ := (HX.out.on hb).tab k hlt
      clear hx
      by_cases hq : ts[k].name = s
      · have HR : Hid (tabAt ts s = k) := tabAt_some hlt hq fun j h hj => HN.out j h hj
        have hq' := str_yes hq
        clear hq
        go_wp2
        go_ret
        exact ⟨ret_i HR.out.symm, (by repeat (first | with_reducible exact Below.refl _ _ | with_reducible assumption | with_reducible refine ch_alloc ?_ _ | with_reducible refine Below.drew ?_ | with_reducible refine below_draws _ ?_ | (with_reducible refine Below.setCell ?_ ?_ _; rotate_left; focus (first | with_reducible exact Nat.le_refl _ | (simp; done) | (simp; omega) | (simp at *; omega))) | with_reducible refine ch_trans ?_ (by with_reducible assumption)))⟩
      · have HN' : Hid (∀ j (h : j < ts.length), j < k + 1 → ts[j].name ≠ s) := fun j h hj => by
          by_cases e : j = k
          · subst e; exact hq
          · exact HN.out j h (by omega)
        have hq' := str_no hq
        clear hq
        go_wp2
        go_round
        case rel => exact ⟨k + 1, by omega, by go_num, (by repeat (first | with_reducible exact Below.refl _ _ | with_reducible assumption | with_reducible refine ch_alloc ?_ _ | with_reducible refine Below.drew ?_ | with_reducible refine below_draws _ ?_ | (with_reducible refine Below.setCell ?_ ?_ _; rotate_left; focus (first | with_reducible exact Nat.le_refl _ | (simp; done) | (simp; omega) | (simp at *; omega))) | with_reducible refine ch_trans ?_ (by with_reducible assumption))), HN'⟩
        case measure => simp [intOf]; omega
    · have HR : Hid (tabAt ts s = -1) := tabAt_none fun j h => HN.out j h (by omega)
      have hlti : (ts.length : Int) ≤ k := by omega
      go_wp2
      go_ret
      exact ⟨ret_i HR.out.symm, (by repeat (first | with_reducible exact Below.refl _ _ | with_reducible assumption | with_reducible refine ch_alloc ?_ _ | with_reducible refine Below.drew ?_ | with_reducible refine below_draws _ ?_ | (with_reducible refine Below.setCell ?_ ?_ _; rotate_left; focus (first | with_reducible exact Nat.le_refl _ | (simp; done) | (simp; omega) | (simp at *; omega))) | with_reducible refine ch_trans ?_ (by with_reducible assumption)))⟩

set_option maxRecDepth 100000 in
set_option maxHeartbeats 1000000 in
/-- impl.tablePlace -/
theorem tablePlace_any (v : Value) (ts : List Tc) (s : ByteArray) (w : World) (hx : TabsV w v ts) :
    Calls Tryz.prog 65 #[.agg #[v], .string s] w fun e w' => ∃ (k : Nat) (q : Bool), e = .returned (.tuple #[.int .i64 k, .bool q]) ∧ Below w.heap.size w w' ∧ k ≤ ts.length ∧ (∀ j (h : j < ts.length), j < k → lessB' ts[j].name s = true) ∧ (∀ h : k < ts.length, lessB' ts[k].name s = false ∧ (q = true ↔ ts[k].name = s)) ∧ (k = ts.length → q = false) := by
  obtain ⟨a, cap, rfl, hl, hm⟩ := hx.lit
  unfold maxLen at hm
  have HX : Hid (TabsV w (.slice a ts.length cap) ts) := hx
  clear hx
  go_enter Tryz.func65, Tryz.ntmps65
  go_wp2
  go_loopw [11] (fun i wr => ∃ k : Nat, k ≤ ts.length ∧ i = .int .i64 k ∧ Below w.heap.size w wr ∧ Loc wr w.heap.size #[.slice a ts.length cap] ∧ Hid (∀ j (h : j < ts.length), j < k → lessB' ts[j].name s = true)) (fun i _ => ts.length - (intOf i).toNat)
  case atStart => exact ⟨0, Nat.zero_le _, rfl, (by repeat (first | with_reducible exact Below.refl _ _ | with_reducible assumption | with_reducible refine ch_alloc ?_ _ | with_reducible refine Below.drew ?_ | with_reducible refine below_draws _ ?_ | (with_reducible refine Below.setCell ?_ ?_ _; rotate_left; focus (first | with_reducible exact Nat.le_refl _ | (simp; done) | (simp; omega) | (simp at *; omega))) | with_reducible refine ch_trans ?_ (by with_reducible assumption))), Loc.new _ _ _, fun j h hj => by omega⟩
  case round =>
    obtain ⟨k, hk, rfl, hb, HL, HN⟩ := hrel
    have l0 := HL.one
    by_cases hlt : k < ts.length
    · have hlti : (k : Int) < ts.length := by omega
      obtain ⟨b, off, c1, p1, c2, p2, rfl, d0, d1, d2, hx⟩ := (HX.out.on hb).tab k hlt
      clear hx
      cases hle : lessB' ts[k].name s
      · have hle' : Op.bytesLess ts[k].name.toList s.toList = false := hle
        have HLE : Hid (lessB' ts[k].name s = false) := hle
        have HQ : Hid ((ts[k].name.toList == s.toList) = true ↔ ts[k].name = s) := by show _ ↔ _; rw [str_eq]; simp
        clear hle
        go_wp2
        go_region
        all_goals
          go_wp2
          exact bodyPost_ret (v := .tuple #[.int .i64 k, .bool (ts[k].name.toList == s.toList)]) (by simp [results, Tryz.results65, go_sem]) rfl ⟨k, _, rfl, (by repeat (first | with_reducible exact Below.refl _ _ | with_reducible assumption | with_reducible refine ch_alloc ?_ _ | with_reducible refine Below.drew ?_ | with_reducible refine below_draws _ ?_ | (with_reducible refine Below.setCell ?_ ?_ _; rotate_left; focus (first | with_reducible exact Nat.le_refl _ | (simp; done) | (simp; omega) | (simp at *; omega))) | with_reducible refine ch_trans ?_ (by with_reducible assumption))), by omega, fun j h hj => HN.out j h hj, fun _ => ⟨HLE.out, HQ.out⟩, fun e => by omega⟩
      · have hle' : Op.bytesLess ts[k].name.toList s.toList = true := hle
        have HN' : Hid (∀ j (h : j < ts.length), j < k + 1 → lessB' ts[j].name s = true) := fun j h hj => by
          by_cases e : j = k
          · subst e; exact hle
          · exact HN.out j h (by omega)
        clear hle
        go_wp2
        go_round
        case rel => exact ⟨k + 1, by omega, by go_num, (by repeat (first | with_reducible exact Below.refl _ _ | with_reducible assumption | with_reducible refine ch_alloc ?_ _ | with_reducible refine Below.drew ?_ | with_reducible refine below_draws _ ?_ | (with_reducible refine Below.setCell ?_ ?_ _; rotate_left; focus (first | with_reducible exact Nat.le_refl _ | (simp; done) | (simp; omega) | (simp at *; omega))) | with_reducible refine ch_trans ?_ (by with_reducible assumption))), HL.on1 _, HN'⟩
        case measure => simp [intOf]; omega
    · have hlti : (ts.length : Int) ≤ k := by omega
      obtain rfl : k = ts.length := by omega
      go_wp2
      exact bodyPost_ret (v := .tuple #[.int .i64 ts.length, .bool false]) (by simp [results, Tryz.results65, go_sem]) rfl ⟨ts.length, _, rfl, (by repeat (first | with_reducible exact Below.refl _ _ | with_reducible assumption | with_reducible refine ch_alloc ?_ _ | with_reducible refine Below.drew ?_ | with_reducible refine below_draws _ ?_ | (with_reducible refine Below.setCell ?_ ?_ _; rotate_left; focus (first | with_reducible exact Nat.le_refl _ | (simp; done) | (simp; omega) | (simp at *; omega))) | with_reducible refine ch_trans ?_ (by with_reducible assumption))), Nat.le_refl _, fun j h hj => HN.out j h hj, fun h => absurd h (Nat.lt_irrefl _), fun _ => rfl⟩
end Go.Proofs.YtihilcffmdjhhalGreat

namespace Go.Proofs.YtihilcffmdjhhalGreat
open Go.ChangeShapes Go.WideShapes Go.ChangeAt Go.RowKit

theorem less_irrefl : ∀ x : List UInt8, Op.bytesLess x x = false
  | [] => rfl
  | a :: x => by simp [Op.bytesLess, less_irrefl x]
theorem less_trans : ∀ x y z : List UInt8, Op.bytesLess x y = true → Op.bytesLess y z = true → Op.bytesLess x z = true
  | _, [], _, h, _ => by simp [Op.bytesLess] at h
  | _, _ :: _, [], _, k => by simp [Op.bytesLess] at k
  | [], _ :: _, _ :: _, _, _ => by simp [Op.bytesLess]
  | a :: x, b :: y, c :: z, h, k => by
    simp only [Op.bytesLess, Bool.or_eq_true, Bool.and_eq_true, decide_eq_true_eq, beq_iff_eq] at h k ⊢
    rcases h with h | ⟨rfl, h⟩ <;> rcases k with k | ⟨rfl, k⟩
    · exact Or.inl (UInt8.lt_trans h k)
    · exact Or.inl h
    · exact Or.inl k
    · exact Or.inr ⟨rfl, less_trans x y z h k⟩
theorem cat_rise {ts : List Tc} (h : catRight ts) : ∀ (d i : Nat) (hi : i + d + 1 < ts.length), lessB' ts[i].name ts[i + d + 1].name = true
  | 0, i, hi => h.2.2 i hi
  | d + 1, i, hi => less_trans _ _ _ (cat_rise h d i (by omega)) (h.2.2 (i + d + 1) hi)
theorem place_at {ts : List Tc} (h : catRight ts) {s : ByteArray} {k : Nat} {q : Bool} (hk : k ≤ ts.length) (h1 : ∀ j (h : j < ts.length), j < k → lessB' ts[j].name s = true) (h2 : ∀ h : k < ts.length, lessB' ts[k].name s = false ∧ (q = true ↔ ts[k].name = s)) (h3 : k = ts.length → q = false) :
    (q = true ∧ k < ts.length ∧ tabAt ts s = k) ∨ (q = false ∧ tabAt ts s = -1) := by
  have hlow : ∀ j (h : j < ts.length), j < k → ts[j].name ≠ s := fun j hj hlt e => by
    have := h1 j hj hlt
    rw [e] at this
    have h0 := less_irrefl s.toList
    unfold lessB' at this
    rw [h0] at this
    cases this
  cases q
  · refine Or.inr ⟨rfl, tabAt_none fun j hj e => ?_⟩
    rcases Nat.lt_trichotomy j k with hlt | rfl | hgt
    · exact hlow j hj hlt e
    · have := (h2 hj).2.2 e; cases this
    · have hkl : k < ts.length := by omega
      obtain ⟨d, hd⟩ : ∃ d, j = k + d + 1 := ⟨j - k - 1, by omega⟩
      subst hd
      have := cat_rise h d k hj
      rw [e] at this
      rw [(h2 hkl).1] at this
      cases this
  · have hkl : k < ts.length := by
      rcases Nat.lt_or_eq_of_le hk with h | h
      · exact h
      · have := h3 h; cases this
    exact Or.inl ⟨rfl, hkl, tabAt_some hkl ((h2 hkl).2.1 rfl) hlow⟩

theorem tabAt_lt (ts : List Tc) (s : ByteArray) : tabAt ts s = -1 ∨ ∃ i : Nat, tabAt ts s = i ∧ i < ts.length := by
  unfold tabAt
  cases h : ts.findIdx? (fun t => decide (t.name = s)) with
  | none => exact Or.inl rfl
  | some i => exact Or.inr ⟨i, rfl, (List.findIdx?_eq_some_iff_getElem.1 h).1⟩
end Go.Proofs.YtihilcffmdjhhalGreat
