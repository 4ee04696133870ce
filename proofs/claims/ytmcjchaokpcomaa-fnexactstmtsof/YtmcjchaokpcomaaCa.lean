/- Catalogs: the laws' copy; whether a catalog is right, given and landed. The place of a table in its catalog: given and landed. Tables copied: slices.Clone of columns and of texts, the given and the landed copy of a table. Copies of statements' parts, empty ones too. -/
import Derived.Test.YtmcjchaokpcomaaCt
import Derived.Test.YtmcjchaokpcomaaTbOkI
import Derived.Test.YtmcjchaokpcomaaGr
import Derived.Test.YtmcjchaokpcomaaSl
import Derived.Test.YtmcjchaokpcomaaWm
import Derived.Test.YtmcjchaokpcomaaOrd
import Derived.Test.YtmcjchaokpcomaaXd
namespace Go.Proofs.Ytmcjchaokpcomaa
open Go.ChangeShapes Go.WideShapes Go.ChangeAt Go.RowKit

/-- Texts in their order. -/
def lessB' (a b : ByteArray) : Bool := Op.bytesLess a.toList b.toList
/-- A catalog is right. -/
def catRight (ts : List Tc) : Prop := ts.length ≤ 6 ∧ (∀ i (h : i < ts.length), ts[i].right) ∧ ∀ i (h : i + 1 < ts.length), lessB' ts[i].name ts[i + 1].name = true

end Go.Proofs.Ytmcjchaokpcomaa

namespace Go.Proofs.Ytmcjchaokpcomaa
open Go.ChangeShapes Go.WideShapes Go.ChangeAt Go.RowKit

/-- The place of the first table of that name; -1 where there is none. -/
def tabAt (ts : List Tc) (s : ByteArray) : Int := match ts.findIdx? (fun t => decide (t.name = s)) with | some i => i | .none => -1
theorem tabAt_some {ts : List Tc} {s : ByteArray} {k : Nat} (hk : k < ts.length) (he : ts[k].name = s) (hn : ∀ j (h : j < ts.length), j < k → ts[j].name ≠ s) : tabAt ts s = k := by
  have : ts.findIdx? (fun t => decide (t.name = s)) = some k := by
    rw [List.findIdx?_eq_some_iff_getElem]
    exact ⟨hk, by simpa using he, fun j hj => by simpa using hn j (by omega) hj⟩
  rw [tabAt, this]
theorem tabAt_none {ts : List Tc} {s : ByteArray} (hn : ∀ j (h : j < ts.length), ts[j].name ≠ s) : tabAt ts s = -1 := by
  have : ts.findIdx? (fun t => decide (t.name = s)) = .none := by
    rw [List.findIdx?_eq_none_iff]
    intro x hx
    obtain ⟨j, hj, rfl⟩ := List.getElem_of_mem hx
    simpa using hn j hj
  rw [tabAt, this]

end Go.Proofs.Ytmcjchaokpcomaa

namespace Go.Proofs.Ytmcjchaokpcomaa
open Go.ChangeShapes Go.WideShapes Go.ChangeAt Go.RowKit

theorem infoCol : (Try.prog.info? 102).map (fun i => (i.zero, i.size, i.bytes)) = some (some (.agg #[.string ByteArray.empty, .int .i64 0, .bool false, .bool false, .int .i64 0, .int .i64 0, .string ByteArray.empty]), 7, 64) := by kernel_rfl
theorem colStr : (102 : TypeId) ≠ 9 := by decide
theorem infoStr : (Try.prog.info? 9).map (fun i => (i.zero, i.size, i.bytes)) = some (some (.string ByteArray.empty), 1, 16) := by kernel_rfl
theorem cols_one (cs : List Cl) : ∀ x ∈ cs.map Cl.cells, ∀ u ∈ x.toList, u.oneCell' = true := fun x hx u hu => by
  obtain ⟨c, _, rfl⟩ := List.mem_map.1 hx
  simp at hu
  rcases hu with h | h | h | h | h | h | h <;> subst h <;> rfl
theorem strs_one (ks : List ByteArray) : ∀ x ∈ ks.map strX, ∀ u ∈ x.toList, u.oneCell' = true := fun x hx u hu => by
  obtain ⟨c, _, rfl⟩ := List.mem_map.1 hx
  simp at hu
  subst hu; rfl
theorem notNilC (b off n p : Nat) (w : World) : (binOp .eql 38 (.slice (some ⟨b, off, none⟩) n p) (.slice none 0 0)).run Try.prog w = .ok (.bool false) w := by kernel_rfl
theorem notNilS (b off n p : Nat) (w : World) : (binOp .eql 26 (.slice (some ⟨b, off, none⟩) n p) (.slice none 0 0)).run Try.prog w = .ok (.bool false) w := by kernel_rfl
theorem ColsV.lit {w : World} {v : Value} {cs : List Cl} (h : ColsV w v cs) : ∃ a p, v = .slice a cs.length p ∧ cs.length ≤ p ∧ p ≤ maxLen ∧ RowAt w a 7 (cs.map Cl.cells) := h
theorem StrsV.lit {w : World} {v : Value} {cs : List ByteArray} (h : StrsV w v cs) : ∃ a p, v = .slice a cs.length p ∧ cs.length ≤ p ∧ p ≤ maxLen ∧ RowAt w a 1 (cs.map strX) := h

set_option maxRecDepth 100000 in
set_option maxHeartbeats 1000000 in
theorem cloneCols (v : Value) (vs : List Cl) (w : World) (hv : ColsV w v vs) (h1 : 1 ≤ vs.length) (hl : vs.length ≤ 1048576) :
    Calls Try.prog 73 #[v] w fun e w' => ∃ kv, e = .returned kv ∧ Below w.heap.size w w' ∧ Got w' w.heap.size 102 7 kv (vs.map Cl.cells) := by
  obtain ⟨a, p, rfl, hlp, hm, hr⟩ := hv
  unfold maxLen at hm
  obtain ⟨b, off, rfl, _⟩ := hr.cols 0 h1
  have HR : Hid (RowAt w (some ⟨b, off, none⟩) 7 (vs.map Cl.cells)) := hr
  have hnn := notNilC b off vs.length p w
  clear hr
  go_enter Try.func73, Try.ntmps73
  go_wp2_with (at_builtin; refine app_lot rfl (.tmp 5) (.tmp 6) rfl Try.underlying38 infoCol rfl (by decide) (by decide) w.heap.size _ [] rfl (Got.empty w _ _) b off p (vs.map Cl.cells) vs.length (by simp) rfl (HR.out.on (ch_alloc (Below.refl _ _) _)) (cols_one vs) (by simp; omega) (by simp) ?_; intro v' w2 hg2 hb2)
  go_ret
  exact ⟨_, rfl, Below.trans (ch_alloc (Below.refl _ _) _) hb2, by simpa using hg2⟩

set_option maxRecDepth 100000 in
set_option maxHeartbeats 1000000 in
theorem cloneStrs (v : Value) (vs : List ByteArray) (w : World) (hv : StrsV w v vs) (h1 : 1 ≤ vs.length) (hl : vs.length ≤ 1048576) :
    Calls Try.prog 74 #[v] w fun e w' => ∃ kv, e = .returned kv ∧ Below w.heap.size w w' ∧ Got w' w.heap.size 9 1 kv (vs.map strX) := by
  obtain ⟨a, p, rfl, hlp, hm, hr⟩ := hv
  unfold maxLen at hm
  obtain ⟨b, off, rfl, _⟩ := hr.strs 0 h1
  have HR : Hid (RowAt w (some ⟨b, off, none⟩) 1 (vs.map strX)) := hr
  have hnn := notNilS b off vs.length p w
  clear hr
  go_enter Try.func74, Try.ntmps74
  go_wp2_with (at_builtin; refine app_lot rfl (.tmp 5) (.tmp 6) rfl Try.underlying26 infoStr rfl (by decide) (by decide) w.heap.size _ [] rfl (Got.empty w _ _) b off p (vs.map strX) vs.length (by simp) rfl (HR.out.on (ch_alloc (Below.refl _ _) _)) (strs_one vs) (by simp; omega) (by simp) ?_; intro v' w2 hg2 hb2)
  go_ret
  exact ⟨_, rfl, Below.trans (ch_alloc (Below.refl _ _) _) hb2, by simpa using hg2⟩

section
variable {P : Program} {w : World} {t T : TypeId} {zv : Value} {z bytes : Nat} {o : Oper} {a : Act} {K : Act → World → Prop}
/-- append of a whole list, as an operation of a drawn region. -/
theorem app_calm (s y : Operand) (ho : o.op = .call { callee := .builtin .append, args := #[s, y], argTypes := #[t, t] })
    (ht : P.underlying t = some (.slice T)) (hinfo : (P.info? T).map (fun i => (i.zero, i.size, i.bytes)) = some (some zv, z, bytes)) (hzs : zv.cells.size = z) (hsz : 0 < z) (hby : bytes ≤ 1000)
    (B : Nat) (v : Value) (xs : List (Array Value)) (hs : a.eval s = v) (hown : Got w B T z v xs) (b off c : Nat) (ys : List (Array Value)) (n : Nat) (hn : n = ys.length) (hy : a.eval y = .slice (some ⟨b, off, none⟩) n c) (hrow : RowAt w (some ⟨b, off, none⟩) z ys) (h1 : ∀ x ∈ ys, ∀ u ∈ x.toList, u.oneCell' = true) (hlen : xs.length + ys.length < 1000000000) (hB : B ≤ w.heap.size)
    (h : ∀ v' w', Got w' B T z v' (xs ++ ys) → Below B w w' → Turns (fun c => v.ownBlock = some c) w w' → K (a.put o.dst v') w') : calm P o a w K := by
  subst hn
  obtain ⟨v', w', hr, h2, h3, h4⟩ := app_all ht hinfo hzs hsz hby hown hrow h1 hlen hB (c := c) o.type
  unfold calm execOp
  simp only [ho, resolve, invoke, builtin, Sem.run_bind, Sem.run_pure, Result.andThen_ok, List.map_toArray, List.map_cons, List.map_nil, hs, hy, hr, calmUpon]
  exact h v' w' h2 h3 h4
end
/-- A table whose lists are the call's own. -/
def TabG (w : World) (B : Nat) (x : Array Value) (t : Tc) : Prop := ∃ cv kv, x = #[.string t.name, cv, kv] ∧ Got w B 102 7 cv (t.cols.map Cl.cells) ∧ Got w B 9 1 kv (t.keys.map strX)
theorem TabG.tab {w : World} {B : Nat} {x : Array Value} {t : Tc} (h : TabG w B x t) : TabV w x t := by
  obtain ⟨cv, kv, e, h1, h2⟩ := h
  exact ⟨cv, kv, e, h1.cols, h2.strs⟩
theorem TabG.on {w w' : World} {B : Nat} {x : Array Value} {t : Tc} (h : TabG w B x t) (k : Below w.heap.size w w') : TabG w' B x t := by
  obtain ⟨cv, kv, e, h1, h2⟩ := h
  exact ⟨cv, kv, e, h1.on k, h2.on k⟩
theorem TabG.mono {w : World} {B B' : Nat} {x : Array Value} {t : Tc} (h : TabG w B x t) (hB : B' ≤ B) : TabG w B' x t := by
  obtain ⟨cv, kv, e, h1, h2⟩ := h
  exact ⟨cv, kv, e, h1.mono hB, h2.mono hB⟩
theorem TabG.turned {w w' : World} {B : Nat} {x : Array Value} {t : Tc} (h : TabG w B x t) {S : Nat → Prop} (k : Turns S w w') (hS : ∀ c, S c → c < B) : TabG w' B x t := by
  obtain ⟨cv, kv, e, h1, h2⟩ := h
  exact ⟨cv, kv, e, h1.turns k hS, h2.turns k hS⟩
theorem TabG.lit {w : World} {B : Nat} {x : Array Value} {t : Tc} (h : TabG w B x t) : ∃ a n p b m q, x = #[.string t.name, .slice a n p, .slice b m q] ∧ TabG w B #[.string t.name, .slice a n p, .slice b m q] t := by
  obtain ⟨cv, kv, e, h1, h2⟩ := h
  obtain ⟨a, n, p, rfl, h1⟩ := h1.lit2
  obtain ⟨b, m, q, rfl, h2⟩ := h2.lit2
  exact ⟨a, n, p, b, m, q, e, _, _, rfl, h1, h2⟩

end Go.Proofs.Ytmcjchaokpcomaa

namespace Go.Proofs.Ytmcjchaokpcomaa
open Go.ChangeShapes Go.WideShapes Go.ChangeAt Go.RowKit

set_option maxRecDepth 100000 in
set_option maxHeartbeats 1000000 in
theorem cloneValsA (b off n p : Nat) (vs : List Vc) (w : World) (hv : ValsV w (.slice (some ⟨b, off, none⟩) n p) vs) (hl : vs.length ≤ 1048576) :
    Calls Try.prog 71 #[.slice (some ⟨b, off, none⟩) n p] w fun e w' => ∃ kv, e = .returned kv ∧ Below w.heap.size w w' ∧ Got w' w.heap.size 100 3 kv (vs.map Vc.cells) := by
  obtain ⟨a, p', e, hlp, hm, hv⟩ := hv.lit
  cases e
  unfold maxLen at hm
  have HR : Hid (RowAt w (some ⟨b, off, none⟩) 3 (vs.map Vc.cells)) := hv.row
  have hnn := notNil b off vs.length p w
  clear hv
  go_enter Try.func71, Try.ntmps71
  go_wp2_with (at_builtin; refine app_lot rfl (.tmp 5) (.tmp 6) rfl Try.underlying35 infoVal rfl (by decide) (by decide) w.heap.size _ [] rfl (Got.empty w _ _) b off p (vs.map Vc.cells) vs.length (by simp) rfl (HR.out.on (ch_alloc (Below.refl _ _) _)) (vals_one vs) (by simp; omega) (by simp) ?_; intro v' w2 hg2 hb2)
  go_ret
  exact ⟨_, rfl, Below.trans (ch_alloc (Below.refl _ _) _) hb2, by simpa using hg2⟩

set_option maxRecDepth 100000 in
set_option maxHeartbeats 1000000 in
theorem cloneColsA (b off n p : Nat) (vs : List Cl) (w : World) (hv : ColsV w (.slice (some ⟨b, off, none⟩) n p) vs) (hl : vs.length ≤ 1048576) :
    Calls Try.prog 73 #[.slice (some ⟨b, off, none⟩) n p] w fun e w' => ∃ kv, e = .returned kv ∧ Below w.heap.size w w' ∧ Got w' w.heap.size 102 7 kv (vs.map Cl.cells) := by
  obtain ⟨a, p', e, hlp, hm, hv⟩ := hv
  cases e
  unfold maxLen at hm
  have HR : Hid (RowAt w (some ⟨b, off, none⟩) 7 (vs.map Cl.cells)) := hv
  have hnn := notNilC b off vs.length p w
  clear hv
  go_enter Try.func73, Try.ntmps73
  go_wp2_with (at_builtin; refine app_lot rfl (.tmp 5) (.tmp 6) rfl Try.underlying38 infoCol rfl (by decide) (by decide) w.heap.size _ [] rfl (Got.empty w _ _) b off p (vs.map Cl.cells) vs.length (by simp) rfl (HR.out.on (ch_alloc (Below.refl _ _) _)) (cols_one vs) (by simp; omega) (by simp) ?_; intro v' w2 hg2 hb2)
  go_ret
  exact ⟨_, rfl, Below.trans (ch_alloc (Below.refl _ _) _) hb2, by simpa using hg2⟩

set_option maxRecDepth 100000 in
set_option maxHeartbeats 1000000 in
theorem cloneStrsA (b off n p : Nat) (vs : List ByteArray) (w : World) (hv : StrsV w (.slice (some ⟨b, off, none⟩) n p) vs) (hl : vs.length ≤ 1048576) :
    Calls Try.prog 74 #[.slice (some ⟨b, off, none⟩) n p] w fun e w' => ∃ kv, e = .returned kv ∧ Below w.heap.size w w' ∧ Got w' w.heap.size 9 1 kv (vs.map strX) := by
  obtain ⟨a, p', e, hlp, hm, hv⟩ := hv
  cases e
  unfold maxLen at hm
  have HR : Hid (RowAt w (some ⟨b, off, none⟩) 1 (vs.map strX)) := hv
  have hnn := notNilS b off vs.length p w
  clear hv
  go_enter Try.func74, Try.ntmps74
  go_wp2_with (at_builtin; refine app_lot rfl (.tmp 5) (.tmp 6) rfl Try.underlying26 infoStr rfl (by decide) (by decide) w.heap.size _ [] rfl (Got.empty w _ _) b off p (vs.map strX) vs.length (by simp) rfl (HR.out.on (ch_alloc (Below.refl _ _) _)) (strs_one vs) (by simp; omega) (by simp) ?_; intro v' w2 hg2 hb2)
  go_ret
  exact ⟨_, rfl, Below.trans (ch_alloc (Below.refl _ _) _) hb2, by simpa using hg2⟩
set_option maxRecDepth 100000 in
set_option maxHeartbeats 1000000 in
/-- impl.copyRow -/
theorem copyRowA (b off n p : Nat) (vs : List Vc) (w : World) (hv : ValsV w (.slice (some ⟨b, off, none⟩) n p) vs) (hl : vs.length ≤ 1048576) :
    Calls Try.prog 72 #[.agg #[.slice (some ⟨b, off, none⟩) n p]] w fun e w' => ∃ kv, e = .returned (.agg #[kv]) ∧ Below w.heap.size w w' ∧ Got w' w.heap.size 100 3 kv (vs.map Vc.cells) := by
  obtain ⟨a, p', e, hlp, hm, hv⟩ := hv.lit
  cases e
  have HV : Hid (ValsV w (.slice (some ⟨b, off, none⟩) vs.length p) vs) := hv
  clear hv
  go_enter Try.func72, Try.ntmps72
  go_wp2_with fail
  refine (cloneValsA b off _ p vs _ (HV.out.on (by repeat (first | with_reducible exact Below.refl _ _ | with_reducible assumption | with_reducible refine ch_alloc ?_ _ | with_reducible refine Below.drew ?_ | with_reducible refine below_draws _ ?_ | (with_reducible refine Below.setCell ?_ ?_ _; rotate_left; focus (first | with_reducible exact Nat.le_refl _ | (simp; done) | (simp; omega) | (simp at *; omega))) | with_reducible refine ch_trans ?_ (by with_reducible assumption)))) hl).mono ?_
  rintro e w1 ⟨kv, rfl, b1, hg⟩
  obtain ⟨a1, n1, c1, rfl, hg⟩ := hg.lit2
  have HG : Hid (Got w1 (w.heap.size + 1 + 1) 100 3 (.slice a1 n1 c1) (vs.map Vc.cells)) := hg.mono (by simp)
  have HQ : Own w1 (w.heap.size + 1) 37 #[.slice none 0 0] := (Own.at (w.alloc (.cells #[.slice (some ⟨b, off, none⟩) vs.length p] 37)) _ _ (by simp)).on b1
  have hb1 : Below w.heap.size w w1 := (by repeat (first | with_reducible exact Below.refl _ _ | with_reducible assumption | with_reducible refine ch_alloc ?_ _ | with_reducible refine Below.drew ?_ | with_reducible refine below_draws _ ?_ | (with_reducible refine Below.setCell ?_ ?_ _; rotate_left; focus (first | with_reducible exact Nat.le_refl _ | (simp; done) | (simp; omega) | (simp at *; omega))) | with_reducible refine ch_trans ?_ (by with_reducible assumption)))
  clear b1 hg
  have g0 := HQ.loc.one
  have i0 := HQ.frozen 0
  go_wp2
  have HQ3 := HQ.set 0 (.slice a1 n1 c1)
  have HG3 : Hid (Got (w1.setCell ⟨w.heap.size + 1, 0, none⟩ (.slice a1 n1 c1)) (w.heap.size + 1 + 1) 100 3 (.slice a1 n1 c1) (vs.map Vc.cells)) := HG.out.turns ((Turns.refl (fun c => c = w.heap.size + 1) w1).set rfl _) (fun c h => by omega)
  have HB : Hid (Below w.heap.size w (w1.setCell ⟨w.heap.size + 1, 0, none⟩ (.slice a1 n1 c1))) := by show Below _ _ _; exact (by repeat (first | with_reducible exact Below.refl _ _ | with_reducible assumption | with_reducible refine ch_alloc ?_ _ | with_reducible refine Below.drew ?_ | with_reducible refine below_draws _ ?_ | (with_reducible refine Below.setCell ?_ ?_ _; rotate_left; focus (first | with_reducible exact Nat.le_refl _ | (simp; done) | (simp; omega) | (simp at *; omega))) | with_reducible refine ch_trans ?_ (by with_reducible assumption)))
  generalize w1.setCell ⟨w.heap.size + 1, 0, none⟩ (.slice a1 n1 c1) = W at HQ3 HG3 HB ⊢
  have e0 := HQ3.loc.one
  exact bodyPost_ret (v := .agg #[.slice a1 n1 c1]) (by simp [results, Try.results72, go_sem, e0]) rfl ⟨_, rfl, HB.out, HG3.out.mono (by omega)⟩

set_option maxRecDepth 100000 in
set_option maxHeartbeats 1000000 in
/-- spec.l03Row -/
theorem l03RowA (b off n p : Nat) (vs : List Vc) (w : World) (hv : ValsV w (.slice (some ⟨b, off, none⟩) n p) vs) (hl : vs.length ≤ 1048576) :
    Calls Try.prog 70 #[.agg #[.slice (some ⟨b, off, none⟩) n p]] w fun e w' => ∃ kv, e = .returned (.agg #[kv]) ∧ Below w.heap.size w w' ∧ Got w' w.heap.size 100 3 kv (vs.map Vc.cells) := by
  obtain ⟨a, p', e, hlp, hm, hv⟩ := hv.lit
  cases e
  unfold maxLen at hm
  have HR : Hid (RowAt w (some ⟨b, off, none⟩) 3 (vs.map Vc.cells)) := hv.row
  clear hv
  go_enter Try.func70, Try.ntmps70
  have HU : Hid (Got (((w.alloc (.cells #[.slice (some ⟨b, off, none⟩) vs.length p] 37)).alloc (.cells #[.slice none 0 0] 37)).alloc (.cells #[] 100)) (w.heap.size + 1 + 1) 100 3 (.slice (some ⟨w.heap.size + 1 + 1, 0, none⟩) 0 0) []) := Got.emptyAt _ _ _ (by simp)
  have HRU : Hid (RowAt (((w.alloc (.cells #[.slice (some ⟨b, off, none⟩) vs.length p] 37)).alloc (.cells #[.slice none 0 0] 37)).alloc (.cells #[] 100)) (some ⟨b, off, none⟩) 3 (vs.map Vc.cells)) := HR.out.on (by repeat (first | with_reducible exact Below.refl _ _ | with_reducible assumption | with_reducible refine ch_alloc ?_ _ | with_reducible refine Below.drew ?_ | with_reducible refine below_draws _ ?_ | (with_reducible refine Below.setCell ?_ ?_ _; rotate_left; focus (first | with_reducible exact Nat.le_refl _ | (simp; done) | (simp; omega) | (simp at *; omega))) | with_reducible refine ch_trans ?_ (by with_reducible assumption)))
  have HQ0 : Own (((w.alloc (.cells #[.slice (some ⟨b, off, none⟩) vs.length p] 37)).alloc (.cells #[.slice none 0 0] 37)).alloc (.cells #[] 100)) (w.heap.size + 1) 37 #[.slice none 0 0] := (Own.at (w.alloc (.cells #[.slice (some ⟨b, off, none⟩) vs.length p] 37)) _ _ (by simp)).on (ch_alloc (Below.refl _ _) _)
  have hbU : Below w.heap.size w (((w.alloc (.cells #[.slice (some ⟨b, off, none⟩) vs.length p] 37)).alloc (.cells #[.slice none 0 0] 37)).alloc (.cells #[] 100)) := (by repeat (first | with_reducible exact Below.refl _ _ | with_reducible assumption | with_reducible refine ch_alloc ?_ _ | with_reducible refine Below.drew ?_ | with_reducible refine below_draws _ ?_ | (with_reducible refine Below.setCell ?_ ?_ _; rotate_left; focus (first | with_reducible exact Nat.le_refl _ | (simp; done) | (simp; omega) | (simp at *; omega))) | with_reducible refine ch_trans ?_ (by with_reducible assumption)))
  have hsU : w.heap.size + 1 + 1 ≤ (((w.alloc (.cells #[.slice (some ⟨b, off, none⟩) vs.length p] 37)).alloc (.cells #[.slice none 0 0] 37)).alloc (.cells #[] 100)).heap.size := by simp
  go_wp2_with (at_builtin; refine app_lot rfl (.tmp 3) (.tmp 5) rfl Try.underlying35 infoVal rfl (by decide) (by decide) (w.heap.size + 1 + 1) _ [] rfl HU.out b off p (vs.map Vc.cells) vs.length (by simp) rfl HRU.out (vals_one vs) (by simp; omega) hsU ?_; intro v' w1 hg2 hb2; obtain ⟨a1, n1, c1, rfl, hg2⟩ := hg2.lit2; have HG : Hid (Got w1 (w.heap.size + 1 + 1) 100 3 (.slice a1 n1 c1) (vs.map Vc.cells)) := hg2; have HQ : Own w1 (w.heap.size + 1) 37 #[.slice none 0 0] := (hb2.block (w.heap.size + 1) (by omega)).trans HQ0; have hb1 : Below w.heap.size w w1 := hbU.trans (hb2.mono (by omega)); have g0 := HQ.loc.one; have i0 := HQ.frozen 0; clear hg2 hb2)
  have HQ3 := HQ.set 0 (.slice a1 n1 c1)
  have HG3 : Hid (Got (w1.setCell ⟨w.heap.size + 1, 0, none⟩ (.slice a1 n1 c1)) (w.heap.size + 1 + 1) 100 3 (.slice a1 n1 c1) (vs.map Vc.cells)) := HG.out.turns ((Turns.refl (fun c => c = w.heap.size + 1) w1).set rfl _) (fun c h => by omega)
  have HB : Hid (Below w.heap.size w (w1.setCell ⟨w.heap.size + 1, 0, none⟩ (.slice a1 n1 c1))) := hb1.setCell (by simp) _
  generalize w1.setCell ⟨w.heap.size + 1, 0, none⟩ (.slice a1 n1 c1) = W at HQ3 HG3 HB ⊢
  have e0 := HQ3.loc.one
  exact bodyPost_ret (v := .agg #[.slice a1 n1 c1]) (by simp [results, Try.results70, go_sem, e0]) rfl ⟨_, rfl, HB.out, HG3.out.mono (by omega)⟩
end Go.Proofs.Ytmcjchaokpcomaa
