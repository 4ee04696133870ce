/- A drawn region walked in one order whose last operation is a store: by any relation of worlds. The landed reader of bytes: parts. Statements of a call's own: gathered, read, their places. Parts of a call's own: gathered, read, their places. The landed reader of bytes: lists of parts, batches. The landed reader of bytes: a batch, whole. The given reader of bytes. -/
import Derived.Test.YtiijahoheajppaaGreatRv
import Derived.Test.YtiijahoheajppaaGreatCt
import Derived.Test.YtiijahoheajppaaGreatRka
import Derived.Test.YtiijahoheajppaaGreatRkb
import Derived.Test.YtiijahoheajppaaGreatGp
import Derived.Test.YtiijahoheajppaaGreatAl
import Derived.Test.YtiijahoheajppaaGreatPta
namespace Go.Proofs.YtiijahoheajppaaGreat
open Go.ChangeShapes Go.WideShapes Go.ChangeAt Go.RowKit
theorem Turns.rel (S : Nat → Prop) : Rel (Turns S) := ⟨fun w => Turns.refl S w, fun h k => h.trans k⟩
section
variable {P : Program} {ops : Array Oper} {md : Region.Mode} {Q : Act → World → Prop} {G : World → World → Prop}
theorem gAny_planXG (hG : Rel G) {x : Nat} (hE : endsB md ops x = true) (hs : Region.noSelect ops = true) (n : Nat) : ∀ (pl : List (List Nat × Nat)) (last : List Nat) (listed : Array Bool) (a : Act) (w : World), planX md ops x pl last listed = true →
    wpPlanG P ops G (fun a' w' => gOp P ops x Q a' w') pl last a w → gAny P md ops G Q (n + 1 + planLen pl last) listed a w
  | [], last, listed, a, w, hB, h => by
    simp only [planX, Bool.and_eq_true, List.isEmpty_iff, beq_iff_eq] at hB
    obtain ⟨⟨hl, hr⟩, h0⟩ := hB
    refine gAny_lights hG hs (n + 1) last listed a hl h fun a' hq => ⟨fun h1 => (by rw [hr] at h1; cases h1), fun i hi => ?_⟩
    rw [hr] at hi
    have hi : i = x := by simpa using hi
    subst hi
    exact gOp_mono (fun a'' w'' hh => ⟨Or.inl hE, gAny_more h0 hh n⟩) hq
  | (l, y) :: r, last, listed, a, w, hB, h => by
    simp only [planX, Bool.and_eq_true, beq_iff_eq] at hB
    obtain ⟨⟨hl, hr⟩, hB⟩ := hB
    have : n + 1 + planLen ((l, y) :: r) last = (n + 1 + planLen r last + 1) + l.length := by simp only [planLen]; omega
    rw [this]
    refine gAny_lights hG hs _ l listed a hl h fun a' hq => ⟨fun h0 => (by rw [hr] at h0; cases h0), fun i hi => ?_⟩
    rw [hr] at hi
    have hi : i = y := by simpa using hi
    subst hi
    exact gOp_mono (fun a'' w'' hh => ⟨Or.inr hh.1, gAny_planXG hG hE hs n r last _ a'' w'' hB hh.2⟩) hq
theorem region_storeG {id : Nat} {Q : Exit → Act → World → Prop} {a : Act} {w : World} {l : List Oper} (G : World → World → Prop) (hG : Rel G) (pl : List (List Nat × Nat)) (last : List Nat) (x : Nat) (hm : P.follows .mixedOrders = true) (hB : regionX l.toArray pl last x = true)
    (h : wpPlanG P l.toArray G (fun a' w' => gOp P l.toArray x (Q .normal) a' w') pl last a { w with drawn := w.drawn + 1 }) : (Code.region id l.toArray true).wp P Q a w := by
  simp only [regionX, Bool.and_eq_true, decide_eq_true_eq] at hB
  obtain ⟨⟨⟨hE, hs⟩, hB⟩, hn⟩ := hB
  refine wp_region_any hm (wpAny_of_gAny (G := G) (Q := Q .normal) (fun _ _ h => h) _ _ _ _ ?_)
  have := gAny_planXG (P := P) (Q := Q .normal) hG hE hs (l.toArray.size - (1 + planLen pl last)) pl last (Array.replicate l.toArray.size false) a _ hB h
  rwa [show l.toArray.size - (1 + planLen pl last) + 1 + planLen pl last = l.toArray.size by omega] at this
end
end Go.Proofs.YtiijahoheajppaaGreat

namespace Go.Proofs.YtiijahoheajppaaGreat
open Go.ChangeShapes Go.WideShapes Go.ChangeAt Go.RowKit

/-- A part read: its statement, and two lists of words behind it. -/
def PartOut (R : Nat) (w : World) (D : List UInt8) (t : Ptc) (e : Ending) (w' : World) : Prop := ∃ (E : Est) (y z : Value) (b1 b2 : Nat), e = .returned (.agg (t.cells E.k E.r E.c E.o y z)) ∧ E.s = t.st ∧ w.heap.size < E.lo ∧ E.Good w' ∧ E.hi ≤ b1 ∧ b1 ≤ b2 ∧ b2 ≤ w'.heap.size ∧ Got w' b1 9 1 y (t.cols.map strX) ∧ Got w' b2 9 1 z (t.keys.map strX) ∧ (∀ g, y.ownBlock = some g → g < b2) ∧ RdB w' R D ∧ Turns (· = R) w w'
theorem Est.part_cells (E : Est) (t : Ptc) (h : E.s = t.st) (y z : Value) : t.cells E.k E.r E.c E.o y z = E.cells ++ #[y, z] := by
  unfold Est.cells Sc.cells Ptc.cells
  rw [h]; rfl
theorem Est.Good.turned {w w' : World} {E : Est} {S : Nat → Prop} (h : E.Good w) (k : Turns S w w') (hS : ∀ c, S c → c < E.lo) : E.Good w' :=
  h.keep k.size fun b h1 h2 => k.block b (Nat.lt_of_lt_of_le h2 h.top) fun hs => by have := hS b hs; omega

set_option maxRecDepth 100000 in
set_option maxHeartbeats 4000000 in
theorem partR_aux (R n : Nat) (w : World) (l D1 T D2 D3 D4 : List UInt8) (t : Ptc) (h : RdB w R l)
    (HN : Hid (∀ u : World, RdB u R l → Calls Tryz.prog 81 #[.pointer (some ⟨R, 0, none⟩), .int .i64 2] u fun e w' => e = .returned (.int .i64 (n : Int)) ∧ RdB w' R D1 ∧ Turns (· = R) u w'))
    (HK : Hid (∀ u : World, RdB u R D1 → Calls Tryz.prog 80 #[.pointer (some ⟨R, 0, none⟩), .int .i64 (n : Int)] u fun e w' => Took u w' R T D2 e))
    (HS : Hid (∀ (b off cap : Nat) (u : World), b < u.heap.size → T.length ≤ cap → cap ≤ maxLen → RowAt u (some ⟨b, off, none⟩) 1 (T.map byX) → Calls Tryz.prog 17 #[.slice (some ⟨b, off, none⟩) T.length cap] u fun e w' => ∃ (E : Est) (q : Bool), e = .returned (.tuple #[.agg E.cells, .bool q]) ∧ E.s = t.st ∧ u.heap.size ≤ E.lo ∧ E.Good w' ∧ Below u.heap.size u w'))
    (HW1 : Hid (∀ u : World, RdB u R D2 → Calls Tryz.prog 116 #[.pointer (some ⟨R, 0, none⟩)] u fun e w' => ∃ v, e = .returned v ∧ Got w' u.heap.size 9 1 v (t.cols.map strX) ∧ RdB w' R D3 ∧ Turns (· = R) u w'))
    (HW2 : Hid (∀ u : World, RdB u R D3 → Calls Tryz.prog 116 #[.pointer (some ⟨R, 0, none⟩)] u fun e w' => ∃ v, e = .returned v ∧ Got w' u.heap.size 9 1 v (t.keys.map strX) ∧ RdB w' R D4 ∧ Turns (· = R) u w')) :
    Calls Tryz.prog 95 #[.pointer (some ⟨R, 0, none⟩)] w fun e w' => PartOut R w D4 t e w' := by
  have HR : Hid (RdB w R l) := h
  have hRw : R < w.heap.size := by obtain ⟨_, _, _, ho, _⟩ := h; exact ho.lt
  clear h
  have hb0 : Below w.heap.size w (w.alloc (.cells #[.int .i64 0, .string noS, .slice none 0 0, .slice none 0 0, .int .i64 0, .string noS, .slice none 0 0, .slice none 0 0, .string noS, .string noS, .slice none 0 0, .slice none 0 0] 68)) := (by repeat (first | with_reducible exact Below.refl _ _ | with_reducible assumption | with_reducible refine ch_alloc ?_ _ | with_reducible refine Below.drew ?_ | with_reducible refine below_draws _ ?_ | (with_reducible refine Below.setCell ?_ ?_ _; rotate_left; focus (first | with_reducible exact Nat.le_refl _ | (simp; done) | (simp; omega) | (simp at *; omega))) | with_reducible refine ch_trans ?_ (by with_reducible assumption)))
  have HO0 : Own (w.alloc (.cells #[.int .i64 0, .string noS, .slice none 0 0, .slice none 0 0, .int .i64 0, .string noS, .slice none 0 0, .slice none 0 0, .string noS, .string noS, .slice none 0 0, .slice none 0 0] 68)) w.heap.size 68 #[.int .i64 0, .string noS, .slice none 0 0, .slice none 0 0, .int .i64 0, .string noS, .slice none 0 0, .slice none 0 0, .string noS, .string noS, .slice none 0 0, .slice none 0 0] := Own.new _ _ _
  have HT0 : Turns (· = R) w (w.alloc (.cells #[.int .i64 0, .string noS, .slice none 0 0, .slice none 0 0, .int .i64 0, .string noS, .slice none 0 0, .slice none 0 0, .string noS, .string noS, .slice none 0 0, .slice none 0 0] 68)) := (Turns.refl (· = R) w).below hb0
  go_enter Tryz.func95, Tryz.ntmps95
  go_wp2_with fail
  refine (HN.out _ (HR.out.on hb0)).mono ?_
  rintro e w1 ⟨rfl, hd1, ht1⟩
  have HO1 := HO0.turned ht1 (by show ¬ (w.heap.size = R); omega)
  have HT1 := HT0.trans ht1
  have HD1 : Hid (RdB w1 R D1) := hd1
  clear hb0 HO0 HT0 hd1 ht1 HN HR
  go_wp2_with fail
  refine (HK.out _ HD1.out).mono ?_
  rintro e w2 ⟨b, off, cap, rfl, hlc, hcm, hr2, hbR, hd2, ht2⟩
  have HO2 := HO1.turned ht2 (by show ¬ (w.heap.size = R); omega)
  have HT2 := HT1.trans ht2
  have hs2 : w.heap.size < w2.heap.size := HO2.lt
  have HSC : Hid (Calls Tryz.prog 17 #[.slice (some ⟨b, off, none⟩) T.length cap] w2 fun e w' => ∃ (E : Est) (q : Bool), e = .returned (.tuple #[.agg E.cells, .bool q]) ∧ E.s = t.st ∧ w2.heap.size ≤ E.lo ∧ E.Good w' ∧ Below w2.heap.size w2 w') := HS.out b off cap w2 (by omega) hlc hcm hr2
  have HD2 : Hid (RdB w2 R D2) := hd2
  clear HO1 HT1 hd2 ht2 HK HD1 HS hr2 hlc hcm
  generalize T.length = tl at HSC ⊢
  go_wp2_with fail
  refine HSC.out.mono ?_
  rintro e w3 ⟨E, q, rfl, hes, hlo, hgood, b3⟩
  obtain ⟨ka, kp, ra, rp, ca, cp, oa, op, hcl, _⟩ := hgood.cellsLit hes
  rw [hcl]
  have HCL : Hid (E.s = t.st ∧ E.cells = #[.int .i64 t.st.kind, .string t.st.table, .slice ka t.st.key.length kp, .slice ra t.st.row.length rp, .int .i64 t.st.ddl.kind, .string t.st.ddl.table, .slice ca t.st.ddl.cols.length cp, .slice oa t.st.ddl.keys.length op, .string t.st.ddl.name, .string t.st.ddl.to]) := ⟨hes, hcl⟩
  have hb4 : Below w3.heap.size w3 (w3.alloc (.cells #[.int .i64 t.st.kind, .string t.st.table, .slice ka t.st.key.length kp, .slice ra t.st.row.length rp, .int .i64 t.st.ddl.kind, .string t.st.ddl.table, .slice ca t.st.ddl.cols.length cp, .slice oa t.st.ddl.keys.length op, .string t.st.ddl.name, .string t.st.ddl.to] 48)) := ch_alloc (Below.refl _ _) _
  have HP4 : Own (w3.alloc (.cells #[.int .i64 t.st.kind, .string t.st.table, .slice ka t.st.key.length kp, .slice ra t.st.row.length rp, .int .i64 t.st.ddl.kind, .string t.st.ddl.table, .slice ca t.st.ddl.cols.length cp, .slice oa t.st.ddl.keys.length op, .string t.st.ddl.name, .string t.st.ddl.to] 48)) w3.heap.size 48 #[.int .i64 t.st.kind, .string t.st.table, .slice ka t.st.key.length kp, .slice ra t.st.row.length rp, .int .i64 t.st.ddl.kind, .string t.st.ddl.table, .slice ca t.st.ddl.cols.length cp, .slice oa t.st.ddl.keys.length op, .string t.st.ddl.name, .string t.st.ddl.to] := Own.new _ _ _
  have HO4 : Own (w3.alloc (.cells #[.int .i64 t.st.kind, .string t.st.table, .slice ka t.st.key.length kp, .slice ra t.st.row.length rp, .int .i64 t.st.ddl.kind, .string t.st.ddl.table, .slice ca t.st.ddl.cols.length cp, .slice oa t.st.ddl.keys.length op, .string t.st.ddl.name, .string t.st.ddl.to] 48)) w.heap.size 68 #[.int .i64 0, .string noS, .slice none 0 0, .slice none 0 0, .int .i64 0, .string noS, .slice none 0 0, .slice none 0 0, .string noS, .string noS, .slice none 0 0, .slice none 0 0] := (HO2.on b3).on hb4
  have HT4 : Turns (· = R) w (w3.alloc (.cells #[.int .i64 t.st.kind, .string t.st.table, .slice ka t.st.key.length kp, .slice ra t.st.row.length rp, .int .i64 t.st.ddl.kind, .string t.st.ddl.table, .slice ca t.st.ddl.cols.length cp, .slice oa t.st.ddl.keys.length op, .string t.st.ddl.name, .string t.st.ddl.to] 48)) := (HT2.below b3).below hb4
  have HG4 : Hid (E.Good (w3.alloc (.cells #[.int .i64 t.st.kind, .string t.st.table, .slice ka t.st.key.length kp, .slice ra t.st.row.length rp, .int .i64 t.st.ddl.kind, .string t.st.ddl.table, .slice ca t.st.ddl.cols.length cp, .slice oa t.st.ddl.keys.length op, .string t.st.ddl.name, .string t.st.ddl.to] 48))) := hgood.on hb4
  have HD4 : Hid (RdB (w3.alloc (.cells #[.int .i64 t.st.kind, .string t.st.table, .slice ka t.st.key.length kp, .slice ra t.st.row.length rp, .int .i64 t.st.ddl.kind, .string t.st.ddl.table, .slice ca t.st.ddl.cols.length cp, .slice oa t.st.ddl.keys.length op, .string t.st.ddl.name, .string t.st.ddl.to] 48)) R D2) := (HD2.out.on b3).on hb4
  have hs3 : w2.heap.size ≤ w3.heap.size := b3.size
  have hz4 : E.hi ≤ (w3.alloc (.cells #[.int .i64 t.st.kind, .string t.st.table, .slice ka t.st.key.length kp, .slice ra t.st.row.length rp, .int .i64 t.st.ddl.kind, .string t.st.ddl.table, .slice ca t.st.ddl.cols.length cp, .slice oa t.st.ddl.keys.length op, .string t.st.ddl.name, .string t.st.ddl.to] 48)).heap.size := HG4.out.top
  have hE : E.hi ≤ w3.heap.size := hgood.top
  obtain ⟨p0, p1, p2, p3, p4, p5, p6, p7, p8, p9⟩ := HP4.loc.ten
  clear hes hcl hgood b3 hb4 HO2 HT2 HD2 HSC
  go_wp2_with fail
  refine region_storeG (Turns (· = R)) (Turns.rel _) [([0, 1, 3], 2), ([], 4)] [5] 6 (by kernel_rfl) (by kernel_rfl) ?_
  clear p0 p1 p2 p3 p4 p5 p6 p7 p8 p9
  generalize w3.alloc (.cells #[.int .i64 t.st.kind, .string t.st.table, .slice ka t.st.key.length kp, .slice ra t.st.row.length rp, .int .i64 t.st.ddl.kind, .string t.st.ddl.table, .slice ca t.st.ddl.cols.length cp, .slice oa t.st.ddl.keys.length op, .string t.st.ddl.name, .string t.st.ddl.to] 48) = w4 at HP4 HO4 HT4 HG4 HD4 hz4 ⊢
  have hgd := Grows.drawn w4
  generalize { w4 with drawn := w4.drawn + 1 } = wd at hgd ⊢
  have HPd := HP4.on hgd
  have HOd := HO4.on hgd
  have HTd := HT4.below hgd
  have HGd : Hid (E.Good wd) := HG4.out.on hgd
  have HDd : Hid (RdB wd R D2) := HD4.out.on hgd
  have hzd : E.hi ≤ wd.heap.size := HGd.out.top
  have hRP : R ≠ w3.heap.size := by omega
  have hwd : w3.heap.size < wd.heap.size := HPd.lt
  clear hgd HP4 HO4 HT4 HG4 HD4 hz4
  refine planG_on (by simp only [pick, List.getElem?_toArray, List.getElem?_cons_succ, List.getElem?_cons_zero]; rfl) ?_
  repeat (go_big_quiet_step ((intro hu; obtain ⟨q0, q1, q2, q3, q4, q5, q6, q7, q8, q9⟩ := (HPd.turned hu (by show ¬ (w3.heap.size = R); omega)).loc.ten; go_simp; (try exact rfl))))
  refine wpQuiet_nil ?_
  refine plan_call rfl rfl (fun K hK => ?_)
  go_simp
  go_at_call 116
  refine (HW1.out _ HDd.out).mono ?_
  rintro e w5 ⟨v5, rfl, hg5, hd5, ht5⟩
  obtain ⟨y5, n5, c5, rfl, hg5⟩ := hg5.lit2
  refine ⟨_, rfl, hK _ _ ⟨ht5, ?_⟩⟩
  have HO5 := HOd.turned ht5 (by show ¬ (w.heap.size = R); omega)
  have HT5 := HTd.trans ht5
  have HG5 : Hid (E.Good w5) := HGd.out.turned ht5 fun c h => by have h : c = R := h; omega
  have HY5 : Hid (Got w5 wd.heap.size 9 1 (.slice y5 n5 c5) (t.cols.map strX)) := hg5
  have HL5 : Hid (∀ g, (Value.slice y5 n5 c5).ownBlock = some g → g < w5.heap.size) := hg5.lt
  have HD5 : Hid (RdB w5 R D3) := hd5
  have hs5 : wd.heap.size ≤ w5.heap.size := ht5.size
  clear hK K hg5 hd5 ht5 HPd HOd HTd HGd HDd HW1
  refine planG_on rfl ?_
  refine wpQuiet_nil ?_
  refine plan_call rfl rfl (fun K hK => ?_)
  go_simp
  go_at_call 116
  refine (HW2.out _ HD5.out).mono ?_
  rintro e w6 ⟨v6, rfl, hg6, hd6, ht6⟩
  obtain ⟨z6, n6, c6, rfl, hg6⟩ := hg6.lit2
  refine ⟨_, rfl, hK _ _ ⟨ht6, ?_⟩⟩
  have HO6 := HO5.turned ht6 (by show ¬ (w.heap.size = R); omega)
  have HT6 := HT5.trans ht6
  have HG6 : E.Good w6 := HG5.out.turned ht6 fun c h => by have h : c = R := h; omega
  have HY6 : Got w6 wd.heap.size 9 1 (.slice y5 n5 c5) (t.cols.map strX) := HY5.out.turns ht6 fun c h => by have h : c = R := h; omega
  have hs6 : w5.heap.size ≤ w6.heap.size := ht6.size
  have HM : Hid (RdB (stores w6 w.heap.size 0 [.int .i64 t.st.kind, .string t.st.table, .slice ka t.st.key.length kp, .slice ra t.st.row.length rp, .int .i64 t.st.ddl.kind, .string t.st.ddl.table, .slice ca t.st.ddl.cols.length cp, .slice oa t.st.ddl.keys.length op, .string t.st.ddl.name, .string t.st.ddl.to, .slice y5 n5 c5, .slice z6 n6 c6]) R D4 ∧ Turns (· = R) w (stores w6 w.heap.size 0 [.int .i64 t.st.kind, .string t.st.table, .slice ka t.st.key.length kp, .slice ra t.st.row.length rp, .int .i64 t.st.ddl.kind, .string t.st.ddl.table, .slice ca t.st.ddl.cols.length cp, .slice oa t.st.ddl.keys.length op, .string t.st.ddl.name, .string t.st.ddl.to, .slice y5 n5 c5, .slice z6 n6 c6])) := RdB.many hRw _ _ _ hd6 (Nat.le_refl _) HT6
  have HQ : Own (stores w6 w.heap.size 0 [.int .i64 t.st.kind, .string t.st.table, .slice ka t.st.key.length kp, .slice ra t.st.row.length rp, .int .i64 t.st.ddl.kind, .string t.st.ddl.table, .slice ca t.st.ddl.cols.length cp, .slice oa t.st.ddl.keys.length op, .string t.st.ddl.name, .string t.st.ddl.to, .slice y5 n5 c5, .slice z6 n6 c6]) w.heap.size 68 #[.int .i64 t.st.kind, .string t.st.table, .slice ka t.st.key.length kp, .slice ra t.st.row.length rp, .int .i64 t.st.ddl.kind, .string t.st.ddl.table, .slice ca t.st.ddl.cols.length cp, .slice oa t.st.ddl.keys.length op, .string t.st.ddl.name, .string t.st.ddl.to, .slice y5 n5 c5, .slice z6 n6 c6] := HO6.fill (old := [_, _, _, _, _, _, _, _, _, _, _, _]) [.int .i64 t.st.kind, .string t.st.table, .slice ka t.st.key.length kp, .slice ra t.st.row.length rp, .int .i64 t.st.ddl.kind, .string t.st.ddl.table, .slice ca t.st.ddl.cols.length cp, .slice oa t.st.ddl.keys.length op, .string t.st.ddl.name, .string t.st.ddl.to, .slice y5 n5 c5, .slice z6 n6 c6] rfl
  have HE : Hid (E.Good (stores w6 w.heap.size 0 [.int .i64 t.st.kind, .string t.st.table, .slice ka t.st.key.length kp, .slice ra t.st.row.length rp, .int .i64 t.st.ddl.kind, .string t.st.ddl.table, .slice ca t.st.ddl.cols.length cp, .slice oa t.st.ddl.keys.length op, .string t.st.ddl.name, .string t.st.ddl.to, .slice y5 n5 c5, .slice z6 n6 c6]) ∧ Got (stores w6 w.heap.size 0 [.int .i64 t.st.kind, .string t.st.table, .slice ka t.st.key.length kp, .slice ra t.st.row.length rp, .int .i64 t.st.ddl.kind, .string t.st.ddl.table, .slice ca t.st.ddl.cols.length cp, .slice oa t.st.ddl.keys.length op, .string t.st.ddl.name, .string t.st.ddl.to, .slice y5 n5 c5, .slice z6 n6 c6]) wd.heap.size 9 1 (.slice y5 n5 c5) (t.cols.map strX) ∧ Got (stores w6 w.heap.size 0 [.int .i64 t.st.kind, .string t.st.table, .slice ka t.st.key.length kp, .slice ra t.st.row.length rp, .int .i64 t.st.ddl.kind, .string t.st.ddl.table, .slice ca t.st.ddl.cols.length cp, .slice oa t.st.ddl.keys.length op, .string t.st.ddl.name, .string t.st.ddl.to, .slice y5 n5 c5, .slice z6 n6 c6]) w5.heap.size 9 1 (.slice z6 n6 c6) (t.keys.map strX) ∧ w5.heap.size ≤ (stores w6 w.heap.size 0 [.int .i64 t.st.kind, .string t.st.table, .slice ka t.st.key.length kp, .slice ra t.st.row.length rp, .int .i64 t.st.ddl.kind, .string t.st.ddl.table, .slice ca t.st.ddl.cols.length cp, .slice oa t.st.ddl.keys.length op, .string t.st.ddl.name, .string t.st.ddl.to, .slice y5 n5 c5, .slice z6 n6 c6]).heap.size) := ⟨HG6.many (by omega) _ _, Got.many (by have := HG6.le; omega) _ _ _ HY6, Got.many (by have := HG6.le; omega) _ _ _ hg6, by rw [stores_size]; omega⟩
  obtain ⟨d0, d1, d2, d3, d4, d5, d6, d7, d8, d9, d10, d11⟩ := HO6.loc.twelve
  have k0 := HO6.frozen 0
  have k1 := HO6.frozen 1
  have k2 := HO6.frozen 2
  have k3 := HO6.frozen 3
  have k4 := HO6.frozen 4
  have k5 := HO6.frozen 5
  have k6 := HO6.frozen 6
  have k7 := HO6.frozen 7
  have k8 := HO6.frozen 8
  have k9 := HO6.frozen 9
  have k10 := HO6.frozen 10
  have k11 := HO6.frozen 11
  clear hK K hg6 hd6 ht6 HO5 HO6 HT5 HT6 HG5 HG6 HY5 HY6 HD5 HW2
  simp only [stores, Nat.reduceAdd] at HM HQ HE
  refine planG_end (by simp only [pick, List.getElem?_toArray, List.getElem?_cons_succ, List.getElem?_cons_zero]; rfl) ?_
  repeat (go_big_quiet_step ((intro hu; go_simp; (try exact rfl))))
  refine wpQuiet_nil ?_
  refine plan_call rfl rfl (fun K hK => ?_)
  go_simp
  refine hK _ _ ?_
  clear hK K d0 d1 d2 d3 d4 d5 d6 d7 d8 d9 d10 d11 k0 k1 k2 k3 k4 k5 k6 k7 k8 k9 k10 k11
  generalize (((((((((((w6.setCell ⟨w.heap.size, 0, none⟩ (.int .i64 t.st.kind)).setCell ⟨w.heap.size, 1, none⟩ (.string t.st.table)).setCell ⟨w.heap.size, 2, none⟩ (.slice ka t.st.key.length kp)).setCell ⟨w.heap.size, 3, none⟩ (.slice ra t.st.row.length rp)).setCell ⟨w.heap.size, 4, none⟩ (.int .i64 t.st.ddl.kind)).setCell ⟨w.heap.size, 5, none⟩ (.string t.st.ddl.table)).setCell ⟨w.heap.size, 6, none⟩ (.slice ca t.st.ddl.cols.length cp)).setCell ⟨w.heap.size, 7, none⟩ (.slice oa t.st.ddl.keys.length op)).setCell ⟨w.heap.size, 8, none⟩ (.string t.st.ddl.name)).setCell ⟨w.heap.size, 9, none⟩ (.string t.st.ddl.to)).setCell ⟨w.heap.size, 10, none⟩ (.slice y5 n5 c5)).setCell ⟨w.heap.size, 11, none⟩ (.slice z6 n6 c6) = W at HM HQ HE ⊢
  obtain ⟨e0, e1, e2, e3, e4, e5, e6, e7, e8, e9, e10, e11⟩ := HQ.loc.twelve
  go_wp2
  exact bodyPost_ret (v := .agg #[.int .i64 t.st.kind, .string t.st.table, .slice ka t.st.key.length kp, .slice ra t.st.row.length rp, .int .i64 t.st.ddl.kind, .string t.st.ddl.table, .slice ca t.st.ddl.cols.length cp, .slice oa t.st.ddl.keys.length op, .string t.st.ddl.name, .string t.st.ddl.to, .slice y5 n5 c5, .slice z6 n6 c6]) (by simp [results, Tryz.results95, go_sem, e0, e1, e2, e3, e4, e5, e6, e7, e8, e9, e10, e11]) rfl ⟨E, .slice y5 n5 c5, .slice z6 n6 c6, wd.heap.size, w5.heap.size, by rw [Est.part_cells E t HCL.out.1, HCL.out.2]; rfl, HCL.out.1, by omega, HE.out.1, by omega, hs5, HE.out.2.2.2, HE.out.2.1, HE.out.2.2.1, HL5.out, HM.out.1, HM.out.2⟩

/-- (*impl.byteReader).part -/
theorem partR_any (R : Nat) (l : List UInt8) (w : World) (h : RdB w R l) :
    Calls Tryz.prog 95 #[.pointer (some ⟨R, 0, none⟩)] w fun e w' => PartOut R w (rdP l).2 (rdP l).1 e w' :=
  partR_aux R (rdN 2 l) w l (l.drop 2) ((l.drop 2).take (rdN 2 l)) ((l.drop 2).drop (rdN 2 l)) _ _ _ h (fun u hu => num_any R 2 l u hu (by omega) (by omega)) (fun u hu => take_any R _ _ u hu (by have := rdN_short l; omega)) (fun b off cap u h1 h2 h3 h4 => (readStmt_impl b off cap _ u h1 h2 h3 h4).mono fun e w' ⟨E, q, he, hi, hlo, hg, hb⟩ => ⟨E, q, he, isStmt.of hi, hlo, hg, hb⟩) (fun u hu => wordsR_any R _ u hu) (fun u hu => wordsR_any R _ u hu)
end Go.Proofs.YtiijahoheajppaaGreat

namespace Go.Proofs.YtiijahoheajppaaGreat
open Go.ChangeShapes Go.WideShapes Go.ChangeAt Go.RowKit

theorem infoStm : (Tryz.prog.info? 48).map (fun i => (i.zero, i.size, i.bytes)) = some (some (.agg #[.int .i64 0, .string ByteArray.empty, .slice none 0 0, .slice none 0 0, .int .i64 0, .string ByteArray.empty, .slice none 0 0, .slice none 0 0, .string ByteArray.empty, .string ByteArray.empty]), 10, 176) := by kernel_rfl
theorem StmtV.oneC {w : World} {x : Array Value} {s : Sc} (h : StmtV w x s) : ∀ u ∈ x.toList, u.oneCell' = true := fun u hu => by
  obtain ⟨a, p, b, q, c, r, d, t, rfl, _⟩ := h.lit
  simp at hu
  rcases hu with rfl | rfl | rfl | rfl | rfl | rfl | rfl | rfl | rfl | rfl <;> rfl
/-- Statements of the call's own, from block B on; their parts, too. -/
def StmtsG (w : World) (B : Nat) (v : Value) (ss : List Sc) : Prop := ∃ E : List Est, E.map (fun e => e.s) = ss ∧ Got w B 48 10 v (E.map Est.cells) ∧ (∀ e ∈ E, B ≤ e.lo ∧ e.Good w) ∧ E.Pairwise (fun a b => a.hi ≤ b.lo) ∧ ∀ g, v.ownBlock = some g → ∀ e ∈ E, g < e.lo ∨ e.hi ≤ g
theorem StmtsG.on {w w' : World} {B : Nat} {v : Value} {ss : List Sc} (h : StmtsG w B v ss) (k : Below w.heap.size w w') : StmtsG w' B v ss := by
  obtain ⟨E, h1, h2, h3, h4⟩ := h
  exact ⟨E, h1, h2.on k, fun e he => ⟨(h3 e he).1, (h3 e he).2.on k⟩, h4⟩
theorem StmtsG.nil (w : World) (B : Nat) : StmtsG w B (.slice none 0 0) [] := ⟨[], rfl, Got.nil _ _ _ _, by simp, List.Pairwise.nil, by simp⟩
theorem StmtsG.emptyAt (w : World) {n : Nat} (h : w.heap.size = n) : StmtsG (w.alloc (.cells #[] 48)) n (.slice (some ⟨n, 0, none⟩) 0 0) [] := ⟨[], rfl, Got.emptyAt _ _ _ h, by simp, List.Pairwise.nil, by simp⟩
theorem StmtsG.lit {w : World} {B : Nat} {v : Value} {ss : List Sc} (h : StmtsG w B v ss) : ∃ a n c, v = .slice a n c ∧ StmtsG w B (.slice a n c) ss := by
  obtain ⟨E, h1, h2, h3⟩ := h
  obtain ⟨a, n, c, rfl, h2'⟩ := h2.lit2
  exact ⟨a, n, c, rfl, E, h1, h2', h3⟩
theorem StmtsG.turned {w w' : World} {B : Nat} {v : Value} {ss : List Sc} (h : StmtsG w B v ss) {S : Nat → Prop} (k : Turns S w w') (hS : ∀ c, S c → c < B) : StmtsG w' B v ss := by
  obtain ⟨E, h1, h2, h3, h4⟩ := h
  refine ⟨E, h1, h2.turned k (fun c hc hs => by have := h2.own hc; have := hS c hs; omega), fun e he => ⟨(h3 e he).1, (h3 e he).2.keep k.size fun b hb hb' => k.block b (Nat.lt_of_lt_of_le hb' (h3 e he).2.top) fun hs => ?_⟩, h4⟩
  have := hS b hs
  have := (h3 e he).1
  omega
theorem StmtsG.mono {w : World} {B B' : Nat} {v : Value} {ss : List Sc} (h : StmtsG w B v ss) (hB : B' ≤ B) : StmtsG w B' v ss := by
  obtain ⟨E, h1, h2, h3, h4⟩ := h
  exact ⟨E, h1, h2.mono hB, fun e he => ⟨Nat.le_trans hB (h3 e he).1, (h3 e he).2⟩, h4⟩
theorem StmtsG.read {w : World} {B : Nat} {v : Value} {ss : List Sc} (h : StmtsG w B v ss) : StmtsV w v ss := by
  obtain ⟨E, rfl, h2, h3, _⟩ := h
  obtain ⟨a, cap, e, g1, g2, g3, _⟩ := h2.row
  refine ⟨a, cap, E.map Est.cells, by simpa using e, by simpa using g1, g2, g3, by simp, fun i hi hg => ?_⟩
  simp only [List.getElem_map]
  exact (h3 _ (List.getElem_mem _)).2.stmt
/-- One more, behind the others. -/
theorem StmtsG.add {w w1 w2 w3 : World} {B : Nat} {v v' : Value} {E : List Est} {e : Est} (hE : Got w B 48 10 v (E.map Est.cells)) (h3 : ∀ e ∈ E, B ≤ e.lo ∧ e.Good w) (h4 : E.Pairwise (fun a b => a.hi ≤ b.lo)) (h5 : ∀ g, v.ownBlock = some g → ∀ e ∈ E, g < e.lo ∨ e.hi ≤ g)
    (hb1 : Below w.heap.size w w1) (he : e.Good w1) (hlo : w.heap.size ≤ e.lo) (hB : B ≤ w.heap.size) (hb2 : Below w1.heap.size w1 w2) (hg : Got w3 B 48 10 v' (E.map Est.cells ++ [e.cells])) (ht : Turns (fun c => v.ownBlock = some c) w2 w3) (hl : Lies w2 v v') : StmtsG w3 B v' (E.map (fun e => e.s) ++ [e.s]) := by
  have hv : ∀ g, v.ownBlock = some g → g < w.heap.size := fun g hg => by
    obtain ⟨cur, hh⟩ := hE.tag hg
    exact (Array.getElem?_eq_some_iff.1 hh).1
  have h12 := ch_trans hb1 hb2
  have hs1 := hb1.size
  have hs2 := hb2.size
  have hs3 := ht.size
  refine ⟨E ++ [e], by simp, by simpa using hg, fun x hx => ?_, ?_, fun g hg' x hx => ?_⟩
  · rcases List.mem_append.1 hx with hx | hx
    · have hx2 := ((h3 x hx).2.on h12)
      refine ⟨(h3 x hx).1, hx2.keep ht.size fun b b1 b2 => ht.block b (Nat.lt_of_lt_of_le b2 hx2.top) fun hs => ?_⟩
      rcases h5 b hs x hx with h | h <;> omega
    · simp at hx; subst hx
      have he2 := he.on hb2
      refine ⟨by omega, he2.keep ht.size fun b b1 b2 => ht.block b (Nat.lt_of_lt_of_le b2 he2.top) fun hs => ?_⟩
      have := hv b hs
      omega
  · rw [List.pairwise_append]
    refine ⟨h4, by simp, fun x hx y hy => ?_⟩
    simp at hy; subst hy
    have := (h3 x hx).2.top
    omega
  · have htop : x.hi ≤ w1.heap.size := by
      rcases List.mem_append.1 hx with hx | hx
      · have := (h3 x hx).2.top; omega
      · simp at hx; subst hx; exact he.top
    rcases hl g hg' with h | h
    · rcases List.mem_append.1 hx with hx | hx
      · exact h5 g h x hx
      · simp at hx; subst hx
        have := hv g h
        omega
    · omega
theorem nodup_upTo {qs : Nat → List Plc} : ∀ M, (∀ c, c < M → ((qs c).map (·.1)).Nodup) → (∀ c d, c < d → d < M → ∀ p ∈ qs c, ∀ q ∈ qs d, p.1 ≠ q.1) → ((upTo qs M).map (·.1)).Nodup
  | 0, _, _ => by simp [upTo]
  | M + 1, h1, h2 => by
    rw [upTo_succ, List.map_append, List.nodup_append]
    refine ⟨nodup_upTo M (fun c hc => h1 c (by omega)) (fun c d hcd hd => h2 c d hcd (by omega)), h1 M (by omega), fun a ha b hb e => ?_⟩
    obtain ⟨p, hp, rfl⟩ := List.mem_map.1 ha
    obtain ⟨q, hq, rfl⟩ := List.mem_map.1 hb
    obtain ⟨c, hc, hp⟩ := List.mem_flatMap.1 hp
    rw [List.mem_range] at hc
    exact h2 c M hc (by omega) p hp q hq e
/-- The places of one cell of a statement. -/
def Est.at (e : Est) (b i : Nat) : Nat → List Plc
  | 0 => [(⟨b, i * 10, none⟩, 0)]
  | 1 => [(⟨b, i * 10 + 1, none⟩, 1)]
  | 2 => e.p2
  | 3 => e.p3
  | 4 => [(⟨b, i * 10 + 4, none⟩, 0)]
  | 5 => [(⟨b, i * 10 + 5, none⟩, 1)]
  | 6 => e.p6
  | 7 => e.p7
  | 8 => [(⟨b, i * 10 + 8, none⟩, 1)]
  | 9 => [(⟨b, i * 10 + 9, none⟩, 1)]
  | _ => []
theorem Est.at_cases (e : Est) (b i j : Nat) : (∃ κ, e.at b i j = [(⟨b, i * 10 + j, none⟩, κ)]) ∨ ((j = 2 ∨ j = 3 ∨ j = 6 ∨ j = 7) ∧ ∀ p ∈ e.at b i j, p ∈ e.pl) ∨ e.at b i j = [] := by
  match j with
  | 0 => exact Or.inl ⟨_, rfl⟩
  | 1 => exact Or.inl ⟨_, rfl⟩
  | 2 => exact Or.inr (Or.inl ⟨by omega, fun p hp => by simp only [Est.at] at hp; simp [Est.pl, hp]⟩)
  | 3 => exact Or.inr (Or.inl ⟨by omega, fun p hp => by simp only [Est.at] at hp; simp [Est.pl, hp]⟩)
  | 4 => exact Or.inl ⟨_, rfl⟩
  | 5 => exact Or.inl ⟨_, rfl⟩
  | 6 => exact Or.inr (Or.inl ⟨by omega, fun p hp => by simp only [Est.at] at hp; simp [Est.pl, hp]⟩)
  | 7 => exact Or.inr (Or.inl ⟨by omega, fun p hp => by simp only [Est.at] at hp; simp [Est.pl, hp]⟩)
  | 8 => exact Or.inl ⟨_, rfl⟩
  | 9 => exact Or.inl ⟨_, rfl⟩
  | j + 10 => exact Or.inr (Or.inr rfl)
theorem Est.parts_apart {e : Est} (hn : (e.pl.map (·.1)).Nodup) (b i : Nat) {j j' : Nat} (h : j < j') (h1 : j = 2 ∨ j = 3 ∨ j = 6 ∨ j = 7) (h2 : j' = 2 ∨ j' = 3 ∨ j' = 6 ∨ j' = 7) : ∀ p ∈ e.at b i j, ∀ q ∈ e.at b i j', p.1 ≠ q.1 := by
  simp only [Est.pl, List.map_append, List.nodup_append, List.mem_append, List.mem_map] at hn
  obtain ⟨⟨⟨_, _, h23⟩, _, h6⟩, _, h7⟩ := hn
  intro p hp q hq
  rcases h1 with rfl | rfl | rfl | rfl
  · rcases h2 with rfl | rfl | rfl | rfl
    · omega
    · exact h23 _ ⟨p, hp, rfl⟩ _ ⟨q, hq, rfl⟩
    · exact h6 _ (Or.inl ⟨p, hp, rfl⟩) _ ⟨q, hq, rfl⟩
    · exact h7 _ (Or.inl (Or.inl ⟨p, hp, rfl⟩)) _ ⟨q, hq, rfl⟩
  · rcases h2 with rfl | rfl | rfl | rfl
    · omega
    · omega
    · exact h6 _ (Or.inr ⟨p, hp, rfl⟩) _ ⟨q, hq, rfl⟩
    · exact h7 _ (Or.inl (Or.inr ⟨p, hp, rfl⟩)) _ ⟨q, hq, rfl⟩
  · rcases h2 with rfl | rfl | rfl | rfl
    · omega
    · omega
    · omega
    · exact h7 _ (Or.inr ⟨p, hp, rfl⟩) _ ⟨q, hq, rfl⟩
  · omega
theorem Est.at_nodup {e : Est} (hn : (e.pl.map (·.1)).Nodup) (b i j : Nat) : ((e.at b i j).map (·.1)).Nodup := by
  simp only [Est.pl, List.map_append, List.nodup_append] at hn
  obtain ⟨⟨⟨n2, n3, _⟩, n6, _⟩, n7, _⟩ := hn
  match j with
  | 0 => simp [Est.at]
  | 1 => simp [Est.at]
  | 2 => exact n2
  | 3 => exact n3
  | 4 => simp [Est.at]
  | 5 => simp [Est.at]
  | 6 => exact n6
  | 7 => exact n7
  | 8 => simp [Est.at]
  | 9 => simp [Est.at]
  | j + 10 => simp [Est.at]
/-- Their places. -/
theorem StmtsG.pl {w : World} {B : Nat} {v : Value} {ss : List Sc} (h : StmtsG w B v ss) (hl : ss.length ≤ 1048576) : ∃ ps, StmtsP w v ps ∧ (ps.map (·.1)).Nodup ∧ ∀ p ∈ ps, B ≤ p.1.block := by
  obtain ⟨E, rfl, h2, h3, h4, h5⟩ := h
  rw [List.length_map] at hl
  have hown := fun c => h2.own (c := c)
  obtain ⟨h0, h1, h2⟩ := h2
  rcases h2 with ⟨rfl, hn⟩ | ⟨g, cap, cur, rfl, hb, hg, hc1, hc2, hs, ht⟩
  · exact ⟨[], Or.inl ⟨rfl, rfl⟩, by simp, by simp⟩
  rw [List.length_map] at hc1 ht h1
  have hget : ∀ c, c < E.length * 10 → c / 10 < E.length := fun c hc => by omega
  obtain ⟨qs, hqs⟩ : ∃ qs : Nat → List Plc, ∀ c (hc : c < E.length * 10), qs c = (E[c / 10]'(hget c hc)).at g (c / 10) (c % 10) := ⟨fun c => if hc : c < E.length * 10 then (E[c / 10]'(hget c hc)).at g (c / 10) (c % 10) else [], fun c hc => by simp [hc]⟩
  have hgd : ∀ i (hi : i < E.length), B ≤ E[i].lo ∧ E[i].Good w := fun i hi => h3 _ (List.getElem_mem hi)
  have hq : ∀ c (hc : c < E.length * 10), ∀ p ∈ qs c, (p.1 = ⟨g, c, none⟩) ∨ ((c % 10 = 2 ∨ c % 10 = 3 ∨ c % 10 = 6 ∨ c % 10 = 7) ∧ p ∈ (E[c / 10]'(hget c hc)).pl) := fun c hc p hp => by
    rw [hqs c hc] at hp
    rcases (E[c / 10]'(hget c hc)).at_cases g (c / 10) (c % 10) with ⟨κ, e⟩ | ⟨hj, hall⟩ | e
    · rw [e] at hp
      simp at hp; subst hp
      left
      simp; omega
    · exact Or.inr ⟨hj, hall p hp⟩
    · rw [e] at hp; simp at hp
  refine ⟨upTo qs (E.length * 10), Or.inr ⟨g, E.length, cap, cap * 10, fun i => cur.getD i default, qs, by rw [List.length_map], hl, ⟨cur, hg, hs, fun i hi => by simp [Array.getD, hs, hi]⟩, Nat.mul_le_mul_right _ hc1, rfl, fun i hi j hj => ?_⟩, ?_, fun p hp => ?_⟩
  · have hj10 : j < 10 := hj
    have hlt : i * 10 + j < E.length * 10 := by omega
    have e1 := flat_at (E.map Est.cells) h0 i (by simpa using hi) j hj10
    have hle : E.length * 10 ≤ cap * 10 := Nat.mul_le_mul_right _ hc1
    rw [← ht, List.getElem?_take, if_pos hlt, Array.getElem?_toList, Array.getElem?_eq_getElem (by omega)] at e1
    have e2 : cur.getD (i * 10 + j) default = cur[i * 10 + j]'(by omega) := by simp [Array.getD, show i * 10 + j < cur.size by omega]
    simp only [List.getElem_map] at e1
    have hi10 : (i * 10 + j) / 10 = i := by omega
    have hj10' : (i * 10 + j) % 10 = j := by omega
    have eq := hqs (i * 10 + j) hlt
    simp only [hi10, hj10'] at eq
    have rd := (hgd i hi).2.reads w fun _ _ _ => rfl
    have key : ∀ (j : Nat) (hj : j < ([LeafP 0, LeafP 1, NestP ValsP, NestP ValsP, LeafP 0, LeafP 1, NestP ColsP, NestP StrsP, LeafP 1, LeafP 1] : List CellP).length) (u : Value), (Est.cells E[i])[j]? = some u → ([LeafP 0, LeafP 1, NestP ValsP, NestP ValsP, LeafP 0, LeafP 1, NestP ColsP, NestP StrsP, LeafP 1, LeafP 1] : List CellP)[j] w ⟨g, i * 10 + j, none⟩ u (E[i].at g i j) := fun j hj u e1 => by
      match j, hj, e1 with
      | 0, _, e1 => simp at e1; subst e1; exact ⟨⟨_, rfl⟩, rfl⟩
      | 1, _, e1 => simp at e1; subst e1; exact ⟨⟨_, rfl⟩, rfl⟩
      | 2, _, e1 => simp at e1; subst e1; exact rd.1.2
      | 3, _, e1 => simp at e1; subst e1; exact rd.2.1.2
      | 4, _, e1 => simp at e1; subst e1; exact ⟨⟨_, rfl⟩, rfl⟩
      | 5, _, e1 => simp at e1; subst e1; exact ⟨⟨_, rfl⟩, rfl⟩
      | 6, _, e1 => simp at e1; subst e1; exact rd.2.2.1.2
      | 7, _, e1 => simp at e1; subst e1; exact rd.2.2.2.2
      | 8, _, e1 => simp at e1; subst e1; exact ⟨⟨_, rfl⟩, rfl⟩
      | 9, _, e1 => simp at e1; subst e1; exact ⟨⟨_, rfl⟩, rfl⟩
    have h9 := key j hj _ e1.symm
    rw [← eq, ← e2] at h9
    exact h9
  · refine nodup_upTo _ (fun c hc => by rw [hqs c hc]; exact Est.at_nodup (hgd _ (hget c hc)).2.nodup _ _ _) (fun c d hcd hd p hp q hq' e => ?_)
    have hc : c < E.length * 10 := by omega
    have ci := hget c hc
    have di := hget d hd
    have hin := (hgd _ ci).2.inside
    have hin' := (hgd _ di).2.inside
    rcases hq c hc p hp with e1 | ⟨j1, m1⟩
    · rcases hq d hd q hq' with e2 | ⟨j2, m2⟩
      · rw [e1, e2] at e; simp at e
      · have hb2 := hin' q m2
        rw [← e, e1] at hb2
        rcases h5 g rfl _ (List.getElem_mem di) with h | h
        · have := hb2.1; simp at this; omega
        · have := hb2.2; simp at this; omega
    · rcases hq d hd q hq' with e2 | ⟨j2, m2⟩
      · have hb1 := hin p m1
        rw [e, e2] at hb1
        rcases h5 g rfl _ (List.getElem_mem ci) with h | h
        · have := hb1.1; simp at this; omega
        · have := hb1.2; simp at this; omega
      · by_cases hij : c / 10 = d / 10
        · rw [hqs c hc] at hp
          rw [hqs d hd] at hq'
          simp only [hij] at hp
          exact Est.parts_apart (hgd _ di).2.nodup g (d / 10) (by omega) j1 j2 p hp q hq' e
        · rw [List.pairwise_iff_getElem] at h4
          have hlt : c / 10 < d / 10 := by
            have := Nat.div_le_div_right (c := 10) (Nat.le_of_lt hcd)
            omega
          have h6 := h4 _ _ ci di hlt
          have a1 := (hin p m1).2
          have a2 := (hin' q m2).1
          rw [e] at a1
          omega
  · obtain ⟨c, hc, hp⟩ := List.mem_flatMap.1 hp
    rw [List.mem_range] at hc
    rcases hq c hc p hp with e1 | ⟨_, m1⟩
    · rw [e1]; exact hb
    · have := ((hgd _ (hget c hc)).2.inside p m1).1
      have := (hgd _ (hget c hc)).1
      omega
/-- Held: the marks stand. -/
def HeldS (w : World) (v : Value) (ps : List Plc) : Prop := StmtsP w v ps ∧ Marked w 1 ps
theorem HeldS.on {w w' : World} {v : Value} {ps : List Plc} (h : HeldS w v ps) (b : Below w.heap.size w w') : HeldS w' v ps := ⟨StmtsP.lay.2 (fun _ => False) _ _ _ _ ((Marks.refl _ w).below b) h.1, h.2.on b⟩
theorem StmtsV.lit3 {w : World} {v : Value} {ss : List Sc} (h : StmtsV w v ss) : ∃ a n c, v = .slice a n c := by
  obtain ⟨a, c, rfl, _⟩ := h.lit; exact ⟨a, _, c, rfl⟩
theorem StmtsG.lit3 {w : World} {B : Nat} {v : Value} {ss : List Sc} (h : StmtsG w B v ss) : ∃ a n c, v = .slice a n c := by
  obtain ⟨a, n, c, e, _⟩ := h.lit; exact ⟨a, n, c, e⟩
end Go.Proofs.YtiijahoheajppaaGreat

namespace Go.Proofs.YtiijahoheajppaaGreat
open Go.ChangeShapes Go.WideShapes Go.ChangeAt Go.RowKit

theorem infoPrt : (Tryz.prog.info? 68).map (fun i => (i.zero, i.size, i.bytes)) = some (some (.agg #[.int .i64 0, .string ByteArray.empty, .slice none 0 0, .slice none 0 0, .int .i64 0, .string ByteArray.empty, .slice none 0 0, .slice none 0 0, .string ByteArray.empty, .string ByteArray.empty, .slice none 0 0, .slice none 0 0]), 12, 224) := by kernel_rfl
theorem PartV.oneC {w : World} {x : Array Value} {s : Ptc} (h : PartV w x s) : ∀ u ∈ x.toList, u.oneCell' = true := fun u hu => by
  obtain ⟨a, p, b, q, c, r, d, t, f, g, i, j, rfl, _⟩ := h.lit
  simp at hu
  rcases hu with rfl | rfl | rfl | rfl | rfl | rfl | rfl | rfl | rfl | rfl | rfl | rfl <;> rfl
/-- A part of a call's own: its statement, its lists of words, and their places; all lies in the blocks from lo to hi. -/
structure Ept where
  t : Ptc
  e : Est
  y : Value
  z : Value
  pa : List Plc
  pb : List Plc
  lo : Nat
  hi : Nat
abbrev Ept.cells (p : Ept) : Array Value := p.t.cells p.e.k p.e.r p.e.c p.e.o p.y p.z
def Ept.pl (p : Ept) : List Plc := p.e.pl ++ p.pa ++ p.pb
def Ept.reads (p : Ept) (u : World) : Prop := p.e.reads u ∧ (StrsV u p.y p.t.cols ∧ StrsP u p.y p.pa) ∧ (StrsV u p.z p.t.keys ∧ StrsP u p.z p.pb)
structure Ept.Good (w : World) (p : Ept) : Prop where
  same : p.e.s = p.t.st
  own : p.e.Good w
  elo : p.lo ≤ p.e.lo
  ehi : p.e.hi ≤ p.hi
  top : p.hi ≤ w.heap.size
  reads : ∀ u : World, (∀ b, p.lo ≤ b → b < p.hi → u.heap[b]? = w.heap[b]?) → (StrsV u p.y p.t.cols ∧ StrsP u p.y p.pa) ∧ (StrsV u p.z p.t.keys ∧ StrsP u p.z p.pb)
  nodup : (p.pl.map (·.1)).Nodup
  inside : ∀ q ∈ p.pl, p.lo ≤ q.1.block ∧ q.1.block < p.hi
theorem Ept.Good.le {w : World} {p : Ept} (h : p.Good w) : p.lo ≤ p.hi := Nat.le_trans h.elo (Nat.le_trans h.own.le h.ehi)
theorem Ept.Good.part {w : World} {p : Ept} (h : p.Good w) : PartV w p.cells p.t := by
  obtain ⟨h1, h2, h3, h4⟩ := h.own.reads w fun _ _ _ => rfl
  obtain ⟨h5, h6⟩ := h.reads w fun _ _ _ => rfl
  have e := h.same
  rw [e] at h1 h2 h3 h4
  exact ⟨_, _, _, _, _, _, rfl, h1.1, h2.1, h3.1, h4.1, h5.1, h6.1⟩
theorem Ept.Good.keep {w w' : World} {p : Ept} (h : p.Good w) (hs : w.heap.size ≤ w'.heap.size) (hb : ∀ b, p.lo ≤ b → b < p.hi → w'.heap[b]? = w.heap[b]?) : p.Good w' :=
  ⟨h.same, h.own.keep hs fun b h1 h2 => hb b (Nat.le_trans h.elo h1) (Nat.lt_of_lt_of_le h2 h.ehi), h.elo, h.ehi, Nat.le_trans h.top hs, fun u hu => h.reads u fun b h1 h2 => (hu b h1 h2).trans (hb b h1 h2), h.nodup, h.inside⟩
theorem Ept.Good.on {w w' : World} {p : Ept} (h : p.Good w) (k : Below w.heap.size w w') : p.Good w' := h.keep k.size fun b _ hb => k.block b (Nat.lt_of_lt_of_le hb h.top)
/-- A statement and two lists of words of the call's own, one behind the other. -/
theorem Ept.make {w : World} {t : Ptc} {E : Est} {y z : Value} {lo b1 b2 b3 : Nat} (hs : E.s = t.st) (hE : E.Good w) (hl : lo ≤ E.lo) (h1 : E.hi ≤ b1) (h12 : b1 ≤ b2) (h23 : b2 ≤ b3) (h3 : b3 ≤ w.heap.size)
    (hy : Got w b1 9 1 y (t.cols.map strX)) (hz : Got w b2 9 1 z (t.keys.map strX)) (gy : ∀ g, y.ownBlock = some g → g < b2) (gz : ∀ g, z.ownBlock = some g → g < b3) (few : t.few) :
    ∃ p : Ept, p.t = t ∧ p.cells = t.cells E.k E.r E.c E.o y z ∧ p.lo = lo ∧ p.hi = b3 ∧ p.Good w := by
  obtain ⟨pa, na, ia, ra⟩ := hy.ownStrs few.2.1
  obtain ⟨pb, nb, ib, rb⟩ := hz.ownStrs few.2.2
  have BA : ∀ p ∈ pa, b1 ≤ p.1.block ∧ p.1.block < b2 := fun p hp => ⟨hy.own (ia p hp), gy _ (ia p hp)⟩
  have BB : ∀ p ∈ pb, b2 ≤ p.1.block ∧ p.1.block < b3 := fun p hp => ⟨hz.own (ib p hp), gz _ (ib p hp)⟩
  have BE := hE.inside
  have hle := hE.le
  refine ⟨⟨t, E, y, z, pa, pb, lo, b3⟩, rfl, rfl, rfl, rfl, hs, hE, hl, by show E.hi ≤ b3; omega, h3, fun u hu => ⟨ra u fun g hg => hu g ?_ ?_, rb u fun g hg => hu g ?_ (gz g hg)⟩, ?_, fun p hp => ?_⟩
  · have := hy.own hg; show lo ≤ g; omega
  · have := gy g hg; show g < b3; omega
  · have := hz.own hg; show lo ≤ g; omega
  · simp only [Ept.pl, List.map_append, List.nodup_append]
    have key : ∀ {ps qs : List Plc} {m : Nat}, (∀ p ∈ ps, p.1.block < m) → (∀ p ∈ qs, m ≤ p.1.block) → ∀ a ∈ ps.map (·.1), ∀ b ∈ qs.map (·.1), a ≠ b := fun {ps qs m} h1 h2 a ha b hb e => by
      obtain ⟨p, hp, rfl⟩ := List.mem_map.1 ha
      obtain ⟨q, hq, e2⟩ := List.mem_map.1 hb
      have h3 := h1 p hp
      have h4 := h2 q hq
      rw [e, ← e2] at h3
      omega
    refine ⟨⟨hE.nodup, na, key (m := b1) (fun p hp => by have := (BE p hp).2; omega) (fun p hp => (BA p hp).1)⟩, nb, ?_⟩
    rw [← List.map_append]
    exact key (m := b2) (fun p hp => by
      rcases List.mem_append.1 hp with hp | hp
      · have := (BE p hp).2; omega
      · exact (BA p hp).2) (fun p hp => (BB p hp).1)
  · show lo ≤ p.1.block ∧ p.1.block < b3
    simp only [Ept.pl, List.mem_append] at hp
    rcases hp with (hp | hp) | hp
    · have := BE p hp; omega
    · have := BA p hp; omega
    · have := BB p hp; omega
/-- Parts of the call's own, from block B on; their parts, too. -/
def PartsG (w : World) (B : Nat) (v : Value) (ss : List Ptc) : Prop := ∃ E : List Ept, E.map (fun e => e.t) = ss ∧ Got w B 68 12 v (E.map Ept.cells) ∧ (∀ e ∈ E, B ≤ e.lo ∧ e.Good w) ∧ E.Pairwise (fun a b => a.hi ≤ b.lo) ∧ ∀ g, v.ownBlock = some g → ∀ e ∈ E, g < e.lo ∨ e.hi ≤ g
theorem PartsG.on {w w' : World} {B : Nat} {v : Value} {ss : List Ptc} (h : PartsG w B v ss) (k : Below w.heap.size w w') : PartsG w' B v ss := by
  obtain ⟨E, h1, h2, h3, h4⟩ := h
  exact ⟨E, h1, h2.on k, fun e he => ⟨(h3 e he).1, (h3 e he).2.on k⟩, h4⟩
theorem PartsG.nil (w : World) (B : Nat) : PartsG w B (.slice none 0 0) [] := ⟨[], rfl, Got.nil _ _ _ _, by simp, List.Pairwise.nil, by simp⟩
theorem PartsG.emptyAt (w : World) {n : Nat} (h : w.heap.size = n) : PartsG (w.alloc (.cells #[] 68)) n (.slice (some ⟨n, 0, none⟩) 0 0) [] := ⟨[], rfl, Got.emptyAt _ _ _ h, by simp, List.Pairwise.nil, by simp⟩
theorem PartsG.lit {w : World} {B : Nat} {v : Value} {ss : List Ptc} (h : PartsG w B v ss) : ∃ a n c, v = .slice a n c ∧ PartsG w B (.slice a n c) ss := by
  obtain ⟨E, h1, h2, h3⟩ := h
  obtain ⟨a, n, c, rfl, h2'⟩ := h2.lit2
  exact ⟨a, n, c, rfl, E, h1, h2', h3⟩
theorem PartsG.turned {w w' : World} {B : Nat} {v : Value} {ss : List Ptc} (h : PartsG w B v ss) {S : Nat → Prop} (k : Turns S w w') (hS : ∀ c, S c → c < B) : PartsG w' B v ss := by
  obtain ⟨E, h1, h2, h3, h4⟩ := h
  refine ⟨E, h1, h2.turned k (fun c hc hs => by have := h2.own hc; have := hS c hs; omega), fun e he => ⟨(h3 e he).1, (h3 e he).2.keep k.size fun b hb hb' => k.block b (Nat.lt_of_lt_of_le hb' (h3 e he).2.top) fun hs => ?_⟩, h4⟩
  have := hS b hs
  have := (h3 e he).1
  omega
theorem PartsG.mono {w : World} {B B' : Nat} {v : Value} {ss : List Ptc} (h : PartsG w B v ss) (hB : B' ≤ B) : PartsG w B' v ss := by
  obtain ⟨E, h1, h2, h3, h4⟩ := h
  exact ⟨E, h1, h2.mono hB, fun e he => ⟨Nat.le_trans hB (h3 e he).1, (h3 e he).2⟩, h4⟩
theorem PartsG.read {w : World} {B : Nat} {v : Value} {ss : List Ptc} (h : PartsG w B v ss) : PartsV w v ss := by
  obtain ⟨E, rfl, h2, h3, _⟩ := h
  obtain ⟨a, cap, e, g1, g2, g3, _⟩ := h2.row
  refine ⟨a, cap, E.map Ept.cells, by simpa using e, by simpa using g1, g2, g3, by simp, fun i hi hg => ?_⟩
  simp only [List.getElem_map]
  exact (h3 _ (List.getElem_mem _)).2.part
theorem Ept.Good.turned {w w' : World} {p : Ept} {S : Nat → Prop} (h : p.Good w) (k : Turns S w w') (hS : ∀ c, S c → c < p.lo) : p.Good w' :=
  h.keep k.size fun b h1 h2 => k.block b (Nat.lt_of_lt_of_le h2 h.top) fun hs => by have := hS b hs; omega
/-- One more, behind the others; older blocks have turned meanwhile. -/
theorem PartsG.addT {S : Nat → Prop} {w w1 w2 w3 : World} {B : Nat} {v v' : Value} {E : List Ept} {e : Ept} (hE : Got w B 68 12 v (E.map Ept.cells)) (h3 : ∀ e ∈ E, B ≤ e.lo ∧ e.Good w) (h4 : E.Pairwise (fun a b => a.hi ≤ b.lo)) (h5 : ∀ g, v.ownBlock = some g → ∀ e ∈ E, g < e.lo ∨ e.hi ≤ g)
    (hb1 : Turns S w w1) (hS : ∀ c, S c → c < B) (he : e.Good w1) (hlo : w.heap.size ≤ e.lo) (hB : B ≤ w.heap.size) (hb2 : Below w1.heap.size w1 w2) (hg : Got w3 B 68 12 v' (E.map Ept.cells ++ [e.cells])) (ht : Turns (fun c => v.ownBlock = some c) w2 w3) (hl : Lies w2 v v') : PartsG w3 B v' (E.map (fun e => e.t) ++ [e.t]) := by
  have hv : ∀ g, v.ownBlock = some g → g < w.heap.size := fun g hg => by
    obtain ⟨cur, hh⟩ := hE.tag hg
    exact (Array.getElem?_eq_some_iff.1 hh).1
  have hs1 := hb1.size
  have hs2 := hb2.size
  have hs3 := ht.size
  refine ⟨E ++ [e], by simp, by simpa using hg, fun x hx => ?_, ?_, fun g hg' x hx => ?_⟩
  · rcases List.mem_append.1 hx with hx | hx
    · have hx2 := (((h3 x hx).2.turned hb1 fun c hc => Nat.lt_of_lt_of_le (hS c hc) (h3 x hx).1).on hb2)
      refine ⟨(h3 x hx).1, hx2.keep ht.size fun b b1 b2 => ht.block b (Nat.lt_of_lt_of_le b2 hx2.top) fun hs => ?_⟩
      rcases h5 b hs x hx with h | h <;> omega
    · simp at hx; subst hx
      have he2 := he.on hb2
      refine ⟨by omega, he2.keep ht.size fun b b1 b2 => ht.block b (Nat.lt_of_lt_of_le b2 he2.top) fun hs => ?_⟩
      have := hv b hs
      omega
  · rw [List.pairwise_append]
    refine ⟨h4, by simp, fun x hx y hy => ?_⟩
    simp at hy; subst hy
    have := (h3 x hx).2.top
    omega
  · have htop : x.hi ≤ w1.heap.size := by
      rcases List.mem_append.1 hx with hx | hx
      · have := (h3 x hx).2.top; omega
      · simp at hx; subst hx; exact he.top
    rcases hl g hg' with h | h
    · rcases List.mem_append.1 hx with hx | hx
      · exact h5 g h x hx
      · simp at hx; subst hx
        have := hv g h
        omega
    · omega
end Go.Proofs.YtiijahoheajppaaGreat

namespace Go.Proofs.YtiijahoheajppaaGreat
open Go.ChangeShapes Go.WideShapes Go.ChangeAt Go.RowKit

set_option maxRecDepth 100000 in
set_option maxHeartbeats 2000000 in
/-- impl.readMany of parts -/
theorem readParts_any (R : Nat) (l : List UInt8) (w : World) (h : RdB w R l) :
    Calls Tryz.prog 94 #[.pointer (some ⟨R, 0, none⟩), .func (.func 95) #[] #[]] w fun e w' => ∃ v, e = .returned v ∧ PartsG w' w.heap.size v (rdPs (rdN 1 l) (l.drop 1)).1 ∧ Turns (· = R) w w' := by
  have HN : Hid (Calls Tryz.prog 81 #[.pointer (some ⟨R, 0, none⟩), .int .i64 1] w fun e w' => e = .returned (.int .i64 (rdN 1 l : Int)) ∧ RdB w' R (l.drop 1) ∧ Turns (· = R) w w') := num_any R 1 l w h (by omega) (by omega)
  have hRw : R < w.heap.size := by obtain ⟨_, _, _, ho, _⟩ := h; exact ho.lt
  have hn256 := rdN_byte l
  clear h
  generalize l.drop 1 = D at HN ⊢
  generalize rdN 1 l = N at HN hn256 ⊢
  go_enter Tryz.func94, Tryz.ntmps94
  go_wp2_with fail
  refine HN.out.mono ?_
  rintro e w1 ⟨rfl, hd, ht⟩
  have HD : Hid (RdB w1 R D) := hd
  have HT : Hid (Turns (· = R) w w1) := ht
  clear hd ht
  go_wp2
  go_loopw [5, 8] (fun q i wr => ∃ (k : Nat) (vs : List Ptc) (cur : List UInt8), k ≤ N ∧ i = .int .i64 (k : Int) ∧ vs.length = k ∧ Hid (vs ++ (rdPs (N - k) cur).1 = (rdPs N D).1) ∧ Hid (RdB wr R cur) ∧ Hid (Turns (· = R) w wr) ∧ Hid (PartsG wr w.heap.size q vs)) (fun _ i _ => N - (intOf i).toNat)
  case atStart => exact ⟨0, [], D, Nat.zero_le _, rfl, rfl, rfl, HD, HT, PartsG.nil _ _⟩
  case round =>
    clear HD HT
    obtain ⟨k, vs, cur, hk, rfl, hvk, HE, HD, HT, HG⟩ := hrel
    obtain ⟨a1, n1, c1, rfl, hg⟩ := HG.out.lit
    have HG1 : Hid (PartsG wr w.heap.size (.slice a1 n1 c1) vs) := hg
    clear hg HG
    by_cases hlt : k < N
    · have hlti : (k : Int) < N := by omega
      have HVA : Hid (Calls Tryz.prog 95 #[.pointer (some ⟨R, 0, none⟩)] wr fun e w' => PartOut R wr (rdP cur).2 (rdP cur).1 e w') := partR_any R cur wr HD.out
      have HE' : Hid ((vs ++ [(rdP cur).1]) ++ (rdPs (N - (k + 1)) (rdP cur).2).1 = (rdPs N D).1) := by
        show _ = _
        rw [← HE.out, show N - k = (N - (k + 1)) + 1 by omega, List.append_assoc]; rfl
      have HFW : Hid (rdP cur).1.few := (rdP_fit cur).2
      clear HE
      generalize (rdP cur).2 = nxt at HVA HE'
      generalize (rdP cur).1 = c at HVA HE' HFW
      go_wp2_with fail
      refine HVA.out.mono ?_
      rintro e w2 ⟨E, y, z, b1, b2, rfl, hes, hlo, hgood, hb1, hb12, hb2, hy, hz, gy, hd, ht⟩
      obtain ⟨P, hpt, hpc, hplo, hphi, hpg⟩ := Ept.make (lo := E.lo) (b3 := w2.heap.size) hes hgood (Nat.le_refl _) hb1 hb12 hb2 (Nat.le_refl _) hy hz gy hz.lt HFW.out
      rw [← hpc]
      have HP : Hid (P.t = c ∧ wr.heap.size ≤ P.lo ∧ P.Good w2) := ⟨hpt, by omega, hpg⟩
      have HST : Hid (PartV w2 P.cells P.t) := hpg.part
      have HD2 : Hid (RdB w2 R nxt) := hd
      have HTa : Hid (Turns (· = R) wr w2) := ht
      have HT2 : Hid (Turns (· = R) w w2) := HT.out.trans ht
      have hs2 : w.heap.size ≤ w2.heap.size := HT2.out.size
      have hsw : w.heap.size ≤ wr.heap.size := HT.out.size
      obtain ⟨L, h1, h2, h3, h4, h5⟩ := HG1.out
      have HL : Hid (L.map (fun e => e.t) = vs ∧ Got wr w.heap.size 68 12 (.slice a1 n1 c1) (L.map Ept.cells) ∧ (∀ e ∈ L, w.heap.size ≤ e.lo ∧ e.Good wr) ∧ L.Pairwise (fun a b => a.hi ≤ b.lo) ∧ ∀ g, (Value.slice a1 n1 c1).ownBlock = some g → ∀ e ∈ L, g < e.lo ∨ e.hi ≤ g) := ⟨h1, h2, h3, h4, h5⟩
      have HG2 : Hid (Got w2 w.heap.size 68 12 (.slice a1 n1 c1) (L.map Ept.cells)) := h2.turns ht fun c h => by have h : c = R := h; omega
      have hLl : (L.map Ept.cells).length ≤ 1048576 := by
        have h0 := congrArg List.length h1
        rw [List.length_map] at h0 ⊢
        omega
      clear hpt hpc hplo hphi hpg hes hlo hgood hb1 hb12 hb2 hy hz gy hd ht h1 h2 h3 h4 h5 HG1 HT HVA HFW HD
      go_wp2_with (at_builtin; refine app_turnK rfl (.tmp 10) (.tmp 14) rfl Tryz.underlying31 infoPrt rfl (by decide) (by decide) w.heap.size _ (L.map Ept.cells) rfl (HG2.out.on (ch_alloc (Below.refl _ _) _)) w2.heap.size 1 P.cells rfl (Loc.new _ _ _) rfl HST.out.oneC (by omega) (by simp; omega) ?_; intro v3 w3 hg3 hb3 ht3 hl3)
      have HG3 : Hid (PartsG w3 w.heap.size v3 (vs ++ [c])) := by
        have h := PartsG.addT HL.out.2.1 HL.out.2.2.1 HL.out.2.2.2.1 HL.out.2.2.2.2 HTa.out (fun c h => by have h : c = R := h; omega) HP.out.2.2 HP.out.2.1 hsw (ch_alloc (Below.refl _ _) _) hg3 ht3 hl3
        show PartsG _ _ _ _
        rw [← HL.out.1, ← HP.out.1]
        exact h
      have hb23 : Below w.heap.size w2 w3 := (Below.alloc (Below.refl _ _) hs2 _).trans hb3
      have HD3 : Hid (RdB w3 R nxt) := HD2.out.low hRw hb23
      have HT3 : Hid (Turns (· = R) w w3) := HT2.out.low hb23
      clear hg3 hb3 ht3 hl3 hb23 HL HP HST HG2 HTa HT2 HD2
      go_round
      case rel => exact ⟨k + 1, vs ++ [c], nxt, by omega, by go_num, by simp; omega, HE', HD3, HT3, HG3⟩
      case measure => simp [intOf]; omega
    · have hlti : (N : Int) ≤ k := by omega
      have HF : Hid (vs = (rdPs N D).1) := by
        have := HE.out
        rw [show N - k = 0 by omega, rdPs] at this
        show vs = _
        simpa using this
      go_wp2
      go_ret
      exact ⟨_, rfl, by rw [← HF.out]; exact HG1.out, HT.out⟩

set_option maxRecDepth 100000 in
set_option maxHeartbeats 2000000 in
theorem batchR_aux (R N P : Nat) (w : World) (l D0 D1 D2 : List UInt8) (ts : List Ptc) (h : RdB w R l)
    (HA : Hid (∀ u : World, RdB u R l → Calls Tryz.prog 80 #[.pointer (some ⟨R, 0, none⟩), .int .i64 1] u fun e w' => ∃ v, e = .returned v ∧ RdB w' R D0 ∧ Turns (· = R) u w'))
    (HN1 : Hid (∀ u : World, RdB u R D0 → Calls Tryz.prog 81 #[.pointer (some ⟨R, 0, none⟩), .int .i64 2] u fun e w' => e = .returned (.int .i64 (N : Int)) ∧ RdB w' R D1 ∧ Turns (· = R) u w'))
    (HN2 : Hid (∀ u : World, RdB u R D1 → Calls Tryz.prog 81 #[.pointer (some ⟨R, 0, none⟩), .int .i64 2] u fun e w' => e = .returned (.int .i64 (P : Int)) ∧ RdB w' R D2 ∧ Turns (· = R) u w'))
    (HM : Hid (∀ u : World, RdB u R D2 → Calls Tryz.prog 94 #[.pointer (some ⟨R, 0, none⟩), .func (.func 95) #[] #[]] u fun e w' => ∃ v, e = .returned v ∧ PartsG w' u.heap.size v ts ∧ Turns (· = R) u w')) :
    Calls Tryz.prog 58 #[.pointer (some ⟨R, 0, none⟩)] w fun e w' => ∃ v, e = .returned (.agg #[.int .i64 (N : Int), .int .i64 (P : Int), v]) ∧ PartsG w' (w.heap.size + 1) v ts ∧ w.heap.size < w'.heap.size ∧ Turns (· = R) w w' := by
  have HR : Hid (RdB w R l) := h
  have hRw : R < w.heap.size := by obtain ⟨_, _, _, ho, _⟩ := h; exact ho.lt
  clear h
  have hb0 : Below w.heap.size w (w.alloc (.cells #[.int .i64 0, .int .i64 0, .slice none 0 0] 33)) := (by repeat (first | with_reducible exact Below.refl _ _ | with_reducible assumption | with_reducible refine ch_alloc ?_ _ | with_reducible refine Below.drew ?_ | with_reducible refine below_draws _ ?_ | (with_reducible refine Below.setCell ?_ ?_ _; rotate_left; focus (first | with_reducible exact Nat.le_refl _ | (simp; done) | (simp; omega) | (simp at *; omega))) | with_reducible refine ch_trans ?_ (by with_reducible assumption)))
  have HO0 : Own (w.alloc (.cells #[.int .i64 0, .int .i64 0, .slice none 0 0] 33)) w.heap.size 33 #[.int .i64 0, .int .i64 0, .slice none 0 0] := Own.new _ _ _
  have HT0 : Turns (· = R) w (w.alloc (.cells #[.int .i64 0, .int .i64 0, .slice none 0 0] 33)) := (Turns.refl (· = R) w).below hb0
  go_enter Tryz.func58, Tryz.ntmps58
  go_wp2_with fail
  refine (HA.out _ (HR.out.on hb0)).mono ?_
  rintro e w1 ⟨v1, rfl, hd1, ht1⟩
  have HO1 := HO0.turned ht1 (by show ¬ (w.heap.size = R); omega)
  have HT1 := HT0.trans ht1
  have HD1 : Hid (RdB w1 R D0) := hd1
  clear hb0 HO0 HT0 hd1 ht1 HA HR
  go_wp2_with fail
  refine (HN1.out _ HD1.out).mono ?_
  rintro e w2 ⟨rfl, hd2, ht2⟩
  have HO2 := HO1.turned ht2 (by show ¬ (w.heap.size = R); omega)
  have HT2 := HT1.trans ht2
  have HD2 : Hid (RdB w2 R D1) := hd2
  clear HO1 HT1 hd2 ht2 HN1 HD1
  go_wp2_with fail
  refine (HN2.out _ HD2.out).mono ?_
  rintro e w3 ⟨rfl, hd3, ht3⟩
  have HO3 := HO2.turned ht3 (by show ¬ (w.heap.size = R); omega)
  have HT3 := HT2.trans ht3
  have HD3 : Hid (RdB w3 R D2) := hd3
  have hs3 : w.heap.size < w3.heap.size := HO3.lt
  clear HO2 HT2 hd3 ht3 HN2 HD2
  go_wp2_with fail
  refine (HM.out _ HD3.out).mono ?_
  rintro e w4 ⟨v4, rfl, hg4, ht4⟩
  obtain ⟨a4, n4, c4, rfl, hg4⟩ := hg4.lit
  have HO4 := HO3.turned ht4 (by show ¬ (w.heap.size = R); omega)
  have HT4 := HT3.trans ht4
  have hs4 : w3.heap.size ≤ w4.heap.size := ht4.size
  have HM2 : Hid (Turns (· = R) w (stores w4 w.heap.size 0 [.int .i64 (N : Int), .int .i64 (P : Int), .slice a4 n4 c4])) := turns_new (Nat.le_refl _) _ _ _ HT4
  have HQ : Own (stores w4 w.heap.size 0 [.int .i64 (N : Int), .int .i64 (P : Int), .slice a4 n4 c4]) w.heap.size 33 #[.int .i64 (N : Int), .int .i64 (P : Int), .slice a4 n4 c4] := HO4.fill (old := [_, _, _]) [.int .i64 (N : Int), .int .i64 (P : Int), .slice a4 n4 c4] rfl
  have HE : Hid (PartsG (stores w4 w.heap.size 0 [.int .i64 (N : Int), .int .i64 (P : Int), .slice a4 n4 c4]) (w.heap.size + 1) (.slice a4 n4 c4) ts ∧ w.heap.size < (stores w4 w.heap.size 0 [.int .i64 (N : Int), .int .i64 (P : Int), .slice a4 n4 c4]).heap.size) := ⟨(hg4.turned (stores_turns w.heap.size _ w4 w4 0 (Turns.refl _ _)) fun c h => by have h : c = w.heap.size := h; omega).mono (by omega), by rw [stores_size]; omega⟩
  obtain ⟨d0, d1, d2⟩ := HO4.loc.three
  have k0 := HO4.frozen 0
  have k1 := HO4.frozen 1
  have k2 := HO4.frozen 2
  clear HO3 HT3 hg4 ht4 HM HD3 HO4 HT4
  simp only [stores, Nat.reduceAdd] at HM2 HQ HE
  go_wp2
  generalize (((w4.setCell ⟨w.heap.size, 0, none⟩ (.int .i64 (N : Int))).setCell ⟨w.heap.size, 1, none⟩ (.int .i64 (P : Int))).setCell ⟨w.heap.size, 2, none⟩ (.slice a4 n4 c4)) = W at HM2 HQ HE ⊢
  obtain ⟨e0, e1, e2⟩ := HQ.loc.three
  exact bodyPost_ret (v := .agg #[.int .i64 (N : Int), .int .i64 (P : Int), .slice a4 n4 c4]) (by simp [results, Tryz.results58, go_sem, e0, e1, e2]) rfl ⟨_, rfl, HE.out.1, HE.out.2, HM2.out⟩

/-- (*impl.byteReader).batch -/
theorem batchR_any (R : Nat) (l : List UInt8) (w : World) (h : RdB w R l) :
    Calls Tryz.prog 58 #[.pointer (some ⟨R, 0, none⟩)] w fun e w' => ∃ v, e = .returned (.agg #[.int .i64 (rdB l).lsn, .int .i64 (rdB l).prev, v]) ∧ PartsG w' (w.heap.size + 1) v (rdB l).parts ∧ w.heap.size < w'.heap.size ∧ Turns (· = R) w w' :=
  batchR_aux R _ _ w l (l.drop 1) ((l.drop 1).drop 2) (((l.drop 1).drop 2).drop 2) _ h (fun u hu => (take_any R 1 l u hu (by omega)).mono fun e w' ⟨_, _, _, he, _, _, _, _, hd, ht⟩ => ⟨_, he, hd, ht⟩) (fun u hu => num_any R 2 _ u hu (by omega) (by omega)) (fun u hu => num_any R 2 _ u hu (by omega) (by omega)) (fun u hu => readParts_any R _ u hu)
end Go.Proofs.YtiijahoheajppaaGreat

namespace Go.Proofs.YtiijahoheajppaaGreat
open Go.ChangeShapes Go.WideShapes Go.ChangeAt Go.RowKit

set_option maxRecDepth 100000 in
set_option maxHeartbeats 4000000 in
/-- impl.readBytes of a batch -/
theorem readBytesB_any (b off cap : Nat) (l : List UInt8) (w : World) (hb : b < w.heap.size) (hlc : l.length ≤ cap) (hcm : cap ≤ maxLen) (hr : RowAt w (some ⟨b, off, none⟩) 1 (l.map byX)) :
    Calls Tryz.prog 57 #[.slice (some ⟨b, off, none⟩) l.length cap, .func (.func 58) #[] #[], .func (.func 35) #[] #[]] w fun e w' => ∃ (t : Btc) (v : Value) (q : Bool), e = .returned (.tuple #[.agg #[.int .i64 t.lsn, .int .i64 t.prev, v], .bool q]) ∧ isBat l t q ∧ PartsG w' w.heap.size v t.parts ∧ Below w.heap.size w w' := by
  have HR : Hid (RowAt w (some ⟨b, off, none⟩) 1 (l.map byX)) := hr
  have hb0 : Below w.heap.size w ((w.alloc (.cells #[.int .i64 0, .int .i64 0, .slice none 0 0] 33)).alloc (.cells #[.slice (some ⟨b, off, none⟩) l.length cap] 133)) := (by repeat (first | with_reducible exact Below.refl _ _ | with_reducible assumption | with_reducible refine ch_alloc ?_ _ | with_reducible refine Below.drew ?_ | with_reducible refine below_draws _ ?_ | (with_reducible refine Below.setCell ?_ ?_ _; rotate_left; focus (first | with_reducible exact Nat.le_refl _ | (simp; done) | (simp; omega) | (simp at *; omega))) | with_reducible refine ch_trans ?_ (by with_reducible assumption)))
  have hz0 : ((w.alloc (.cells #[.int .i64 0, .int .i64 0, .slice none 0 0] 33)).alloc (.cells #[.slice (some ⟨b, off, none⟩) l.length cap] 133)).heap.size = w.heap.size + 1 + 1 := by simp
  have HO0 : Own ((w.alloc (.cells #[.int .i64 0, .int .i64 0, .slice none 0 0] 33)).alloc (.cells #[.slice (some ⟨b, off, none⟩) l.length cap] 133)) w.heap.size 33 #[.int .i64 0, .int .i64 0, .slice none 0 0] := (Own.new _ _ _).on (ch_alloc (Below.refl _ _) _)
  have HRD : Hid (RdB ((w.alloc (.cells #[.int .i64 0, .int .i64 0, .slice none 0 0] 33)).alloc (.cells #[.slice (some ⟨b, off, none⟩) l.length cap] 133)) (w.heap.size + 1) l) := ⟨b, off, cap, Own.at _ _ _ (by simp), by omega, hlc, hcm, HR.out.on hb0⟩
  clear hr
  go_enter Tryz.func57, Tryz.ntmps57
  go_wp2_with fail
  refine (batchR_any (w.heap.size + 1) l _ HRD.out).mono ?_
  rintro e w1 ⟨v1, rfl, hg1, hlt1, ht⟩
  rw [hz0] at hg1 hlt1
  have hfit := rdB_fit l
  have HU : Hid (∀ u : Btc, u.right → batL u = l → u = rdB l) := fun u h1 h2 => by rw [← h2, rdB_bat u h1]
  generalize rdB l = t at hg1 hfit HU
  obtain ⟨a1, n1, c1, rfl, hg1⟩ := hg1.lit
  obtain ⟨_, _, e1, _, _, hps⟩ := hg1.read.lit
  cases e1
  have HG1 : Hid (PartsG w1 (w.heap.size + 1 + 1 + 1) (.slice a1 t.parts.length c1) t.parts) := hg1
  have HST : Hid (BatV w1 #[.int .i64 t.lsn, .int .i64 t.prev, .slice a1 t.parts.length c1] t) := ⟨_, _, rfl, hps⟩
  have HO1 := HO0.turned ht (by show ¬ (w.heap.size = w.heap.size + 1); omega)
  have hb1 : Below w.heap.size w w1 := hb0.trans (ht.toBelow (fun c h => by have h : c = w.heap.size + 1 := h; omega) (by omega))
  have hs1 : w.heap.size < w1.heap.size := HO1.lt
  clear hg1 hps ht HO0 hb0 hz0 HRD
  have hbu : Below w1.heap.size w1 (w1.alloc (.cells #[.int .i64 t.lsn, .int .i64 t.prev, .slice a1 t.parts.length c1] 33)) := (by repeat (first | with_reducible exact Below.refl _ _ | with_reducible assumption | with_reducible refine ch_alloc ?_ _ | with_reducible refine Below.drew ?_ | with_reducible refine below_draws _ ?_ | (with_reducible refine Below.setCell ?_ ?_ _; rotate_left; focus (first | with_reducible exact Nat.le_refl _ | (simp; done) | (simp; omega) | (simp at *; omega))) | with_reducible refine ch_trans ?_ (by with_reducible assumption)))
  obtain ⟨qr, Lr, hqr⟩ : ∃ (q : Bool) (L : List UInt8), (q = true ∧ t.right ∧ L = batL t) ∨ (q = false ∧ ¬ t.right ∧ L = []) := by
    by_cases h : t.right
    · exact ⟨true, _, Or.inl ⟨rfl, h, rfl⟩⟩
    · exact ⟨false, _, Or.inr ⟨rfl, h, rfl⟩⟩
  have hl1 := (Loc.new w1 #[.int .i64 t.lsn, .int .i64 t.prev, .slice a1 t.parts.length c1] 33)
  obtain ⟨p0, p1, p2⟩ := hl1.three
  go_wp2_with fail
  refine (packBytes_any #[.int .i64 t.lsn, .int .i64 t.prev, .slice a1 t.parts.length c1] t _ (HST.out.on hbu) hfit.1 qr Lr hqr).mono ?_
  rintro e w2 ⟨v2, rfl, b2, hg2⟩
  have hl2 := hl1.on b2
  have hbw2 : Below w1.heap.size w1 w2 := ch_trans hbu b2
  have HO2 := HO1.on hbw2
  have HE2 : Hid (PartsG w2 (w.heap.size + 1 + 1 + 1) (.slice a1 t.parts.length c1) t.parts) := HG1.out.on hbw2
  have hb2 : Below w.heap.size w w2 := ch_trans hb1 hbw2
  have hs2 : w1.heap.size ≤ w2.heap.size := hbw2.size
  obtain ⟨a2, n2, c2, rfl, hg2⟩ := hg2.lit2
  clear p0 p1 p2 HO1 hbu b2 hl1 HG1 HST hb1
  have HFAIL : Hid (∀ (w3 : World), Below w2.heap.size w2 w3 → Below w.heap.size w (stores (w3.alloc (.cells #[.int .i64 0, .int .i64 0, .slice none 0 0] 33)) w.heap.size 0 [.int .i64 0, .int .i64 0, .slice none 0 0]) ∧ Own (stores (w3.alloc (.cells #[.int .i64 0, .int .i64 0, .slice none 0 0] 33)) w.heap.size 0 [.int .i64 0, .int .i64 0, .slice none 0 0]) w.heap.size 33 #[.int .i64 0, .int .i64 0, .slice none 0 0]) := fun w3 h23 => by
    have h3 : Below w3.heap.size w3 (w3.alloc (.cells #[.int .i64 0, .int .i64 0, .slice none 0 0] 33)) := ch_alloc (Below.refl _ _) _
    exact ⟨stores_below (Nat.le_refl _) _ _ _ (ch_trans (ch_trans hb2 h23) h3), (HO2.on (ch_trans h23 h3)).fill (old := [_, _, _]) [.int .i64 0, .int .i64 0, .slice none 0 0] rfl⟩
  rcases hqr with ⟨rfl, hok, rfl⟩ | ⟨rfl, hok, rfl⟩
  rotate_left
  · have HI : Hid (isBat l Btc.zero false) := Or.inr ⟨rfl, fun u h1 h2 => by
      have e := HU.out u h1 h2
      subst e
      exact hok h1, rfl⟩
    clear hg2 hok HU HR HE2
    have HBO := HFAIL.out w2 (Below.refl w2.heap.size w2)
    have HO3 := HO2.on (ch_trans (Below.refl w2.heap.size w2) (ch_alloc (Below.refl w2.heap.size w2) (.cells #[.int .i64 0, .int .i64 0, .slice none 0 0] 33)))
    obtain ⟨d0, d1, d2⟩ := HO3.loc.three
    have k0 := HO3.frozen 0
    have k1 := HO3.frozen 1
    have k2 := HO3.frozen 2
    have HBd : Hid _ := HBO.1
    have hQ := HBO.2
    clear HBO HFAIL HO3 HO2
    simp only [stores, Nat.reduceAdd] at hQ HBd
    go_wp2
    generalize ((((w2.alloc (.cells #[.int .i64 0, .int .i64 0, .slice none 0 0] 33)).setCell ⟨w.heap.size, 0, none⟩ (.int .i64 0)).setCell ⟨w.heap.size, 1, none⟩ (.int .i64 0)).setCell ⟨w.heap.size, 2, none⟩ (.slice none 0 0)) = W at hQ HBd ⊢
    obtain ⟨e0, e1, e2⟩ := hQ.loc.three
    exact bodyPost_ret (v := .tuple #[.agg #[.int .i64 0, .int .i64 0, .slice none 0 0], .bool false]) (by simp [results, Tryz.results57, go_sem, e0, e1, e2]) rfl ⟨Btc.zero, _, false, rfl, HI.out, PartsG.nil _ _, HBd.out⟩
  · obtain ⟨bb, bo, bc, e2, hr2⟩ := hg2.someV (by simp [batL, batB])
    cases e2
    have HE : Hid (Calls Tryz.prog 79 #[.slice (some ⟨bb, bo, none⟩) (batL t).length c2, .slice (some ⟨b, off, none⟩) l.length cap] w2 fun e w' => ∃ q : Bool, e = .returned (.bool q) ∧ (q = true ↔ batL t = l) ∧ Below w2.heap.size w2 w') := bytesEqual_any _ _ (batL t) l w2 ⟨bb, bo, c2, rfl, hr2⟩ ⟨b, off, cap, rfl, HR.out.on hb2⟩
    have HOK : Hid t.right := hok
    clear hg2 hr2 hok HR
    generalize (batL t).length = nl at HE ⊢
    go_wp2_with fail
    refine HE.out.mono ?_
    rintro e w3 ⟨q, rfl, hq, b3⟩
    have HQ : Hid (q = true ↔ batL t = l) := hq
    clear hq HE
    cases q with
    | true =>
      have HI : Hid (isBat l t true) := Or.inl ⟨rfl, HOK.out, HQ.out.1 rfl⟩
      obtain ⟨p0, p1, p2⟩ := (hl2.on b3).three
      have HO3 := HO2.on b3
      obtain ⟨d0, d1, d2⟩ := HO3.loc.three
      have k0 := HO3.frozen 0
      have k1 := HO3.frozen 1
      have k2 := HO3.frozen 2
      have hQ : Own (stores w3 w.heap.size 0 [.int .i64 t.lsn, .int .i64 t.prev, .slice a1 t.parts.length c1]) w.heap.size 33 #[.int .i64 t.lsn, .int .i64 t.prev, .slice a1 t.parts.length c1] := HO3.fill (old := [_, _, _]) [.int .i64 t.lsn, .int .i64 t.prev, .slice a1 t.parts.length c1] rfl
      have HGd : Hid (PartsG (stores w3 w.heap.size 0 [.int .i64 t.lsn, .int .i64 t.prev, .slice a1 t.parts.length c1]) w.heap.size (.slice a1 t.parts.length c1) t.parts) := ((HE2.out.on b3).turned (stores_turns w.heap.size _ w3 w3 0 (Turns.refl _ _)) fun c h => by have h : c = w.heap.size := h; omega).mono (by omega)
      have HBd : Hid (Below w.heap.size w (stores w3 w.heap.size 0 [.int .i64 t.lsn, .int .i64 t.prev, .slice a1 t.parts.length c1])) := stores_below (Nat.le_refl _) _ _ _ (ch_trans hb2 b3)
      clear HFAIL HO3 HO2 HQ HU HE2 b3 hl2 HOK
      simp only [stores, Nat.reduceAdd] at hQ HBd HGd
      go_wp2
      generalize (((w3.setCell ⟨w.heap.size, 0, none⟩ (.int .i64 t.lsn)).setCell ⟨w.heap.size, 1, none⟩ (.int .i64 t.prev)).setCell ⟨w.heap.size, 2, none⟩ (.slice a1 t.parts.length c1)) = W at hQ HBd HGd ⊢
      obtain ⟨e0, e1, e2⟩ := hQ.loc.three
      exact bodyPost_ret (v := .tuple #[.agg #[.int .i64 t.lsn, .int .i64 t.prev, .slice a1 t.parts.length c1], .bool true]) (by simp [results, Tryz.results57, go_sem, e0, e1, e2]) rfl ⟨t, _, true, rfl, HI.out, HGd.out, HBd.out⟩
    | false =>
      have HI : Hid (isBat l Btc.zero false) := Or.inr ⟨rfl, fun u h1 h2 => by
        have e := HU.out u h1 h2
        subst e
        exact absurd (HQ.out.2 h2) (by simp), rfl⟩
      clear HQ HU HE2 hl2 HOK
      have HBO := HFAIL.out w3 (b3)
      have HO3 := HO2.on (ch_trans (b3) (ch_alloc (Below.refl w3.heap.size w3) (.cells #[.int .i64 0, .int .i64 0, .slice none 0 0] 33)))
      obtain ⟨d0, d1, d2⟩ := HO3.loc.three
      have k0 := HO3.frozen 0
      have k1 := HO3.frozen 1
      have k2 := HO3.frozen 2
      have HBd : Hid _ := HBO.1
      have hQ := HBO.2
      clear HBO HFAIL HO3 HO2
      simp only [stores, Nat.reduceAdd] at hQ HBd
      go_wp2
      generalize ((((w3.alloc (.cells #[.int .i64 0, .int .i64 0, .slice none 0 0] 33)).setCell ⟨w.heap.size, 0, none⟩ (.int .i64 0)).setCell ⟨w.heap.size, 1, none⟩ (.int .i64 0)).setCell ⟨w.heap.size, 2, none⟩ (.slice none 0 0)) = W at hQ HBd ⊢
      obtain ⟨e0, e1, e2⟩ := hQ.loc.three
      exact bodyPost_ret (v := .tuple #[.agg #[.int .i64 0, .int .i64 0, .slice none 0 0], .bool false]) (by simp [results, Tryz.results57, go_sem, e0, e1, e2]) rfl ⟨Btc.zero, _, false, rfl, HI.out, PartsG.nil _ _, HBd.out⟩

set_option maxRecDepth 100000 in
set_option maxHeartbeats 1000000 in
/-- impl.PackRead -/
theorem packRead_impl (b off cap : Nat) (l : List UInt8) (w : World) (hb : b < w.heap.size) (hlc : l.length ≤ cap) (hcm : cap ≤ maxLen) (hr : RowAt w (some ⟨b, off, none⟩) 1 (l.map byX)) :
    Calls Tryz.prog 26 #[.agg #[.slice (some ⟨b, off, none⟩) l.length cap]] w fun e w' => ∃ (t : Btc) (v : Value) (q : Bool), e = .returned (.tuple #[.agg #[.int .i64 t.lsn, .int .i64 t.prev, v], .bool q]) ∧ isBat l t q ∧ PartsG w' w.heap.size v t.parts ∧ Below w.heap.size w w' := by
  have hz0 : ((w.alloc (.cells #[.slice (some ⟨b, off, none⟩) l.length cap] 28)).alloc (.cells #[.int .i64 0, .int .i64 0, .slice none 0 0] 33)).heap.size = w.heap.size + 1 + 1 := by simp
  have hb0 : Below w.heap.size w ((w.alloc (.cells #[.slice (some ⟨b, off, none⟩) l.length cap] 28)).alloc (.cells #[.int .i64 0, .int .i64 0, .slice none 0 0] 33)) := (by repeat (first | with_reducible exact Below.refl _ _ | with_reducible assumption | with_reducible refine ch_alloc ?_ _ | with_reducible refine Below.drew ?_ | with_reducible refine below_draws _ ?_ | (with_reducible refine Below.setCell ?_ ?_ _; rotate_left; focus (first | with_reducible exact Nat.le_refl _ | (simp; done) | (simp; omega) | (simp at *; omega))) | with_reducible refine ch_trans ?_ (by with_reducible assumption)))
  have HO0 : Own ((w.alloc (.cells #[.slice (some ⟨b, off, none⟩) l.length cap] 28)).alloc (.cells #[.int .i64 0, .int .i64 0, .slice none 0 0] 33)) (w.heap.size + 1) 33 #[.int .i64 0, .int .i64 0, .slice none 0 0] := Own.at _ _ _ (by simp)
  have HB : Hid (∀ u : World, Below w.heap.size w u → Calls Tryz.prog 57 #[.slice (some ⟨b, off, none⟩) l.length cap, .func (.func 58) #[] #[], .func (.func 35) #[] #[]] u fun e w' => ∃ (t : Btc) (v : Value) (q : Bool), e = .returned (.tuple #[.agg #[.int .i64 t.lsn, .int .i64 t.prev, v], .bool q]) ∧ isBat l t q ∧ PartsG w' u.heap.size v t.parts ∧ Below u.heap.size u w') := fun u hu => readBytesB_any b off cap l u (Nat.lt_of_lt_of_le hb hu.size) hlc hcm (hr.on hu)
  clear hr
  go_enter Tryz.func26, Tryz.ntmps26
  go_wp2_with fail
  refine (HB.out _ hb0).mono ?_
  rintro e w1 ⟨t, v, q, rfl, hi, hg, b1⟩
  rw [hz0] at hg
  obtain ⟨a1, n1, c1, rfl, hg⟩ := hg.lit
  have HI : Hid (isBat l t q) := hi
  have HO1 := HO0.on b1
  have hQ : Own (stores w1 (w.heap.size + 1) 0 [.int .i64 t.lsn, .int .i64 t.prev, .slice a1 n1 c1]) (w.heap.size + 1) 33 #[.int .i64 t.lsn, .int .i64 t.prev, .slice a1 n1 c1] := HO1.fill (old := [_, _, _]) [.int .i64 t.lsn, .int .i64 t.prev, .slice a1 n1 c1] rfl
  have HGd : Hid (PartsG (stores w1 (w.heap.size + 1) 0 [.int .i64 t.lsn, .int .i64 t.prev, .slice a1 n1 c1]) w.heap.size (.slice a1 n1 c1) t.parts) := (hg.turned (stores_turns (w.heap.size + 1) _ w1 w1 0 (Turns.refl _ _)) fun c h => by have h : c = w.heap.size + 1 := h; omega).mono (by omega)
  have HBd : Hid (Below w.heap.size w (stores w1 (w.heap.size + 1) 0 [.int .i64 t.lsn, .int .i64 t.prev, .slice a1 n1 c1])) := stores_below (by omega) _ _ _ (ch_trans hb0 b1)
  obtain ⟨d0, d1, d2⟩ := HO1.loc.three
  have k0 := HO1.frozen 0
  have k1 := HO1.frozen 1
  have k2 := HO1.frozen 2
  clear HO1 HO0 hg b1 hb0 HB hi
  simp only [stores, Nat.reduceAdd] at hQ HBd HGd
  go_wp2
  generalize (((w1.setCell ⟨w.heap.size + 1, 0, none⟩ (.int .i64 t.lsn)).setCell ⟨w.heap.size + 1, 1, none⟩ (.int .i64 t.prev)).setCell ⟨w.heap.size + 1, 2, none⟩ (.slice a1 n1 c1)) = W at hQ HBd HGd ⊢
  obtain ⟨e0, e1, e2⟩ := hQ.loc.three
  exact bodyPost_ret (v := .tuple #[.agg #[.int .i64 t.lsn, .int .i64 t.prev, .slice a1 n1 c1], .bool q]) (by simp [results, Tryz.results26, go_sem, e0, e1, e2]) rfl ⟨t, _, q, rfl, HI.out, HGd.out, HBd.out⟩
end Go.Proofs.YtiijahoheajppaaGreat

namespace Go.Proofs.YtiijahoheajppaaGreat
open Go.ChangeShapes Go.WideShapes Go.ChangeAt Go.RowKit

/-- A text of n bytes from a place on, and the place behind it. -/
def spT (n : Nat) (l : List UInt8) (p : Nat) : ByteArray × Nat := if p + n ≤ l.length then (⟨((l.drop p).take n).toArray⟩, p + n) else (⟨#[]⟩, l.length + 1)
/-- A value from a place on, and the place behind it. -/
def spV (l : List UInt8) (p : Nat) : Vc × Nat :=
  if rdN 1 (l.drop p) = 1 then (⟨1, (rdN 1 (l.drop (p + 1)) : Int), ⟨#[]⟩⟩, p + 1 + 1)
  else if rdN 1 (l.drop p) = 2 then (⟨2, if rdN 1 (l.drop (p + 1)) = 1 then -(rdN 6 (l.drop (p + 1 + 1)) : Int) else (rdN 6 (l.drop (p + 1 + 1)) : Int), ⟨#[]⟩⟩, p + 1 + 1 + 6)
  else if rdN 1 (l.drop p) = 3 then (⟨3, 0, (spT (rdN 1 (l.drop (p + 1))) l (p + 1 + 1)).1⟩, (spT (rdN 1 (l.drop (p + 1))) l (p + 1 + 1)).2)
  else (⟨(rdN 1 (l.drop p) : Int), 0, ⟨#[]⟩⟩, p + 1)
def spVs : Nat → List UInt8 → Nat → List Vc × Nat
  | 0, _, p => ([], p)
  | n + 1, l, p => ((spV l p).1 :: (spVs n l (spV l p).2).1, (spVs n l (spV l p).2).2)
/-- The given reader at R stands at place p of l. -/
def SdB (w : World) (R : Nat) (l : List UInt8) (p : Nat) : Prop := ∃ b off cap, Own w R 78 #[.slice (some ⟨b, off, none⟩) l.length cap, .int .i64 (p : Int)] ∧ b < R ∧ l.length ≤ cap ∧ cap ≤ maxLen ∧ RowAt w (some ⟨b, off, none⟩) 1 (l.map byX)
theorem SdB.on {w w' : World} {R p : Nat} {l : List UInt8} (h : SdB w R l p) (k : Below w.heap.size w w') : SdB w' R l p := by
  obtain ⟨b, off, cap, h1, h2, h3, h4, h5⟩ := h
  exact ⟨b, off, cap, h1.on k, h2, h3, h4, h5.on k⟩
theorem SdB.move {w : World} {R p : Nat} {l : List UInt8} (h : SdB w R l p) (q : Nat) : SdB (w.setCell ⟨R, 1, none⟩ (.int .i64 (q : Int))) R l q := by
  obtain ⟨b, off, cap, h1, h2, h3, h4, h5⟩ := h
  exact ⟨b, off, cap, h1.set 1 _, h2, h3, h4, h5.set (fun q hq => by cases hq; exact Nat.ne_of_lt h2) _⟩
theorem SdB.moveI {w : World} {R p : Nat} {l : List UInt8} (h : SdB w R l p) (q : Nat) (i : Int) (hi : i = (q : Int)) : SdB (w.setCell ⟨R, 1, none⟩ (.int .i64 i)) R l q := hi ▸ h.move q
theorem SdB.draws {w : World} {R p : Nat} {l : List UInt8} (h : SdB w R l p) (k : Nat) : SdB (w.drewN k) R l p := h.on (below_draws _ (Below.refl _ _))
theorem Turns.draws {S : Nat → Prop} {a b : World} (h : Turns S a b) (k : Nat) : Turns S a (b.drewN k) := h.below (below_draws _ (Below.refl _ _))
theorem SdB.other {w : World} {R p : Nat} {l : List UInt8} (h : SdB w R l p) {a : Addr} (hp : R < a.block) (u : Value) : SdB (w.setCell a u) R l p := by
  obtain ⟨b, off, cap, ho, hb, h3, h4, hr⟩ := h
  exact ⟨b, off, cap, ho.other (by omega) u, hb, h3, h4, hr.set (fun q hq => by cases hq; show b ≠ a.block; omega) u⟩
set_option maxRecDepth 100000 in
set_option maxHeartbeats 1000000 in
/-- spec.l06Take -/
theorem l06Take_any (R s p : Nat) (l : List UInt8) (w : World) (h : SdB w R l p) (h1 : 1 ≤ s) (h6 : s ≤ 6) (hp : p ≤ 1000000000) :
    Calls Tryz.prog 39 #[.pointer (some ⟨R, 0, none⟩), .int .i64 (s : Int)] w fun e w' => e = .returned (.int .i64 (rdN s (l.drop p) : Int)) ∧ SdB w' R l (p + s) ∧ Turns (· = R) w w' := by
  have HS : Hid (SdB w R l p) := h
  obtain ⟨b, off, cap, ho, hbR, hlc, hcm, hr⟩ := h
  have HB : Hid (BytesV w (.slice (some ⟨b, off, none⟩) l.length cap) l) := ⟨_, _, rfl, hlc, hcm, hr⟩
  obtain ⟨g, hg⟩ : ∃ g : Bool, (g = true ∧ okGet l (p : Int) (s : Int) ∧ rdN s (l.drop p) = getL l ((p : Int)).toNat ((s : Int)).toNat) ∨ (g = false ∧ ¬ okGet l (p : Int) (s : Int) ∧ rdN s (l.drop p) = 0) := by
    by_cases hs : p + s ≤ l.length
    · refine ⟨true, Or.inl ⟨rfl, ⟨by omega, by omega, by omega, by omega⟩, ?_⟩⟩
      unfold rdN getL
      rw [if_pos (by simp; omega)]
      simp
    · refine ⟨false, Or.inr ⟨rfl, fun hh => ?_, ?_⟩⟩
      · have := hh.2.2.2
        omega
      · unfold rdN
        rw [if_neg (by simp; omega)]
  have HGN : Hid (∀ (u : World) (v : Value), BytesV u v l → Calls Tryz.prog 77 #[v, .int .i64 (p : Int), .int .i64 (s : Int)] u fun e w' => e = .returned (.tuple #[.int .i64 (rdN s (l.drop p) : Int), .bool g]) ∧ Below u.heap.size u w') := fun u v hu => getNum_spec v l p s u hu ⟨by omega, by omega⟩ ⟨by omega, by omega⟩ g (rdN s (l.drop p)) hg
  have g0 := ho.loc.two
  obtain ⟨c0, c1⟩ := g0
  clear hg hr
  generalize rdN s (l.drop p) = N at HGN ⊢
  go_enter Tryz.func39, Tryz.ntmps39
  go_wp2_with fail
  go_region_with (go_at_call 77; refine (HGN.out _ _ (HB.out.on (by repeat (first | with_reducible exact Below.refl _ _ | with_reducible assumption | with_reducible refine ch_alloc ?_ _ | with_reducible refine Below.drew ?_ | with_reducible refine below_draws _ ?_ | (with_reducible refine Below.setCell ?_ ?_ _; rotate_left; focus (first | with_reducible exact Nat.le_refl _ | (simp; done) | (simp; omega) | (simp at *; omega))) | with_reducible refine ch_trans ?_ (by with_reducible assumption))))).mono ?_; rintro e w1 ⟨rfl, b1⟩; have HO1 := ho.on (w' := w1) (by repeat (first | with_reducible exact Below.refl _ _ | with_reducible assumption | with_reducible refine ch_alloc ?_ _ | with_reducible refine Below.drew ?_ | with_reducible refine below_draws _ ?_ | (with_reducible refine Below.setCell ?_ ?_ _; rotate_left; focus (first | with_reducible exact Nat.le_refl _ | (simp; done) | (simp; omega) | (simp at *; omega))) | with_reducible refine ch_trans ?_ (by with_reducible assumption))); have HS1 : Hid (SdB w1 R l p) := HS.out.on (by repeat (first | with_reducible exact Below.refl _ _ | with_reducible assumption | with_reducible refine ch_alloc ?_ _ | with_reducible refine Below.drew ?_ | with_reducible refine below_draws _ ?_ | (with_reducible refine Below.setCell ?_ ?_ _; rotate_left; focus (first | with_reducible exact Nat.le_refl _ | (simp; done) | (simp; omega) | (simp at *; omega))) | with_reducible refine ch_trans ?_ (by with_reducible assumption))); have HT1 : Hid (Turns (· = R) w w1) := (Turns.refl (· = R) w).below (show Below w.heap.size w w1 from (by repeat (first | with_reducible exact Below.refl _ _ | with_reducible assumption | with_reducible refine ch_alloc ?_ _ | with_reducible refine Below.drew ?_ | with_reducible refine below_draws _ ?_ | (with_reducible refine Below.setCell ?_ ?_ _; rotate_left; focus (first | with_reducible exact Nat.le_refl _ | (simp; done) | (simp; omega) | (simp at *; omega))) | with_reducible refine ch_trans ?_ (by with_reducible assumption)))); obtain ⟨d0, d1⟩ := HO1.loc.two; have i1 := HO1.frozen 1)
  all_goals
    have HS2 : Hid (SdB (w1.setCell ⟨R, 1, none⟩ (.int .i64 ((p + s : Nat) : Int))) R l (p + s)) := HS1.out.move (p + s)
    have HT2 : Hid (Turns (· = R) w (w1.setCell ⟨R, 1, none⟩ (.int .i64 ((p + s : Nat) : Int)))) := HT1.out.set rfl _
    rw [show ((p + s : Nat) : Int) = (p : Int) + (s : Int) by omega] at HS2 HT2
    go_wp2
    go_ret
    exact ⟨rfl, HS2.out, HT2.out⟩
set_option maxRecDepth 100000 in
set_option maxHeartbeats 1000000 in
/-- spec.l06Text -/
theorem l06Text_any (R n p : Nat) (l : List UInt8) (w : World) (h : SdB w R l p) (hn : n ≤ 255) (hp : p ≤ 1000000000) (hl : l.length ≤ 1048576) :
    Calls Tryz.prog 40 #[.pointer (some ⟨R, 0, none⟩), .int .i64 (n : Int)] w fun e w' => e = .returned (.string (spT n l p).1) ∧ SdB w' R l (spT n l p).2 ∧ Turns (· = R) w w' := by
  have HS : Hid (SdB w R l p) := h
  obtain ⟨b, off, cap, ho, hbR, hlc, hcm, hr⟩ := h
  have hcm' := hcm
  unfold maxLen at hcm'
  obtain ⟨c0, c1⟩ := ho.loc.two
  have i1 := ho.frozen 1
  by_cases hin : p + n ≤ l.length
  · have e : spT n l p = (⟨((l.drop p).take n).toArray⟩, p + n) := by unfold spT; rw [if_pos hin]
    rw [e]
    have h1 : decide ((l.length : Int) - (p : Int) < (n : Int)) = false := decide_eq_false (by omega)
    have h2 : decide ((l.length : Int) < (p : Int)) = false := decide_eq_false (by omega)
    have HS2 : Hid (SdB (w.setCell ⟨R, 1, none⟩ (.int .i64 ((p : Int) + (n : Int)))) R l (p + n)) := by
      have := HS.out.move (p + n)
      rwa [show ((p + n : Nat) : Int) = (p : Int) + (n : Int) by omega] at this
    have HT2 : Hid (Turns (· = R) w (w.setCell ⟨R, 1, none⟩ (.int .i64 ((p : Int) + (n : Int))))) := (Turns.refl (· = R) w).set rfl _
    have HR2 : Hid (RowAt (w.setCell ⟨R, 1, none⟩ (.int .i64 ((p : Int) + (n : Int)))) (some ⟨b, off + p, none⟩) 1 (((l.drop p).take n).map byX)) := row_take (row_drop (hr.set (fun q hq => by cases hq; exact Nat.ne_of_lt hbR) _))
    have hlt : ((l.drop p).take n).length = n := by simp; omega
    clear e
    clear HS2 HT2 HR2
    by_cases hcp : cap = p
    · obtain rfl : n = 0 := by omega
      have e0 : (l.drop p).take 0 = [] := rfl
      rw [e0]
      subst hcp
      have h3 : decide (l.length < cap) = false := decide_eq_false (by omega)
      have h4 : decide ((l.length : Int) < (cap : Int)) = false := decide_eq_false (by omega)
      have h5 : decide ((l.length : Int) - (cap : Int) < 0) = false := decide_eq_false (by omega)
      clear h1 h2 hlt
      go_enter Tryz.func40, Tryz.ntmps40
      go_wp2
      go_quiet (fail)
      go_wp2
      have hcv := fun k : Nat => conv_back (((w.drewN nq).setCell ⟨R, 1, none⟩ (.int .i64 ((cap : Int)))).drewN k) b off 0 [] (RowAt.nil _ _ _)
      rw [List.length_nil] at hcv
      go_quiet (fail)
      go_wp2
      go_ret
      exact ⟨rfl, ((HS.out.draws _).moveI _ _ (by omega)).draws _, (((Turns.refl (· = R) w).draws _).set rfl _).draws _⟩
    · have hcp2 : p < cap := by omega
      go_enter Tryz.func40, Tryz.ntmps40
      go_wp2
      go_quiet (fail)
      go_wp2
      have hcv := fun k : Nat => conv_back (((w.drewN nq).setCell ⟨R, 1, none⟩ (.int .i64 ((p : Int) + (n : Int)))).drewN k) b (off + p) (cap - p) ((l.drop p).take n) ((row_take (row_drop ((hr.on (below_draws _ (Below.refl _ _))).set (fun q hq => by cases hq; exact Nat.ne_of_lt hbR) _))).on (below_draws _ (Below.refl _ _)))
      rw [hlt] at hcv
      go_quiet (fail)
      go_wp2
      go_ret
      exact ⟨rfl, ((HS.out.draws _).moveI _ _ (by omega)).draws _, (((Turns.refl (· = R) w).draws _).set rfl _).draws _⟩
  · have e : spT n l p = (⟨#[]⟩, l.length + 1) := by unfold spT; rw [if_neg hin]
    rw [e]
    have h1 : decide ((l.length : Int) - (p : Int) < (n : Int)) = true := decide_eq_true (by omega)
    clear e hin
    go_enter Tryz.func40, Tryz.ntmps40
    go_wp2
    go_quiet (fail)
    go_wp2
    go_ret
    exact ⟨rfl, (HS.out.draws _).moveI _ _ (by omega), ((Turns.refl (· = R) w).draws _).set rfl _⟩
end Go.Proofs.YtiijahoheajppaaGreat
