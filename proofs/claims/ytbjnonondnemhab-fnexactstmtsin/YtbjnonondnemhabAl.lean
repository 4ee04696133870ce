/- Rows of a call's own, told by their places. append to a row of the call's own: where it lies afterwards; rows shortened in place. -/
import Derived.Test.YtbjnonondnemhabPo
import Derived.Test.YtbjnonondnemhabSl
import Derived.Test.YtbjnonondnemhabFl
namespace Go.Proofs.Ytbjnonondnemhab
open Go.ChangeShapes Go.WideShapes Go.ChangeAt Go.RowKit

theorem leaves_nodup (b : Nat) (κ : Nat → Nat) : ∀ M, ((upTo (fun c => [((⟨b, c, none⟩, κ c) : Plc)]) M).map (·.1)).Nodup
  | 0 => by simp [upTo]
  | M + 1 => by
    rw [upTo_succ, List.map_append, List.nodup_append]
    refine ⟨leaves_nodup b κ M, by simp, fun a ha c hc e => ?_⟩
    simp at hc
    subst hc
    subst e
    obtain ⟨p, hp, e⟩ := List.mem_map.1 ha
    obtain ⟨q, hq, hp⟩ := List.mem_flatMap.1 hp
    rw [List.mem_range] at hq
    simp at hp
    subst hp
    simp at e
    omega
theorem Got.leaves {w : World} {B : Nat} {T : TypeId} {κs : List Nat} {v : Value} {xs : List (Array Value)} (h : Got w B T κs.length v xs) (hl : xs.length ≤ 1048576) (hκ : ∀ x ∈ xs, ∀ j (hj : j < κs.length) u, x[j]? = some u → leafK κs[j] u) :
    ∃ ps : List Plc, (ps.map (·.1)).Nodup ∧ (∀ p ∈ ps, v.ownBlock = some p.1.block) ∧ ∀ u : World, (∀ g, v.ownBlock = some g → u.heap[g]? = w.heap[g]?) → RowP T (κs.map LeafP) u v ps ∧ Got u B T κs.length v xs := by
  obtain ⟨h0, h1, h2⟩ := h
  rcases h2 with ⟨rfl, hn⟩ | ⟨g, cap, cur, rfl, hb, hg, hc1, hc2, hs, ht⟩
  · exact ⟨[], by simp, by simp, fun u _ => ⟨Or.inl ⟨rfl, rfl⟩, h0, h1, Or.inl ⟨rfl, hn⟩⟩⟩
  · refine ⟨upTo (fun c => [((⟨g, c, none⟩, κs.getD (c % κs.length) 0) : Plc)]) (xs.length * κs.length), leaves_nodup g _ _, fun p hp => ?_, fun u hu => ?_⟩
    · obtain ⟨q, hq, hp⟩ := List.mem_flatMap.1 hp
      simp at hp; subst hp; rfl
    · have hgu := (hu g rfl).trans hg
      refine ⟨Or.inr ⟨g, xs.length, cap, cap * κs.length, fun i => cur.getD i default, fun c => [((⟨g, c, none⟩, κs.getD (c % κs.length) 0) : Plc)], rfl, hl, ⟨cur, hgu, hs, fun i hi => by simp [Array.getD, hs, hi]⟩, by rw [List.length_map]; exact Nat.mul_le_mul_right _ hc1, by rw [List.length_map], fun i hi j hj => ?_⟩, h0, h1, Or.inr ⟨g, cap, cur, rfl, hb, hgu, hc1, hc2, hs, ht⟩⟩
      rw [List.length_map] at hj
      have hlt : i * κs.length + j < xs.length * κs.length := by
        have : (i + 1) * κs.length ≤ xs.length * κs.length := Nat.mul_le_mul_right _ hi
        rw [Nat.add_mul, Nat.one_mul] at this
        omega
      have hle : xs.length * κs.length ≤ cap * κs.length := Nat.mul_le_mul_right _ hc1
      simp only [List.getElem_map, List.length_map]
      have hmod : (i * κs.length + j) % κs.length = j := by rw [Nat.mul_comm, Nat.mul_add_mod, Nat.mod_eq_of_lt hj]
      refine ⟨?_, by rw [hmod, List.getD_eq_getElem?_getD, List.getElem?_eq_getElem hj]; rfl⟩
      have e1 := flat_at xs h0 i hi j hj
      rw [← ht, List.getElem?_take, if_pos hlt, Array.getElem?_toList, Array.getElem?_eq_getElem (by omega)] at e1
      have e2 : cur.getD (i * κs.length + j) default = cur[i * κs.length + j]'(by omega) := by simp [Array.getD, show i * κs.length + j < cur.size by omega]
      show leafK _ (cur.getD (i * κs.length + j) default)
      rw [e2]
      exact hκ _ (List.getElem_mem hi) j hj _ e1.symm
theorem Got.valsV {w : World} {B : Nat} {T : TypeId} {v : Value} {vs : List Vc} (h : Got w B T 3 v (vs.map Vc.cells)) : ValsV w v vs := by
  obtain ⟨a, cap, e, h1, h2, h3, _⟩ := h.row
  exact ⟨a, cap, by simpa using e, by simpa using h1, h2, h3⟩
theorem Got.ownVals {w : World} {B : Nat} {v : Value} {vs : List Vc} (h : Got w B 84 3 v (vs.map Vc.cells)) (hl : vs.length ≤ 1048576) : ∃ ps : List Plc, (ps.map (·.1)).Nodup ∧ (∀ p ∈ ps, v.ownBlock = some p.1.block) ∧ ∀ u : World, (∀ g, v.ownBlock = some g → u.heap[g]? = w.heap[g]?) → ValsV u v vs ∧ ValsP u v ps := by
  obtain ⟨ps, h1, h2, h3⟩ := Got.leaves (κs := [0, 0, 1]) h (by simpa using hl) (fun x hx j hj u hu => by
    obtain ⟨c, _, rfl⟩ := List.mem_map.1 hx
    match j, hj with
    | 0, _ => simp at hu; subst hu; exact ⟨_, rfl⟩
    | 1, _ => simp at hu; subst hu; exact ⟨_, rfl⟩
    | 2, _ => simp at hu; subst hu; exact ⟨_, rfl⟩)
  exact ⟨ps, h1, h2, fun u hu => ⟨(h3 u hu).2.valsV, (h3 u hu).1⟩⟩
theorem Got.ownCols {w : World} {B : Nat} {v : Value} {vs : List Cl} (h : Got w B 86 7 v (vs.map Cl.cells)) (hl : vs.length ≤ 1048576) : ∃ ps : List Plc, (ps.map (·.1)).Nodup ∧ (∀ p ∈ ps, v.ownBlock = some p.1.block) ∧ ∀ u : World, (∀ g, v.ownBlock = some g → u.heap[g]? = w.heap[g]?) → ColsV u v vs ∧ ColsP u v ps := by
  obtain ⟨ps, h1, h2, h3⟩ := Got.leaves (κs := [1, 0, 2, 2, 0, 0, 1]) h (by simpa using hl) (fun x hx j hj u hu => by
    obtain ⟨c, _, rfl⟩ := List.mem_map.1 hx
    match j, hj with
    | 0, _ => simp at hu; subst hu; exact ⟨_, rfl⟩
    | 1, _ => simp at hu; subst hu; exact ⟨_, rfl⟩
    | 2, _ => simp at hu; subst hu; exact ⟨_, rfl⟩
    | 3, _ => simp at hu; subst hu; exact ⟨_, rfl⟩
    | 4, _ => simp at hu; subst hu; exact ⟨_, rfl⟩
    | 5, _ => simp at hu; subst hu; exact ⟨_, rfl⟩
    | 6, _ => simp at hu; subst hu; exact ⟨_, rfl⟩)
  exact ⟨ps, h1, h2, fun u hu => ⟨(h3 u hu).2.cols, (h3 u hu).1⟩⟩
theorem Got.ownStrs {w : World} {B : Nat} {v : Value} {vs : List ByteArray} (h : Got w B 9 1 v (vs.map strX)) (hl : vs.length ≤ 1048576) : ∃ ps : List Plc, (ps.map (·.1)).Nodup ∧ (∀ p ∈ ps, v.ownBlock = some p.1.block) ∧ ∀ u : World, (∀ g, v.ownBlock = some g → u.heap[g]? = w.heap[g]?) → StrsV u v vs ∧ StrsP u v ps := by
  obtain ⟨ps, h1, h2, h3⟩ := Got.leaves (κs := [1]) h (by simpa using hl) (fun x hx j hj u hu => by
    obtain ⟨c, _, rfl⟩ := List.mem_map.1 hx
    match j, hj with
    | 0, _ => simp at hu; subst hu; exact ⟨_, rfl⟩)
  exact ⟨ps, h1, h2, fun u hu => ⟨(h3 u hu).2.strs, (h3 u hu).1⟩⟩

/-- A statement of a call's own: its parts, and their places; all lies in the blocks from lo to hi. -/
structure Est where
  s : Sc
  k : Value
  r : Value
  c : Value
  o : Value
  p2 : List Plc
  p3 : List Plc
  p6 : List Plc
  p7 : List Plc
  lo : Nat
  hi : Nat
abbrev Est.cells (e : Est) : Array Value := e.s.cells e.k e.r e.c e.o
def Est.pl (e : Est) : List Plc := e.p2 ++ e.p3 ++ e.p6 ++ e.p7
def Est.reads (e : Est) (u : World) : Prop := (ValsV u e.k e.s.key ∧ ValsP u e.k e.p2) ∧ (ValsV u e.r e.s.row ∧ ValsP u e.r e.p3) ∧ (ColsV u e.c e.s.ddl.cols ∧ ColsP u e.c e.p6) ∧ (StrsV u e.o e.s.ddl.keys ∧ StrsP u e.o e.p7)
structure Est.Good (w : World) (e : Est) : Prop where
  le : e.lo ≤ e.hi
  top : e.hi ≤ w.heap.size
  reads : ∀ u : World, (∀ b, e.lo ≤ b → b < e.hi → u.heap[b]? = w.heap[b]?) → e.reads u
  nodup : (e.pl.map (·.1)).Nodup
  inside : ∀ p ∈ e.pl, e.lo ≤ p.1.block ∧ p.1.block < e.hi
theorem Est.Good.stmt {w : World} {e : Est} (h : e.Good w) : StmtV w e.cells e.s := by
  obtain ⟨h1, h2, h3, h4⟩ := h.reads w fun _ _ _ => rfl
  exact ⟨_, _, _, _, rfl, h1.1, h2.1, h3.1, h4.1⟩
theorem Est.Good.keep {w w' : World} {e : Est} (h : e.Good w) (hs : w.heap.size ≤ w'.heap.size) (hb : ∀ b, e.lo ≤ b → b < e.hi → w'.heap[b]? = w.heap[b]?) : e.Good w' :=
  ⟨h.le, Nat.le_trans h.top hs, fun u hu => h.reads u fun b h1 h2 => (hu b h1 h2).trans (hb b h1 h2), h.nodup, h.inside⟩
theorem Est.Good.on {w w' : World} {e : Est} (h : e.Good w) (k : Below w.heap.size w w') : e.Good w' := h.keep k.size fun b _ hb => k.block b (Nat.lt_of_lt_of_le hb h.top)
/-- Four rows of the call's own, one behind the other. -/
theorem Est.make {w : World} {s : Sc} {k r c o : Value} {b0 b1 b2 b3 b4 : Nat} (hk : Got w b0 84 3 k (s.key.map Vc.cells)) (hr : Got w b1 84 3 r (s.row.map Vc.cells)) (hc : Got w b2 86 7 c (s.ddl.cols.map Cl.cells)) (ho : Got w b3 9 1 o (s.ddl.keys.map strX)) (few : s.few)
    (gk : ∀ g, k.ownBlock = some g → g < b1) (gr : ∀ g, r.ownBlock = some g → g < b2) (gc : ∀ g, c.ownBlock = some g → g < b3) (go : ∀ g, o.ownBlock = some g → g < b4) (h01 : b0 ≤ b1) (h12 : b1 ≤ b2) (h23 : b2 ≤ b3) (h34 : b3 ≤ b4) (h4 : b4 ≤ w.heap.size) :
    ∃ e : Est, e.s = s ∧ e.cells = s.cells k r c o ∧ e.lo = b0 ∧ e.hi = b4 ∧ e.Good w := by
  obtain ⟨p2, n2, i2, r2⟩ := hk.ownVals few.1
  obtain ⟨p3, n3, i3, r3⟩ := hr.ownVals few.2.1
  obtain ⟨p6, n6, i6, r6⟩ := hc.ownCols few.2.2.1
  obtain ⟨p7, n7, i7, r7⟩ := ho.ownStrs few.2.2.2
  have B2 : ∀ p ∈ p2, b0 ≤ p.1.block ∧ p.1.block < b1 := fun p hp => ⟨hk.own (i2 p hp), gk _ (i2 p hp)⟩
  have B3 : ∀ p ∈ p3, b1 ≤ p.1.block ∧ p.1.block < b2 := fun p hp => ⟨hr.own (i3 p hp), gr _ (i3 p hp)⟩
  have B6 : ∀ p ∈ p6, b2 ≤ p.1.block ∧ p.1.block < b3 := fun p hp => ⟨hc.own (i6 p hp), gc _ (i6 p hp)⟩
  have B7 : ∀ p ∈ p7, b3 ≤ p.1.block ∧ p.1.block < b4 := fun p hp => ⟨ho.own (i7 p hp), go _ (i7 p hp)⟩
  refine ⟨⟨s, k, r, c, o, p2, p3, p6, p7, b0, b4⟩, rfl, rfl, rfl, rfl, by show b0 ≤ b4; omega, h4, fun u hu => ⟨r2 u fun g hg => hu g (hk.own hg) ?_, r3 u fun g hg => hu g ?_ ?_, r6 u fun g hg => hu g ?_ ?_, r7 u fun g hg => hu g ?_ (go g hg)⟩, ?_, fun p hp => ?_⟩
  · have := gk g hg; show g < b4; omega
  · have := hr.own hg; show b0 ≤ g; omega
  · have := gr g hg; show g < b4; omega
  · have := hc.own hg; show b0 ≤ g; omega
  · have := gc g hg; show g < b4; omega
  · have := ho.own hg; show b0 ≤ g; omega
  · simp only [Est.pl, List.map_append, List.nodup_append]
    have key : ∀ {ps qs : List Plc} {m : Nat}, (∀ p ∈ ps, p.1.block < m) → (∀ p ∈ qs, m ≤ p.1.block) → ∀ a ∈ ps.map (·.1), ∀ b ∈ qs.map (·.1), a ≠ b := fun {ps qs m} h1 h2 a ha b hb e => by
      obtain ⟨p, hp, rfl⟩ := List.mem_map.1 ha
      obtain ⟨q, hq, e2⟩ := List.mem_map.1 hb
      have h3 := h1 p hp
      have h4 := h2 q hq
      rw [e, ← e2] at h3
      omega
    refine ⟨⟨⟨n2, n3, key (m := b1) (fun p hp => (B2 p hp).2) (fun p hp => (B3 p hp).1)⟩, n6, ?_⟩, n7, ?_⟩
    · rw [← List.map_append]
      exact key (m := b2) (fun p hp => by
        rcases List.mem_append.1 hp with hp | hp
        · have := (B2 p hp).2; omega
        · exact (B3 p hp).2) (fun p hp => (B6 p hp).1)
    · rw [← List.map_append, ← List.map_append]
      exact key (m := b3) (fun p hp => by
        rcases List.mem_append.1 hp with hp | hp
        · rcases List.mem_append.1 hp with hp | hp
          · have := (B2 p hp).2; omega
          · have := (B3 p hp).2; omega
        · exact (B6 p hp).2) (fun p hp => (B7 p hp).1)
  · show b0 ≤ p.1.block ∧ p.1.block < b4
    simp only [Est.pl, List.mem_append] at hp
    rcases hp with ((hp | hp) | hp) | hp
    · have := B2 p hp; omega
    · have := B3 p hp; omega
    · have := B6 p hp; omega
    · have := B7 p hp; omega
end Go.Proofs.Ytbjnonondnemhab

namespace Go.Proofs.Ytbjnonondnemhab
open Go.ChangeShapes Go.WideShapes Go.ChangeAt Go.RowKit

/-- It lies where v lay, or in a block that was not there. -/
def Lies (w : World) (v v' : Value) : Prop := ∀ c, v'.ownBlock = some c → v.ownBlock = some c ∨ w.heap.size ≤ c
section
variable {P : Program} {w : World} {t T : TypeId} {zv : Value} {z bytes : Nat}
theorem app_keep (ht : P.underlying t = some (.slice T)) (hinfo : (P.info? T).map (fun i => (i.zero, i.size, i.bytes)) = some (some zv, z, bytes)) (hzs : zv.cells.size = z) (hsz : 0 < z) (hby : bytes ≤ 1000)
    {B : Nat} {v : Value} {xs : List (Array Value)} (hown : Got w B T z v xs) {b off c : Nat} {ys : List (Array Value)} (hy : RowAt w (some ⟨b, off, none⟩) z ys) (h1 : ∀ x ∈ ys, ∀ u ∈ x.toList, u.oneCell' = true) (hlen : xs.length + ys.length < 1000000000) (hB : B ≤ w.heap.size) (ty : TypeId) :
    ∃ v' w', (Builtin.append_ #[t, t] ty #[v, .slice (some ⟨b, off, none⟩) ys.length c]).run P w = .ok v' w' ∧ Got w' B T z v' (xs ++ ys) ∧ Below B w w' ∧ Turns (fun c => v.ownBlock = some c) w w' ∧ Lies w v v' := by
  obtain ⟨v', w', hr, h2, h3, h4⟩ := app_all ht hinfo hzs hsz hby hown hy h1 hlen hB (c := c) ty
  refine ⟨v', w', hr, h2, h3, h4, ?_⟩
  rcases hown.2.2 with ⟨rfl, hn⟩ | ⟨g, cap, cur, rfl, hb, hg, hc1, hc2, hs, htk⟩
  · obtain rfl := List.length_eq_zero_iff.1 hn
    obtain ⟨v2, w2, hr2, h22, _⟩ := app_all ht hinfo hzs hsz hby (Got.nil w w.heap.size T z) hy h1 hlen (Nat.le_refl _) (c := c) ty
    rw [hr] at hr2
    cases hr2
    exact fun k hk => Or.inr (h22.own hk)
  · obtain ⟨i, hi, hzz⟩ := Option.map_eq_some_iff.1 hinfo
    simp only [Prod.mk.injEq] at hzz
    obtain ⟨hz0, hz1, hz2⟩ := hzz
    have hl : (ys.flatMap Array.toList).length = ys.length * i.size := by rw [hz1]; exact flat_len ys hy.1
    have h1' : ∀ u ∈ ys.flatMap Array.toList, u.oneCell' = true := fun u hu => by
      obtain ⟨x, hx, hu⟩ := List.mem_flatMap.1 hu
      exact h1 x hx u hu
    by_cases hroom : xs.length + ys.length ≤ cap
    · have hfit : xs.length * i.size + (ys.flatMap Array.toList).length ≤ cur.size := by
        rw [hl, hz1, hs, ← Nat.add_mul]; exact Nat.mul_le_mul_right _ hroom
      have hr2 := Go.run_append_room (P := P) w t ty T i ht hi g xs.length cap cur hg ⟨b, off, none⟩ ys.length c _ hl (hy.news hsz) h1' hroom hfit
      rw [hr] at hr2
      cases hr2
      exact fun k hk => Or.inl (by simpa [Value.ownBlock] using hk)
    · have holds : ∀ j u, (xs.flatMap Array.toList)[j]? = some u → w.cell? ((⟨g, 0, none⟩ : Addr).add j) = some u := hown.2.cells (g := g) rfl
      have hr2 := Go.run_append_grow (P := P) w t ty T i zv ht hi hz0 ⟨g, 0, none⟩ xs.length cap (xs.flatMap Array.toList) (by rw [hz1]; exact flat_len xs hown.1) holds ⟨b, off, none⟩ ys.length c _ hl (hy.news hsz) (by omega) (by omega) (growslice_fits_wide (by omega) (by
        have : ((xs.length + ys.length) + (xs.length + ys.length) / 4 + 192) * i.bytes ≤ 2000000000 * 1000 := Nat.mul_le_mul (by omega) (by omega)
        omega))
      rw [hr] at hr2
      cases hr2
      exact fun k hk => Or.inr (by simp [Value.ownBlock] at hk; omega)
theorem app_stepK {ops : Array Oper} {o : Oper} {a : Act} {Q : Exit → Act → World → Prop} {K : Act → World → Prop} {E : Prop} (hgd : o.guard = none) (s y : Operand) (ho : o.op = .call { callee := .builtin .append, args := #[s, y], argTypes := #[t, t] })
    (ht : P.underlying t = some (.slice T)) (hinfo : (P.info? T).map (fun i => (i.zero, i.size, i.bytes)) = some (some zv, z, bytes)) (hzs : zv.cells.size = z) (hsz : 0 < z) (hby : bytes ≤ 1000)
    (B : Nat) (v : Value) (xs : List (Array Value)) (hs : a.eval s = v) (hown : Got w B T z v xs) (b m : Nat) (x : Array Value) (hy : a.eval y = .slice (some ⟨b, 0, none⟩) 1 m) (hx : Loc w b x) (hxz : x.size = z) (h1 : ∀ u ∈ x.toList, u.oneCell' = true) (hlen : xs.length < 900000000) (hB : B ≤ w.heap.size)
    (h : ∀ v' w', Got w' B T z v' (xs ++ [x]) → Below B w w' → Turns (fun c => v.ownBlock = some c) w w' → Lies w v v' → K (a.put o.dst v') w') : if Region.wanted o (yielded ops a.tmps) = true then Oper.wp P o a w K Q else E := by
  have hw : Region.wanted o (yielded ops a.tmps) = true := by simp [Region.wanted, hgd]
  rw [if_pos hw]
  obtain ⟨v', w', hr, h2, h3, h4, h5⟩ := app_keep ht hinfo hzs hsz hby hown (hx.row1 hxz) (fun q hq u hu => by simp at hq; subst hq; exact h1 u hu) (by simp; omega) hB (c := m) o.type
  unfold Oper.wp execOp
  simp only [List.length_cons, List.length_nil, Nat.zero_add] at hr
  simp only [ho, resolve, invoke, builtin, Sem.run_bind, Sem.run_pure, Result.andThen_ok, List.map_toArray, List.map_cons, List.map_nil, hs, hy, hr]
  exact h v' w' h2 h3 h4 h5
theorem app_turnK {ops : Array Oper} {rest : List Oper} {o : Oper} {a : Act} {Q : Exit → Act → World → Prop} (hgd : o.guard = none) (s y : Operand) (ho : o.op = .call { callee := .builtin .append, args := #[s, y], argTypes := #[t, t] })
    (ht : P.underlying t = some (.slice T)) (hinfo : (P.info? T).map (fun i => (i.zero, i.size, i.bytes)) = some (some zv, z, bytes)) (hzs : zv.cells.size = z) (hsz : 0 < z) (hby : bytes ≤ 1000)
    (B : Nat) (v : Value) (xs : List (Array Value)) (hs : a.eval s = v) (hown : Got w B T z v xs) (b m : Nat) (x : Array Value) (hy : a.eval y = .slice (some ⟨b, 0, none⟩) 1 m) (hx : Loc w b x) (hxz : x.size = z) (h1 : ∀ u ∈ x.toList, u.oneCell' = true) (hlen : xs.length < 900000000) (hB : B ≤ w.heap.size)
    (h : ∀ v' w', Got w' B T z v' (xs ++ [x]) → Below B w w' → Turns (fun c => v.ownBlock = some c) w w' → Lies w v v' → wpList P ops Q rest (a.put o.dst v') w') : wpList P ops Q (o :: rest) a w := by
  obtain ⟨v', w', hr, h2, h3, h4, h5⟩ := app_keep ht hinfo hzs hsz hby hown (hx.row1 hxz) (fun q hq u hu => by simp at hq; subst hq; exact h1 u hu) (by simp; omega) hB (c := m) o.type
  refine wpList_plain hgd fun _ hK => ?_
  unfold Oper.wp execOp
  simp only [List.length_cons, List.length_nil, Nat.zero_add] at hr
  simp only [ho, resolve, invoke, builtin, Sem.run_bind, Sem.run_pure, Result.andThen_ok, List.map_toArray, List.map_cons, List.map_nil, hs, hy, hr]
  exact hK _ _ (h v' w' h2 h3 h4 h5)
end
/-- One cell of a row of the call's own laid anew. -/
theorem Got.poke {w : World} {B : Nat} {T : TypeId} {z : Nat} {a : Option Addr} {n cap : Nat} {xs : List (Array Value)} (h : Got w B T z (.slice a n cap) xs) (i j : Nat) (hi : i < xs.length) (hj : j < z) (u : Value) :
    ∃ g, a = some ⟨g, 0, none⟩ ∧ B ≤ g ∧ w.cell? ⟨g, i * z + j, none⟩ = xs[i][j]? ∧ w.frozen? ⟨g, i * z + j, none⟩ = false ∧ Got (w.setCell ⟨g, i * z + j, none⟩ u) B T z (.slice a n cap) (xs.set i (xs[i].setIfInBounds j u)) := by
  obtain ⟨hz, hlen, hh⟩ := h
  rcases hh with ⟨e, hn⟩ | ⟨g, cap', cur, e, hb, hg, hc1, hc2, hs, htk⟩
  · omega
  cases e
  have hlt : i * z + j < xs.length * z := by
    have : (i + 1) * z ≤ xs.length * z := Nat.mul_le_mul_right _ (by omega)
    rw [Nat.add_mul, Nat.one_mul] at this
    omega
  have hle : xs.length * z ≤ cur.size := by rw [hs]; exact Nat.mul_le_mul_right _ hc1
  have ho : Own w g T cur := hg
  have hc : w.cell? ⟨g, i * z + j, none⟩ = xs[i][j]? := by
    have h1 := ho.loc (i * z + j) (by omega)
    rw [h1, ← flat_at xs hz i hi j hj, ← htk, List.getElem?_take, if_pos hlt]
    simp
  refine ⟨g, rfl, hb, hc, ho.frozen _, ?_, ?_, Or.inr ⟨g, cap, cur.setIfInBounds (i * z + j) u, by simp, hb, ho.set _ u, by simpa using hc1, hc2, by simpa using hs, ?_⟩⟩
  · intro x hx
    rcases List.mem_or_eq_of_mem_set hx with hx | hx
    · exact hz x hx
    · subst hx; simpa using hz _ (List.getElem_mem hi)
  · rw [flat_len (z := z) _ (fun x hx => by
      rcases List.mem_or_eq_of_mem_set hx with hx | hx
      · exact hz x hx
      · subst hx; simpa using hz _ (List.getElem_mem hi))]
  · have hz' : ∀ x ∈ xs.set i (xs[i].setIfInBounds j u), x.size = z := fun x hx => by
      rcases List.mem_or_eq_of_mem_set hx with hx | hx
      · exact hz x hx
      · subst hx; simpa using hz _ (List.getElem_mem hi)
    have hz0 : 0 < z := by omega
    apply List.ext_getElem?
    intro p
    rw [List.length_set]
    by_cases hp : p < xs.length * z
    · have hpi : p / z < xs.length := Nat.div_lt_of_lt_mul (by rwa [Nat.mul_comm])
      have hpr : p % z < z := Nat.mod_lt _ hz0
      have hd : p / z * z + p % z = p := by rw [Nat.mul_comm]; exact Nat.div_add_mod p z
      have e1 := flat_at _ hz' (p / z) (by simpa using hpi) (p % z) hpr
      have e2 := flat_at xs hz (p / z) hpi (p % z) hpr
      rw [hd] at e1 e2
      rw [← htk, List.getElem?_take, if_pos hp] at e2
      rw [e1, List.getElem?_take, if_pos hp, Array.getElem?_toList, Array.getElem?_setIfInBounds]
      rw [Array.getElem?_toList] at e2
      by_cases hpq : i * z + j = p
      · have hi' : p / z = i := by rw [← hpq, Nat.mul_comm, Nat.mul_add_div hz0, Nat.div_eq_of_lt hj, Nat.add_zero]
        have hj' : p % z = j := by rw [← hpq, Nat.mul_comm, Nat.mul_add_mod, Nat.mod_eq_of_lt hj]
        rw [if_pos hpq, if_pos (by omega)]
        simp only [hi', hj', List.getElem_set_self]
        have := hz _ (List.getElem_mem hi)
        simp [this, hj]
      · rw [if_neg hpq, e2]
        by_cases hi' : p / z = i
        · have hj' : p % z ≠ j := fun e => hpq (by rw [← hi', ← e]; exact hd)
          simp only [hi', List.getElem_set_self]
          rw [Array.getElem?_setIfInBounds, if_neg (fun e => hj' e.symm)]
        · simp only [List.getElem_set_ne (fun e => hi' e.symm)]
    · rw [List.getElem?_eq_none (by simp; omega), List.getElem?_eq_none (by rw [flat_len _ hz']; simp; omega)]
theorem Own.at0 {w : World} {b : Nat} {T : TypeId} {pc : Array Value} {v : Value} (h : Own w b T pc) (hv : pc[0]? = some v) : w.cell? ⟨b, 0, none⟩ = some v := by
  obtain ⟨h0, e⟩ := Array.getElem?_eq_some_iff.1 hv
  rw [h.loc 0 h0, e]
end Go.Proofs.Ytbjnonondnemhab
