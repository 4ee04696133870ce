/- The open transactions of a list of records, with their statements: the landed pass and Open. -/
import Derived.Test.YtmcjchaokpcomaaOi
import Derived.Test.YtmcjchaokpcomaaDelTr
namespace Go.Proofs.Ytmcjchaokpcomaa
open Go.ChangeShapes Go.WideShapes Go.ChangeAt Go.RowKit

/-- A transaction that is open. -/
structure Xc where
  xid : Int
  sts : List Sc
abbrev tcell (p : Xc × Value) : Array Value := #[.int .i64 p.1.xid, p.2]
/-- The place of a transaction. -/
def xAt (os : List Xc) (x : Int) : Int := match os.findIdx? (fun o => decide (o.xid = x)) with | some i => i | .none => -1
theorem xAt_some {os : List Xc} {x : Int} {k : Nat} (hk : k < os.length) (he : os[k].xid = x) (hn : ∀ j (h : j < os.length), j < k → os[j].xid ≠ x) : xAt os x = k := by
  have : os.findIdx? (fun c => decide (c.xid = x)) = some k := by
    rw [List.findIdx?_eq_some_iff_getElem]
    exact ⟨hk, by simpa using he, fun j hj => by simpa using hn j (by omega) hj⟩
  rw [xAt, this]
theorem xAt_none {os : List Xc} {x : Int} (hn : ∀ j (h : j < os.length), os[j].xid ≠ x) : xAt os x = -1 := by
  have : os.findIdx? (fun c => decide (c.xid = x)) = .none := by
    rw [List.findIdx?_eq_none_iff]
    intro c hx
    obtain ⟨j, hj, rfl⟩ := List.getElem_of_mem hx
    simpa using hn j hj
  rw [xAt, this]
theorem xAt_cases (os : List Xc) (x : Int) : (xAt os x = -1 ∧ ∀ j (h : j < os.length), os[j].xid ≠ x) ∨ ∃ i : Nat, ∃ h : i < os.length, xAt os x = i ∧ os[i].xid = x ∧ ∀ j (h : j < os.length), j < i → os[j].xid ≠ x := by
  cases hf : os.findIdx? (fun o => decide (o.xid = x)) with
  | none =>
    rw [List.findIdx?_eq_none_iff] at hf
    have hn : ∀ j (h : j < os.length), os[j].xid ≠ x := fun j h => by simpa using hf _ (List.getElem_mem h)
    exact Or.inl ⟨xAt_none hn, hn⟩
  | some i =>
    rw [List.findIdx?_eq_some_iff_getElem] at hf
    obtain ⟨hi, h1, h2⟩ := hf
    have h1' : os[i].xid = x := by simpa using h1
    have h2' : ∀ j (h : j < os.length), j < i → os[j].xid ≠ x := fun j h hj => by simpa using h2 j hj
    exact Or.inr ⟨i, hi, xAt_some hi h1' h2', h1', h2'⟩
/-- What a record makes of the open transactions. -/
def passL (os : List Xc) (t : Lc) : List Xc := match os.findIdx? (fun o => decide (o.xid = t.xid)) with
  | .none => if t.kind = 1 then os ++ [⟨t.xid, []⟩] else os
  | some i => if t.kind = 2 then (match os[i]? with | some o => os.set i ⟨o.xid, o.sts ++ [t.st]⟩ | .none => os) else if t.kind = 3 ∨ t.kind = 4 then os.eraseIdx i else os
theorem passL_none {os : List Xc} {t : Lc} (hn : ∀ j (h : j < os.length), os[j].xid ≠ t.xid) : passL os t = if t.kind = 1 then os ++ [⟨t.xid, []⟩] else os := by
  have : os.findIdx? (fun c => decide (c.xid = t.xid)) = .none := by
    rw [List.findIdx?_eq_none_iff]
    intro c hx
    obtain ⟨j, hj, rfl⟩ := List.getElem_of_mem hx
    simpa using hn j hj
  rw [passL, this]
theorem passL_some {os : List Xc} {t : Lc} {i : Nat} (hi : i < os.length) (he : os[i].xid = t.xid) (hn : ∀ j (h : j < os.length), j < i → os[j].xid ≠ t.xid) : passL os t = if t.kind = 2 then os.set i ⟨os[i].xid, os[i].sts ++ [t.st]⟩ else if t.kind = 3 ∨ t.kind = 4 then os.eraseIdx i else os := by
  have : os.findIdx? (fun c => decide (c.xid = t.xid)) = some i := by
    rw [List.findIdx?_eq_some_iff_getElem]
    exact ⟨hi, by simpa using he, fun j hj => by simpa using hn j (by omega) hj⟩
  rw [passL, this]
  simp [hi]

theorem RowAt.tr {w : World} {a : Option Addr} {L : List (Xc × Value)} (h : RowAt w a 2 (L.map tcell)) (k : Nat) (hk : k < L.length) : ∃ b off, a = some ⟨b, off, none⟩ ∧
    w.cell? ⟨b, off + k * 2, none⟩ = some (.int .i64 L[k].1.xid) ∧ w.cell? ⟨b, off + k * 2 + 1, none⟩ = some L[k].2 := by
  rcases h.2 with h0 | ⟨b, off, ha, h⟩
  · rw [List.map_eq_nil_iff] at h0; subst h0; exact absurd hk (Nat.not_lt_zero _)
  · have hk' : k < (L.map tcell).length := by simpa using hk
    have e : (L.map tcell)[k] = tcell L[k] := by simp
    refine ⟨b, off, ha, (h k hk' 0 (by omega)).trans ?_, (h k hk' 1 (by omega)).trans ?_⟩
    all_goals rw [e]; rfl
/-- Transactions behind a slice, looked at. -/
def TrV (w : World) (v : Value) (L : List (Xc × Value)) : Prop := ∃ a cap, v = .slice a L.length cap ∧ L.length ≤ cap ∧ cap ≤ maxLen ∧ RowAt w a 2 (L.map tcell)
theorem TrV.on {w w' : World} {v : Value} {L : List (Xc × Value)} (h : TrV w v L) (b : Below w.heap.size w w') : TrV w' v L := by
  obtain ⟨a, cap, e, h1, h2, h⟩ := h; exact ⟨a, cap, e, h1, h2, h.on b⟩
theorem Got.tr {w : World} {B : Nat} {T : TypeId} {v : Value} {L : List (Xc × Value)} (h : Got w B T 2 v (L.map tcell)) : TrV w v L := by
  obtain ⟨a, cap, e, h1, h2, h3, _⟩ := h.row
  exact ⟨a, cap, by simpa using e, by simpa using h1, h2, h3⟩
/-- Statements gathered by the call, their parts lying where they lay in w0. -/
def StsG (w0 w : World) (B : Nat) (v : Value) (ss : List Sc) : Prop := ∃ xs : List (Array Value), Got w B 42 10 v xs ∧ xs.length = ss.length ∧ ∀ i (h : i < xs.length) (g : i < ss.length), StmtV w0 xs[i] ss[i]
theorem StsG.on {w0 w w' : World} {B : Nat} {v : Value} {ss : List Sc} (h : StsG w0 w B v ss) (k : Below w.heap.size w w') : StsG w0 w' B v ss := by
  obtain ⟨xs, h1, h2⟩ := h; exact ⟨xs, h1.on k, h2⟩
theorem StsG.turned {w0 w w' : World} {B : Nat} {v : Value} {ss : List Sc} (h : StsG w0 w B v ss) {S : Nat → Prop} (k : Turns S w w') (hS : ∀ c, v.ownBlock = some c → ¬ S c) : StsG w0 w' B v ss := by
  obtain ⟨xs, h1, h2⟩ := h; exact ⟨xs, h1.turned k hS, h2⟩
theorem StsG.nil (w0 w : World) (B : Nat) : StsG w0 w B (.slice none 0 0) [] := ⟨[], Got.nil _ _ _ _, rfl, fun i h => by simp at h⟩
/-- Open transactions of the call's own. -/
def OpenG (w0 w : World) (B : Nat) (v : Value) (os : List Xc) : Prop := ∃ L : List (Xc × Value), os = L.map (fun p => p.1) ∧ Got w B 96 2 v (L.map tcell) ∧ (∀ p ∈ L, StsG w0 w B p.2 p.1.sts) ∧ L.Pairwise (fun p q => ∀ c, p.2.ownBlock = some c → q.2.ownBlock ≠ some c)
theorem OpenG.on {w0 w w' : World} {B : Nat} {v : Value} {os : List Xc} (h : OpenG w0 w B v os) (k : Below w.heap.size w w') : OpenG w0 w' B v os := by
  obtain ⟨L, h1, h2, h3, h4⟩ := h; exact ⟨L, h1, h2.on k, fun p hp => (h3 p hp).on k, h4⟩
theorem OpenG.nil (w0 w : World) (B : Nat) : OpenG w0 w B (.slice none 0 0) [] := ⟨[], rfl, Got.nil _ _ _ _, fun p h => by simp at h, List.Pairwise.nil⟩
/-- Of what was there only a variable and blocks of transactions and statements behind it may have turned. -/
def Pt (P : Nat) (w w' : World) : Prop := Below P w w' ∧ ∀ c, c < w.heap.size → c ≠ P → (¬ ∃ cur, w.heap[c]? = some (.cells cur 96)) → (¬ ∃ cur, w.heap[c]? = some (.cells cur 42)) → w'.heap[c]? = w.heap[c]?
theorem Pt.refl (P : Nat) (w : World) : Pt P w w := ⟨Below.refl _ _, fun _ _ _ _ _ => rfl⟩
theorem Pt.trans {P : Nat} {a b c : World} (h : Pt P a b) (k : Pt P b c) : Pt P a c :=
  ⟨h.1.trans k.1, fun i hi hne hn hm => (k.2 i (Nat.lt_of_lt_of_le hi h.1.size) hne (fun ⟨cur, hc⟩ => hn ⟨cur, (h.2 i hi hne hn hm).symm.trans hc⟩) (fun ⟨cur, hc⟩ => hm ⟨cur, (h.2 i hi hne hn hm).symm.trans hc⟩)).trans (h.2 i hi hne hn hm)⟩
theorem Pt.new {P : Nat} {w w' : World} (k : Below w.heap.size w w') (h : P ≤ w.heap.size) : Pt P w w' := ⟨k.mono h, fun c hc _ _ _ => k.block c hc⟩
theorem Pt.set (P : Nat) (w : World) (v : Value) : Pt P w (w.setCell ⟨P, 0, none⟩ v) :=
  ⟨Below.setCell (p := ⟨P, 0, none⟩) (Below.refl _ _) (Nat.le_refl _) v, fun _ _ hne _ _ => Below.heap_setCell _ _ _ _ hne⟩
theorem Pt.of {P : Nat} {w w' : World} {S : Nat → Prop} (h : Turns S w w') (hP : P ≤ w.heap.size) (hS : ∀ c, S c → P ≤ c ∧ ((∃ cur, w.heap[c]? = some (.cells cur 96)) ∨ ∃ cur, w.heap[c]? = some (.cells cur 42))) : Pt P w w' :=
  ⟨h.down (fun c hc => (hS c hc).1) hP, fun c hc _ hn hm => h.block c hc fun hs => (hS c hs).2.elim hn hm⟩
theorem Pt.own {P : Nat} {w w' : World} (h : Pt P w w') {c : Nat} {T : TypeId} {cells : Array Value} (ho : Own w c T cells) (hc : c ≠ P) (hT : T ≠ 96) (hT' : T ≠ 42) : Own w' c T cells :=
  (h.2 c ho.lt hc (fun ⟨cur, hh⟩ => by unfold Own at ho; rw [ho] at hh; cases hh; exact hT rfl) (fun ⟨cur, hh⟩ => by unfold Own at ho; rw [ho] at hh; cases hh; exact hT' rfl)).trans ho

set_option maxRecDepth 100000 in
set_option maxHeartbeats 1000000 in
/-- The closure of openAt. -/
theorem openFn_any (X : Nat) (x : Int) (p : Xc × Value) (w : World) (hX : w.cell? ⟨X, 0, none⟩ = some (.int .i64 x)) :
    Calls Try.prog 92 #[.agg (tcell p), .pointer (some ⟨X, 0, none⟩)] w fun e w' => e = .returned (.bool (decide (p.1.xid = x))) ∧ Below w.heap.size w w' := by
  have hX1 : (w.alloc (.cells (tcell p) 96)).cell? ⟨X, 0, none⟩ = some (.int .i64 x) := cell_on hX (ch_alloc (Below.refl _ _) _)
  have HR : Hid (decide (p.1.xid = x) = (p.1.xid == x)) := by
    show _ = _
    rw [Bool.eq_iff_iff]; simp
  rw [HR.out]
  go_enter Try.func92, Try.ntmps92
  go_wp2
  go_ret
  exact ⟨rfl, (by repeat (first | with_reducible exact Below.refl _ _ | with_reducible assumption | with_reducible refine ch_alloc ?_ _ | with_reducible refine Below.drew ?_ | with_reducible refine below_draws _ ?_ | (with_reducible refine Below.setCell ?_ ?_ _; rotate_left; focus (first | with_reducible exact Nat.le_refl _ | (simp; done) | (simp; omega) | (simp at *; omega))) | with_reducible refine ch_trans ?_ (by with_reducible assumption)))⟩

set_option maxRecDepth 100000 in
set_option maxHeartbeats 1000000 in
/-- slices.IndexFunc over transactions, with that closure. -/
theorem openIx_any (X : Nat) (x : Int) (v : Value) (L : List (Xc × Value)) (w : World) (hx : TrV w v L) (hX : w.cell? ⟨X, 0, none⟩ = some (.int .i64 x)) :
    Calls Try.prog 91 #[v, .func (.func 92) #[] #[.pointer (some ⟨X, 0, none⟩)]] w fun e w' => e = .returned (.int .i64 (xAt (L.map fun p => p.1) x)) ∧ Below w.heap.size w w' := by
  obtain ⟨a, cap, rfl, hl, hm, hx⟩ := hx
  unfold maxLen at hm
  have HX : Hid (RowAt w a 2 (L.map tcell)) := hx
  have HV : Hid (w.cell? ⟨X, 0, none⟩ = some (.int .i64 x)) := hX
  have HT0 : Hid (∀ k (hk : k < L.length), L[k].1.xid = x → (∀ i (h : i < L.length), i < k → L[i].1.xid ≠ x) → xAt (L.map fun p => p.1) x = k) := fun k hk he hn => xAt_some (by simpa using hk) (by simpa using he) (fun j h hj => by simpa using hn j (by simpa using h) hj)
  have HF0 : Hid ((∀ i (h : i < L.length), L[i].1.xid ≠ x) → xAt (L.map fun p => p.1) x = -1) := fun hn => xAt_none (fun j h => by simpa using hn j (by simpa using h))
  generalize xAt (L.map fun p => p.1) x = R at HT0 HF0 ⊢
  clear hx hX
  go_enter Try.func91, Try.ntmps91
  go_wp2
  go_loopw [8] (fun i wr => ∃ k : Nat, k ≤ L.length ∧ i = .int .i64 k ∧ Below w.heap.size w wr ∧ Hid (∀ i (h : i < L.length), i < k → L[i].1.xid ≠ x)) (fun i _ => L.length - (intOf i).toNat)
  case atStart => exact ⟨0, Nat.zero_le _, rfl, (by repeat (first | with_reducible exact Below.refl _ _ | with_reducible assumption | with_reducible refine ch_alloc ?_ _ | with_reducible refine Below.drew ?_ | with_reducible refine below_draws _ ?_ | (with_reducible refine Below.setCell ?_ ?_ _; rotate_left; focus (first | with_reducible exact Nat.le_refl _ | (simp; done) | (simp; omega) | (simp at *; omega))) | with_reducible refine ch_trans ?_ (by with_reducible assumption))), fun i h hi => by omega⟩
  case round =>
    obtain ⟨k, hk, rfl, hb, HN⟩ := hrel
    by_cases hlt : k < L.length
    · have hlti : (k : Int) < L.length := by omega
      obtain ⟨b, off, rfl, d0, d1⟩ := (HX.out.on hb).tr k hlt
      have HC : Hid (∀ u : World, Below wr.heap.size wr u → Calls Try.prog 92 #[.agg #[.int .i64 L[k].1.xid, L[k].2], .pointer (some ⟨X, 0, none⟩)] u fun e w' => e = .returned (.bool (decide (L[k].1.xid = x))) ∧ Below u.heap.size u w') := fun u hu => openFn_any X x L[k] u (cell_on (cell_on HV.out hb) hu)
      by_cases hq : L[k].1.xid = x
      · have HR : R = (k : Int) := HT0.out k hlt hq HN.out
        subst HR
        have HC' : Hid (∀ u : World, Below wr.heap.size wr u → Calls Try.prog 92 #[.agg #[.int .i64 L[k].1.xid, L[k].2], .pointer (some ⟨X, 0, none⟩)] u fun e w' => e = .returned (.bool true) ∧ Below u.heap.size u w') := fun u hu => (HC.out u hu).mono fun e w' h => by simpa [hq] using h
        clear hq HC HT0 HF0
        go_wp2_with fail
        refine (HC'.out _ (by repeat (first | with_reducible exact Below.refl _ _ | with_reducible assumption | with_reducible refine ch_alloc ?_ _ | with_reducible refine Below.drew ?_ | with_reducible refine below_draws _ ?_ | (with_reducible refine Below.setCell ?_ ?_ _; rotate_left; focus (first | with_reducible exact Nat.le_refl _ | (simp; done) | (simp; omega) | (simp at *; omega))) | with_reducible refine ch_trans ?_ (by with_reducible assumption)))).mono ?_
        rintro e w1 ⟨rfl, b1⟩
        go_wp2
        go_ret
        exact ⟨rfl, (by repeat (first | with_reducible exact Below.refl _ _ | with_reducible assumption | with_reducible refine ch_alloc ?_ _ | with_reducible refine Below.drew ?_ | with_reducible refine below_draws _ ?_ | (with_reducible refine Below.setCell ?_ ?_ _; rotate_left; focus (first | with_reducible exact Nat.le_refl _ | (simp; done) | (simp; omega) | (simp at *; omega))) | with_reducible refine ch_trans ?_ (by with_reducible assumption)))⟩
      · have HC' : Hid (∀ u : World, Below wr.heap.size wr u → Calls Try.prog 92 #[.agg #[.int .i64 L[k].1.xid, L[k].2], .pointer (some ⟨X, 0, none⟩)] u fun e w' => e = .returned (.bool false) ∧ Below u.heap.size u w') := fun u hu => (HC.out u hu).mono fun e w' h => by simpa [hq] using h
        have HN' : Hid (∀ i (h : i < L.length), i < k + 1 → L[i].1.xid ≠ x) := fun i h hi => by
          by_cases e : i = k
          · subst e; exact hq
          · exact HN.out i h (by omega)
        clear hq HC
        go_wp2_with fail
        refine (HC'.out _ (by repeat (first | with_reducible exact Below.refl _ _ | with_reducible assumption | with_reducible refine ch_alloc ?_ _ | with_reducible refine Below.drew ?_ | with_reducible refine below_draws _ ?_ | (with_reducible refine Below.setCell ?_ ?_ _; rotate_left; focus (first | with_reducible exact Nat.le_refl _ | (simp; done) | (simp; omega) | (simp at *; omega))) | with_reducible refine ch_trans ?_ (by with_reducible assumption)))).mono ?_
        rintro e w1 ⟨rfl, b1⟩
        go_wp2
        go_round
        case rel => exact ⟨k + 1, by omega, by go_num, (by repeat (first | with_reducible exact Below.refl _ _ | with_reducible assumption | with_reducible refine ch_alloc ?_ _ | with_reducible refine Below.drew ?_ | with_reducible refine below_draws _ ?_ | (with_reducible refine Below.setCell ?_ ?_ _; rotate_left; focus (first | with_reducible exact Nat.le_refl _ | (simp; done) | (simp; omega) | (simp at *; omega))) | with_reducible refine ch_trans ?_ (by with_reducible assumption))), HN'⟩
        case measure => simp [intOf]; omega
    · have hlti : (L.length : Int) ≤ k := by omega
      have HR : R = -1 := HF0.out fun i h => HN.out i h (by omega)
      subst HR
      go_wp2
      go_ret
      exact ⟨rfl, (by repeat (first | with_reducible exact Below.refl _ _ | with_reducible assumption | with_reducible refine ch_alloc ?_ _ | with_reducible refine Below.drew ?_ | with_reducible refine below_draws _ ?_ | (with_reducible refine Below.setCell ?_ ?_ _; rotate_left; focus (first | with_reducible exact Nat.le_refl _ | (simp; done) | (simp; omega) | (simp at *; omega))) | with_reducible refine ch_trans ?_ (by with_reducible assumption)))⟩

set_option maxRecDepth 100000 in
/-- (impl.openList).openAt -/
theorem openAt_any (x : Int) (v : Value) (L : List (Xc × Value)) (w : World) (hx : TrV w v L) :
    Calls Try.prog 67 #[v, .int .i64 x] w fun e w' => e = .returned (.int .i64 (xAt (L.map fun p => p.1) x)) ∧ Below w.heap.size w w' := by
  have hmf : ∀ (fn : Fn) (first cap : Array Value) (w : World), (Instr.makeFunc fn first cap).run Try.prog w = .ok (.func fn first cap) w := fun _ _ _ _ => rfl
  have HC : Hid (∀ u : World, Below w.heap.size w u → u.cell? ⟨w.heap.size, 0, none⟩ = some (.int .i64 x) → Calls Try.prog 91 #[v, .func (.func 92) #[] #[.pointer (some ⟨w.heap.size, 0, none⟩)]] u fun e w' => e = .returned (.int .i64 (xAt (L.map fun p => p.1) x)) ∧ Below u.heap.size u w') := fun u hu hX => openIx_any w.heap.size x v L u (hx.on hu) hX
  have h0 := (Loc.new w #[.int .i64 x] 3).one
  obtain ⟨a, cap, rfl, hl, hm, hx⟩ := hx
  clear hx
  generalize xAt (L.map fun p => p.1) x = R at HC ⊢
  go_enter Try.func67, Try.ntmps67
  go_wp2_with fail
  refine (HC.out _ (by repeat (first | with_reducible exact Below.refl _ _ | with_reducible assumption | with_reducible refine ch_alloc ?_ _ | with_reducible refine Below.drew ?_ | with_reducible refine below_draws _ ?_ | (with_reducible refine Below.setCell ?_ ?_ _; rotate_left; focus (first | with_reducible exact Nat.le_refl _ | (simp; done) | (simp; omega) | (simp at *; omega))) | with_reducible refine ch_trans ?_ (by with_reducible assumption))) h0).mono ?_
  rintro e w1 ⟨rfl, b1⟩
  go_wp2
  go_ret
  exact ⟨rfl, (by repeat (first | with_reducible exact Below.refl _ _ | with_reducible assumption | with_reducible refine ch_alloc ?_ _ | with_reducible refine Below.drew ?_ | with_reducible refine below_draws _ ?_ | (with_reducible refine Below.setCell ?_ ?_ _; rotate_left; focus (first | with_reducible exact Nat.le_refl _ | (simp; done) | (simp; omega) | (simp at *; omega))) | with_reducible refine ch_trans ?_ (by with_reducible assumption)))⟩
end Go.Proofs.Ytmcjchaokpcomaa
