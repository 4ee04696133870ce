/- A column is read: the given reading. -/
import Derived.Test.YtmkgbdgafjeeiamDoorSc
import Derived.Test.YtmkgbdgafjeeiamDoorRb
import Derived.Test.YtmkgbdgafjeeiamDoorTextValT
namespace Go.Proofs.YtmkgbdgafjeeiamDoor
open Go.ChangeShapes Go.WideShapes Go.ChangeAt Go.RowKit

/-- What the walk keeps: the answer's variable, and the column's own. -/
structure Two (w u : World) (c : Cl) : Prop where
  ans : Own u w.heap.size 25 #[.string ⟨#[]⟩, .int .i64 0, .bool false, .bool false, .int .i64 0, .int .i64 0, .string ⟨#[]⟩]
  col : Own u (w.heap.size + 1) 25 c.cells
  below : Below w.heap.size w u
theorem Two.on {w u u' : World} {c : Cl} (h : Two w u c) (b : Below u.heap.size u u') : Two w u' c := ⟨h.ans.on b, h.col.on b, ch_trans h.below b⟩
theorem Two.set {w u : World} {c : Cl} (h : Two w u c) (j : Nat) (v : Value) {d : Cl} (hd : c.cells.setIfInBounds j v = d.cells) : Two w (u.setCell ⟨w.heap.size + 1, j, none⟩ v) d :=
  ⟨h.ans.other (by simp) v, hd ▸ h.col.set j v, h.below.setCell (by simp) v⟩
abbrev noCl : Cl := ⟨⟨#[]⟩, 0, false, false, 0, 0, ⟨#[]⟩⟩
abbrev notB : ByteArray := ⟨#[110, 111, 116]⟩
/-- A column of which so many words behind the type have been read. -/
def stage (d : Cl) (j : Nat) : Cl := ⟨d.name, d.ty, d.nt && decide (0 < j), d.has && decide ((if d.nt = true then 1 else 0) < j), if (d.has && decide ((if d.nt = true then 1 else 0) < j)) = true then d.dt else 0, if (d.has && decide ((if d.nt = true then 1 else 0) < j)) = true then d.dn else 0, if (d.has && decide ((if d.nt = true then 1 else 0) < j)) = true then d.ds else ⟨#[]⟩⟩
theorem word_at {ks : List ByteArray} {d : Cl} {j : Nat} (h : ks = d.wordsB) (hj : 2 + j < ks.length) : (d.nt = true ∧ j = 0 ∧ ks[2 + j] = notB) ∨ (d.has = true ∧ j = (if d.nt = true then 1 else 0) ∧ ks[2 + j] = ⟨#[61]⟩ ++ valText d.dt d.dn d.ds) := by
  subst h
  obtain ⟨name, ty, nt, has, dt, dn, ds⟩ := d
  cases nt <;> cases has <;> simp [Cl.wordsB] at hj ⊢
  · omega
  · obtain rfl : j = 0 := by omega
    simp
  · obtain rfl : j = 0 := by omega
    simp
  · have : j = 0 ∨ j = 1 := by omega
    rcases this with rfl | rfl <;> simp
theorem stage_zero (d : Cl) : stage d 0 = ⟨d.name, d.ty, false, false, 0, 0, ⟨#[]⟩⟩ := by simp [stage]
theorem stage_end {ks : List ByteArray} {d : Cl} (hd : d.ok = true) (h : ks = d.wordsB) : stage d (ks.length - 2) = d := by
  subst h
  have h3 := (ok_parts hd).2.2.1
  obtain ⟨name, ty, nt, has, dt, dn, ds⟩ := d
  cases nt <;> cases has <;> simp [stage, Cl.wordsB] at h3 ⊢
  · exact ⟨h3.1.symm, h3.2.1.symm, h3.2.2.symm⟩
  · exact ⟨h3.1.symm, h3.2.1.symm, h3.2.2.symm⟩
theorem head61 (v : ByteArray) : (⟨#[61]⟩ ++ v).data.toList = 61 :: v.data.toList := by simp
theorem not_head (v : ByteArray) : notB ≠ ⟨#[61]⟩ ++ v := fun e => by
  have := congrArg (fun s => s.data.toList) e
  simp at this
theorem tyBs_at (j : Nat) (h1 : 1 ≤ j) (h : j < tyBs.length) : tyBs[j] = tyT j := by
  have hj : j = 1 ∨ j = 2 ∨ j = 3 := by simp at h; omega
  rcases hj with rfl | rfl | rfl <;> rfl
/-- What has been found of the type. -/
def TyIs (x : ByteArray) (ty : Int) (j : Nat) : Prop := ∀ d : Int, (d = 1 ∨ d = 2 ∨ d = 3) → x = tyT d → ty = if d < j then d else 0
theorem TyIs.zero (x : ByteArray) : TyIs x 0 0 := fun d hd _ => by rw [if_neg (by omega)]
theorem TyIs.first {x : ByteArray} {ty : Int} (h : TyIs x ty 0) : TyIs x ty 1 := fun d hd e => by
  have := h d hd e
  rw [if_neg (by omega)] at this
  rw [if_neg (by omega)]; exact this
theorem TyIs.yes {x : ByteArray} {j : Nat} (h1 : 1 ≤ j) (h : j < tyBs.length) (e : tyBs[j] = x) : TyIs x j (j + 1) := fun d hd e' => by
  have hj : (j : Int) = 1 ∨ (j : Int) = 2 ∨ (j : Int) = 3 := by simp at h; omega
  rw [tyBs_at j h1 h] at e
  have := tyT_inj hj hd (by rw [e, e'])
  rw [if_pos (by omega)]; exact this
theorem TyIs.no {x : ByteArray} {ty : Int} {j : Nat} (hi : TyIs x ty j) (h1 : 1 ≤ j) (h : j < tyBs.length) (e : tyBs[j] ≠ x) : TyIs x ty (j + 1) := fun d hd e' => by
  have := hi d hd e'
  have hne : d ≠ j := fun hd' => e (by rw [tyBs_at j h1 h, ← hd', e'])
  by_cases hl : d < j
  · rw [if_pos hl] at this; rw [if_pos (by omega)]; exact this
  · rw [if_neg hl] at this; rw [if_neg (by omega)]; exact this
theorem Got.set1 {w : World} {B : Nat} {T : TypeId} {z : Nat} {v : Value} {xs : List (Array Value)} (h : Got w B T z v xs) {p : Addr} (hp : p.block < B) (u : Value) : Got (w.setCell p u) B T z v xs := by
  obtain ⟨h0, h1, h2⟩ := h
  refine ⟨h0, h1, ?_⟩
  rcases h2 with h2 | ⟨g, cap, cur, e, hb, hg, r⟩
  · exact Or.inl h2
  · exact Or.inr ⟨g, cap, cur, e, hb, (Below.heap_setCell _ _ _ _ (by omega)).trans hg, r⟩
set_option maxRecDepth 100000 in
set_option maxHeartbeats 2000000 in
/-- spec.l05ReadCol -/
theorem readCol_spec (v : Value) (ks : List ByteArray) (w : World) (hv : StrsV w v ks) (hsz : ∀ s ∈ ks, s.size ≤ 1048576) :
    Calls Tryd.prog 7 #[v] w fun e w' => Below w.heap.size w w' ∧ ∃ c : Cl, e = .returned c.v ∧ c.name.size ≤ 1048576 ∧ ∀ d : Cl, d.ok = true → ks = d.wordsB → c = d := by
  obtain ⟨a, p, rfl, hlp, hm, hr⟩ := hv
  unfold maxLen at hm
  have HR : Hid (RowAt w a 1 (ks.map strX)) := hr
  have HSZ : Hid (∀ s ∈ ks, s.size ≤ 1048576) := hsz
  clear hr hsz
  have HK0 : Hid (Two w ((w.alloc (.cells #[.string ⟨#[]⟩, .int .i64 0, .bool false, .bool false, .int .i64 0, .int .i64 0, .string ⟨#[]⟩] 25)).alloc (.cells #[.string ⟨#[]⟩, .int .i64 0, .bool false, .bool false, .int .i64 0, .int .i64 0, .string ⟨#[]⟩] 25)) noCl) := ⟨(Own.new w _ _).on (ch_alloc (Below.refl _ _) _), Own.at (w.alloc (.cells #[.string ⟨#[]⟩, .int .i64 0, .bool false, .bool false, .int .i64 0, .int .i64 0, .string ⟨#[]⟩] 25)) _ _ (by simp), ch_alloc (ch_alloc (Below.refl _ _) _) _⟩
  by_cases h2 : ks.length < 2
  · have h2i : decide ((ks.length : Int) < 2) = true := by simp; omega
    have HN : Hid (∀ d : Cl, d.ok = true → ks = d.wordsB → noCl = d) := fun d _ e => by
      rw [e] at h2
      simp [Cl.wordsB] at h2
      omega
    go_enter Tryd.func7, Tryd.ntmps7
    go_wp2
    obtain ⟨e0, e1, e2, e3, e4, e5, e6⟩ := HK0.out.ans.loc.seven
    have HB := HK0.out.below
    generalize ((w.alloc (.cells #[.string ⟨#[]⟩, .int .i64 0, .bool false, .bool false, .int .i64 0, .int .i64 0, .string ⟨#[]⟩] 25)).alloc (.cells #[.string ⟨#[]⟩, .int .i64 0, .bool false, .bool false, .int .i64 0, .int .i64 0, .string ⟨#[]⟩] 25)) = W at e0 e1 e2 e3 e4 e5 e6 HB ⊢
    exact bodyPost_ret (v := noCl.v) (by simp [results, Tryd.results7, go_sem, e0, e1, e2, e3, e4, e5, e6]) rfl ⟨HB, noCl, rfl, by decide, HN.out⟩
  have h2i : decide ((ks.length : Int) < 2) = false := by simp; omega
  obtain ⟨rb, ro, rfl, d0⟩ := (HR.out.on HK0.out.below).strs 0 (by omega)
  simp only [Nat.add_zero] at d0
  have HK1 : Hid (Two w ((w.alloc (.cells #[.string ⟨#[]⟩, .int .i64 0, .bool false, .bool false, .int .i64 0, .int .i64 0, .string ⟨#[]⟩] 25)).alloc (.cells #[.string ks[0], .int .i64 0, .bool false, .bool false, .int .i64 0, .int .i64 0, .string ⟨#[]⟩] 25)) ⟨ks[0], 0, false, false, 0, 0, ⟨#[]⟩⟩) := ⟨(Own.new w _ _).on (ch_alloc (Below.refl _ _) _), Own.at (w.alloc (.cells #[.string ⟨#[]⟩, .int .i64 0, .bool false, .bool false, .int .i64 0, .int .i64 0, .string ⟨#[]⟩] 25)) _ _ (by simp), ch_alloc (ch_alloc (Below.refl _ _) _) _⟩
  have hz1 : w.heap.size + 1 + 1 ≤ ((w.alloc (.cells #[.string ⟨#[]⟩, .int .i64 0, .bool false, .bool false, .int .i64 0, .int .i64 0, .string ⟨#[]⟩] 25)).alloc (.cells #[.string ks[0], .int .i64 0, .bool false, .bool false, .int .i64 0, .int .i64 0, .string ⟨#[]⟩] 25)).heap.size := by simp
  have hlen : ks.length ≤ 9223372036854775807 := by omega
  go_enter Tryd.func7, Tryd.ntmps7
  go_wp2_with fail
  clear d0 HK0
  generalize ((w.alloc (.cells #[.string ⟨#[]⟩, .int .i64 0, .bool false, .bool false, .int .i64 0, .int .i64 0, .string ⟨#[]⟩] 25)).alloc (.cells #[.string ks[0], .int .i64 0, .bool false, .bool false, .int .i64 0, .int .i64 0, .string ⟨#[]⟩] 25)) = wv at HK1 hz1 ⊢
  refine (types_spec _).mono ?_
  rintro e w1 ⟨kv, rfl, b1, hg⟩
  obtain ⟨ta, tp, htv, _, _, htr⟩ := hg.strs
  obtain ⟨tb, toff, rfl, _⟩ := htr.strs 0 (by simp)
  subst htv
  have HK2 : Hid (Two w w1 ⟨ks[0], 0, false, false, 0, 0, ⟨#[]⟩⟩) := HK1.out.on b1
  have HG2 : Hid (Got w1 (w.heap.size + 1 + 1) 9 1 (.slice (some ⟨tb, toff, none⟩) 4 tp) (tyBs.map strX)) := hg.mono hz1
  clear b1 hg htr HK1 hz1
  go_wp2
  go_loopw [19] (fun i wr => ∃ (j : Nat) (ty : Int), j ≤ 4 ∧ i = .int .i64 j ∧ Hid (Two w wr ⟨ks[0], ty, false, false, 0, 0, ⟨#[]⟩⟩) ∧ Hid (Got wr (w.heap.size + 1 + 1) 9 1 (.slice (some ⟨tb, toff, none⟩) 4 tp) (tyBs.map strX)) ∧ Hid (TyIs (ks[1]'(by omega)) ty j)) (fun i _ => 4 - (intOf i).toNat)
  case atStart => exact ⟨0, 0, by omega, rfl, HK2, HG2, TyIs.zero _⟩
  case round =>
    clear HK2 HG2
    obtain ⟨j, ty, hj, rfl, HK, HG, HTI⟩ := hrel
    have hk1 : 1 < ks.length := by omega
    by_cases hlt : j < 4
    · have hlti : (j : Int) < 4 := by omega
      obtain ⟨_, _, htv, _, _, htr⟩ := HG.out.strs
      obtain ⟨_, _, he, t0⟩ := htr.strs j (by simp; omega)
      cases htv
      cases he
      obtain ⟨_, _, he, k1⟩ := (HR.out.on HK.out.below).strs 1 hk1
      cases he
      have hk1i : (1 : Int) < ks.length := by omega
      obtain ⟨c0, c1, c2, c3, c4, c5, c6⟩ := HK.out.col.loc.seven
      have i1 := HK.out.col.frozen 1
      have hjt : j < tyBs.length := by simp; omega
      by_cases hj0 : j = 0
      · subst hj0
        have hg0 : decide ((0 : Int) < ((0 : Nat) : Int)) = false := by decide
        have HTI' : Hid (TyIs (ks[1]'(by omega)) ty (0 + 1)) := HTI.out.first
        simp only [Nat.add_zero] at t0
        go_wp2
        go_round
        case rel => exact ⟨0 + 1, ty, by omega, by go_num, HK, HG, HTI'⟩
        case measure => simp [intOf]
      · have hg0 : decide ((0 : Int) < (j : Int)) = true := by simp; omega
        have hg1 : decide (0 < j) = true := by simp; omega
        by_cases e : tyBs[j] = ks[1]
        · have hq := str_yes e
          have HTI' : Hid (TyIs (ks[1]'(by omega)) j (j + 1)) := TyIs.yes (by omega) hjt e
          have HK' : Hid (Two w (wr.setCell ⟨w.heap.size + 1, 1, none⟩ (.int .i64 j)) ⟨ks[0], j, false, false, 0, 0, ⟨#[]⟩⟩) := HK.out.set 1 _ rfl
          have HG' : Hid (Got (wr.setCell ⟨w.heap.size + 1, 1, none⟩ (.int .i64 j)) (w.heap.size + 1 + 1) 9 1 (.slice (some ⟨tb, toff, none⟩) 4 tp) (tyBs.map strX)) := HG.out.set1 (by simp) _
          clear e HTI
          go_wp2
          go_round
          case rel => exact ⟨j + 1, j, by omega, by go_num, HK', HG', HTI'⟩
          case measure => simp [intOf]; omega
        · have hq := str_no e
          have HTI' : Hid (TyIs (ks[1]'(by omega)) ty (j + 1)) := HTI.out.no (by omega) hjt e
          clear e HTI
          go_wp2
          go_round
          case rel => exact ⟨j + 1, ty, by omega, by go_num, HK, HG, HTI'⟩
          case measure => simp [intOf]; omega
    · have hlti : (4 : Int) ≤ j := by omega
      obtain rfl : j = 4 := by omega
      have hle : (2 : Int) ≤ ks.length := by omega
      have hle' : (ks.length : Int) ≤ p := by omega
      have hsub : IntKind.i64.wrap ((ks.length : Int) - 2) = ((ks.length - 2 : Nat) : Int) := by rw [IntKind.wrap_i64]; omega
      have HC0 : Hid (∀ d : Cl, d.ok = true → ks = d.wordsB → (⟨ks[0], ty, false, false, 0, 0, ⟨#[]⟩⟩ : Cl) = stage d 0) := fun d hd e => by
        rw [stage_zero]
        have h0 : ks[0] = d.name := by subst e; rfl
        have h1 : ks[1] = tyT d.ty := by subst e; rfl
        have := HTI.out d.ty (ok_parts hd).2.1 h1
        rw [if_pos (by have := (ok_parts hd).2.1; omega)] at this
        rw [h0, this]
      clear HTI HG
      have hnm : ks[0].size ≤ 1048576 := HSZ.out _ (List.getElem_mem _)
      have HKA := HK
      have hn2 : ((ks.length - 2 : Nat) : Int) ≤ 9223372036854775807 := by omega
      clear HK
      by_cases hp2 : p = 2
      · subst hp2
        have hl2 : ks.length = 2 := by omega
        go_wp2
        go_loopw [39] (fun i wr => ∃ (j : Nat) (c : Cl), j ≤ ks.length - 2 ∧ i = .int .i64 j ∧ Hid (Two w wr c) ∧ c.name.size ≤ 1048576 ∧ Hid (∀ d : Cl, d.ok = true → ks = d.wordsB → c = stage d j)) (fun i _ => (ks.length - 2) - (intOf i).toNat)
        case atStart => exact ⟨0, _, Nat.zero_le _, rfl, HKA, hnm, HC0⟩
        case round =>
          obtain ⟨j, c, hj, rfl, HK, hcn, HC⟩ := hrel
          have hlti : ((ks.length - 2 : Nat) : Int) ≤ j := by omega
          obtain rfl : j = ks.length - 2 := by omega
          have HF : Hid (∀ d : Cl, d.ok = true → ks = d.wordsB → c = d) := fun d hd e => by rw [HC.out d hd e]; exact stage_end hd e
          obtain ⟨d0, d1, d2, d3, d4, d5, d6⟩ := HK.out.col.loc.seven
          obtain ⟨g0, g1, g2, g3, g4, g5, g6⟩ := HK.out.ans.loc.seven
          have i0 := HK.out.ans.frozen 0
          have i1 := HK.out.ans.frozen 1
          have i2 := HK.out.ans.frozen 2
          have i3 := HK.out.ans.frozen 3
          have i4 := HK.out.ans.frozen 4
          have i5 := HK.out.ans.frozen 5
          have i6 := HK.out.ans.frozen 6
          have HQ9 : Hid (Own (stores wr w.heap.size 0 [.string c.name, .int .i64 c.ty, .bool c.nt, .bool c.has, .int .i64 c.dt, .int .i64 c.dn, .string c.ds]) w.heap.size 25 #[.string c.name, .int .i64 c.ty, .bool c.nt, .bool c.has, .int .i64 c.dt, .int .i64 c.dn, .string c.ds]) := Own.fill (old := [.string ⟨#[]⟩, .int .i64 0, .bool false, .bool false, .int .i64 0, .int .i64 0, .string ⟨#[]⟩]) HK.out.ans [.string c.name, .int .i64 c.ty, .bool c.nt, .bool c.has, .int .i64 c.dt, .int .i64 c.dn, .string c.ds] rfl
          have HB9 : Hid (Below w.heap.size w (stores wr w.heap.size 0 [.string c.name, .int .i64 c.ty, .bool c.nt, .bool c.has, .int .i64 c.dt, .int .i64 c.dn, .string c.ds])) := HK.out.below.trans ((stores_turns w.heap.size [.string c.name, .int .i64 c.ty, .bool c.nt, .bool c.has, .int .i64 c.dt, .int .i64 c.dn, .string c.ds] wr wr 0 (Turns.refl _ _)).down (B := w.heap.size) (fun c hc => by omega) HK.out.below.size)
          go_wp2
          clear d0 d1 d2 d3 d4 d5 d6 g0 g1 g2 g3 g4 g5 g6 i0 i1 i2 i3 i4 i5 i6
          simp only [stores, Nat.zero_add, Nat.reduceAdd] at HQ9 HB9
          generalize (((((((wr.setCell ⟨w.heap.size, 0, none⟩ (.string c.name)).setCell ⟨w.heap.size, 1, none⟩ (.int .i64 c.ty)).setCell ⟨w.heap.size, 2, none⟩ (.bool c.nt)).setCell ⟨w.heap.size, 3, none⟩ (.bool c.has)).setCell ⟨w.heap.size, 4, none⟩ (.int .i64 c.dt)).setCell ⟨w.heap.size, 5, none⟩ (.int .i64 c.dn)).setCell ⟨w.heap.size, 6, none⟩ (.string c.ds)) = W at HQ9 HB9 ⊢
          obtain ⟨e0, e1, e2, e3, e4, e5, e6⟩ := HQ9.out.loc.seven
          exact bodyPost_ret (v := c.v) (by simp [results, Tryd.results7, go_sem, e0, e1, e2, e3, e4, e5, e6]) rfl ⟨HB9.out, c, rfl, hcn, HF.out⟩
      · go_wp2
        go_loopw [39] (fun i wr => ∃ (j : Nat) (c : Cl), j ≤ ks.length - 2 ∧ i = .int .i64 j ∧ Hid (Two w wr c) ∧ c.name.size ≤ 1048576 ∧ Hid (∀ d : Cl, d.ok = true → ks = d.wordsB → c = stage d j)) (fun i _ => (ks.length - 2) - (intOf i).toNat)
        case atStart => exact ⟨0, _, Nat.zero_le _, rfl, HKA, hnm, HC0⟩
        case round =>
          obtain ⟨j, c, hj, rfl, HK, hcn, HC⟩ := hrel
          by_cases hlt : j < ks.length - 2
          rotate_left
          · have hlti : ((ks.length - 2 : Nat) : Int) ≤ j := by omega
            obtain rfl : j = ks.length - 2 := by omega
            have HF : Hid (∀ d : Cl, d.ok = true → ks = d.wordsB → c = d) := fun d hd e => by rw [HC.out d hd e]; exact stage_end hd e
            obtain ⟨d0, d1, d2, d3, d4, d5, d6⟩ := HK.out.col.loc.seven
            obtain ⟨g0, g1, g2, g3, g4, g5, g6⟩ := HK.out.ans.loc.seven
            have i0 := HK.out.ans.frozen 0
            have i1 := HK.out.ans.frozen 1
            have i2 := HK.out.ans.frozen 2
            have i3 := HK.out.ans.frozen 3
            have i4 := HK.out.ans.frozen 4
            have i5 := HK.out.ans.frozen 5
            have i6 := HK.out.ans.frozen 6
            have HQ9 : Hid (Own (stores wr w.heap.size 0 [.string c.name, .int .i64 c.ty, .bool c.nt, .bool c.has, .int .i64 c.dt, .int .i64 c.dn, .string c.ds]) w.heap.size 25 #[.string c.name, .int .i64 c.ty, .bool c.nt, .bool c.has, .int .i64 c.dt, .int .i64 c.dn, .string c.ds]) := Own.fill (old := [.string ⟨#[]⟩, .int .i64 0, .bool false, .bool false, .int .i64 0, .int .i64 0, .string ⟨#[]⟩]) HK.out.ans [.string c.name, .int .i64 c.ty, .bool c.nt, .bool c.has, .int .i64 c.dt, .int .i64 c.dn, .string c.ds] rfl
            have HB9 : Hid (Below w.heap.size w (stores wr w.heap.size 0 [.string c.name, .int .i64 c.ty, .bool c.nt, .bool c.has, .int .i64 c.dt, .int .i64 c.dn, .string c.ds])) := HK.out.below.trans ((stores_turns w.heap.size [.string c.name, .int .i64 c.ty, .bool c.nt, .bool c.has, .int .i64 c.dt, .int .i64 c.dn, .string c.ds] wr wr 0 (Turns.refl _ _)).down (B := w.heap.size) (fun c hc => by omega) HK.out.below.size)
            go_wp2
            clear d0 d1 d2 d3 d4 d5 d6 g0 g1 g2 g3 g4 g5 g6 i0 i1 i2 i3 i4 i5 i6
            simp only [stores, Nat.zero_add, Nat.reduceAdd] at HQ9 HB9
            generalize (((((((wr.setCell ⟨w.heap.size, 0, none⟩ (.string c.name)).setCell ⟨w.heap.size, 1, none⟩ (.int .i64 c.ty)).setCell ⟨w.heap.size, 2, none⟩ (.bool c.nt)).setCell ⟨w.heap.size, 3, none⟩ (.bool c.has)).setCell ⟨w.heap.size, 4, none⟩ (.int .i64 c.dt)).setCell ⟨w.heap.size, 5, none⟩ (.int .i64 c.dn)).setCell ⟨w.heap.size, 6, none⟩ (.string c.ds)) = W at HQ9 HB9 ⊢
            obtain ⟨e0, e1, e2, e3, e4, e5, e6⟩ := HQ9.out.loc.seven
            exact bodyPost_ret (v := c.v) (by simp [results, Tryd.results7, go_sem, e0, e1, e2, e3, e4, e5, e6]) rfl ⟨HB9.out, c, rfl, hcn, HF.out⟩
          have hlti : (j : Int) < ((ks.length - 2 : Nat) : Int) := by omega
          have h2j : 2 + j < ks.length := by omega
          obtain ⟨_, _, he, x0⟩ := (HR.out.on HK.out.below).strs (2 + j) h2j
          cases he
          rw [← Nat.add_assoc] at x0
          have hxs : ks[2 + j].size ≤ 1048576 := HSZ.out _ (List.getElem_mem _)
          obtain ⟨c0, c1, c2, c3, c4, c5, c6⟩ := HK.out.col.loc.seven
          have i2 := HK.out.col.frozen 2
          have i3 := HK.out.col.frozen 3
          have i4 := HK.out.col.frozen 4
          have i5 := HK.out.col.frozen 5
          have i6 := HK.out.col.frozen 6
          by_cases hnb : ks[2 + j] = notB
          · have hq := eqT (s := ks[2 + j]) (l := [110, 111, 116]) (by rw [hnb])
            have HK' : Hid (Two w (wr.setCell ⟨w.heap.size + 1, 2, none⟩ (.bool true)) ⟨c.name, c.ty, true, c.has, c.dt, c.dn, c.ds⟩) := HK.out.set 2 _ rfl
            have HC' : Hid (∀ d : Cl, d.ok = true → ks = d.wordsB → (⟨c.name, c.ty, true, c.has, c.dt, c.dn, c.ds⟩ : Cl) = stage d (j + 1)) := fun d hd e => by
              have hc := HC.out d hd e
              rcases word_at e h2j with ⟨hn, rfl, _⟩ | ⟨_, _, hw⟩
              · subst hc
                simp [stage, hn]
              · exact absurd (hnb ▸ hw) (not_head _)
            clear hnb
            go_wp2
            go_round
            case rel => exact ⟨j + 1, _, by omega, by go_num, HK', hcn, HC'⟩
            case measure => simp [intOf]; omega
          · have hq := neT' (s := ks[2 + j]) (l := [110, 111, 116]) (fun e => hnb (bytes_inj (by rw [e])))
            by_cases hh : ∃ h0 : 0 < ks[2 + j].size, ks[2 + j][0] = 61
            · obtain ⟨h0, he⟩ := hh
              have hg0 : decide ((0 : Int) < ks[2 + j].size) = true := decide_eq_true (by omega)
              have hg1 : decide (0 < ks[2 + j].size) = true := decide_eq_true h0
              have hb : ((ks[2 + j][0].toNat : Int) == 61) = true := by rw [he]; rfl
              have hs1 : (1 : Int) ≤ ks[2 + j].size := by omega
              have HXD : Hid (ks[2 + j].data.toList = 61 :: (ks[2 + j].extract 1 ks[2 + j].size).data.toList) := by
                show _ = _
                have h1 := drop_one ks[2 + j] 0 h0
                rw [List.drop_zero] at h1
                rw [h1, he, mid_data, List.take_of_length_le (by simp)]
              have hds : (ks[2 + j].extract 1 ks[2 + j].size).size ≤ 1048576 := by rw [ByteArray.size_extract]; omega
              have HK' : Hid (Two w (wr.setCell ⟨w.heap.size + 1, 3, none⟩ (.bool true)) ⟨c.name, c.ty, c.nt, true, c.dt, c.dn, c.ds⟩) := HK.out.set 3 _ rfl
              clear he
              go_wp2_with fail
              clear c0 c1 c2 c3 c4 c5 c6 i2 i3 i4 i5 i6 x0
              generalize wr.setCell ⟨w.heap.size + 1, 3, none⟩ (.bool true) = u1 at HK' ⊢
              generalize ks[2 + j].extract 1 ks[2 + j].size = dw at HXD hds ⊢
              refine (textVal_spec dw hds _).mono ?_
              rintro e u2 ⟨dt, dn, ds, b, rfl, htv, bu⟩
              have HTV : Hid (TvR dw dt dn ds b) := htv
              have HK2 : Hid (Two w u2 ⟨c.name, c.ty, c.nt, true, c.dt, c.dn, c.ds⟩) := HK'.out.on bu
              obtain ⟨c0, c1, c2, c3, c4, c5, c6⟩ := HK2.out.col.loc.seven
              have i4 := HK2.out.col.frozen 4
              have i5 := HK2.out.col.frozen 5
              have i6 := HK2.out.col.frozen 6
              have HK3 : Hid (Two w (((u2.setCell ⟨w.heap.size + 1, 4, none⟩ (.int .i64 dt)).setCell ⟨w.heap.size + 1, 5, none⟩ (.int .i64 dn)).setCell ⟨w.heap.size + 1, 6, none⟩ (.string ds)) ⟨c.name, c.ty, c.nt, true, dt, dn, ds⟩) := ((HK2.out.set (d := ⟨c.name, c.ty, c.nt, true, dt, c.dn, c.ds⟩) 4 _ rfl).set (d := ⟨c.name, c.ty, c.nt, true, dt, dn, c.ds⟩) 5 _ rfl).set 6 _ rfl
              have HC' : Hid (∀ d : Cl, d.ok = true → ks = d.wordsB → (⟨c.name, c.ty, c.nt, true, dt, dn, ds⟩ : Cl) = stage d (j + 1)) := fun d hd e => by
                have hc := HC.out d hd e
                rcases word_at e h2j with ⟨_, _, hw⟩ | ⟨hh, hj', hw⟩
                · exact absurd hw hnb
                · have h1 := HXD.out
                  rw [hw, head61] at h1
                  simp only [List.cons.injEq, true_and] at h1
                  have hdw : dw = valText d.dt d.dn d.ds := (bytes_inj h1).symm
                  have htv := HTV.out
                  rw [hdw] at htv
                  obtain ⟨t1, t2, t3, _⟩ := tvr_yes d.dt d.dn d.ds ((ok_parts hd).2.2.2 hh) htv
                  subst hc
                  cases hnt : d.nt <;> simp [hnt] at hj' <;> simp [stage, hh, hj', hnt, t1, t2, t3]
              clear bu htv HK' HK2
              go_wp2
              go_round
              case rel =>
                refine ⟨_, _, _, _, _, _, _, _, _, _, _, _, _, _, _, _, _, _, _, _, _, _, _, _, _, ⟨j + 1, _, by omega, ?_, HK3, hcn, HC'⟩, rfl⟩
                go_num
              case measure => simp [intOf]; omega
            · have HC' : Hid (∀ d : Cl, d.ok = true → ks = d.wordsB → c = stage d (j + 1)) := fun d hd e => by
                exfalso
                rcases word_at e h2j with ⟨_, _, hw⟩ | ⟨_, _, hw⟩
                · exact hnb hw
                · have h1 : (ks[2 + j]).data.toList = 61 :: (valText d.dt d.dn d.ds).data.toList := by rw [hw, head61]
                  have h0 : 0 < ks[2 + j].size := by
                    have := congrArg List.length h1
                    simp at this
                    omega
                  refine hh ⟨h0, ?_⟩
                  have h2 := drop_one ks[2 + j] 0 h0
                  rw [List.drop_zero, h1] at h2
                  simp only [List.cons.injEq] at h2
                  exact h2.1.symm
              by_cases h0 : 0 < ks[2 + j].size
              · have hg0 : decide ((0 : Int) < ks[2 + j].size) = true := by simp; omega
                have hg1 : decide (0 < ks[2 + j].size) = true := by simp; omega
                have hb : ((ks[2 + j][0].toNat : Int) == 61) = false := by simpa using u8_ne (b := 61) (fun e => hh ⟨h0, e⟩)
                clear hh hnb
                go_wp2
                go_round
                case rel => exact ⟨j + 1, c, by omega, by go_num, HK, hcn, HC'⟩
                case measure => simp [intOf]; omega
              · have hg0 : decide ((0 : Int) < ks[2 + j].size) = false := decide_eq_false (by omega)
                have hg1 : decide (0 < ks[2 + j].size) = false := decide_eq_false (by omega)
                clear hh hnb
                go_wp2
                go_round
                case rel => exact ⟨j + 1, c, by omega, by go_num, HK, hcn, HC'⟩
                case measure => simp [intOf]; omega

theorem cutL_mem : ∀ (l cur : List UInt8) (x : List UInt8), x ∈ cutL 32 l cur → x.length ≤ cur.length + l.length
  | [], cur, x, h => by simp [cutL] at h; subst h; simp
  | b :: l, cur, x, h => by
    unfold cutL at h
    split at h
    · rcases List.mem_cons.1 h with rfl | h
      · simp
      · have := cutL_mem l [] x h; simp at this ⊢; omega
    · have := cutL_mem l (cur ++ [b]) x h; simp at this ⊢; omega
theorem pcs_size {s x : ByteArray} (h : x ∈ pcs 32 s) : x.size ≤ s.size := by
  have h1 : x.data.toList ∈ cutL 32 s.data.toList [] := by rw [← pcs_data]; exact List.mem_map_of_mem h
  have := cutL_mem _ _ _ h1
  simpa using this
theorem pcs_words {s : ByteArray} {d : Cl} (hd : d.ok = true) (h : d.text = s.data.toList) : pcs 32 s = d.wordsB := by
  apply bytes_map
  rw [pcs_data, words_data, ← h, Cl.text, if_pos hd]
  exact cut_join _ (by simp [Cl.words]) (words_solid hd)
theorem text_ne {d : Cl} (hd : d.ok = true) : d.text ≠ [] := fun e => by
  have h1 := col_read hd
  rw [Cl.text, if_pos hd] at e
  rw [e] at h1
  exact h1.some
set_option maxRecDepth 100000 in
set_option maxHeartbeats 1000000 in
/-- spec.TextCol -/
theorem textCol_spec (s : ByteArray) (w : World) (hs : s.size ≤ 1048576) :
    Calls Tryd.prog 4 #[.string s] w fun e w' => Below w.heap.size w w' ∧ ∃ (c : Cl) (q : Bool), e = .returned (.tuple #[c.v, .bool q]) ∧ isCol s c q := by
  have HW : Hid (∀ u : World, Calls Tryd.prog 8 #[.string s] u fun e w' => ∃ kv, e = .returned kv ∧ Below u.heap.size u w' ∧ Got w' u.heap.size 9 1 kv ((pcs 32 s).map strX)) := fun u => words_spec s u hs
  have HPS : Hid (∀ x ∈ pcs 32 s, x.size ≤ 1048576) := fun x hx => Nat.le_trans (pcs_size hx) hs
  have HPW : Hid (∀ d : Cl, d.ok = true → d.text = s.data.toList → pcs 32 s = d.wordsB) := fun d hd h => pcs_words hd h
  have HQ0 : Own (w.alloc (.cells #[.string ⟨#[]⟩, .int .i64 0, .bool false, .bool false, .int .i64 0, .int .i64 0, .string ⟨#[]⟩] 25)) w.heap.size 25 #[.string ⟨#[]⟩, .int .i64 0, .bool false, .bool false, .int .i64 0, .int .i64 0, .string ⟨#[]⟩] := Own.new w _ _
  have hv : Below w.heap.size w (w.alloc (.cells #[.string ⟨#[]⟩, .int .i64 0, .bool false, .bool false, .int .i64 0, .int .i64 0, .string ⟨#[]⟩] 25)) := ch_alloc (Below.refl _ _) _
  have hz0 : w.heap.size < (w.alloc (.cells #[.string ⟨#[]⟩, .int .i64 0, .bool false, .bool false, .int .i64 0, .int .i64 0, .string ⟨#[]⟩] 25)).heap.size := by simp
  generalize pcs 32 s = ps at HW HPS HPW
  go_enter Tryd.func4, Tryd.ntmps4
  go_wp2_with fail
  generalize w.alloc (.cells #[.string ⟨#[]⟩, .int .i64 0, .bool false, .bool false, .int .i64 0, .int .i64 0, .string ⟨#[]⟩] 25) = wv at HQ0 hv hz0 ⊢
  refine (HW.out _).mono ?_
  rintro e w1 ⟨kv, rfl, b1, hg⟩
  obtain ⟨ka, kn, kc, rfl, hg⟩ := hg.lit2
  have HG : Hid (StrsV w1 (.slice ka kn kc) ps) := hg.strs
  have HQ1 := HQ0.on b1
  have hb1 := ch_trans hv b1
  have hz1 : w.heap.size < w1.heap.size := Nat.lt_of_lt_of_le hz0 b1.size
  clear b1 hg hv HQ0 hz0
  go_wp2_with fail
  refine (readCol_spec _ ps _ HG.out HPS.out).mono ?_
  rintro e w2 ⟨b2, c, rfl, hcn, hc⟩
  have HC : Hid (∀ d : Cl, d.ok = true → d.text = s.data.toList → c = d) := fun d hd h => hc d hd (HPW.out d hd h)
  have HQ2 := HQ1.on b2
  have hb2 := ch_trans hb1 b2
  have hz2 : w.heap.size < w2.heap.size := Nat.lt_of_lt_of_le hz1 b2.size
  have hne : w.heap.size ≠ w2.heap.size := by omega
  have hnl : c.name.size ≤ maxLen := by unfold maxLen; omega
  have HCT : Hid (∀ u : World, Calls Tryd.prog 9 #[c.v] u fun e w' => e = .returned (.string ⟨c.text.toArray⟩) ∧ Below u.heap.size u w') := fun u => colText_spec c u hnl
  clear hc b2 HQ1 hb1 hz1 HG HW HPS HPW
  cases hse : s.toList.isEmpty
  rotate_left
  · have HI : Hid (isCol s ⟨⟨#[]⟩, 0, false, false, 0, 0, ⟨#[]⟩⟩ false) := Or.inr ⟨rfl, rfl, fun d hd e => text_ne hd (by
      rw [e]
      simpa [ByteArray.toList_eq] using hse)⟩
    have hq : (s.toList == []) = true := by simpa using hse
    obtain ⟨g0, g1, g2, g3, g4, g5, g6⟩ := HQ2.loc.seven
    have i0 := HQ2.frozen 0
    have i1 := HQ2.frozen 1
    have i2 := HQ2.frozen 2
    have i3 := HQ2.frozen 3
    have i4 := HQ2.frozen 4
    have i5 := HQ2.frozen 5
    have i6 := HQ2.frozen 6
    clear hse
    have HQ9 : Hid (Own ((stores w2 w.heap.size 0 [.string ⟨#[]⟩, .int .i64 0, .bool false, .bool false, .int .i64 0, .int .i64 0, .string ⟨#[]⟩]).alloc (.cells c.cells 25)) w.heap.size 25 #[.string ⟨#[]⟩, .int .i64 0, .bool false, .bool false, .int .i64 0, .int .i64 0, .string ⟨#[]⟩]) := (Own.fill (old := [.string ⟨#[]⟩, .int .i64 0, .bool false, .bool false, .int .i64 0, .int .i64 0, .string ⟨#[]⟩]) HQ2 [.string ⟨#[]⟩, .int .i64 0, .bool false, .bool false, .int .i64 0, .int .i64 0, .string ⟨#[]⟩] rfl).on (ch_alloc (Below.refl _ _) _)
    have HB9 : Hid (Below w.heap.size w ((stores w2 w.heap.size 0 [.string ⟨#[]⟩, .int .i64 0, .bool false, .bool false, .int .i64 0, .int .i64 0, .string ⟨#[]⟩]).alloc (.cells c.cells 25))) := ch_alloc (hb2.trans ((stores_turns w.heap.size [.string ⟨#[]⟩, .int .i64 0, .bool false, .bool false, .int .i64 0, .int .i64 0, .string ⟨#[]⟩] w2 w2 0 (Turns.refl _ _)).down (B := w.heap.size) (fun c hc => by omega) hb2.size)) _
    go_wp2
    clear g0 g1 g2 g3 g4 g5 g6 i0 i1 i2 i3 i4 i5 i6
    simp only [stores, Nat.zero_add, Nat.reduceAdd] at HQ9 HB9
    generalize ((((((((w2.setCell ⟨w.heap.size, 0, none⟩ (.string ⟨#[]⟩)).setCell ⟨w.heap.size, 1, none⟩ (.int .i64 0)).setCell ⟨w.heap.size, 2, none⟩ (.bool false)).setCell ⟨w.heap.size, 3, none⟩ (.bool false)).setCell ⟨w.heap.size, 4, none⟩ (.int .i64 0)).setCell ⟨w.heap.size, 5, none⟩ (.int .i64 0)).setCell ⟨w.heap.size, 6, none⟩ (.string ⟨#[]⟩)).alloc (.cells c.cells 25)) = W at HQ9 HB9 ⊢
    obtain ⟨e0, e1, e2, e3, e4, e5, e6⟩ := HQ9.out.loc.seven
    exact bodyPost_ret (v := .tuple #[.agg #[.string ⟨#[]⟩, .int .i64 0, .bool false, .bool false, .int .i64 0, .int .i64 0, .string ⟨#[]⟩], .bool false]) (by simp [results, Tryd.results4, go_sem, e0, e1, e2, e3, e4, e5, e6]) rfl ⟨HB9.out, ⟨⟨#[]⟩, 0, false, false, 0, 0, ⟨#[]⟩⟩, false, rfl, HI.out⟩
  have hq : (s.toList == []) = false := by
    cases h : s.toList == []
    · rfl
    · rw [beq_iff_eq] at h
      rw [h] at hse; cases hse
  have HSE : Hid (s.data.toList ≠ []) := fun e => by
    rw [ByteArray.toList_eq, e] at hq; cases hq
  have HL := Loc.new w2 c.cells 25
  have hv2 : Below w2.heap.size w2 (w2.alloc (.cells c.cells 25)) := ch_alloc (Below.refl _ _) _
  clear hse
  go_wp2_with fail
  refine (HCT.out _).mono ?_
  rintro e w3 ⟨rfl, b3⟩
  have HL3 := HL.on b3
  have HQ3 := (HQ2.on hv2).on b3
  have hb3 := ch_trans (ch_trans hb2 hv2) b3
  obtain ⟨d0, d1, d2, d3, d4, d5, d6⟩ := HL3.seven
  obtain ⟨g0, g1, g2, g3, g4, g5, g6⟩ := HQ3.loc.seven
  have i0 := HQ3.frozen 0
  have i1 := HQ3.frozen 1
  have i2 := HQ3.frozen 2
  have i3 := HQ3.frozen 3
  have i4 := HQ3.frozen 4
  have i5 := HQ3.frozen 5
  have i6 := HQ3.frozen 6
  clear b3 hv2 HL HQ2 hb2 HL3
  by_cases htx : c.text = s.data.toList
  · have HI : Hid (isCol s c true) := Or.inl ⟨rfl, by
      cases hok : c.ok
      · exfalso
        rw [Cl.text, if_neg (by simp [hok])] at htx
        exact HSE.out htx.symm
      · rfl, htx⟩
    have hse : (⟨c.text.toArray⟩ : ByteArray) = s := bytes_inj (by simpa using htx)
    have hq1 : ((⟨c.text.toArray⟩ : ByteArray).toList != s.toList) = false := by rw [hse]; simp
    have hq2 : ((⟨c.text.toArray⟩ : ByteArray).toList == s.toList) = true := str_yes hse
    clear htx hse
    generalize (⟨c.text.toArray⟩ : ByteArray) = tx at hq1 hq2 ⊢
    have HQ9 : Hid (Own (stores w3 w.heap.size 0 [.string c.name, .int .i64 c.ty, .bool c.nt, .bool c.has, .int .i64 c.dt, .int .i64 c.dn, .string c.ds]) w.heap.size 25 #[.string c.name, .int .i64 c.ty, .bool c.nt, .bool c.has, .int .i64 c.dt, .int .i64 c.dn, .string c.ds]) := Own.fill (old := [.string ⟨#[]⟩, .int .i64 0, .bool false, .bool false, .int .i64 0, .int .i64 0, .string ⟨#[]⟩]) HQ3 [.string c.name, .int .i64 c.ty, .bool c.nt, .bool c.has, .int .i64 c.dt, .int .i64 c.dn, .string c.ds] rfl
    have HB9 : Hid (Below w.heap.size w (stores w3 w.heap.size 0 [.string c.name, .int .i64 c.ty, .bool c.nt, .bool c.has, .int .i64 c.dt, .int .i64 c.dn, .string c.ds])) := hb3.trans ((stores_turns w.heap.size [.string c.name, .int .i64 c.ty, .bool c.nt, .bool c.has, .int .i64 c.dt, .int .i64 c.dn, .string c.ds] w3 w3 0 (Turns.refl _ _)).down (B := w.heap.size) (fun c hc => by omega) hb3.size)
    go_wp2
    clear g0 g1 g2 g3 g4 g5 g6 i0 i1 i2 i3 i4 i5 i6 d0 d1 d2 d3 d4 d5 d6
    simp only [stores, Nat.zero_add, Nat.reduceAdd] at HQ9 HB9
    generalize (((((((w3.setCell ⟨w.heap.size, 0, none⟩ (.string c.name)).setCell ⟨w.heap.size, 1, none⟩ (.int .i64 c.ty)).setCell ⟨w.heap.size, 2, none⟩ (.bool c.nt)).setCell ⟨w.heap.size, 3, none⟩ (.bool c.has)).setCell ⟨w.heap.size, 4, none⟩ (.int .i64 c.dt)).setCell ⟨w.heap.size, 5, none⟩ (.int .i64 c.dn)).setCell ⟨w.heap.size, 6, none⟩ (.string c.ds)) = W at HQ9 HB9 ⊢
    obtain ⟨e0, e1, e2, e3, e4, e5, e6⟩ := HQ9.out.loc.seven
    exact bodyPost_ret (v := .tuple #[.agg #[.string c.name, .int .i64 c.ty, .bool c.nt, .bool c.has, .int .i64 c.dt, .int .i64 c.dn, .string c.ds], .bool true]) (by simp [results, Tryd.results4, go_sem, e0, e1, e2, e3, e4, e5, e6]) rfl ⟨HB9.out, c, true, rfl, HI.out⟩
  · have HI : Hid (isCol s ⟨⟨#[]⟩, 0, false, false, 0, 0, ⟨#[]⟩⟩ false) := Or.inr ⟨rfl, rfl, fun d hd e => by
      have := HC.out d hd e
      subst this
      exact htx e⟩
    have hse : (⟨c.text.toArray⟩ : ByteArray) ≠ s := fun e => htx (by rw [← e])
    have hq1 := str_no hse
    have hq2 : ((⟨c.text.toArray⟩ : ByteArray).toList != s.toList) = true := by rw [bne, hq1]; rfl
    clear htx hse
    generalize (⟨c.text.toArray⟩ : ByteArray) = tx at hq1 hq2 ⊢
    have HQ9 : Hid (Own (stores w3 w.heap.size 0 [.string ⟨#[]⟩, .int .i64 0, .bool false, .bool false, .int .i64 0, .int .i64 0, .string ⟨#[]⟩]) w.heap.size 25 #[.string ⟨#[]⟩, .int .i64 0, .bool false, .bool false, .int .i64 0, .int .i64 0, .string ⟨#[]⟩]) := Own.fill (old := [.string ⟨#[]⟩, .int .i64 0, .bool false, .bool false, .int .i64 0, .int .i64 0, .string ⟨#[]⟩]) HQ3 [.string ⟨#[]⟩, .int .i64 0, .bool false, .bool false, .int .i64 0, .int .i64 0, .string ⟨#[]⟩] rfl
    have HB9 : Hid (Below w.heap.size w (stores w3 w.heap.size 0 [.string ⟨#[]⟩, .int .i64 0, .bool false, .bool false, .int .i64 0, .int .i64 0, .string ⟨#[]⟩])) := hb3.trans ((stores_turns w.heap.size [.string ⟨#[]⟩, .int .i64 0, .bool false, .bool false, .int .i64 0, .int .i64 0, .string ⟨#[]⟩] w3 w3 0 (Turns.refl _ _)).down (B := w.heap.size) (fun c hc => by omega) hb3.size)
    go_wp2
    clear g0 g1 g2 g3 g4 g5 g6 i0 i1 i2 i3 i4 i5 i6 d0 d1 d2 d3 d4 d5 d6
    simp only [stores, Nat.zero_add, Nat.reduceAdd] at HQ9 HB9
    generalize (((((((w3.setCell ⟨w.heap.size, 0, none⟩ (.string ⟨#[]⟩)).setCell ⟨w.heap.size, 1, none⟩ (.int .i64 0)).setCell ⟨w.heap.size, 2, none⟩ (.bool false)).setCell ⟨w.heap.size, 3, none⟩ (.bool false)).setCell ⟨w.heap.size, 4, none⟩ (.int .i64 0)).setCell ⟨w.heap.size, 5, none⟩ (.int .i64 0)).setCell ⟨w.heap.size, 6, none⟩ (.string ⟨#[]⟩)) = W at HQ9 HB9 ⊢
    obtain ⟨e0, e1, e2, e3, e4, e5, e6⟩ := HQ9.out.loc.seven
    exact bodyPost_ret (v := .tuple #[.agg #[.string ⟨#[]⟩, .int .i64 0, .bool false, .bool false, .int .i64 0, .int .i64 0, .string ⟨#[]⟩], .bool false]) (by simp [results, Tryd.results4, go_sem, e0, e1, e2, e3, e4, e5, e6]) rfl ⟨HB9.out, ⟨⟨#[]⟩, 0, false, false, 0, 0, ⟨#[]⟩⟩, false, rfl, HI.out⟩

/-- The two answer alike. -/
theorem isCol.unique {s : ByteArray} {c d : Cl} {q r : Bool} (h : isCol s c q) (k : isCol s d r) : c = d ∧ q = r := by
  rcases h with ⟨rfl, h1, h2⟩ | ⟨rfl, rfl, h⟩ <;> rcases k with ⟨rfl, k1, k2⟩ | ⟨rfl, rfl, k⟩
  · refine ⟨?_, rfl⟩
    have a := col_read h1
    have b := col_read k1
    rw [Cl.text, if_pos h1] at h2
    rw [Cl.text, if_pos k1] at k2
    rw [h2] at a
    rw [k2] at b
    exact a.unique b
  · exact absurd h2 (k _ h1)
  · exact absurd k2 (h _ k1)
  · exact ⟨rfl, rfl⟩
end Go.Proofs.YtmkgbdgafjeeiamDoor
