/- A reader over a text: a column. -/
import Derived.Test.YtmkgbdgafjeeiamDoorRc
import Derived.Test.YtmkgbdgafjeeiamDoorFl
namespace Go.Proofs.YtmkgbdgafjeeiamDoor
open Go.ChangeShapes Go.WideShapes Go.ChangeAt Go.RowKit

theorem eqT {s : ByteArray} {l : List UInt8} (h : s.data.toList = l) : (s.toList == l) = true := by rw [ByteArray.toList_eq, h]; simp
theorem neT' {s : ByteArray} {l : List UInt8} (h : s.data.toList ≠ l) : (s.toList == l) = false := by rw [ByteArray.toList_eq]; simpa using h
theorem Turns.new {S : Nat → Prop} {a b : World} (h : Turns S a b) {p : Addr} (hp : a.heap.size ≤ p.block) (u : Value) : Turns S a (b.setCell p u) :=
  ⟨h.os, h.tape, h.output, by simpa [World.setCell] using h.size, fun i hi hn => (Below.heap_setCell _ _ _ _ (fun e => by omega)).trans (h.block i hi hn)⟩
theorem Turns.grow {S : Nat → Prop} {a b c : World} (h : Turns S a b) {n : Nat} (k : Below n b c) (hn : a.heap.size ≤ n) : Turns S a c :=
  ⟨k.os.trans h.os, k.tape.trans h.tape, k.output.trans h.output, Nat.le_trans h.size k.size, fun i hi hs => (k.block i (by omega)).trans (h.block i hi hs)⟩
theorem wordF_len : ∀ (l : List UInt8) {x l' : List UInt8}, wordF l = some (x, l') → x.length ≤ l.length
  | [], x, l', h => by simp [wordF] at h; simp [h.1]
  | b :: r, x, l', h => by
    unfold wordF at h
    split at h
    · simp only [Option.some.injEq, Prod.mk.injEq] at h; simp [← h.1]
    · split at h
      · simp only [Option.some.injEq, Prod.mk.injEq] at h; simp [← h.1]
      · split at h
        · cases hr : wordF r with
          | none => rw [hr] at h; cases h
          | some p =>
            obtain ⟨y, m⟩ := p
            rw [hr] at h
            simp only [Option.map_some, Option.some.injEq, Prod.mk.injEq] at h
            have := wordF_len r hr
            rw [← h.1]
            simp; omega
        · cases h
theorem word_size {s x : ByteArray} {k : Nat} {l : List UInt8} (h : wordF (s.data.toList.drop k) = some (x.data.toList, l)) : x.size ≤ s.size := by
  have := wordF_len _ h
  simp at this
  omega
/-- What the walk of a column keeps: the reader, the answer's variable, the column's own. -/
structure Keep (w u : World) (R Cb : Nat) (s : ByteArray) (k : Nat) (cc : Array Value) : Prop where
  rd : Rd u R s k
  env : Env u R
  ans : Own u w.heap.size 25 #[.string ⟨#[]⟩, .int .i64 0, .bool false, .bool false, .int .i64 0, .int .i64 0, .string ⟨#[]⟩]
  col : Own u Cb 25 cc
  turns : Turns (· = R) w u
theorem Keep.word {w u u' : World} {R Cb : Nat} {s : ByteArray} {k k' : Nat} {cc : Array Value} (h : Keep w u R Cb s k cc) (hT : Turns (· = R) u u') (hr : Rd u' R s k') (hR : R < w.heap.size) (hC : w.heap.size < Cb) : Keep w u' R Cb s k' cc :=
  ⟨hr, h.env.turn hT (Nat.le_trans (Nat.le_of_lt hR) h.turns.size), h.ans.turned hT (by omega), h.col.turned hT (by omega), h.turns.trans hT⟩
theorem Keep.below {w u u' : World} {R Cb : Nat} {s : ByteArray} {k : Nat} {cc : Array Value} (h : Keep w u R Cb s k cc) (b : Below u.heap.size u u') (hR : R < w.heap.size) : Keep w u' R Cb s k cc :=
  ⟨h.rd.on b, h.env.on (b.mono (Nat.le_trans (Nat.le_of_lt hR) h.turns.size)), h.ans.on b, h.col.on b, h.turns.below b⟩
theorem Keep.set {w u : World} {R Cb : Nat} {s : ByteArray} {k : Nat} {cc : Array Value} (h : Keep w u R Cb s k cc) (hR : R < w.heap.size) (hC : w.heap.size < Cb) (j : Nat) (v : Value) : Keep w (u.setCell ⟨Cb, j, none⟩ v) R Cb s k (cc.setIfInBounds j v) := by
  have hT : Turns (fun c => c = Cb) u (u.setCell ⟨Cb, j, none⟩ v) := (Turns.refl (fun c => c = Cb) u).set (p := ⟨Cb, j, none⟩) rfl v
  exact ⟨Own.turned h.rd hT (by omega), h.env.on (hT.down (fun c hc => by omega) (Nat.le_trans (Nat.le_of_lt hR) h.turns.size)), h.ans.turned hT (by omega), h.col.set j v, h.turns.new (by simp; omega) v⟩

set_option maxRecDepth 100000 in
set_option maxHeartbeats 1000000 in
/-- (*reader).col -/
theorem col_any (R : Nat) (s ew : ByteArray) (f : Nat) (w : World) (hs : s.size ≤ 1048576) (hk : f ≤ s.size) (hr : Rd w R s f) (hE : Env w R) :
    Calls Tryd.prog 12 #[.pointer (some ⟨R, 0, none⟩), .string ew] w fun e w' => Turns (· = R) w w' ∧ ((∃ (c : Cl) (k' : Nat), e = .returned c.v ∧ k' ≤ s.size ∧ PCol ew.data.toList (s.data.toList.drop f) c (s.data.toList.drop k') ∧ Rd w' R s k') ∨ (e = gone ∧ ∀ c l, ¬ PCol ew.data.toList (s.data.toList.drop f) c l)) := by
  have HR : Hid (Rd w R s f) := hr
  have HE : Hid (Env w R) := hE
  clear hr hE
  have hRl : R < w.heap.size := cell_lt HR.out.loc.two.1
  have HQ0 : Own (w.alloc (.cells #[.string ⟨#[]⟩, .int .i64 0, .bool false, .bool false, .int .i64 0, .int .i64 0, .string ⟨#[]⟩] 25)) w.heap.size 25 #[.string ⟨#[]⟩, .int .i64 0, .bool false, .bool false, .int .i64 0, .int .i64 0, .string ⟨#[]⟩] := Own.new w _ _
  have hv : Below w.heap.size w (w.alloc (.cells #[.string ⟨#[]⟩, .int .i64 0, .bool false, .bool false, .int .i64 0, .int .i64 0, .string ⟨#[]⟩] 25)) := ch_alloc (Below.refl _ _) _
  have hz0 : w.heap.size < (w.alloc (.cells #[.string ⟨#[]⟩, .int .i64 0, .bool false, .bool false, .int .i64 0, .int .i64 0, .string ⟨#[]⟩] 25)).heap.size := by simp
  have HR0 : Hid (Rd (w.alloc (.cells #[.string ⟨#[]⟩, .int .i64 0, .bool false, .bool false, .int .i64 0, .int .i64 0, .string ⟨#[]⟩] 25)) R s f) := HR.out.on hv
  have HE0 : Hid (Env (w.alloc (.cells #[.string ⟨#[]⟩, .int .i64 0, .bool false, .bool false, .int .i64 0, .int .i64 0, .string ⟨#[]⟩] 25)) R) := HE.out.on (hv.mono (by omega))
  have HT0 : Hid (Turns (· = R) w (w.alloc (.cells #[.string ⟨#[]⟩, .int .i64 0, .bool false, .bool false, .int .i64 0, .int .i64 0, .string ⟨#[]⟩] 25))) := (Turns.refl _ _).below hv
  clear HR HE
  go_enter Tryd.func12, Tryd.ntmps12
  go_wp2_with fail
  generalize w.alloc (.cells #[.string ⟨#[]⟩, .int .i64 0, .bool false, .bool false, .int .i64 0, .int .i64 0, .string ⟨#[]⟩] 25) = wv at HQ0 hv hz0 HR0 HE0 HT0 ⊢
  refine (word_any R s f _ hs hk HR0.out HE0.out.uni HE0.out.r1 HE0.out.r2).mono ?_
  rintro e w1 ⟨hT, h⟩
  have HT1 : Hid (Turns (· = R) w w1) := HT0.out.trans hT
  rcases h with ⟨nm, k1, rfl, hk1, hw1, hr1⟩ | ⟨rfl, hw1⟩
  rotate_left
  · have HB : Hid (∀ c l, ¬ PCol ew.data.toList (s.data.toList.drop f) c l) := fun c l h => by
      obtain ⟨_, _, h, _⟩ := h
      rw [hw1] at h; cases h
    clear hT hw1
    go_wp2
    exact ⟨rfl, HT1.out, Or.inr ⟨rfl, HB.out⟩⟩
  have HQ1 := HQ0.turned hT (by omega)
  have hz1 : w.heap.size < w1.heap.size := Nat.lt_of_lt_of_le hz0 hT.size
  have HR1 : Hid (Rd w1 R s k1) := hr1
  have HE1 : Hid (Env w1 R) := HE0.out.turn hT (by omega)
  have HW1 : Hid (wordF (s.data.toList.drop f) = some (nm.data.toList, s.data.toList.drop k1)) := hw1
  clear hT hw1 hr1 HQ0 hv hz0 HR0 HE0 HT0
  go_wp2_with fail
  refine (colType_any R s k1 _ hs hk1 HR1.out HE1.out.uni HE1.out.r1 HE1.out.r2).mono ?_
  rintro e w2 ⟨hT, h⟩
  have HT2 : Hid (Turns (· = R) w w2) := HT1.out.trans hT
  rcases h with ⟨ty, k2, rfl, hk2, hw2, hr2⟩ | ⟨rfl, hw2⟩
  rotate_left
  · have HB : Hid (∀ c l, ¬ PCol ew.data.toList (s.data.toList.drop f) c l) := fun c l h => by
      obtain ⟨_, _, h, h', _⟩ := h
      rw [HW1.out] at h
      simp only [Option.some.injEq, Prod.mk.injEq] at h
      obtain ⟨_, rfl⟩ := h
      exact hw2 _ _ h'
    clear hT hw2
    go_wp2
    exact ⟨rfl, HT2.out, Or.inr ⟨rfl, HB.out⟩⟩
  have HQ2 := HQ1.turned hT (by omega)
  have hz2 : w.heap.size < w2.heap.size := Nat.lt_of_lt_of_le hz1 hT.size
  have HR2 : Hid (Rd w2 R s k2) := hr2
  have HE2 : Hid (Env w2 R) := HE1.out.turn hT (by omega)
  have HW2 : Hid (PType (s.data.toList.drop k1) ty (s.data.toList.drop k2)) := hw2
  clear hT hw2 hr2 HQ1 hz1 HR1 HE1 HT1
  obtain ⟨Cb, hCb⟩ : ∃ Cb, Cb = w2.heap.size := ⟨_, rfl⟩
  have hCw : w.heap.size < Cb := by omega
  have hv2 : Below w2.heap.size w2 (w2.alloc (.cells #[.string nm, .int .i64 ty, .bool false, .bool false, .int .i64 0, .int .i64 0, .string ⟨#[]⟩] 25)) := ch_alloc (Below.refl _ _) _
  have HK0 : Hid (Keep w (w2.alloc (.cells #[.string nm, .int .i64 ty, .bool false, .bool false, .int .i64 0, .int .i64 0, .string ⟨#[]⟩] 25)) R Cb s k2 #[.string nm, .int .i64 ty, .bool false, .bool false, .int .i64 0, .int .i64 0, .string ⟨#[]⟩]) := ⟨HR2.out.on hv2, HE2.out.on (hv2.mono (by omega)), HQ2.on hv2, by subst hCb; exact Own.new w2 _ _, HT2.out.below hv2⟩
  clear HQ2 hz2 HR2 HE2 HT2 hv2
  go_wp2_with fail
  rw [← hCb]
  clear hCb
  generalize w2.alloc (.cells #[.string nm, .int .i64 ty, .bool false, .bool false, .int .i64 0, .int .i64 0, .string ⟨#[]⟩] 25) = u2 at HK0 ⊢
  refine (word_any R s k2 _ hs hk2 HK0.out.rd HK0.out.env.uni HK0.out.env.r1 HK0.out.env.r2).mono ?_
  rintro e u3 ⟨hT, h⟩
  rcases h with ⟨x, k3, rfl, hk3, hw3, hr3⟩ | ⟨rfl, hw3⟩
  rotate_left
  · have HB : Hid (∀ c l, ¬ PCol ew.data.toList (s.data.toList.drop f) c l) := fun c l h => (h.inv HW1.out HW2.out).2.2.no1 hw3
    have HTW : Hid (Turns (· = R) w u3) := HK0.out.turns.trans hT
    clear hT hw3 HK0
    go_wp2
    first | exact ⟨rfl, HTW.out, Or.inr ⟨rfl, HB.out⟩⟩ | exact ⟨trivial, HTW.out, Or.inr ⟨rfl, HB.out⟩⟩
  have HK3 : Hid (Keep w u3 R Cb s k3 #[.string nm, .int .i64 ty, .bool false, .bool false, .int .i64 0, .int .i64 0, .string ⟨#[]⟩]) := HK0.out.word hT hr3 hRl hCw
  have HW3 : Hid (wordF (s.data.toList.drop k2) = some (x.data.toList, s.data.toList.drop k3)) := hw3
  have HX : Hid (x.size ≤ s.size) := word_size hw3
  clear hT hw3 hr3 HK0
  by_cases hx : x.data.toList = notT
  · have hq := eqT hx
    have HW3' : Hid (wordF (s.data.toList.drop k2) = some (notT, s.data.toList.drop k3)) := by rw [← hx]; exact HW3.out
    obtain ⟨d0, d1, d2, d3, d4, d5, d6⟩ := HK3.out.col.loc.seven
    have i2 := HK3.out.col.frozen 2
    have HK4 : Hid (Keep w (u3.setCell ⟨Cb, 2, none⟩ (.bool true)) R Cb s k3 #[.string nm, .int .i64 ty, .bool true, .bool false, .int .i64 0, .int .i64 0, .string ⟨#[]⟩]) := HK3.out.set hRl hCw 2 (.bool true)
    clear hx HW3 HX
    go_wp2_with fail
    clear d0 d1 d2 d3 d4 d5 d6 i2 HK3
    generalize u3.setCell ⟨Cb, 2, none⟩ (.bool true) = u4 at HK4 ⊢
    refine (word_any R s k3 _ hs hk3 HK4.out.rd HK4.out.env.uni HK4.out.env.r1 HK4.out.env.r2).mono ?_
    rintro e u5 ⟨hT, h⟩
    rcases h with ⟨y, k4, rfl, hk4, hw4, hr4⟩ | ⟨rfl, hw4⟩
    rotate_left
    · have HB : Hid (∀ c l, ¬ PCol ew.data.toList (s.data.toList.drop f) c l) := fun c l h => by
        obtain ⟨_, w3, l4, g, _⟩ := (h.inv HW1.out HW2.out).2.2.yes HW3'.out
        rw [hw4] at g; cases g
      have HTW : Hid (Turns (· = R) w u5) := HK4.out.turns.trans hT
      clear hT hw4 HK4
      go_wp2
      first | exact ⟨rfl, HTW.out, Or.inr ⟨rfl, HB.out⟩⟩ | exact ⟨trivial, HTW.out, Or.inr ⟨rfl, HB.out⟩⟩
    have HK : Hid (Keep w u5 R Cb s k4 #[.string nm, .int .i64 ty, .bool true, .bool false, .int .i64 0, .int .i64 0, .string ⟨#[]⟩]) := HK4.out.word hT hr4 hRl hCw
    have HX : Hid (y.size ≤ s.size) := word_size hw4
    have HH : Hid (∀ c l, PCol ew.data.toList (s.data.toList.drop f) c l → c.name = nm ∧ c.ty = ty ∧ c.nt = true ∧ PHas ew.data.toList y.data.toList (s.data.toList.drop k4) c l) := fun c l h => by
      obtain ⟨e1, e2, h3⟩ := h.inv HW1.out HW2.out
      obtain ⟨e3, w3, l4, g, g'⟩ := h3.yes HW3'.out
      rw [hw4] at g
      simp only [Option.some.injEq, Prod.mk.injEq] at g
      obtain ⟨rfl, rfl⟩ := g
      exact ⟨e1, e2, e3, g'⟩
    have HS : Hid (∀ has dt dn ds l', PHas ew.data.toList y.data.toList (s.data.toList.drop k4) ⟨nm, ty, true, has, dt, dn, ds⟩ l' → PCol ew.data.toList (s.data.toList.drop f) ⟨nm, ty, true, has, dt, dn, ds⟩ l') := fun has dt dn ds l' h => ⟨_, _, HW1.out, HW2.out, _, _, Or.inl ⟨rfl, _, HW3'.out, hw4⟩, h⟩
    clear hT hw4 hr4 HK4 hq
    by_cases hh : ∃ h0 : 0 < y.size, y[0] = 61
    · obtain ⟨h0, he⟩ := hh
      have hxd : y.data.toList = 61 :: (y.extract 1 y.size).data.toList := by
        have h1 := drop_one y 0 h0
        rw [List.drop_zero] at h1
        rw [h1, he, mid_data, List.take_of_length_le (by simp)]
      have HXD : Hid (y.data.toList = 61 :: (y.extract 1 y.size).data.toList) := hxd
      have hxs : (y.extract 1 y.size).size ≤ 1048576 := by rw [ByteArray.size_extract]; have := HX.out; omega
      clear hxd
      go_wp2_with fail
      refine (cut_yes y _ h0 he).mono ?_
      rintro e w' ⟨rfl, hw'⟩
      rw [hw']
      clear hw' w'
      clear h0 he
      obtain ⟨d0, d1, d2, d3, d4, d5, d6⟩ := HK.out.col.loc.seven
      have i3 := HK.out.col.frozen 3
      have HK1 : Hid (Keep w (u5.setCell ⟨Cb, 3, none⟩ (.bool true)) R Cb s k4 #[.string nm, .int .i64 ty, .bool true, .bool true, .int .i64 0, .int .i64 0, .string ⟨#[]⟩]) := HK.out.set hRl hCw 3 (.bool true)
      go_wp2_with fail
      clear d0 d1 d2 d3 d4 d5 d6 i3 HK
      generalize u5.setCell ⟨Cb, 3, none⟩ (.bool true) = v1 at HK1 ⊢
      generalize y.extract 1 y.size = dw at HXD hxs ⊢
      refine (valOf_any dw _ hxs HK1.out.env.tab HK1.out.env.errs).mono ?_
      rintro e v2 ⟨bv, hv⟩
      have HK2 : Hid (Keep w v2 R Cb s k4 #[.string nm, .int .i64 ty, .bool true, .bool true, .int .i64 0, .int .i64 0, .string ⟨#[]⟩]) := HK1.out.below bv hRl
      clear bv HK1
      rcases hv with ⟨dt, dn, ds, rfl, hv⟩ | ⟨rfl, hv⟩
      rotate_left
      · have HK := HK2
        have HB : Hid (∀ c l, ¬ PCol ew.data.toList (s.data.toList.drop f) c l) := fun c l h => by
            obtain ⟨_, _, _, g⟩ := HH.out c l h
            rw [HXD.out] at g
            exact hv _ _ _ (by have := g.yes.2.1; rwa [ba_eta] at this)
        have HTW : Hid (Turns (· = R) w v2) := HK.out.turns
        clear HK
        go_wp2
        first | exact ⟨rfl, HTW.out, Or.inr ⟨rfl, HB.out⟩⟩ | exact ⟨trivial, HTW.out, Or.inr ⟨rfl, HB.out⟩⟩
      have HV : Hid (Tv dw dt dn ds) := hv
      clear hv
      obtain ⟨d0, d1, d2, d3, d4, d5, d6⟩ := HK2.out.col.loc.seven
      have i4 := HK2.out.col.frozen 4
      have i5 := HK2.out.col.frozen 5
      have i6 := HK2.out.col.frozen 6
      have HK3 : Hid (Keep w (((v2.setCell ⟨Cb, 4, none⟩ (.int .i64 dt)).setCell ⟨Cb, 5, none⟩ (.int .i64 dn)).setCell ⟨Cb, 6, none⟩ (.string ds)) R Cb s k4 #[.string nm, .int .i64 ty, .bool true, .bool true, .int .i64 dt, .int .i64 dn, .string ds]) := ((HK2.out.set hRl hCw 4 (.int .i64 dt)).set hRl hCw 5 (.int .i64 dn)).set hRl hCw 6 (.string ds)
      go_wp2_with fail
      clear d0 d1 d2 d3 d4 d5 d6 i4 i5 i6 HK2
      generalize ((v2.setCell ⟨Cb, 4, none⟩ (.int .i64 dt)).setCell ⟨Cb, 5, none⟩ (.int .i64 dn)).setCell ⟨Cb, 6, none⟩ (.string ds) = v3 at HK3 ⊢
      refine (word_any R s k4 _ hs hk4 HK3.out.rd HK3.out.env.uni HK3.out.env.r1 HK3.out.env.r2).mono ?_
      rintro e v4 ⟨hT, h⟩
      rcases h with ⟨z, kz, rfl, hkz, hwz, hrz⟩ | ⟨rfl, hwz⟩
      rotate_left
      · have HK : Hid (Keep w v4 R Cb s k4 #[.string nm, .int .i64 ty, .bool true, .bool true, .int .i64 dt, .int .i64 dn, .string ds] ∨ Turns (· = R) w v4) := Or.inr (HK3.out.turns.trans hT)
        have HB : Hid (∀ c l, ¬ PCol ew.data.toList (s.data.toList.drop f) c l) := fun c l h => by
          obtain ⟨_, _, _, g⟩ := HH.out c l h
          rw [HXD.out] at g
          have := g.yes.2.2
          rw [hwz] at this; cases this
        have HTW : Hid (Turns (· = R) w v4) := HK3.out.turns.trans hT
        clear hT hwz HK HK3
        go_wp2
        first | exact ⟨rfl, HTW.out, Or.inr ⟨rfl, HB.out⟩⟩ | exact ⟨trivial, HTW.out, Or.inr ⟨rfl, HB.out⟩⟩
      have HK : Hid (Keep w v4 R Cb s kz #[.string nm, .int .i64 ty, .bool true, .bool true, .int .i64 dt, .int .i64 dn, .string ds]) := HK3.out.word hT hrz hRl hCw
      have HZ : Hid (wordF (s.data.toList.drop k4) = some (z.data.toList, s.data.toList.drop kz)) := hwz
      clear hT hrz hwz HK3
      by_cases hze : z = ew
      · have hq : (z.toList != ew.toList) = false := by simp [hze]
        have hq2 : (z.toList == ew.toList) = true := str_yes hze
        have HZE : Hid (z.data.toList = ew.data.toList) := by show _ = _; rw [hze]
        clear hze
        have HP : Hid (PCol ew.data.toList (s.data.toList.drop f) ⟨nm, ty, true, true, dt, dn, ds⟩ (s.data.toList.drop kz)) := HS.out _ _ _ _ _ (Or.inl ⟨rfl, _, HXD.out, by rw [ba_eta]; exact HV.out, by rw [← HZE.out]; exact HZ.out⟩)
        obtain ⟨d0, d1, d2, d3, d4, d5, d6⟩ := HK.out.col.loc.seven
        obtain ⟨g0, g1, g2, g3, g4, g5, g6⟩ := HK.out.ans.loc.seven
        have i0 := HK.out.ans.frozen 0
        have i1 := HK.out.ans.frozen 1
        have i2 := HK.out.ans.frozen 2
        have i3 := HK.out.ans.frozen 3
        have i4 := HK.out.ans.frozen 4
        have i5 := HK.out.ans.frozen 5
        have i6 := HK.out.ans.frozen 6
        have HQ9 : Hid (Own (stores v4 w.heap.size 0 [.string nm, .int .i64 ty, .bool true, .bool true, .int .i64 dt, .int .i64 dn, .string ds]) w.heap.size 25 #[.string nm, .int .i64 ty, .bool true, .bool true, .int .i64 dt, .int .i64 dn, .string ds]) := Own.fill (old := [.string ⟨#[]⟩, .int .i64 0, .bool false, .bool false, .int .i64 0, .int .i64 0, .string ⟨#[]⟩]) HK.out.ans [.string nm, .int .i64 ty, .bool true, .bool true, .int .i64 dt, .int .i64 dn, .string ds] rfl
        have HT9 : Hid (Turns (fun c => c = w.heap.size) v4 (stores v4 w.heap.size 0 [.string nm, .int .i64 ty, .bool true, .bool true, .int .i64 dt, .int .i64 dn, .string ds])) := stores_turns w.heap.size [.string nm, .int .i64 ty, .bool true, .bool true, .int .i64 dt, .int .i64 dn, .string ds] v4 v4 0 (Turns.refl _ _)
        have HR9 : Hid (Rd (stores v4 w.heap.size 0 [.string nm, .int .i64 ty, .bool true, .bool true, .int .i64 dt, .int .i64 dn, .string ds]) R s kz) := Own.turned HK.out.rd HT9.out (by omega)
        have HTW : Hid (Turns (· = R) w (stores v4 w.heap.size 0 [.string nm, .int .i64 ty, .bool true, .bool true, .int .i64 dt, .int .i64 dn, .string ds])) := HK.out.turns.grow (HT9.out.down (B := w.heap.size) (fun c hc => by omega) HK.out.turns.size) (Nat.le_refl _)
        go_wp2
        clear d0 d1 d2 d3 d4 d5 d6 g0 g1 g2 g3 g4 g5 g6 i0 i1 i2 i3 i4 i5 i6
        simp only [stores, Nat.zero_add, Nat.reduceAdd] at HQ9 HR9 HTW
        generalize (((((((v4.setCell ⟨w.heap.size, 0, none⟩ (.string nm)).setCell ⟨w.heap.size, 1, none⟩ (.int .i64 ty)).setCell ⟨w.heap.size, 2, none⟩ (.bool true)).setCell ⟨w.heap.size, 3, none⟩ (.bool true)).setCell ⟨w.heap.size, 4, none⟩ (.int .i64 dt)).setCell ⟨w.heap.size, 5, none⟩ (.int .i64 dn)).setCell ⟨w.heap.size, 6, none⟩ (.string ds)) = W at HQ9 HR9 HTW ⊢
        obtain ⟨e0, e1, e2, e3, e4, e5, e6⟩ := HQ9.out.loc.seven
        exact bodyPost_ret (v := .agg #[.string nm, .int .i64 ty, .bool true, .bool true, .int .i64 dt, .int .i64 dn, .string ds]) (by simp [results, Tryd.results12, go_sem, e0, e1, e2, e3, e4, e5, e6]) rfl ⟨HTW.out, Or.inl ⟨⟨nm, ty, true, true, dt, dn, ds⟩, kz, rfl, hkz, HP.out, HR9.out⟩⟩
      · have hq := str_no hze
        have hq2 : (z.toList != ew.toList) = true := by rw [bne, hq]; rfl
        have HB : Hid (∀ c l, ¬ PCol ew.data.toList (s.data.toList.drop f) c l) := fun c l h => by
            obtain ⟨_, _, _, g⟩ := HH.out c l h
            rw [HXD.out] at g
            have := g.yes.2.2
            rw [HZ.out] at this
            simp only [Option.some.injEq, Prod.mk.injEq] at this
            exact hze (bytes_inj this.1)
        have HTW : Hid (Turns (· = R) w v4) := HK.out.turns
        clear HK
        go_wp2
        first | exact ⟨rfl, HTW.out, Or.inr ⟨rfl, HB.out⟩⟩ | exact ⟨trivial, HTW.out, Or.inr ⟨rfl, HB.out⟩⟩
    · have hno : ∀ h0 : 0 < y.size, y[0] ≠ 61 := fun h0 he => hh ⟨h0, he⟩
      have HNH : Hid (y.data.toList.head? ≠ some 61) := fun e => by
        by_cases h0 : 0 < y.size
        · have h1 := drop_one y 0 h0
          rw [List.drop_zero] at h1
          rw [h1] at e
          simp only [List.head?_cons, Option.some.injEq] at e
          exact hno h0 e
        · have : y.data.toList = [] := by
            apply List.length_eq_zero_iff.1
            simpa using h0
          rw [this] at e; cases e
      clear hh
      go_wp2_with fail
      refine (cut_no y _ hno).mono ?_
      rintro e w' ⟨rfl, hw'⟩
      rw [hw']
      clear hw' w'
      clear hno
      by_cases hze : y = ew
      · have hq : (y.toList != ew.toList) = false := by simp [hze]
        have hq2 : (y.toList == ew.toList) = true := str_yes hze
        have HZE : Hid (y.data.toList = ew.data.toList) := by show _ = _; rw [hze]
        clear hze
        have HP : Hid (PCol ew.data.toList (s.data.toList.drop f) ⟨nm, ty, true, false, 0, 0, ⟨#[]⟩⟩ (s.data.toList.drop k4)) := HS.out _ _ _ _ _ (Or.inr ⟨rfl, rfl, rfl, rfl, HNH.out, HZE.out, rfl⟩)
        obtain ⟨d0, d1, d2, d3, d4, d5, d6⟩ := HK.out.col.loc.seven
        obtain ⟨g0, g1, g2, g3, g4, g5, g6⟩ := HK.out.ans.loc.seven
        have i0 := HK.out.ans.frozen 0
        have i1 := HK.out.ans.frozen 1
        have i2 := HK.out.ans.frozen 2
        have i3 := HK.out.ans.frozen 3
        have i4 := HK.out.ans.frozen 4
        have i5 := HK.out.ans.frozen 5
        have i6 := HK.out.ans.frozen 6
        have HQ9 : Hid (Own (stores u5 w.heap.size 0 [.string nm, .int .i64 ty, .bool true, .bool false, .int .i64 0, .int .i64 0, .string ⟨#[]⟩]) w.heap.size 25 #[.string nm, .int .i64 ty, .bool true, .bool false, .int .i64 0, .int .i64 0, .string ⟨#[]⟩]) := Own.fill (old := [.string ⟨#[]⟩, .int .i64 0, .bool false, .bool false, .int .i64 0, .int .i64 0, .string ⟨#[]⟩]) HK.out.ans [.string nm, .int .i64 ty, .bool true, .bool false, .int .i64 0, .int .i64 0, .string ⟨#[]⟩] rfl
        have HT9 : Hid (Turns (fun c => c = w.heap.size) u5 (stores u5 w.heap.size 0 [.string nm, .int .i64 ty, .bool true, .bool false, .int .i64 0, .int .i64 0, .string ⟨#[]⟩])) := stores_turns w.heap.size [.string nm, .int .i64 ty, .bool true, .bool false, .int .i64 0, .int .i64 0, .string ⟨#[]⟩] u5 u5 0 (Turns.refl _ _)
        have HR9 : Hid (Rd (stores u5 w.heap.size 0 [.string nm, .int .i64 ty, .bool true, .bool false, .int .i64 0, .int .i64 0, .string ⟨#[]⟩]) R s k4) := Own.turned HK.out.rd HT9.out (by omega)
        have HTW : Hid (Turns (· = R) w (stores u5 w.heap.size 0 [.string nm, .int .i64 ty, .bool true, .bool false, .int .i64 0, .int .i64 0, .string ⟨#[]⟩])) := HK.out.turns.grow (HT9.out.down (B := w.heap.size) (fun c hc => by omega) HK.out.turns.size) (Nat.le_refl _)
        go_wp2
        clear d0 d1 d2 d3 d4 d5 d6 g0 g1 g2 g3 g4 g5 g6 i0 i1 i2 i3 i4 i5 i6
        simp only [stores, Nat.zero_add, Nat.reduceAdd] at HQ9 HR9 HTW
        generalize (((((((u5.setCell ⟨w.heap.size, 0, none⟩ (.string nm)).setCell ⟨w.heap.size, 1, none⟩ (.int .i64 ty)).setCell ⟨w.heap.size, 2, none⟩ (.bool true)).setCell ⟨w.heap.size, 3, none⟩ (.bool false)).setCell ⟨w.heap.size, 4, none⟩ (.int .i64 0)).setCell ⟨w.heap.size, 5, none⟩ (.int .i64 0)).setCell ⟨w.heap.size, 6, none⟩ (.string ⟨#[]⟩)) = W at HQ9 HR9 HTW ⊢
        obtain ⟨e0, e1, e2, e3, e4, e5, e6⟩ := HQ9.out.loc.seven
        exact bodyPost_ret (v := .agg #[.string nm, .int .i64 ty, .bool true, .bool false, .int .i64 0, .int .i64 0, .string ⟨#[]⟩]) (by simp [results, Tryd.results12, go_sem, e0, e1, e2, e3, e4, e5, e6]) rfl ⟨HTW.out, Or.inl ⟨⟨nm, ty, true, false, 0, 0, ⟨#[]⟩⟩, k4, rfl, hk4, HP.out, HR9.out⟩⟩
      · have hq := str_no hze
        have hq2 : (y.toList != ew.toList) = true := by rw [bne, hq]; rfl
        have HB : Hid (∀ c l, ¬ PCol ew.data.toList (s.data.toList.drop f) c l) := fun c l h => by
            obtain ⟨_, _, _, g⟩ := HH.out c l h
            exact hze (bytes_inj (g.no HNH.out).2.2.2.2.1)
        have HTW : Hid (Turns (· = R) w u5) := HK.out.turns
        clear HK
        go_wp2
        first | exact ⟨rfl, HTW.out, Or.inr ⟨rfl, HB.out⟩⟩ | exact ⟨trivial, HTW.out, Or.inr ⟨rfl, HB.out⟩⟩
  · have hq := neT' hx
    have HK := HK3
    have HH : Hid (∀ c l, PCol ew.data.toList (s.data.toList.drop f) c l → c.name = nm ∧ c.ty = ty ∧ c.nt = false ∧ PHas ew.data.toList x.data.toList (s.data.toList.drop k3) c l) := fun c l h => by
      obtain ⟨e1, e2, h3⟩ := h.inv HW1.out HW2.out
      obtain ⟨e3, g'⟩ := h3.no HW3.out hx
      exact ⟨e1, e2, e3, g'⟩
    have HS : Hid (∀ has dt dn ds l', PHas ew.data.toList x.data.toList (s.data.toList.drop k3) ⟨nm, ty, false, has, dt, dn, ds⟩ l' → PCol ew.data.toList (s.data.toList.drop f) ⟨nm, ty, false, has, dt, dn, ds⟩ l') := fun has dt dn ds l' h => ⟨_, _, HW1.out, HW2.out, _, _, Or.inr ⟨rfl, hx, HW3.out⟩, h⟩
    clear HK3 hx
    by_cases hh : ∃ h0 : 0 < x.size, x[0] = 61
    · obtain ⟨h0, he⟩ := hh
      have hxd : x.data.toList = 61 :: (x.extract 1 x.size).data.toList := by
        have h1 := drop_one x 0 h0
        rw [List.drop_zero] at h1
        rw [h1, he, mid_data, List.take_of_length_le (by simp)]
      have HXD : Hid (x.data.toList = 61 :: (x.extract 1 x.size).data.toList) := hxd
      have hxs : (x.extract 1 x.size).size ≤ 1048576 := by rw [ByteArray.size_extract]; have := HX.out; omega
      clear hxd
      go_wp2_with fail
      refine (cut_yes x _ h0 he).mono ?_
      rintro e w' ⟨rfl, hw'⟩
      rw [hw']
      clear hw' w'
      clear h0 he
      obtain ⟨d0, d1, d2, d3, d4, d5, d6⟩ := HK.out.col.loc.seven
      have i3 := HK.out.col.frozen 3
      have HK1 : Hid (Keep w (u3.setCell ⟨Cb, 3, none⟩ (.bool true)) R Cb s k3 #[.string nm, .int .i64 ty, .bool false, .bool true, .int .i64 0, .int .i64 0, .string ⟨#[]⟩]) := HK.out.set hRl hCw 3 (.bool true)
      go_wp2_with fail
      clear d0 d1 d2 d3 d4 d5 d6 i3 HK
      generalize u3.setCell ⟨Cb, 3, none⟩ (.bool true) = v1 at HK1 ⊢
      generalize x.extract 1 x.size = dw at HXD hxs ⊢
      refine (valOf_any dw _ hxs HK1.out.env.tab HK1.out.env.errs).mono ?_
      rintro e v2 ⟨bv, hv⟩
      have HK2 : Hid (Keep w v2 R Cb s k3 #[.string nm, .int .i64 ty, .bool false, .bool true, .int .i64 0, .int .i64 0, .string ⟨#[]⟩]) := HK1.out.below bv hRl
      clear bv HK1
      rcases hv with ⟨dt, dn, ds, rfl, hv⟩ | ⟨rfl, hv⟩
      rotate_left
      · have HK := HK2
        have HB : Hid (∀ c l, ¬ PCol ew.data.toList (s.data.toList.drop f) c l) := fun c l h => by
            obtain ⟨_, _, _, g⟩ := HH.out c l h
            rw [HXD.out] at g
            exact hv _ _ _ (by have := g.yes.2.1; rwa [ba_eta] at this)
        have HTW : Hid (Turns (· = R) w v2) := HK.out.turns
        clear HK
        go_wp2
        first | exact ⟨rfl, HTW.out, Or.inr ⟨rfl, HB.out⟩⟩ | exact ⟨trivial, HTW.out, Or.inr ⟨rfl, HB.out⟩⟩
      have HV : Hid (Tv dw dt dn ds) := hv
      clear hv
      obtain ⟨d0, d1, d2, d3, d4, d5, d6⟩ := HK2.out.col.loc.seven
      have i4 := HK2.out.col.frozen 4
      have i5 := HK2.out.col.frozen 5
      have i6 := HK2.out.col.frozen 6
      have HK3 : Hid (Keep w (((v2.setCell ⟨Cb, 4, none⟩ (.int .i64 dt)).setCell ⟨Cb, 5, none⟩ (.int .i64 dn)).setCell ⟨Cb, 6, none⟩ (.string ds)) R Cb s k3 #[.string nm, .int .i64 ty, .bool false, .bool true, .int .i64 dt, .int .i64 dn, .string ds]) := ((HK2.out.set hRl hCw 4 (.int .i64 dt)).set hRl hCw 5 (.int .i64 dn)).set hRl hCw 6 (.string ds)
      go_wp2_with fail
      clear d0 d1 d2 d3 d4 d5 d6 i4 i5 i6 HK2
      generalize ((v2.setCell ⟨Cb, 4, none⟩ (.int .i64 dt)).setCell ⟨Cb, 5, none⟩ (.int .i64 dn)).setCell ⟨Cb, 6, none⟩ (.string ds) = v3 at HK3 ⊢
      refine (word_any R s k3 _ hs hk3 HK3.out.rd HK3.out.env.uni HK3.out.env.r1 HK3.out.env.r2).mono ?_
      rintro e v4 ⟨hT, h⟩
      rcases h with ⟨z, kz, rfl, hkz, hwz, hrz⟩ | ⟨rfl, hwz⟩
      rotate_left
      · have HK : Hid (Keep w v4 R Cb s k3 #[.string nm, .int .i64 ty, .bool false, .bool true, .int .i64 dt, .int .i64 dn, .string ds] ∨ Turns (· = R) w v4) := Or.inr (HK3.out.turns.trans hT)
        have HB : Hid (∀ c l, ¬ PCol ew.data.toList (s.data.toList.drop f) c l) := fun c l h => by
          obtain ⟨_, _, _, g⟩ := HH.out c l h
          rw [HXD.out] at g
          have := g.yes.2.2
          rw [hwz] at this; cases this
        have HTW : Hid (Turns (· = R) w v4) := HK3.out.turns.trans hT
        clear hT hwz HK HK3
        go_wp2
        first | exact ⟨rfl, HTW.out, Or.inr ⟨rfl, HB.out⟩⟩ | exact ⟨trivial, HTW.out, Or.inr ⟨rfl, HB.out⟩⟩
      have HK : Hid (Keep w v4 R Cb s kz #[.string nm, .int .i64 ty, .bool false, .bool true, .int .i64 dt, .int .i64 dn, .string ds]) := HK3.out.word hT hrz hRl hCw
      have HZ : Hid (wordF (s.data.toList.drop k3) = some (z.data.toList, s.data.toList.drop kz)) := hwz
      clear hT hrz hwz HK3
      by_cases hze : z = ew
      · have hq : (z.toList != ew.toList) = false := by simp [hze]
        have hq2 : (z.toList == ew.toList) = true := str_yes hze
        have HZE : Hid (z.data.toList = ew.data.toList) := by show _ = _; rw [hze]
        clear hze
        have HP : Hid (PCol ew.data.toList (s.data.toList.drop f) ⟨nm, ty, false, true, dt, dn, ds⟩ (s.data.toList.drop kz)) := HS.out _ _ _ _ _ (Or.inl ⟨rfl, _, HXD.out, by rw [ba_eta]; exact HV.out, by rw [← HZE.out]; exact HZ.out⟩)
        obtain ⟨d0, d1, d2, d3, d4, d5, d6⟩ := HK.out.col.loc.seven
        obtain ⟨g0, g1, g2, g3, g4, g5, g6⟩ := HK.out.ans.loc.seven
        have i0 := HK.out.ans.frozen 0
        have i1 := HK.out.ans.frozen 1
        have i2 := HK.out.ans.frozen 2
        have i3 := HK.out.ans.frozen 3
        have i4 := HK.out.ans.frozen 4
        have i5 := HK.out.ans.frozen 5
        have i6 := HK.out.ans.frozen 6
        have HQ9 : Hid (Own (stores v4 w.heap.size 0 [.string nm, .int .i64 ty, .bool false, .bool true, .int .i64 dt, .int .i64 dn, .string ds]) w.heap.size 25 #[.string nm, .int .i64 ty, .bool false, .bool true, .int .i64 dt, .int .i64 dn, .string ds]) := Own.fill (old := [.string ⟨#[]⟩, .int .i64 0, .bool false, .bool false, .int .i64 0, .int .i64 0, .string ⟨#[]⟩]) HK.out.ans [.string nm, .int .i64 ty, .bool false, .bool true, .int .i64 dt, .int .i64 dn, .string ds] rfl
        have HT9 : Hid (Turns (fun c => c = w.heap.size) v4 (stores v4 w.heap.size 0 [.string nm, .int .i64 ty, .bool false, .bool true, .int .i64 dt, .int .i64 dn, .string ds])) := stores_turns w.heap.size [.string nm, .int .i64 ty, .bool false, .bool true, .int .i64 dt, .int .i64 dn, .string ds] v4 v4 0 (Turns.refl _ _)
        have HR9 : Hid (Rd (stores v4 w.heap.size 0 [.string nm, .int .i64 ty, .bool false, .bool true, .int .i64 dt, .int .i64 dn, .string ds]) R s kz) := Own.turned HK.out.rd HT9.out (by omega)
        have HTW : Hid (Turns (· = R) w (stores v4 w.heap.size 0 [.string nm, .int .i64 ty, .bool false, .bool true, .int .i64 dt, .int .i64 dn, .string ds])) := HK.out.turns.grow (HT9.out.down (B := w.heap.size) (fun c hc => by omega) HK.out.turns.size) (Nat.le_refl _)
        go_wp2
        clear d0 d1 d2 d3 d4 d5 d6 g0 g1 g2 g3 g4 g5 g6 i0 i1 i2 i3 i4 i5 i6
        simp only [stores, Nat.zero_add, Nat.reduceAdd] at HQ9 HR9 HTW
        generalize (((((((v4.setCell ⟨w.heap.size, 0, none⟩ (.string nm)).setCell ⟨w.heap.size, 1, none⟩ (.int .i64 ty)).setCell ⟨w.heap.size, 2, none⟩ (.bool false)).setCell ⟨w.heap.size, 3, none⟩ (.bool true)).setCell ⟨w.heap.size, 4, none⟩ (.int .i64 dt)).setCell ⟨w.heap.size, 5, none⟩ (.int .i64 dn)).setCell ⟨w.heap.size, 6, none⟩ (.string ds)) = W at HQ9 HR9 HTW ⊢
        obtain ⟨e0, e1, e2, e3, e4, e5, e6⟩ := HQ9.out.loc.seven
        exact bodyPost_ret (v := .agg #[.string nm, .int .i64 ty, .bool false, .bool true, .int .i64 dt, .int .i64 dn, .string ds]) (by simp [results, Tryd.results12, go_sem, e0, e1, e2, e3, e4, e5, e6]) rfl ⟨HTW.out, Or.inl ⟨⟨nm, ty, false, true, dt, dn, ds⟩, kz, rfl, hkz, HP.out, HR9.out⟩⟩
      · have hq := str_no hze
        have hq2 : (z.toList != ew.toList) = true := by rw [bne, hq]; rfl
        have HB : Hid (∀ c l, ¬ PCol ew.data.toList (s.data.toList.drop f) c l) := fun c l h => by
            obtain ⟨_, _, _, g⟩ := HH.out c l h
            rw [HXD.out] at g
            have := g.yes.2.2
            rw [HZ.out] at this
            simp only [Option.some.injEq, Prod.mk.injEq] at this
            exact hze (bytes_inj this.1)
        have HTW : Hid (Turns (· = R) w v4) := HK.out.turns
        clear HK
        go_wp2
        first | exact ⟨rfl, HTW.out, Or.inr ⟨rfl, HB.out⟩⟩ | exact ⟨trivial, HTW.out, Or.inr ⟨rfl, HB.out⟩⟩
    · have hno : ∀ h0 : 0 < x.size, x[0] ≠ 61 := fun h0 he => hh ⟨h0, he⟩
      have HNH : Hid (x.data.toList.head? ≠ some 61) := fun e => by
        by_cases h0 : 0 < x.size
        · have h1 := drop_one x 0 h0
          rw [List.drop_zero] at h1
          rw [h1] at e
          simp only [List.head?_cons, Option.some.injEq] at e
          exact hno h0 e
        · have : x.data.toList = [] := by
            apply List.length_eq_zero_iff.1
            simpa using h0
          rw [this] at e; cases e
      clear hh
      go_wp2_with fail
      refine (cut_no x _ hno).mono ?_
      rintro e w' ⟨rfl, hw'⟩
      rw [hw']
      clear hw' w'
      clear hno
      by_cases hze : x = ew
      · have hq : (x.toList != ew.toList) = false := by simp [hze]
        have hq2 : (x.toList == ew.toList) = true := str_yes hze
        have HZE : Hid (x.data.toList = ew.data.toList) := by show _ = _; rw [hze]
        clear hze
        have HP : Hid (PCol ew.data.toList (s.data.toList.drop f) ⟨nm, ty, false, false, 0, 0, ⟨#[]⟩⟩ (s.data.toList.drop k3)) := HS.out _ _ _ _ _ (Or.inr ⟨rfl, rfl, rfl, rfl, HNH.out, HZE.out, rfl⟩)
        obtain ⟨d0, d1, d2, d3, d4, d5, d6⟩ := HK.out.col.loc.seven
        obtain ⟨g0, g1, g2, g3, g4, g5, g6⟩ := HK.out.ans.loc.seven
        have i0 := HK.out.ans.frozen 0
        have i1 := HK.out.ans.frozen 1
        have i2 := HK.out.ans.frozen 2
        have i3 := HK.out.ans.frozen 3
        have i4 := HK.out.ans.frozen 4
        have i5 := HK.out.ans.frozen 5
        have i6 := HK.out.ans.frozen 6
        have HQ9 : Hid (Own (stores u3 w.heap.size 0 [.string nm, .int .i64 ty, .bool false, .bool false, .int .i64 0, .int .i64 0, .string ⟨#[]⟩]) w.heap.size 25 #[.string nm, .int .i64 ty, .bool false, .bool false, .int .i64 0, .int .i64 0, .string ⟨#[]⟩]) := Own.fill (old := [.string ⟨#[]⟩, .int .i64 0, .bool false, .bool false, .int .i64 0, .int .i64 0, .string ⟨#[]⟩]) HK.out.ans [.string nm, .int .i64 ty, .bool false, .bool false, .int .i64 0, .int .i64 0, .string ⟨#[]⟩] rfl
        have HT9 : Hid (Turns (fun c => c = w.heap.size) u3 (stores u3 w.heap.size 0 [.string nm, .int .i64 ty, .bool false, .bool false, .int .i64 0, .int .i64 0, .string ⟨#[]⟩])) := stores_turns w.heap.size [.string nm, .int .i64 ty, .bool false, .bool false, .int .i64 0, .int .i64 0, .string ⟨#[]⟩] u3 u3 0 (Turns.refl _ _)
        have HR9 : Hid (Rd (stores u3 w.heap.size 0 [.string nm, .int .i64 ty, .bool false, .bool false, .int .i64 0, .int .i64 0, .string ⟨#[]⟩]) R s k3) := Own.turned HK.out.rd HT9.out (by omega)
        have HTW : Hid (Turns (· = R) w (stores u3 w.heap.size 0 [.string nm, .int .i64 ty, .bool false, .bool false, .int .i64 0, .int .i64 0, .string ⟨#[]⟩])) := HK.out.turns.grow (HT9.out.down (B := w.heap.size) (fun c hc => by omega) HK.out.turns.size) (Nat.le_refl _)
        go_wp2
        clear d0 d1 d2 d3 d4 d5 d6 g0 g1 g2 g3 g4 g5 g6 i0 i1 i2 i3 i4 i5 i6
        simp only [stores, Nat.zero_add, Nat.reduceAdd] at HQ9 HR9 HTW
        generalize (((((((u3.setCell ⟨w.heap.size, 0, none⟩ (.string nm)).setCell ⟨w.heap.size, 1, none⟩ (.int .i64 ty)).setCell ⟨w.heap.size, 2, none⟩ (.bool false)).setCell ⟨w.heap.size, 3, none⟩ (.bool false)).setCell ⟨w.heap.size, 4, none⟩ (.int .i64 0)).setCell ⟨w.heap.size, 5, none⟩ (.int .i64 0)).setCell ⟨w.heap.size, 6, none⟩ (.string ⟨#[]⟩)) = W at HQ9 HR9 HTW ⊢
        obtain ⟨e0, e1, e2, e3, e4, e5, e6⟩ := HQ9.out.loc.seven
        exact bodyPost_ret (v := .agg #[.string nm, .int .i64 ty, .bool false, .bool false, .int .i64 0, .int .i64 0, .string ⟨#[]⟩]) (by simp [results, Tryd.results12, go_sem, e0, e1, e2, e3, e4, e5, e6]) rfl ⟨HTW.out, Or.inl ⟨⟨nm, ty, false, false, 0, 0, ⟨#[]⟩⟩, k3, rfl, hk3, HP.out, HR9.out⟩⟩
      · have hq := str_no hze
        have hq2 : (x.toList != ew.toList) = true := by rw [bne, hq]; rfl
        have HB : Hid (∀ c l, ¬ PCol ew.data.toList (s.data.toList.drop f) c l) := fun c l h => by
            obtain ⟨_, _, _, g⟩ := HH.out c l h
            exact hze (bytes_inj (g.no HNH.out).2.2.2.2.1)
        have HTW : Hid (Turns (· = R) w u3) := HK.out.turns
        clear HK
        go_wp2
        first | exact ⟨rfl, HTW.out, Or.inr ⟨rfl, HB.out⟩⟩ | exact ⟨trivial, HTW.out, Or.inr ⟨rfl, HB.out⟩⟩
end Go.Proofs.YtmkgbdgafjeeiamDoor
