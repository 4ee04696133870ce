/- The given reader of bytes: changes. -/
import Derived.Test.YtiijahoheajppaaGreatRkb
import Derived.Test.YtiijahoheajppaaGreatPre
import Derived.Test.YtiijahoheajppaaGreatRs2
import Derived.Test.YtiijahoheajppaaGreatRv
namespace Go.Proofs.YtiijahoheajppaaGreat
open Go.ChangeShapes Go.WideShapes Go.ChangeAt Go.RowKit

theorem spC_le (l : List UInt8) (p : Nat) : (spC l p).2 ≤ max p (l.length + 1) + 700 := by
  have h1 := spX_le l p
  have h2 := spV_le l ((spX l p).2 + 1 + 1 + 1)
  show (spV l ((spX l p).2 + 1 + 1 + 1)).2 ≤ _
  omega
theorem SdB.many {w : World} {R b p : Nat} {l : List UInt8} (hR : R < b) : ∀ (vs : List Value) (w2 : World) (o : Nat), SdB w2 R l p → w.heap.size ≤ b → Turns (· = R) w w2 → SdB (stores w2 b o vs) R l p ∧ Turns (· = R) w (stores w2 b o vs)
  | [], _, _, h, _, ht => ⟨h, ht⟩
  | v :: vs, _, o, h, hb, ht => SdB.many hR vs _ _ (h.other (a := ⟨b, o, none⟩) hR v) hb (ht.fresh (p := ⟨b, o, none⟩) hb v)
/-- What is told while the columns are read. -/
def ColsAt (R P KN : Nat) (tb : ByteArray) (l : List UInt8) (w wr : World) (cs : List Cl) (cur : Nat) (a : Option Addr) (n c : Nat) : Prop :=
  SdB wr R l cur ∧ Turns (· = R) w wr ∧ Own wr P 46 #[.int .i64 (KN : Int), .string tb, .slice a n c, .slice none 0 0, .string noS, .string noS] ∧ Own wr w.heap.size 46 #[.int .i64 0, .string noS, .slice none 0 0, .slice none 0 0, .string noS, .string noS] ∧ Got wr (P + 1) 131 7 (.slice a n c) (cs.map Cl.cells)
theorem ColsAt.step {R P KN : Nat} {tb : ByteArray} {l : List UInt8} {w wr w' : World} {cs : List Cl} {cur cur' : Nat} {a : Option Addr} {n c : Nat} (h : ColsAt R P KN tb l w wr cs cur a n c) (hd : SdB w' R l cur') (ht : Turns (· = R) wr w') (hP : R < P) (hw : R < w.heap.size) : ColsAt R P KN tb l w w' cs cur' a n c :=
  ⟨hd, h.2.1.trans ht, h.2.2.1.turned ht (by show ¬ (P = R); omega), h.2.2.2.1.turned ht (by show ¬ (w.heap.size = R); omega), h.2.2.2.2.turns ht fun c h => by have h : c = R := h; omega⟩
theorem ColsAt.on {R P KN : Nat} {tb : ByteArray} {l : List UInt8} {w wr w' : World} {cs : List Cl} {cur : Nat} {a : Option Addr} {n c : Nat} (h : ColsAt R P KN tb l w wr cs cur a n c) (k : Below wr.heap.size wr w') : ColsAt R P KN tb l w w' cs cur a n c :=
  ⟨h.1.on k, h.2.1.below k, h.2.2.1.on k, h.2.2.2.1.on k, h.2.2.2.2.on k⟩
theorem ColsAt.put {R P KN C : Nat} {tb : ByteArray} {l : List UInt8} {w wr : World} {cs : List Cl} {cur : Nat} {a : Option Addr} {n c : Nat} (h : ColsAt R P KN tb l w wr cs cur a n c) (hg : ∀ g, (Value.slice a n c).ownBlock = some g → g < C) (hP : P < C) (hR : R < w.heap.size) (hw : w.heap.size < P) (o : Nat) (v : Value) : ColsAt R P KN tb l w (wr.setCell ⟨C, o, none⟩ v) cs cur a n c :=
  ⟨h.1.other (a := ⟨C, o, none⟩) (by show R < C; omega) v, h.2.1.fresh (p := ⟨C, o, none⟩) (by show w.heap.size ≤ C; omega) v, h.2.2.1.other (p := ⟨C, o, none⟩) (by show P ≠ C; omega) v, h.2.2.2.1.other (p := ⟨C, o, none⟩) (by show w.heap.size ≠ C; omega) v, h.2.2.2.2.turned ((Turns.refl (· = C) wr).set (p := ⟨C, o, none⟩) rfl v) fun g hc hs => by have hs : g = C := hs; have := hg g hc; omega⟩

theorem Got.keptBelow {w w' : World} {B n : Nat} {T : TypeId} {z : Nat} {v : Value} {xs : List (Array Value)} (h : Got w B T z v xs) (hb : Below n w w') (hg : ∀ g, v.ownBlock = some g → g < n) : Got w' B T z v xs := by
  obtain ⟨h0, h1, h2⟩ := h
  refine ⟨h0, h1, ?_⟩
  rcases h2 with h2 | ⟨g, cap, cur, e, hb', hg', r⟩
  · exact Or.inl h2
  · exact Or.inr ⟨g, cap, cur, e, hb', (hb.block g (hg g (by rw [e]; rfl))).trans hg', r⟩
/-- What is told while the texts are read. -/
def KeysAt (R P KN m : Nat) (tb : ByteArray) (l : List UInt8) (w wr : World) (cs : List Cl) (a : Option Addr) (n c : Nat) (ks : List ByteArray) (cur : Nat) (a' : Option Addr) (n' c' : Nat) : Prop :=
  SdB wr R l cur ∧ Turns (· = R) w wr ∧ Own wr P 46 #[.int .i64 (KN : Int), .string tb, .slice a n c, .slice a' n' c', .string noS, .string noS] ∧ Own wr w.heap.size 46 #[.int .i64 0, .string noS, .slice none 0 0, .slice none 0 0, .string noS, .string noS] ∧ Got wr (P + 1) 131 7 (.slice a n c) (cs.map Cl.cells) ∧ Got wr m 9 1 (.slice a' n' c') (ks.map strX)
theorem KeysAt.step {R P KN m : Nat} {tb : ByteArray} {l : List UInt8} {w wr w' : World} {cs : List Cl} {a : Option Addr} {n c : Nat} {ks : List ByteArray} {cur cur' : Nat} {a' : Option Addr} {n' c' : Nat} (h : KeysAt R P KN m tb l w wr cs a n c ks cur a' n' c') (hd : SdB w' R l cur') (ht : Turns (· = R) wr w') (hP : R < P) (hw : R < w.heap.size) (hm : R < m) : KeysAt R P KN m tb l w w' cs a n c ks cur' a' n' c' :=
  ⟨hd, h.2.1.trans ht, h.2.2.1.turned ht (by show ¬ (P = R); omega), h.2.2.2.1.turned ht (by show ¬ (w.heap.size = R); omega), h.2.2.2.2.1.turns ht (fun c h => by have h : c = R := h; omega), h.2.2.2.2.2.turns ht fun c h => by have h : c = R := h; omega⟩
theorem KeysAt.on {R P KN m : Nat} {tb : ByteArray} {l : List UInt8} {w wr w' : World} {cs : List Cl} {a : Option Addr} {n c : Nat} {ks : List ByteArray} {cur : Nat} {a' : Option Addr} {n' c' : Nat} (h : KeysAt R P KN m tb l w wr cs a n c ks cur a' n' c') (k : Below wr.heap.size wr w') : KeysAt R P KN m tb l w w' cs a n c ks cur a' n' c' :=
  ⟨h.1.on k, h.2.1.below k, h.2.2.1.on k, h.2.2.2.1.on k, h.2.2.2.2.1.on k, h.2.2.2.2.2.on k⟩
/-- One text more. -/
theorem KeysAt.add {R P KN m : Nat} {tb : ByteArray} {l : List UInt8} {w wr w' : World} {cs : List Cl} {a : Option Addr} {n c : Nat} {ks ks' : List ByteArray} {cur : Nat} {a' a2 : Option Addr} {n' c' n2 c2 : Nat} (h : KeysAt R P KN m tb l w wr cs a n c ks cur a' n' c') (hb : Below m wr w') (hg : Got w' m 9 1 (.slice a2 n2 c2) (ks'.map strX)) (hc : ∀ g, (Value.slice a n c).ownBlock = some g → g < m) (hR : R < w.heap.size) (hw : w.heap.size < P) (hP : P < m) : KeysAt R P KN m tb l w (w'.setCell ⟨P, 3, none⟩ (.slice a2 n2 c2)) cs a n c ks' cur a2 n2 c2 := by
  have h1 : Own w' P 46 #[.int .i64 (KN : Int), .string tb, .slice a n c, .slice a' n' c', .string noS, .string noS] := (hb.block P hP).trans h.2.2.1
  have h2 : Own w' w.heap.size 46 #[.int .i64 0, .string noS, .slice none 0 0, .slice none 0 0, .string noS, .string noS] := (hb.block _ (by omega)).trans h.2.2.2.1
  have h3 : Got w' (P + 1) 131 7 (.slice a n c) (cs.map Cl.cells) := h.2.2.2.2.1.keptBelow hb hc
  exact ⟨(h.1.low (by omega) hb).other (a := ⟨P, 3, none⟩) (by show R < P; omega) _, (h.2.1.low (hb.mono (by omega))).fresh (p := ⟨P, 3, none⟩) (by show w.heap.size ≤ P; omega) _, h1.set 3 _, h2.other (p := ⟨P, 3, none⟩) (by show w.heap.size ≠ P; omega) _, h3.setP (p := ⟨P, 3, none⟩) (by show P < P + 1; omega) _, hg.setP (p := ⟨P, 3, none⟩) (by show P < m; omega) _⟩

/-- A change read: two rows of the call's own, one behind the other. -/
def DdlOut (R : Nat) (w : World) (dd : Dc) (e : Ending) (w' : World) : Prop := ∃ a n c a' n' c' m, e = .returned (.agg #[.int .i64 dd.kind, .string dd.table, .slice a n c, .slice a' n' c', .string dd.name, .string dd.to]) ∧ Got w' w.heap.size 131 7 (.slice a n c) (dd.cols.map Cl.cells) ∧ Got w' m 9 1 (.slice a' n' c') (dd.keys.map strX) ∧ (∀ g, (Value.slice a n c).ownBlock = some g → g < m) ∧ w.heap.size ≤ m ∧ m ≤ w'.heap.size ∧ Turns (· = R) w w'

set_option maxRecDepth 100000 in
set_option maxHeartbeats 8000000 in
/-- spec.l06ReadDdl -/
theorem readDdl_any (R p : Nat) (tb : ByteArray) (l : List UInt8) (w : World) (h : SdB w R l p) (hl : l.length ≤ 1048576) (hp : p ≤ 2000000) :
    Calls Tryz.prog 42 #[.pointer (some ⟨R, 0, none⟩), .string tb] w fun e w' => DdlOut R w (spD tb l p).1 e w' := by
  have HR : Hid (SdB w R l p) := h
  have hRw : R < w.heap.size := by obtain ⟨_, _, _, ho, _⟩ := h; exact ho.lt
  have HN0 : Hid (∀ (u : World) (q : Nat), SdB u R l q → q ≤ 100000000 → Calls Tryz.prog 39 #[.pointer (some ⟨R, 0, none⟩), .int .i64 1] u fun e w' => e = .returned (.int .i64 (rdN 1 (l.drop q) : Int)) ∧ SdB w' R l (q + 1) ∧ Turns (· = R) u w') := fun u q hu hq => l06Take_any R 1 q l u hu (by omega) (by omega) (by omega)
  have HX0 : Hid (∀ (u : World) (q : Nat), SdB u R l (q + 1) → q ≤ 100000000 → Calls Tryz.prog 40 #[.pointer (some ⟨R, 0, none⟩), .int .i64 (rdN 1 (l.drop q) : Int)] u fun e w' => e = .returned (.string (spX l q).1) ∧ SdB w' R l (spX l q).2 ∧ Turns (· = R) u w') := fun u q hu hq => l06Text_any R (rdN 1 (l.drop q)) (q + 1) l u hu (by have := rdN_byte (l.drop q); omega) (by omega) hl
  have HV0 : Hid (∀ (u : World) (q : Nat), SdB u R l q → q ≤ 100000000 → Calls Tryz.prog 78 #[.pointer (some ⟨R, 0, none⟩)] u fun e w' => e = .returned (.agg (spV l q).1.cells) ∧ SdB w' R l (spV l q).2 ∧ Turns (· = R) u w') := fun u q hu hq => l06Val_any R q l u hu (by omega) hl
  have HDEF : Hid (spD tb l p = (⟨(rdN 1 (l.drop p) : Int), tb, (spK l (p + 1)).1, (spW l (spK l (p + 1)).2).1, (spX l (spW l (spK l (p + 1)).2).2).1, (spX l (spX l (spW l (spK l (p + 1)).2).2).2).1⟩, (spX l (spX l (spW l (spK l (p + 1)).2).2).2).2)) := rfl
  generalize spD tb l p = OUT at HDEF ⊢
  clear h
  have hb0 : Below w.heap.size w (w.alloc (.cells #[.int .i64 0, .string noS, .slice none 0 0, .slice none 0 0, .string noS, .string noS] 46)) := ch_alloc (Below.refl _ _) _
  have HO0 : Own (w.alloc (.cells #[.int .i64 0, .string noS, .slice none 0 0, .slice none 0 0, .string noS, .string noS] 46)) w.heap.size 46 #[.int .i64 0, .string noS, .slice none 0 0, .slice none 0 0, .string noS, .string noS] := Own.new _ _ _
  have HT0 : Turns (· = R) w (w.alloc (.cells #[.int .i64 0, .string noS, .slice none 0 0, .slice none 0 0, .string noS, .string noS] 46)) := (Turns.refl (· = R) w).below hb0
  go_enter Tryz.func42, Tryz.ntmps42
  go_wp2_with fail
  refine (HN0.out _ p (HR.out.on hb0) (by omega)).mono ?_
  rintro e w1 ⟨rfl, hd, ht⟩
  have HO1 := HO0.turned ht (by show ¬ (w.heap.size = R); omega)
  have HT1 := HT0.trans ht
  have HD1 := hd
  have hs1 : w.heap.size < w1.heap.size := HO1.lt
  clear hd ht hb0 HO0 HT0 HR
  generalize rdN 1 (l.drop p) = KN at HDEF ⊢
  have hb1 : Below w1.heap.size w1 (w1.alloc (.cells #[.int .i64 (KN : Int), .string tb, .slice none 0 0, .slice none 0 0, .string noS, .string noS] 46)) := ch_alloc (Below.refl _ _) _
  have HA1 : ColsAt R w1.heap.size KN tb l w (w1.alloc (.cells #[.int .i64 (KN : Int), .string tb, .slice none 0 0, .slice none 0 0, .string noS, .string noS] 46)) [] (p + 1) none 0 0 := ⟨HD1.on hb1, HT1.below hb1, Own.new _ _ _, HO1.on hb1, Got.nil _ _ _ _⟩
  go_wp2_with fail
  refine (HN0.out _ (p + 1) HA1.1 (by omega)).mono ?_
  rintro e w2 ⟨rfl, hd, ht⟩
  have HA2 : Hid (ColsAt R w1.heap.size KN tb l w w2 [] (p + 1 + 1) none 0 0) := HA1.step hd ht (by omega) hRw
  have hP2 : w1.heap.size < w2.heap.size := HA2.out.2.2.1.lt
  have HKd : Hid (spK l (p + 1) = spCs (min (rdN 1 (l.drop (p + 1))) 9) l (p + 1 + 1)) := rfl
  have hn256 := rdN_byte (l.drop (p + 1))
  clear hd ht hb1 HO1 HT1 HD1 HA1
  generalize rdN 1 (l.drop (p + 1)) = N at HKd hn256 ⊢
  generalize spK l (p + 1) = KK at HKd HDEF
  generalize w1.heap.size = P at hs1 HA2 hP2 ⊢
  go_wp2
  go_loopw [7] (fun i wr => ∃ (k : Nat) (cs : List Cl) (cur : Nat) (a : Option Addr) (n c : Nat), k ≤ min N 9 ∧ i = .int .i64 (k : Int) ∧ cs.length = k ∧ cur ≤ 2100000 + 1000 * k ∧ Hid (cs ++ (spCs (min N 9 - k) l cur).1 = KK.1 ∧ (spCs (min N 9 - k) l cur).2 = KK.2) ∧ P < wr.heap.size ∧ Hid (ColsAt R P KN tb l w wr cs cur a n c)) (fun i _ => 10 - (intOf i).toNat)
  case atStart => exact ⟨0, [], p + 1 + 1, none, 0, 0, Nat.zero_le _, rfl, rfl, by omega, by rw [HKd.out]; exact ⟨rfl, rfl⟩, hP2, HA2⟩
  case round =>
    clear HA2 HKd hP2
    obtain ⟨k, cs, cur, a, n, c, hk, rfl, hck, hcur, HE, hPr, HA⟩ := hrel
    have hk9 : k ≤ 9 := by omega
    by_cases hlt : k < min N 9
    · have hlti : (k : Int) < N := by omega
      have hlt8 : (k : Int) ≤ 8 := by omega
      have HE' : Hid ((cs ++ [(spC l cur).1]) ++ (spCs (min N 9 - (k + 1)) l (spC l cur).2).1 = KK.1 ∧ (spCs (min N 9 - (k + 1)) l (spC l cur).2).2 = KK.2) := by
        refine ⟨?_, ?_⟩
        · rw [← HE.out.1, show min N 9 - k = (min N 9 - (k + 1)) + 1 by omega, List.append_assoc]; rfl
        · rw [← HE.out.2, show min N 9 - k = (min N 9 - (k + 1)) + 1 by omega]; rfl
      have hnx : (spC l cur).2 ≤ 2100000 + 1000 * (k + 1) := by have := spC_le l cur; omega
      have HCD : Hid (spC l cur = (⟨(spX l cur).1, (rdN 1 (l.drop (spX l cur).2) : Int), decide (rdN 1 (l.drop ((spX l cur).2 + 1)) = 1), decide (rdN 1 (l.drop ((spX l cur).2 + 1 + 1)) = 1), (spV l ((spX l cur).2 + 1 + 1 + 1)).1.ty, (spV l ((spX l cur).2 + 1 + 1 + 1)).1.n, (spV l ((spX l cur).2 + 1 + 1 + 1)).1.s⟩, (spV l ((spX l cur).2 + 1 + 1 + 1)).2)) := rfl
      have hx1 := spX_le l cur
      have HXc : Hid (∀ u : World, SdB u R l (cur + 1) → Calls Tryz.prog 40 #[.pointer (some ⟨R, 0, none⟩), .int .i64 (rdN 1 (l.drop cur) : Int)] u fun e w' => e = .returned (.string (spX l cur).1) ∧ SdB w' R l (spX l cur).2 ∧ Turns (· = R) u w') := fun u hu => HX0.out u cur hu (by omega)
      have HNc : Hid (∀ u : World, SdB u R l cur → Calls Tryz.prog 39 #[.pointer (some ⟨R, 0, none⟩), .int .i64 1] u fun e w' => e = .returned (.int .i64 (rdN 1 (l.drop cur) : Int)) ∧ SdB w' R l (cur + 1) ∧ Turns (· = R) u w') := fun u hu => HN0.out u cur hu (by omega)
      clear HE
      generalize spC l cur = CC at HE' hnx HCD
      generalize spX l cur = X at HXc HCD hx1
      generalize rdN 1 (l.drop cur) = M0 at HXc HNc
      go_wp2_with fail
      refine (HNc.out _ HA.out.1).mono ?_
      rintro e w3 ⟨rfl, hd, ht⟩
      have HA3 : Hid (ColsAt R P KN tb l w w3 cs (cur + 1) a n c) := HA.out.step hd ht (by omega) hRw
      have hs3 : wr.heap.size ≤ w3.heap.size := ht.size
      clear hd ht HA HNc
      go_wp2_with fail
      refine (HXc.out _ HA3.out.1).mono ?_
      rintro e w4 ⟨rfl, hd, ht⟩
      have HA4 : Hid (ColsAt R P KN tb l w w4 cs X.2 a n c) := HA3.out.step hd ht (by omega) hRw
      have hs4 : wr.heap.size ≤ w4.heap.size := Nat.le_trans hs3 ht.size
      clear hd ht HA3 hs3 HXc
      have hx2 : X.2 ≤ 3000000 := by omega
      go_wp2_with fail
      refine (HN0.out _ X.2 HA4.out.1 (by omega)).mono ?_
      rintro e w5 ⟨rfl, hd, ht⟩
      have HA5 : Hid (ColsAt R P KN tb l w w5 cs (X.2 + 1) a n c) := HA4.out.step hd ht (by omega) hRw
      have hs5 : wr.heap.size ≤ w5.heap.size := Nat.le_trans hs4 ht.size
      clear hd ht HA4 hs4
      generalize rdN 1 (l.drop X.2) = TY at HCD ⊢
      have hgC : ∀ g, (Value.slice a n c).ownBlock = some g → g < w5.heap.size := HA5.out.2.2.2.2.lt
      have hb5 : Below w5.heap.size w5 (w5.alloc (.cells #[.string X.1, .int .i64 (TY : Int), .bool false, .bool false, .int .i64 0, .int .i64 0, .string noS] 131)) := ch_alloc (Below.refl _ _) _
      have HA6 : ColsAt R P KN tb l w (w5.alloc (.cells #[.string X.1, .int .i64 (TY : Int), .bool false, .bool false, .int .i64 0, .int .i64 0, .string noS] 131)) cs (X.2 + 1) a n c := HA5.out.on hb5
      have HC6 : Own (w5.alloc (.cells #[.string X.1, .int .i64 (TY : Int), .bool false, .bool false, .int .i64 0, .int .i64 0, .string noS] 131)) w5.heap.size 131 #[.string X.1, .int .i64 (TY : Int), .bool false, .bool false, .int .i64 0, .int .i64 0, .string noS] := Own.new _ _ _
      have hPC : P < w5.heap.size := by omega
      clear hb5 HA5
      go_wp2_with fail
      refine (HN0.out _ (X.2 + 1) HA6.1 (by omega)).mono ?_
      rintro e w7 ⟨rfl, hd, ht⟩
      have HA7 := HA6.step hd ht (by omega) hRw
      have HC7 := HC6.turned ht (by show ¬ (w5.heap.size = R); omega)
      clear hd ht HA6 HC6
      obtain ⟨f1, hf1⟩ : ∃ f1, f1 = decide (rdN 1 (l.drop (X.2 + 1)) = 1) := ⟨_, rfl⟩
      have hF1 : (((rdN 1 (l.drop (X.2 + 1)) : Nat) : Int) == 1) = f1 := by
        rw [hf1]
        by_cases h : rdN 1 (l.drop (X.2 + 1)) = 1
        · simp [h]
        · simp [h]; omega
      rw [← hf1] at HCD
      clear hf1
      generalize rdN 1 (l.drop (X.2 + 1)) = M1 at hF1 ⊢
      have HA8 : ColsAt R P KN tb l w (w7.setCell ⟨w5.heap.size, 2, none⟩ (.bool f1)) cs (X.2 + 1 + 1) a n c := HA7.put hgC hPC hRw hs1 2 _
      have HC8 : Own (w7.setCell ⟨w5.heap.size, 2, none⟩ (.bool f1)) w5.heap.size 131 #[.string X.1, .int .i64 (TY : Int), .bool f1, .bool false, .int .i64 0, .int .i64 0, .string noS] := HC7.set 2 _
      obtain ⟨c0, c1, c2, c3, c4, c5, c6⟩ := HC7.loc.seven
      have k2 := HC7.frozen 2
      clear HA7 HC7
      go_wp2_with fail
      clear c0 c1 c2 c3 c4 c5 c6 k2
      generalize w7.setCell ⟨w5.heap.size, 2, none⟩ (.bool f1) = w8 at HA8 HC8 ⊢
      refine (HN0.out _ (X.2 + 1 + 1) HA8.1 (by omega)).mono ?_
      rintro e w9 ⟨rfl, hd, ht⟩
      have HA9 := HA8.step hd ht (by omega) hRw
      have HC9 := HC8.turned ht (by show ¬ (w5.heap.size = R); omega)
      clear hd ht HA8 HC8
      obtain ⟨f2, hf2⟩ : ∃ f2, f2 = decide (rdN 1 (l.drop (X.2 + 1 + 1)) = 1) := ⟨_, rfl⟩
      have hF2 : (((rdN 1 (l.drop (X.2 + 1 + 1)) : Nat) : Int) == 1) = f2 := by
        rw [hf2]
        by_cases h : rdN 1 (l.drop (X.2 + 1 + 1)) = 1
        · simp [h]
        · simp [h]; omega
      rw [← hf2] at HCD
      clear hf2
      generalize rdN 1 (l.drop (X.2 + 1 + 1)) = M2 at hF2 ⊢
      have HA10 : ColsAt R P KN tb l w (w9.setCell ⟨w5.heap.size, 3, none⟩ (.bool f2)) cs (X.2 + 1 + 1 + 1) a n c := HA9.put hgC hPC hRw hs1 3 _
      have HC10 : Own (w9.setCell ⟨w5.heap.size, 3, none⟩ (.bool f2)) w5.heap.size 131 #[.string X.1, .int .i64 (TY : Int), .bool f1, .bool f2, .int .i64 0, .int .i64 0, .string noS] := HC9.set 3 _
      obtain ⟨c0, c1, c2, c3, c4, c5, c6⟩ := HC9.loc.seven
      have k3 := HC9.frozen 3
      clear HA9 HC9 hF1
      go_wp2_with fail
      clear c0 c1 c2 c3 c4 c5 c6 k3
      generalize w9.setCell ⟨w5.heap.size, 3, none⟩ (.bool f2) = w10 at HA10 HC10 ⊢
      have HVc : Hid (∀ u : World, SdB u R l (X.2 + 1 + 1 + 1) → Calls Tryz.prog 78 #[.pointer (some ⟨R, 0, none⟩)] u fun e w' => e = .returned (.agg (spV l (X.2 + 1 + 1 + 1)).1.cells) ∧ SdB w' R l (spV l (X.2 + 1 + 1 + 1)).2 ∧ Turns (· = R) u w') := fun u hu => HV0.out u _ hu (by omega)
      generalize spV l (X.2 + 1 + 1 + 1) = V at HVc HCD
      obtain ⟨⟨vt, vn, vs⟩, v2⟩ := V
      refine (HVc.out _ HA10.1).mono ?_
      rintro e w11 ⟨rfl, hd, ht⟩
      have HA11 := HA10.step hd ht (by omega) hRw
      have HC11 := HC10.turned ht (by show ¬ (w5.heap.size = R); omega)
      clear hd ht HA10 HC10 hF2 HVc
      have HA12 : Hid (ColsAt R P KN tb l w (((w11.setCell ⟨w5.heap.size, 4, none⟩ (.int .i64 vt)).setCell ⟨w5.heap.size, 5, none⟩ (.int .i64 vn)).setCell ⟨w5.heap.size, 6, none⟩ (.string vs)) cs v2 a n c) := ((HA11.put hgC hPC hRw hs1 4 _).put hgC hPC hRw hs1 5 _).put hgC hPC hRw hs1 6 _
      have HC12 : Own (((w11.setCell ⟨w5.heap.size, 4, none⟩ (.int .i64 vt)).setCell ⟨w5.heap.size, 5, none⟩ (.int .i64 vn)).setCell ⟨w5.heap.size, 6, none⟩ (.string vs)) w5.heap.size 131 #[.string X.1, .int .i64 (TY : Int), .bool f1, .bool f2, .int .i64 vt, .int .i64 vn, .string vs] := ((HC11.set 4 _).set 5 _).set 6 _
      have hs12 : w5.heap.size < (((w11.setCell ⟨w5.heap.size, 4, none⟩ (.int .i64 vt)).setCell ⟨w5.heap.size, 5, none⟩ (.int .i64 vn)).setCell ⟨w5.heap.size, 6, none⟩ (.string vs)).heap.size := HC12.lt
      have hs11 : P + 1 ≤ w11.heap.size := by have := HC11.lt; omega
      obtain ⟨c0, c1, c2, c3, c4, c5, c6⟩ := HC11.loc.seven
      have k4 := HC11.frozen 4
      have k5 := HC11.frozen 5
      have k6 := HC11.frozen 6
      obtain ⟨m0, m1, m2, m3, m4, m5, m6⟩ := HC12.loc.seven
      obtain ⟨q0, q1, q2, q3, q4, q5⟩ := HA12.out.2.2.1.loc.six
      have HL : Hid ((cs ++ [CC.1]).map Cl.cells = cs.map Cl.cells ++ [#[.string X.1, .int .i64 (TY : Int), .bool f1, .bool f2, .int .i64 vt, .int .i64 vn, .string vs]]) := by
        show _ = _
        rw [List.map_append, HCD.out]; rfl
      have HV2 : Hid (CC.2 = v2) := by show _ = _; rw [HCD.out]
      have hLo : Loc ((((w11.setCell ⟨w5.heap.size, 4, none⟩ (.int .i64 vt)).setCell ⟨w5.heap.size, 5, none⟩ (.int .i64 vn)).setCell ⟨w5.heap.size, 6, none⟩ (.string vs)).alloc (.cells #[.string X.1, .int .i64 (TY : Int), .bool f1, .bool f2, .int .i64 vt, .int .i64 vn, .string vs] 131)) w11.heap.size #[.string X.1, .int .i64 (TY : Int), .bool f1, .bool f2, .int .i64 vt, .int .i64 vn, .string vs] := (Own.at (((w11.setCell ⟨w5.heap.size, 4, none⟩ (.int .i64 vt)).setCell ⟨w5.heap.size, 5, none⟩ (.int .i64 vn)).setCell ⟨w5.heap.size, 6, none⟩ (.string vs)) 131 #[.string X.1, .int .i64 (TY : Int), .bool f1, .bool f2, .int .i64 vt, .int .i64 vn, .string vs] (by simp)).loc
      clear HA11 HC11 HC12 HCD
      go_wp2_with (at_builtin; refine app_one rfl (.tmp 44) (.tmp 46) rfl Tryz.underlying43 infoColR rfl (by decide) (by decide) (P + 1) _ (cs.map Cl.cells) rfl (HA12.out.2.2.2.2.on (ch_alloc (Below.refl _ _) _)) w11.heap.size 1 #[.string X.1, .int .i64 (TY : Int), .bool f1, .bool f2, .int .i64 vt, .int .i64 vn, .string vs] rfl hLo rfl (col_oneR ⟨X.1, (TY : Int), f1, f2, vt, vn, vs⟩) (by simp; omega) (by simp; omega) ?_; intro v13 w13 hg13 hb13; obtain ⟨a13, n13, c13, rfl, hg13⟩ := hg13.lit2; have hba13 := (Below.alloc (Below.refl (P + 1) (((w11.setCell ⟨w5.heap.size, 4, none⟩ (.int .i64 vt)).setCell ⟨w5.heap.size, 5, none⟩ (.int .i64 vn)).setCell ⟨w5.heap.size, 6, none⟩ (.string vs))) (by omega) (.cells #[.string X.1, .int .i64 (TY : Int), .bool f1, .bool f2, .int .i64 vt, .int .i64 vn, .string vs] 131)).trans hb13; have HP13 : Own w13 P 46 #[.int .i64 (KN : Int), .string tb, .slice a n c, .slice none 0 0, .string noS, .string noS] := (hba13.block P (by omega)).trans HA12.out.2.2.1; obtain ⟨r0, r1, r2, r3, r4, r5⟩ := HP13.loc.six; have j2 := HP13.frozen 2)
      have HA14 : Hid (ColsAt R P KN tb l w (w13.setCell ⟨P, 2, none⟩ (.slice a13 n13 c13)) (cs ++ [CC.1]) CC.2 a13 n13 c13) := by
        show ColsAt _ _ _ _ _ _ _ _ _ _ _ _
        rw [HV2.out]
        refine ⟨(HA12.out.1.low (by omega) hba13).other (a := ⟨P, 2, none⟩) (by show R < P; omega) _, (HA12.out.2.1.low (hba13.mono (by omega))).fresh (p := ⟨P, 2, none⟩) (by show w.heap.size ≤ P; omega) _, HP13.set 2 _, (show Own w13 w.heap.size 46 #[.int .i64 0, .string noS, .slice none 0 0, .slice none 0 0, .string noS, .string noS] from (hba13.block _ (by omega)).trans HA12.out.2.2.2.1).other (p := ⟨P, 2, none⟩) (by show w.heap.size ≠ P; omega) _, ?_⟩
        rw [HL.out]
        exact hg13.setP (p := ⟨P, 2, none⟩) (by show P < P + 1; omega) _
      have hs14 : P < (w13.setCell ⟨P, 2, none⟩ (.slice a13 n13 c13)).heap.size := HA14.out.2.2.1.lt
      clear hg13 hb13 hba13 HP13 r0 r1 r2 r3 r4 r5 j2 HA12 HL HV2 c0 c1 c2 c3 c4 c5 c6 k4 k5 k6 m0 m1 m2 m3 m4 m5 m6 q0 q1 q2 q3 q4 q5
      go_round
      case rel => exact ⟨k + 1, cs ++ [CC.1], CC.2, a13, n13, c13, by omega, by go_num, by simp; omega, hnx, HE', hs14, HA14⟩
      case measure => simp [intOf]; omega
    · have HF : Hid (cs = KK.1 ∧ cur = KK.2) := by
        have := HE.out
        rw [show min N 9 - k = 0 by omega, spCs] at this
        show cs = _ ∧ _
        simpa using this
      have HAc : Hid (ColsAt R P KN tb l w wr KK.1 KK.2 a n c) := by
        show ColsAt _ _ _ _ _ _ _ _ _ _ _ _
        rw [← HF.out.1, ← HF.out.2]; exact HA.out
      have hcb : KK.2 ≤ 2200000 := by have := HF.out.2; omega
      have HNw : Hid (∀ u : World, SdB u R l KK.2 → Calls Tryz.prog 39 #[.pointer (some ⟨R, 0, none⟩), .int .i64 1] u fun e w' => e = .returned (.int .i64 (rdN 1 (l.drop KK.2) : Int)) ∧ SdB w' R l (KK.2 + 1) ∧ Turns (· = R) u w') := fun u hu => HN0.out u _ hu (by omega)
      have HWd : Hid (spW l KK.2 = spKs (min (rdN 1 (l.drop KK.2)) 9) l (KK.2 + 1)) := rfl
      have hnw := rdN_byte (l.drop KK.2)
      clear HF HE HA
      generalize rdN 1 (l.drop KK.2) = NW at HNw HWd hnw
      generalize spW l KK.2 = WW at HWd HDEF
      rcases (by omega : ((k : Int) < N ∧ ¬ (k : Int) ≤ 8) ∨ ¬ (k : Int) < N) with ⟨hlti, hlt8⟩ | hlti
      all_goals
        go_wp2_with fail
        refine (HNw.out _ HAc.out.1).mono ?_
        rintro e w3 ⟨rfl, hd, ht⟩
        have hs3 : P < w3.heap.size := by have := ht.size; omega
        have HA3 := HAc.out.step hd ht (by omega) hRw
        have HGL : Hid (∀ g, (Value.slice a n c).ownBlock = some g → g < w3.heap.size) := HA3.2.2.2.2.lt
        have HK3 : Hid (KeysAt R P KN w3.heap.size tb l w w3 KK.1 a n c [] (KK.2 + 1) none 0 0) := ⟨HA3.1, HA3.2.1, HA3.2.2.1, HA3.2.2.2.1, HA3.2.2.2.2, Got.nil _ _ _ _⟩
        clear hd ht HAc HA3 HNw
        generalize hmm : w3.heap.size = m at hs3 HGL HK3
        have hm3 : m ≤ w3.heap.size := by omega
        clear hmm
        go_wp2
        go_loopw [9] (fun i wq => ∃ (j : Nat) (ks : List ByteArray) (cu : Nat) (a' : Option Addr) (n' c' : Nat), j ≤ min NW 9 ∧ i = .int .i64 (j : Int) ∧ ks.length = j ∧ cu ≤ 2300000 + 1000 * j ∧ Hid (ks ++ (spKs (min NW 9 - j) l cu).1 = WW.1 ∧ (spKs (min NW 9 - j) l cu).2 = WW.2) ∧ m ≤ wq.heap.size ∧ Hid (KeysAt R P KN m tb l w wq KK.1 a n c ks cu a' n' c')) (fun i _ => 10 - (intOf i).toNat)
        case atStart => exact ⟨0, [], KK.2 + 1, none, 0, 0, Nat.zero_le _, rfl, rfl, by omega, by rw [HWd.out]; exact ⟨rfl, rfl⟩, hm3, HK3⟩
        case round =>
          clear HK3 HWd hm3
          obtain ⟨j, ks, cu, a', n', c', hj, rfl, hjk, hcu, HE, hmq, HK⟩ := hrel
          rename_i wr
          have hj9 : j ≤ 9 := by omega
          by_cases hlj : j < min NW 9
          · have hjti : (j : Int) < NW := by omega
            have hjt8 : (j : Int) ≤ 8 := by omega
            have HE' : Hid ((ks ++ [(spX l cu).1]) ++ (spKs (min NW 9 - (j + 1)) l (spX l cu).2).1 = WW.1 ∧ (spKs (min NW 9 - (j + 1)) l (spX l cu).2).2 = WW.2) := by
              refine ⟨?_, ?_⟩
              · rw [← HE.out.1, show min NW 9 - j = (min NW 9 - (j + 1)) + 1 by omega, List.append_assoc]; rfl
              · rw [← HE.out.2, show min NW 9 - j = (min NW 9 - (j + 1)) + 1 by omega]; rfl
            have hnx : (spX l cu).2 ≤ 2300000 + 1000 * (j + 1) := by have := spX_le l cu; omega
            have HXc : Hid (∀ u : World, SdB u R l (cu + 1) → Calls Tryz.prog 40 #[.pointer (some ⟨R, 0, none⟩), .int .i64 (rdN 1 (l.drop cu) : Int)] u fun e w' => e = .returned (.string (spX l cu).1) ∧ SdB w' R l (spX l cu).2 ∧ Turns (· = R) u w') := fun u hu => HX0.out u cu hu (by omega)
            have HNc : Hid (∀ u : World, SdB u R l cu → Calls Tryz.prog 39 #[.pointer (some ⟨R, 0, none⟩), .int .i64 1] u fun e w' => e = .returned (.int .i64 (rdN 1 (l.drop cu) : Int)) ∧ SdB w' R l (cu + 1) ∧ Turns (· = R) u w') := fun u hu => HN0.out u cu hu (by omega)
            clear HE
            generalize spX l cu = X at HXc HE' hnx
            generalize rdN 1 (l.drop cu) = M0 at HXc HNc
            have hRP : R ≠ P := by omega
            have hRm : R < m := by omega
            go_wp2_with fail
            refine region_storeG (Turns fun c => c ≠ P) (Turns.rel _) [([0, 1, 2, 3], 4), ([], 5), ([], 6), ([], 7)] [8] 9 (by kernel_rfl) (by kernel_rfl) ?_
            have hgd := Grows.drawn wr
            generalize { wr with drawn := wr.drawn + 1 } = wd at hgd ⊢
            have HKd : Hid (KeysAt R P KN m tb l w wd KK.1 a n c ks cu a' n' c') := HK.out.on hgd
            have hmd : m ≤ wd.heap.size := Nat.le_trans hmq hgd.size
            clear hgd HK hmq
            refine planG_on (by simp only [pick, List.getElem?_toArray, List.getElem?_cons_succ, List.getElem?_cons_zero]; rfl) ?_
            repeat (go_big_quiet_step ((intro hu; obtain ⟨q0, q1, q2, q3, q4, q5⟩ := (HKd.out.2.2.1.turned hu (by simp)).loc.six; go_simp; (try exact rfl))))
            refine wpQuiet_nil ?_
            refine plan_call rfl rfl (fun K hK => ?_)
            go_simp
            go_at_call 39
            refine (HNc.out _ HKd.out.1).mono ?_
            rintro e w4 ⟨rfl, hd, ht⟩
            refine ⟨_, rfl, hK _ _ ⟨ht.mono (fun c h => by have h : c = R := h; show c ≠ P; omega), ?_⟩⟩
            have HK4 : Hid (KeysAt R P KN m tb l w w4 KK.1 a n c ks (cu + 1) a' n' c') := HKd.out.step hd ht (by omega) hRw hRm
            have hm4 : m ≤ w4.heap.size := Nat.le_trans hmd ht.size
            clear hK K hd ht HKd
            refine planG_on rfl ?_
            refine wpQuiet_nil ?_
            refine plan_call rfl rfl (fun K hK => ?_)
            go_simp
            go_at_call 40
            refine (HXc.out _ HK4.out.1).mono ?_
            rintro e w5 ⟨rfl, hd, ht⟩
            refine ⟨_, rfl, hK _ _ ⟨ht.mono (fun c h => by have h : c = R := h; show c ≠ P; omega), ?_⟩⟩
            have HK5 : Hid (KeysAt R P KN m tb l w w5 KK.1 a n c ks X.2 a' n' c') := HK4.out.step hd ht (by omega) hRw hRm
            have hm5 : m ≤ w5.heap.size := Nat.le_trans hm4 ht.size
            clear hK K hd ht HK4
            refine planG_on rfl ?_
            refine wpQuiet_nil ?_
            refine plan_call rfl rfl (fun K hK => ?_)
            go_simp
            refine hK _ _ ⟨(Turns.refl _ _).below (ch_alloc (Below.refl _ _) _), ?_⟩
            have hb6 : Below w5.heap.size w5 (w5.alloc (.cells #[.string X.1] 9)) := ch_alloc (Below.refl _ _) _
            have HK6 : Hid (KeysAt R P KN m tb l w (w5.alloc (.cells #[.string X.1] 9)) KK.1 a n c ks X.2 a' n' c') := HK5.out.on hb6
            have HN6 : Hid (Own (w5.alloc (.cells #[.string X.1] 9)) w5.heap.size 9 #[.string X.1]) := Own.new _ _ _
            have hm6 : m ≤ (w5.alloc (.cells #[.string X.1] 9)).heap.size := Nat.le_trans hm5 hb6.size
            clear hK K hb6 HK5
            generalize w5.alloc (.cells #[.string X.1] 9) = w6 at HK6 HN6 hm6 ⊢
            refine planG_on rfl ?_
            refine wpQuiet_nil ?_
            refine plan_call rfl rfl (fun K hK => ?_)
            refine app_calmT (.tmp 61) (.tmp 66) rfl Tryz.underlying44 infoStrR rfl (by decide) (by decide) m _ (ks.map strX) rfl HK6.out.2.2.2.2.2 w5.heap.size 0 1 [strX X.1] 1 rfl rfl (HN6.out.loc.row1 rfl) (fun q hq u hu => by simp at hq; subst hq; exact str_oneR _ u hu) (by simp; omega) hm6 ?_
            intro v7 w7 hg7 hb7 ht7
            refine hK _ _ ⟨ht7.mono (fun g hg => by have := HK6.out.2.2.2.2.2.own hg; show g ≠ P; omega), ?_⟩
            go_simp
            obtain ⟨a7, n7, c7, rfl, hg7⟩ := hg7.lit2
            have hg7' : Got w7 m 9 1 (.slice a7 n7 c7) ((ks ++ [X.1]).map strX) := by rw [List.map_append]; exact hg7
            have hp7 : Own w7 P 46 #[.int .i64 (KN : Int), .string tb, .slice a n c, .slice a' n' c', .string noS, .string noS] := (hb7.block P (by omega)).trans HK6.out.2.2.1
            have HK8 : Hid (KeysAt R P KN m tb l w (w7.setCell ⟨P, 3, none⟩ (.slice a7 n7 c7)) KK.1 a n c (ks ++ [X.1]) X.2 a7 n7 c7) := HK6.out.add hb7 hg7' HGL.out hRw hs1 hs3
            have hm8 : m ≤ (w7.setCell ⟨P, 3, none⟩ (.slice a7 n7 c7)).heap.size := by
              have h1 := stores_sizeR P [.slice a7 n7 c7] w7 3
              have h2 := hb7.size
              have h3 : (w7.setCell ⟨P, 3, none⟩ (.slice a7 n7 c7)).heap.size = w7.heap.size := h1
              omega
            obtain ⟨o0, o1, o2, o3, o4, o5⟩ := hp7.loc.six
            have i3 := hp7.frozen 3
            clear hK K hg7 hg7' hb7 ht7 HK6 HN6 hp7
            refine planG_end (by simp only [pick, List.getElem?_toArray, List.getElem?_cons_succ, List.getElem?_cons_zero]; rfl) ?_
            repeat (go_big_quiet_step ((intro hu; go_simp; (try exact rfl))))
            refine wpQuiet_nil ?_
            refine plan_call rfl rfl (fun K hK => ?_)
            go_simp
            refine hK _ _ ?_
            clear hK K o0 o1 o2 o3 o4 o5 i3
            generalize w7.setCell ⟨P, 3, none⟩ (.slice a7 n7 c7) = w8 at HK8 hm8 ⊢
            go_wp2
            go_round
            case rel => exact ⟨j + 1, ks ++ [X.1], X.2, a7, n7, c7, by omega, by go_num, by simp; omega, hnx, HE', hm8, HK8⟩
            case measure => simp [intOf]; omega
          · have HF : Hid (ks = WW.1 ∧ cu = WW.2) := by
              have := HE.out
              rw [show min NW 9 - j = 0 by omega, spKs] at this
              show ks = _ ∧ _
              simpa using this
            have HKc : Hid (KeysAt R P KN m tb l w wr KK.1 a n c WW.1 WW.2 a' n' c') := by
              show KeysAt _ _ _ _ _ _ _ _ _ _ _ _ _ _ _ _ _
              rw [← HF.out.1, ← HF.out.2]; exact HK.out
            have hwb : WW.2 ≤ 2400000 := by have := HF.out.2; omega
            have hRm : R < m := by omega
            have HNa : Hid (∀ u : World, SdB u R l WW.2 → Calls Tryz.prog 39 #[.pointer (some ⟨R, 0, none⟩), .int .i64 1] u fun e w' => e = .returned (.int .i64 (rdN 1 (l.drop WW.2) : Int)) ∧ SdB w' R l (WW.2 + 1) ∧ Turns (· = R) u w') := fun u hu => HN0.out u _ hu (by omega)
            have HXa : Hid (∀ u : World, SdB u R l (WW.2 + 1) → Calls Tryz.prog 40 #[.pointer (some ⟨R, 0, none⟩), .int .i64 (rdN 1 (l.drop WW.2) : Int)] u fun e w' => e = .returned (.string (spX l WW.2).1) ∧ SdB w' R l (spX l WW.2).2 ∧ Turns (· = R) u w') := fun u hu => HX0.out u _ hu (by omega)
            have hx1 := spX_le l WW.2
            clear HF HE HK
            generalize spX l WW.2 = X1 at HXa hx1 HDEF
            generalize rdN 1 (l.drop WW.2) = M1 at HNa HXa
            have HNb : Hid (∀ u : World, SdB u R l X1.2 → Calls Tryz.prog 39 #[.pointer (some ⟨R, 0, none⟩), .int .i64 1] u fun e w' => e = .returned (.int .i64 (rdN 1 (l.drop X1.2) : Int)) ∧ SdB w' R l (X1.2 + 1) ∧ Turns (· = R) u w') := fun u hu => HN0.out u _ hu (by omega)
            have HXb : Hid (∀ u : World, SdB u R l (X1.2 + 1) → Calls Tryz.prog 40 #[.pointer (some ⟨R, 0, none⟩), .int .i64 (rdN 1 (l.drop X1.2) : Int)] u fun e w' => e = .returned (.string (spX l X1.2).1) ∧ SdB w' R l (spX l X1.2).2 ∧ Turns (· = R) u w') := fun u hu => HX0.out u _ hu (by omega)
            generalize spX l X1.2 = X2 at HXb HDEF
            generalize rdN 1 (l.drop X1.2) = M2 at HNb HXb
            rcases (by omega : ((j : Int) < NW ∧ ¬ (j : Int) ≤ 8) ∨ ¬ (j : Int) < NW) with ⟨hjti, hjt8⟩ | hjti
            all_goals
              go_wp2_with fail
              refine (HNa.out _ HKc.out.1).mono ?_
              rintro e w4 ⟨rfl, hd, ht⟩
              have HK4 := HKc.out.step hd ht (by omega) hRw hRm
              have hm4 : m ≤ w4.heap.size := Nat.le_trans hmq ht.size
              clear hd ht HKc HNa
              go_wp2_with fail
              refine (HXa.out _ HK4.1).mono ?_
              rintro e w5 ⟨rfl, hd, ht⟩
              have HK5 := HK4.step hd ht (by omega) hRw hRm
              have hm5 : m ≤ w5.heap.size := Nat.le_trans hm4 ht.size
              have hz6 : (w5.setCell ⟨P, 4, none⟩ (.string X1.1)).heap.size = w5.heap.size := stores_sizeR P [.string X1.1] w5 4
              have HP6 : Own (w5.setCell ⟨P, 4, none⟩ (.string X1.1)) P 46 #[.int .i64 (KN : Int), .string tb, .slice a n c, .slice a' n' c', .string X1.1, .string noS] := HK5.2.2.1.set 4 _
              have HO6 := HK5.2.2.2.1.other (p := ⟨P, 4, none⟩) (by show w.heap.size ≠ P; omega) (.string X1.1)
              have HC6 := HK5.2.2.2.2.1.setP (p := ⟨P, 4, none⟩) (by show P < P + 1; omega) (.string X1.1)
              have HS6 := HK5.2.2.2.2.2.setP (p := ⟨P, 4, none⟩) (by show P < m; omega) (.string X1.1)
              have HT6 := HK5.2.1.fresh (p := ⟨P, 4, none⟩) (by show w.heap.size ≤ P; omega) (.string X1.1)
              have HD6 := HK5.1.other (a := ⟨P, 4, none⟩) (by show R < P; omega) (.string X1.1)
              obtain ⟨q0, q1, q2, q3, q4, q5⟩ := HK5.2.2.1.loc.six
              have i4 := HK5.2.2.1.frozen 4
              clear hd ht HK4 HK5 HXa
              go_wp2_with fail
              clear q0 q1 q2 q3 q4 q5 i4
              generalize w5.setCell ⟨P, 4, none⟩ (.string X1.1) = w6 at hz6 HP6 HO6 HC6 HS6 HT6 HD6 ⊢
              refine (HNb.out _ HD6).mono ?_
              rintro e w7 ⟨rfl, hd, ht⟩
              have hs7 := ht.size
              have HP7 := HP6.turned ht (by show ¬ (P = R); omega)
              have HO7 := HO6.turned ht (by show ¬ (w.heap.size = R); omega)
              have HC7 := HC6.turns ht (fun c h => by have h : c = R := h; omega)
              have HS7 := HS6.turns ht (fun c h => by have h : c = R := h; omega)
              have HT7 := HT6.trans ht
              have HD7 := hd
              clear hd ht HP6 HO6 HC6 HS6 HT6 HD6 HNb
              go_wp2_with fail
              refine (HXb.out _ HD7).mono ?_
              rintro e w8 ⟨rfl, hd, ht⟩
              have hs8 := ht.size
              have HP8 := HP7.turned ht (by show ¬ (P = R); omega)
              have HO8 := HO7.turned ht (by show ¬ (w.heap.size = R); omega)
              have HC8 := HC7.turns ht (fun c h => by have h : c = R := h; omega)
              have HS8 := HS7.turns ht (fun c h => by have h : c = R := h; omega)
              have HT8 := HT7.trans ht
              clear hd ht HP7 HO7 HC7 HS7 HT7 HD7 HXb
              have HP9 : Own (w8.setCell ⟨P, 5, none⟩ (.string X2.1)) P 46 #[.int .i64 (KN : Int), .string tb, .slice a n c, .slice a' n' c', .string X1.1, .string X2.1] := HP8.set 5 _
              have HO9 := HO8.other (p := ⟨P, 5, none⟩) (by show w.heap.size ≠ P; omega) (.string X2.1)
              have HQ : Own (stores (w8.setCell ⟨P, 5, none⟩ (.string X2.1)) w.heap.size 0 [.int .i64 (KN : Int), .string tb, .slice a n c, .slice a' n' c', .string X1.1, .string X2.1]) w.heap.size 46 #[.int .i64 (KN : Int), .string tb, .slice a n c, .slice a' n' c', .string X1.1, .string X2.1] := HO9.fill (old := [_, _, _, _, _, _]) [.int .i64 (KN : Int), .string tb, .slice a n c, .slice a' n' c', .string X1.1, .string X2.1] rfl
              have HE : Hid (Turns (· = R) w (stores (w8.setCell ⟨P, 5, none⟩ (.string X2.1)) w.heap.size 0 [.int .i64 (KN : Int), .string tb, .slice a n c, .slice a' n' c', .string X1.1, .string X2.1]) ∧ Got (stores (w8.setCell ⟨P, 5, none⟩ (.string X2.1)) w.heap.size 0 [.int .i64 (KN : Int), .string tb, .slice a n c, .slice a' n' c', .string X1.1, .string X2.1]) w.heap.size 131 7 (.slice a n c) (KK.1.map Cl.cells) ∧ Got (stores (w8.setCell ⟨P, 5, none⟩ (.string X2.1)) w.heap.size 0 [.int .i64 (KN : Int), .string tb, .slice a n c, .slice a' n' c', .string X1.1, .string X2.1]) m 9 1 (.slice a' n' c') (WW.1.map strX) ∧ m ≤ (stores (w8.setCell ⟨P, 5, none⟩ (.string X2.1)) w.heap.size 0 [.int .i64 (KN : Int), .string tb, .slice a n c, .slice a' n' c', .string X1.1, .string X2.1]).heap.size) :=
                ⟨turns_new (Nat.le_refl _) _ _ _ (HT8.fresh (p := ⟨P, 5, none⟩) (by show w.heap.size ≤ P; omega) (.string X2.1)), (Got.many (by omega) _ _ _ (HC8.setP (p := ⟨P, 5, none⟩) (by show P < P + 1; omega) (.string X2.1))).mono (by omega), Got.many (by omega) _ _ _ (HS8.setP (p := ⟨P, 5, none⟩) (by show P < m; omega) (.string X2.1)), by
                  rw [stores_sizeR]
                  have h1 : (w8.setCell ⟨P, 5, none⟩ (.string X2.1)).heap.size = w8.heap.size := stores_sizeR P [.string X2.1] w8 5
                  omega⟩
              obtain ⟨q0, q1, q2, q3, q4, q5⟩ := HP8.loc.six
              have i5 := HP8.frozen 5
              obtain ⟨r0, r1, r2, r3, r4, r5⟩ := HP9.loc.six
              obtain ⟨d0, d1, d2, d3, d4, d5⟩ := HO9.loc.six
              have k0 := HO9.frozen 0
              have k1 := HO9.frozen 1
              have k2 := HO9.frozen 2
              have k3 := HO9.frozen 3
              have k4 := HO9.frozen 4
              have k5 := HO9.frozen 5
              clear HP8 HO8 HC8 HS8 HT8 HP9 HO9
              simp only [stores, Nat.reduceAdd] at HQ HE
              go_wp2
              generalize (((((((w8.setCell ⟨P, 5, none⟩ (.string X2.1)).setCell ⟨w.heap.size, 0, none⟩ (.int .i64 (KN : Int))).setCell ⟨w.heap.size, 1, none⟩ (.string tb)).setCell ⟨w.heap.size, 2, none⟩ (.slice a n c)).setCell ⟨w.heap.size, 3, none⟩ (.slice a' n' c')).setCell ⟨w.heap.size, 4, none⟩ (.string X1.1)).setCell ⟨w.heap.size, 5, none⟩ (.string X2.1)) = W at HQ HE ⊢
              obtain ⟨e0, e1, e2, e3, e4, e5⟩ := HQ.loc.six
              exact bodyPost_ret (v := .agg #[.int .i64 (KN : Int), .string tb, .slice a n c, .slice a' n' c', .string X1.1, .string X2.1]) (by simp [results, Tryz.results42, go_sem, e0, e1, e2, e3, e4, e5]) rfl (by rw [HDEF.out]; unfold DdlOut; exact ⟨a, n, c, a', n', c', m, rfl, HE.out.2.1, HE.out.2.2.1, HGL.out, by omega, HE.out.2.2.2, HE.out.1⟩)
end Go.Proofs.YtiijahoheajppaaGreat
