/- Numbers as bytes, written: given and landed. -/
import Derived.Test.YtikccmgpmbnkfaaBt
import Derived.Test.YtikccmgpmbnkfaaCn
namespace Go.Proofs.Ytikccmgpmbnkfaa
open Go.ChangeShapes Go.WideShapes Go.ChangeAt Go.RowKit

/-- A number in some bytes, the highest first. -/
def numL (n : Nat) : Nat → List UInt8
  | 0 => []
  | s + 1 => UInt8.ofNat (n / 256 ^ s) :: numL n s
theorem numL_length (n : Nat) : ∀ s, (numL n s).length = s
  | 0 => rfl
  | s + 1 => by rw [numL, List.length_cons, numL_length n s]
theorem dig_eq (n j : Nat) : ((UInt8.ofNat (n / 256 ^ j)).toNat : Int) = (n : Int) / 2 ^ (8 * j) % 256 := by
  rw [UInt8.toNat_ofNat', Int.natCast_emod, Int.natCast_ediv, Int.natCast_pow, Int.pow_mul]; rfl
theorem dig_nat (n j : Nat) : (UInt8.ofNat (n / 256 ^ j)).toNat = n / 256 ^ j % 256 := by rw [UInt8.toNat_ofNat']
theorem quo_dig (m J : Nat) (hm : m ≤ 281474976710656) : (wrap64 ((m : Int) / (J : Int))).tmod 256 % 256 = ((m / J % 256 : Nat) : Int) := by
  have hq : m / J ≤ m := Nat.div_le_self _ _
  rw [← Int.natCast_ediv]
  generalize m / J = Q at hq
  have e : wrap64 (Q : Int) = (Q : Int) := by unfold wrap64; omega
  rw [e, Int.tmod_eq_emod_of_nonneg (by omega)]
  omega
theorem notNilB (b off n p : Nat) (w : World) : (binOp .eql 33 (.slice (some ⟨b, off, none⟩) n p) (.slice none 0 0)).run Try.prog w = .ok (.bool false) w := by kernel_rfl

set_option maxRecDepth 100000 in
set_option maxHeartbeats 1000000 in
/-- slices.Clone of some bytes -/
theorem cloneBytes (b off p : Nat) (l : List UInt8) (w : World) (hv : RowAt w (some ⟨b, off, none⟩) 1 (l.map byX)) (hl : l.length ≤ 2000000) :
    Calls Try.prog 36 #[.slice (some ⟨b, off, none⟩) l.length p] w fun e w' => ∃ kv, e = .returned kv ∧ Below w.heap.size w w' ∧ Got w' w.heap.size 5 1 kv (l.map byX) := by
  have HR : Hid (RowAt w (some ⟨b, off, none⟩) 1 (l.map byX)) := hv
  have hnn := notNilB b off l.length p w
  clear hv
  go_enter Try.func36, Try.ntmps36
  go_wp2_with (at_builtin; refine app_lot rfl (.tmp 5) (.tmp 6) rfl Try.underlying33 infoByte rfl (by decide) (by decide) w.heap.size _ [] rfl (Got.empty w _ _) b off p (l.map byX) l.length (by simp) rfl (HR.out.on (ch_alloc (Below.refl _ _) _)) (byte_one l) (by simp; omega) (by simp) ?_; intro v' w2 hg2 hb2)
  go_ret
  exact ⟨_, rfl, Below.trans (ch_alloc (Below.refl _ _) _) hb2, by simpa using hg2⟩

theorem pow_le6 {k : Nat} (h : k ≤ 6) : 256 ^ k ≤ 281474976710656 := by
  have : (256 : Nat) ^ k ≤ 256 ^ 6 := Nat.pow_le_pow_right (by omega) h
  exact this
set_option maxRecDepth 100000 in
/-- spec.l06Pow -/
theorem l06Pow_any (s : Nat) (w : World) (hs : s ≤ 6) : Calls Try.prog 108 #[.int .i64 (s : Int)] w fun e w' => e = .returned (.int .i64 ((256 ^ s : Nat) : Int)) ∧ Below w.heap.size w w' := by
  go_enter Try.func108, Try.ntmps108
  go_wp2
  go_loopw [3, 4] (fun p i wr => ∃ k P : Nat, k ≤ s ∧ i = .int .i64 (k : Int) ∧ p = .int .i64 (P : Int) ∧ Hid (P = 256 ^ k) ∧ P ≤ 281474976710656 ∧ Below w.heap.size w wr) (fun _ i _ => s - (intOf i).toNat)
  case atStart => exact ⟨0, 1, Nat.zero_le _, rfl, rfl, rfl, by omega, (by repeat (first | with_reducible exact Below.refl _ _ | with_reducible assumption | with_reducible refine ch_alloc ?_ _ | with_reducible refine Below.drew ?_ | with_reducible refine below_draws _ ?_ | (with_reducible refine Below.setCell ?_ ?_ _; rotate_left; focus (first | with_reducible exact Nat.le_refl _ | (simp; done) | (simp; omega) | (simp at *; omega))) | with_reducible refine ch_trans ?_ (by with_reducible assumption)))⟩
  case round =>
    obtain ⟨k, P, hk, rfl, rfl, HP, hP, hb⟩ := hrel
    by_cases hlt : k < s
    · have hlti : (k : Int) < s := by omega
      have hP' : P * 256 ≤ 281474976710656 := by
        have := pow_le6 (k := k + 1) (by omega)
        rwa [Nat.pow_succ, ← HP.out] at this
      go_wp2
      go_round
      case rel => exact ⟨k + 1, P * 256, by omega, by go_num, by go_num, by show P * 256 = _; rw [Nat.pow_succ, HP.out], hP', (by repeat (first | with_reducible exact Below.refl _ _ | with_reducible assumption | with_reducible refine ch_alloc ?_ _ | with_reducible refine Below.drew ?_ | with_reducible refine below_draws _ ?_ | (with_reducible refine Below.setCell ?_ ?_ _; rotate_left; focus (first | with_reducible exact Nat.le_refl _ | (simp; done) | (simp; omega) | (simp at *; omega))) | with_reducible refine ch_trans ?_ (by with_reducible assumption)))⟩
      case measure => simp [intOf]; omega
    · have hlti : (s : Int) ≤ k := by omega
      obtain rfl : k = s := by omega
      have HE : Hid (((256 ^ k : Nat) : Int) = (P : Int)) := by show _ = _; rw [HP.out]
      go_wp2
      go_ret
      exact ⟨by rw [HE.out]; rfl, (by repeat (first | with_reducible exact Below.refl _ _ | with_reducible assumption | with_reducible refine ch_alloc ?_ _ | with_reducible refine Below.drew ?_ | with_reducible refine below_draws _ ?_ | (with_reducible refine Below.setCell ?_ ?_ _; rotate_left; focus (first | with_reducible exact Nat.le_refl _ | (simp; done) | (simp; omega) | (simp at *; omega))) | with_reducible refine ch_trans ?_ (by with_reducible assumption)))⟩

/-- Of what was there only blocks of bytes may have turned. -/
def Byt (w w' : World) : Prop := Turns (fun c => ∃ cur, w.heap[c]? = some (.cells cur 5)) w w'
theorem Byt.refl (w : World) : Byt w w := Turns.refl _ _
theorem Byt.trans {a b c : World} (h : Byt a b) (k : Byt b c) : Byt a c :=
  ⟨k.os.trans h.os, k.tape.trans h.tape, k.output.trans h.output, Nat.le_trans h.size k.size, fun i hi hn => (k.block i (Nat.lt_of_lt_of_le hi h.size) fun ⟨cur, hc⟩ => hn ⟨cur, (h.block i hi hn).symm.trans hc⟩).trans (h.block i hi hn)⟩
theorem Byt.below {a b c : World} (h : Byt a b) (k : Below b.heap.size b c) : Byt a c := Turns.below h k
theorem Byt.got {w w' : World} {B : Nat} {v : Value} {xs : List (Array Value)} (h : Got w B 5 1 v xs) (k : Turns (fun c => v.ownBlock = some c) w w') : Byt w w' :=
  k.mono fun c hc => by
    rcases h.2.2 with ⟨e, _⟩ | ⟨g, cap, cur, e, _, hg, _⟩
    · subst e; cases hc
    · subst e; cases hc; exact ⟨_, hg⟩
theorem Byt.own {w w' : World} (h : Byt w w') {c : Nat} {T : TypeId} {cells : Array Value} (ho : Own w c T cells) (hT : T ≠ 5) : Own w' c T cells :=
  (h.block c ho.lt fun ⟨cur, hc⟩ => by unfold Own at ho; rw [ho] at hc; cases hc; exact hT rfl).trans ho
set_option maxRecDepth 100000 in
set_option maxHeartbeats 1000000 in
/-- impl.appendNum -/
theorem appendNum_any (v : Value) (l : List UInt8) (n s B : Nat) (w : World) (hg : Got w B 5 1 v (l.map byX)) (hl : l.length ≤ 4000000) (hs : s ≤ 6) (hB : B ≤ w.heap.size) :
    Calls Try.prog 81 #[v, .int .i64 (n : Int), .int .i64 (s : Int)] w fun e w' => ∃ v', e = .returned v' ∧ Below B w w' ∧ Byt w w' ∧ Got w' B 5 1 v' ((l ++ numL n s).map byX) := by
  obtain ⟨a0, n0, c0, rfl, hg⟩ := hg.lit2
  have HG : Hid (Got w B 5 1 (.slice a0 n0 c0) (l.map byX)) := hg
  clear hg
  go_enter Try.func81, Try.ntmps81
  go_wp2
  go_loopw [0, 7] (fun q i wr => ∃ (k : Nat) (L : List UInt8), k ≤ s ∧ i = .int .i64 ((k : Int) - 1) ∧ Below B w wr ∧ Hid (Byt w wr) ∧ L.length ≤ l.length + (s - k) ∧ Hid (L ++ numL n k = l ++ numL n s) ∧ Hid (Got wr B 5 1 q (L.map byX))) (fun _ i _ => ((intOf i) + 1).toNat)
  case atStart => exact ⟨s, l, Nat.le_refl _, by go_num, Below.refl _ _, Byt.refl _, by omega, rfl, HG⟩
  case round =>
    clear HG
    obtain ⟨k, L, hk, rfl, hb, HY, hL, HL, HG⟩ := hrel
    obtain ⟨ag, ng, cg, rfl, hg⟩ := HG.out.lit2
    have HG' : Hid (Got wr B 5 1 (.slice ag ng cg) (L.map byX)) := hg
    clear HG hg
    cases k with
    | zero =>
      have HE : Hid (L = l ++ numL n s) := by
        have := HL.out; rw [numL, List.append_nil] at this; exact this
      go_wp2
      go_ret
      exact ⟨_, rfl, hb, HY.out, by rw [← HE.out]; exact HG'.out⟩
    | succ j =>
      have hj6 : j ≤ 5 := by omega
      rw [show (((j + 1 : Nat) : Int) - 1) = (j : Int) by omega]
      have HX : Hid (byX (UInt8.ofNat (n / 256 ^ j)) = #[.int .u8 ((n : Int) / 2 ^ (8 * j) % 256)]) := by show #[Value.int .u8 _] = _; rw [dig_eq]
      go_wp2_with (at_builtin; refine app_turn rfl (.tmp 14) (.tmp 20) rfl Try.underlying33 infoByte rfl (by decide) (by decide) B _ (L.map byX) rfl (HG'.out.on (ch_alloc (Below.refl _ _) _)) wr.heap.size 1 #[.int .u8 ((n : Int) / 2 ^ (8 * j) % 256)] rfl (Loc.new _ _ _) rfl (fun u hu => by simp at hu; subst hu; rfl) (by simp; omega) (by have := hb.size; simp; omega) ?_; intro v' w2 hg2 hb2 ht2)
      go_round
      case rel => exact ⟨j, L ++ [UInt8.ofNat (n / 256 ^ j)], by omega, by go_num, (hb.alloc (Nat.le_trans hB hb.size) _).trans hb2, (HY.out.below (ch_alloc (Below.refl _ _) _)).trans (Byt.got (HG'.out.on (ch_alloc (Below.refl _ _) _)) ht2), by simp; omega, by
        show _ = _
        rw [← HL.out, List.append_assoc]; rfl, by
        show Got _ _ _ _ _ _
        rw [List.map_append, List.map_cons, List.map_nil, HX.out]; exact hg2⟩
      case measure => simp [intOf]

theorem wrap_pow (z : Nat) (h : z ≤ 6) : wrap64 (2 ^ (8 * z)) = ((256 ^ z : Nat) : Int) := by
  have : z = 0 ∨ z = 1 ∨ z = 2 ∨ z = 3 ∨ z = 4 ∨ z = 5 ∨ z = 6 := by omega
  rcases this with rfl | rfl | rfl | rfl | rfl | rfl | rfl <;> decide +kernel
/-- The numbers that are put. -/
def okPut (n s : Int) : Prop := 1 ≤ s ∧ s ≤ 6 ∧ 0 ≤ n ∧ n < ((256 ^ s.toNat : Nat) : Int)
set_option maxRecDepth 100000 in
set_option maxHeartbeats 1000000 in
/-- spec.PutNum -/
theorem putNum_spec (b off p : Nat) (l : List UInt8) (n s : Int) (w : World) (hv : RowAt w (some ⟨b, off, none⟩) 1 (l.map byX)) (hl : l.length ≤ 2000000) (q : Bool) (L : List UInt8) (hq : (q = true ∧ okPut n s ∧ L = l ++ numL n.toNat s.toNat) ∨ (q = false ∧ ¬ okPut n s ∧ L = [])) :
    Calls Try.prog 98 #[.slice (some ⟨b, off, none⟩) l.length p, .int .i64 n, .int .i64 s] w fun e w' => ∃ v', e = .returned (.tuple #[v', .bool q]) ∧ Below w.heap.size w w' ∧ Got w' w.heap.size 5 1 v' (L.map byX) := by
  have HR : Hid (RowAt w (some ⟨b, off, none⟩) 1 (l.map byX)) := hv
  clear hv
  by_cases hs : 1 ≤ s ∧ s ≤ 6
  · obtain ⟨hs1, hs6⟩ := hs
    obtain ⟨z, rfl⟩ : ∃ z : Nat, s = (z : Int) := ⟨s.toNat, by omega⟩
    by_cases hn : n < 0
    · obtain ⟨rfl, rfl⟩ : q = false ∧ L = [] := by
        rcases hq with ⟨_, h, _⟩ | ⟨h, _, h'⟩
        · exact absurd h.2.2.1 (by omega)
        · exact ⟨h, h'⟩
      clear hq
      go_enter Try.func98, Try.ntmps98
      go_wp2
      go_ret2
      exact ⟨_, rfl, (by repeat (first | with_reducible exact Below.refl _ _ | with_reducible assumption | with_reducible refine ch_alloc ?_ _ | with_reducible refine Below.drew ?_ | with_reducible refine below_draws _ ?_ | (with_reducible refine Below.setCell ?_ ?_ _; rotate_left; focus (first | with_reducible exact Nat.le_refl _ | (simp; done) | (simp; omega) | (simp at *; omega))) | with_reducible refine ch_trans ?_ (by with_reducible assumption))), Got.nil _ _ _ _⟩
    · have hn' : 0 ≤ n := by omega
      obtain ⟨m, rfl⟩ : ∃ m : Nat, n = (m : Int) := ⟨n.toNat, by omega⟩
      have HP : Hid (∀ (k : Nat) (u : World), k ≤ 6 → Calls Try.prog 108 #[.int .i64 (k : Int)] u fun e w' => e = .returned (.int .i64 ((256 ^ k : Nat) : Int)) ∧ Below u.heap.size u w') := fun k u hk => l06Pow_any k u hk
      have hz6 : z ≤ 6 := by omega
      by_cases hge : m < 256 ^ z
      · obtain ⟨rfl, rfl⟩ : q = true ∧ L = l ++ numL m z := by
          rcases hq with ⟨h, _, h'⟩ | ⟨_, h, _⟩
          · exact ⟨h, by simpa using h'⟩
          · exact absurd ⟨hs1, hs6, hn', Int.ofNat_lt.2 hge⟩ h
        have hmm := pow_le6 hz6
        obtain ⟨Z, HZ⟩ : ∃ Z : Nat, Hid (Z = 256 ^ z) := ⟨_, rfl⟩
        have hge' : m < Z := by rw [HZ.out]; exact hge
        have HPz := HP.out z
        rw [← HZ.out] at HPz hmm
        have HPZ : Hid (∀ (u : World), Calls Try.prog 108 #[.int .i64 (z : Int)] u fun e w' => e = .returned (.int .i64 (Z : Int)) ∧ Below u.heap.size u w') := fun u => HPz u hz6
        clear hq hge HPz
        go_enter Try.func98, Try.ntmps98
        go_wp2_with (first
          | (go_at_call 108; refine (HPZ.out _).mono ?_; rintro e w1 ⟨rfl, b1⟩)
          | (at_builtin; refine app_lot rfl (.tmp 26) (.tmp 27) rfl Try.underlying33 infoByte rfl (by decide) (by decide) w1.heap.size _ [] rfl (Got.empty w1 _ _) b off p (l.map byX) l.length (by simp) rfl (HR.out.on (by repeat (first | with_reducible exact Below.refl _ _ | with_reducible assumption | with_reducible refine ch_alloc ?_ _ | with_reducible refine Below.drew ?_ | with_reducible refine below_draws _ ?_ | (with_reducible refine Below.setCell ?_ ?_ _; rotate_left; focus (first | with_reducible exact Nat.le_refl _ | (simp; done) | (simp; omega) | (simp at *; omega))) | with_reducible refine ch_trans ?_ (by with_reducible assumption)))) (byte_one l) (by simp; omega) (by simp) ?_; intro v' w2 hg2 hb2; have HG2 : Hid (Got w2 w1.heap.size 5 1 v' (l.map byX)) := by
              show Got _ _ _ _ _ _
              simpa using hg2))
        have hb12 : Below w1.heap.size w1 w2 := (ch_alloc (Below.refl _ _) _).trans hb2
        clear hg2 hb2
        have HPk : Hid (∀ (k : Nat) (u : World), k ≤ 6 → Calls Try.prog 108 #[.int .i64 (k : Int)] u fun e w' => e = .returned (.int .i64 ((256 ^ k : Nat) : Int)) ∧ Below u.heap.size u w') := HP
        go_loopw [8, 9] (fun q i wr => ∃ (k : Nat) (L : List UInt8), k ≤ z ∧ i = .int .i64 ((k : Int) - 1) ∧ Below w1.heap.size w1 wr ∧ L.length ≤ l.length + (z - k) ∧ Hid (L ++ numL m k = l ++ numL m z) ∧ Hid (Got wr w1.heap.size 5 1 q (L.map byX))) (fun _ i _ => ((intOf i) + 1).toNat)
        case atStart => exact ⟨z, l, Nat.le_refl _, by go_num, hb12, by omega, rfl, HG2⟩
        case round =>
          clear HG2
          obtain ⟨k, L, hk, rfl, hb, hL, HL, HG⟩ := hrel
          obtain ⟨ag, ng, cg, rfl, hg⟩ := HG.out.lit2
          have HG' : Hid (Got wr w1.heap.size 5 1 (.slice ag ng cg) (L.map byX)) := hg
          clear HG hg
          cases k with
          | zero =>
            have HE : Hid (L = l ++ numL m z) := by
              have := HL.out; rw [numL, List.append_nil] at this; exact this
            go_wp2
            go_ret2
            exact ⟨_, rfl, (by repeat (first | with_reducible exact Below.refl _ _ | with_reducible assumption | with_reducible refine ch_alloc ?_ _ | with_reducible refine Below.drew ?_ | with_reducible refine below_draws _ ?_ | (with_reducible refine Below.setCell ?_ ?_ _; rotate_left; focus (first | with_reducible exact Nat.le_refl _ | (simp; done) | (simp; omega) | (simp at *; omega))) | with_reducible refine ch_trans ?_ (by with_reducible assumption))), by rw [← HE.out]; exact HG'.out.mono b1.size⟩
          | succ j =>
            have hj6 : j ≤ 5 := by omega
            rw [show (((j + 1 : Nat) : Int) - 1) = (j : Int) by omega]
            obtain ⟨J, HJ⟩ : ∃ J : Nat, Hid (J = 256 ^ j) := ⟨_, rfl⟩
            have hJ0 : 0 < J := by rw [HJ.out]; exact Nat.pow_pos (by omega)
            have hPj := HPk.out j
            rw [← HJ.out] at hPj
            have HPJ : Hid (∀ (u : World), Calls Try.prog 108 #[.int .i64 (j : Int)] u fun e w' => e = .returned (.int .i64 (J : Int)) ∧ Below u.heap.size u w') := fun u => hPj u (by omega)
            clear hPj
            have HX : Hid (byX (UInt8.ofNat (m / 256 ^ j)) = #[.int .u8 ((wrap64 ((m : Int) / (J : Int))).tmod 256 % 256)]) := by
              show #[Value.int .u8 _] = _
              rw [dig_nat, ← HJ.out, quo_dig m J (by omega)]
            go_wp2_with (first
              | (go_at_call 108; refine (HPJ.out _).mono ?_; rintro e w3 ⟨rfl, b3⟩)
              | (at_builtin; refine app_one rfl (.tmp 35) (.tmp 42) rfl Try.underlying33 infoByte rfl (by decide) (by decide) w1.heap.size _ (L.map byX) rfl (HG'.out.on (by repeat (first | with_reducible exact Below.refl _ _ | with_reducible assumption | with_reducible refine ch_alloc ?_ _ | with_reducible refine Below.drew ?_ | with_reducible refine below_draws _ ?_ | (with_reducible refine Below.setCell ?_ ?_ _; rotate_left; focus (first | with_reducible exact Nat.le_refl _ | (simp; done) | (simp; omega) | (simp at *; omega))) | with_reducible refine ch_trans ?_ (by with_reducible assumption)))) w3.heap.size 1 #[.int .u8 ((wrap64 ((m : Int) / (J : Int))).tmod 256 % 256)] rfl (Loc.new _ _ _) rfl (fun u hu => by simp at hu; subst hu; rfl) (by simp; omega) (by have := hb.size; have := b3.size; simp; omega) ?_; intro v'' w4 hg4 hb4))
            go_round
            case rel => exact ⟨j, L ++ [UInt8.ofNat (m / 256 ^ j)], by omega, by go_num, ((ch_trans hb b3).alloc (Nat.le_trans hb.size b3.size) _).trans hb4, by simp; omega, by
              show _ = _
              rw [← HL.out, List.append_assoc]; rfl, by
              show Got _ _ _ _ _ _
              rw [List.map_append, List.map_cons, List.map_nil, HX.out]; exact hg4⟩
            case measure => simp [intOf]
      · obtain ⟨rfl, rfl⟩ : q = false ∧ L = [] := by
          rcases hq with ⟨_, h, _⟩ | ⟨h, _, h'⟩
          · exact absurd (Int.ofNat_lt.1 h.2.2.2) hge
          · exact ⟨h, h'⟩
        obtain ⟨Z, HZ⟩ : ∃ Z : Nat, Hid (Z = 256 ^ z) := ⟨_, rfl⟩
        have hge' : ¬ m < Z := by rw [HZ.out]; exact hge
        have HPz := HP.out z
        rw [← HZ.out] at HPz
        have HPZ : Hid (∀ (u : World), Calls Try.prog 108 #[.int .i64 (z : Int)] u fun e w' => e = .returned (.int .i64 (Z : Int)) ∧ Below u.heap.size u w') := fun u => HPz u hz6
        clear hq hge HPz
        go_enter Try.func98, Try.ntmps98
        go_wp2_with (go_at_call 108; refine (HPZ.out _).mono ?_; rintro e w1 ⟨rfl, b1⟩)
        go_ret2
        exact ⟨_, rfl, (by repeat (first | with_reducible exact Below.refl _ _ | with_reducible assumption | with_reducible refine ch_alloc ?_ _ | with_reducible refine Below.drew ?_ | with_reducible refine below_draws _ ?_ | (with_reducible refine Below.setCell ?_ ?_ _; rotate_left; focus (first | with_reducible exact Nat.le_refl _ | (simp; done) | (simp; omega) | (simp at *; omega))) | with_reducible refine ch_trans ?_ (by with_reducible assumption))), Got.nil _ _ _ _⟩
  · obtain ⟨rfl, rfl⟩ : q = false ∧ L = [] := by
      rcases hq with ⟨_, h, _⟩ | ⟨h, _, h'⟩
      · exact absurd ⟨h.1, h.2.1⟩ hs
      · exact ⟨h, h'⟩
    clear hq
    by_cases hs1 : s < 1
    · go_enter Try.func98, Try.ntmps98
      go_wp2
      go_ret2
      exact ⟨_, rfl, (by repeat (first | with_reducible exact Below.refl _ _ | with_reducible assumption | with_reducible refine ch_alloc ?_ _ | with_reducible refine Below.drew ?_ | with_reducible refine below_draws _ ?_ | (with_reducible refine Below.setCell ?_ ?_ _; rotate_left; focus (first | with_reducible exact Nat.le_refl _ | (simp; done) | (simp; omega) | (simp at *; omega))) | with_reducible refine ch_trans ?_ (by with_reducible assumption))), Got.nil _ _ _ _⟩
    · have hs6 : 6 < s := by omega
      go_enter Try.func98, Try.ntmps98
      go_wp2
      go_ret2
      exact ⟨_, rfl, (by repeat (first | with_reducible exact Below.refl _ _ | with_reducible assumption | with_reducible refine ch_alloc ?_ _ | with_reducible refine Below.drew ?_ | with_reducible refine below_draws _ ?_ | (with_reducible refine Below.setCell ?_ ?_ _; rotate_left; focus (first | with_reducible exact Nat.le_refl _ | (simp; done) | (simp; omega) | (simp at *; omega))) | with_reducible refine ch_trans ?_ (by with_reducible assumption))), Got.nil _ _ _ _⟩
end Go.Proofs.Ytikccmgpmbnkfaa
