/- The laws' marks: a text for every number. -/
import Derived.Test.YtiijahoheajppaaCh
namespace Go.Proofs.Ytiijahoheajppaa
open Go.ChangeShapes Go.WideShapes Go.ChangeAt Go.RowKit

/-- Digits ahead of what was written. -/
def markF : Nat → Nat → List UInt8 → List UInt8
  | 0, _, acc => acc
  | f + 1, n, acc => if n = 0 then acc else markF f (n / 10) (UInt8.ofNat (48 + n % 10) :: acc)
theorem markF_zero : ∀ (f : Nat) (acc : List UInt8), markF f 0 acc = acc
  | 0, _ => rfl
  | f + 1, _ => by simp [markF]
theorem markF_more : ∀ (f g n : Nat) (acc : List UInt8), n ≤ f → n ≤ g → markF f n acc = markF g n acc
  | 0, g, n, acc, h, _ => by
    have : n = 0 := by omega
    subst this; rw [markF_zero, markF_zero]
  | f + 1, 0, n, acc, _, h => by
    have : n = 0 := by omega
    subst this; rw [markF_zero, markF_zero]
  | f + 1, g + 1, n, acc, h, k => by
    by_cases e : n = 0
    · subst e; simp [markF]
    · simp only [markF, if_neg e]
      exact markF_more f g (n / 10) _ (by omega) (by omega)
def markD (n : Nat) (acc : List UInt8) : List UInt8 := markF n n acc
theorem markD_zero (acc : List UInt8) : markD 0 acc = acc := rfl
theorem markD_step (n : Nat) (acc : List UInt8) (h : n ≠ 0) : markD n acc = markD (n / 10) (UInt8.ofNat (48 + n % 10) :: acc) := by
  unfold markD
  cases n with
  | zero => exact absurd rfl h
  | succ m =>
    simp only [markF, if_neg h]
    exact markF_more m ((m + 1) / 10) ((m + 1) / 10) _ (by omega) (Nat.le_refl _)

/-- A text of one byte. -/
theorem mark_byte (w : World) (x : Int) (h0 : 0 ≤ x) (h1 : x < 256) :
    (convert 95 9 (.slice (some ⟨w.heap.size, 0, none⟩) 1 1)).run Try.prog (w.alloc (.cells #[.int .u8 x] 5)) = .ok (.string ⟨[UInt8.ofNat x.toNat].toArray⟩) (w.alloc (.cells #[.int .u8 x] 5)) := by
  have hc : (w.alloc (.cells #[.int .u8 x] 5)).cell? ⟨w.heap.size, 0, none⟩ = some (.int .u8 x) := (Loc.new w #[.int .u8 x] 5).one
  have := run_convert_bytes_back (P := Try.prog) (w.alloc (.cells #[.int .u8 x] 5)) 95 9 5 ⟨w.heap.size, 0, none⟩ 1 [UInt8.ofNat x.toNat] Try.underlying95 Try.underlying5 Try.underlying9 (fun j hj => by
    obtain rfl : j = 0 := by simpa using hj
    have e : ((UInt8.ofNat x.toNat).toNat : Int) = x := by rw [UInt8.toNat_ofNat']; omega
    have ha : (Addr.mk w.heap.size 0 none).add 0 = ⟨w.heap.size, 0, none⟩ := by simp [Addr.add]
    rw [ha, hc, List.getElem_cons_zero, e])
  exact this
theorem pow_step {m s : Nat} (h : m < 10 ^ (19 - s)) (hm : m ≠ 0) (hs : s ≤ 19) : s + 1 ≤ 19 ∧ m / 10 < 10 ^ (19 - (s + 1)) := by
  by_cases e : s = 19
  · subst e; simp at h; omega
  · refine ⟨by omega, ?_⟩
    rw [show 19 - s = (19 - (s + 1)) + 1 by omega, Nat.pow_succ] at h
    omega
theorem cons_bytes (c : UInt8) (b : ByteArray) : ((ByteArray.mk [c].toArray) ++ b).data.toList = c :: b.data.toList := by
  simp [ByteArray.data_append]
theorem size_bytes (c : UInt8) (b : ByteArray) : ((ByteArray.mk [c].toArray) ++ b).size = b.size + 1 := by
  rw [← ByteArray.size_data, ByteArray.data_append]; simp; omega

set_option maxRecDepth 100000 in
set_option maxHeartbeats 1000000 in
theorem markText_any (n : Nat) (w : World) (hn : n ≤ 9223372036854775807) : Calls Try.prog 49 #[.int .i64 n] w fun e w' => e = .returned (.string ⟨(if n = 0 then [109, 48] else 109 :: markD n []).toArray⟩) ∧ Below w.heap.size w w' := by
  by_cases h0 : n = 0
  · subst h0
    go_enter Try.func49, Try.ntmps49
    go_wp2
    go_ret
    exact ⟨rfl, (by repeat (first | with_reducible exact Below.refl _ _ | with_reducible assumption | with_reducible refine ch_alloc ?_ _ | with_reducible refine Below.drew ?_ | with_reducible refine below_draws _ ?_ | (with_reducible refine Below.setCell ?_ ?_ _; rotate_left; focus (first | with_reducible exact Nat.le_refl _ | (simp; done) | (simp; omega) | (simp at *; omega))) | with_reducible refine ch_trans ?_ (by with_reducible assumption)))⟩
  have h0i : decide ((n : Int) ≤ 0) = false := by simp; omega
  rw [if_neg h0]
  go_enter Try.func49, Try.ntmps49
  go_wp2
  go_loopw [0, 3] (fun k o wr => ∃ (m : Nat) (b : ByteArray), m ≤ n ∧ k = .int .i64 m ∧ o = .string b ∧ Below w.heap.size w wr ∧ b.size ≤ 19 ∧ Hid (m < 10 ^ (19 - b.size)) ∧ Hid (markD m b.data.toList = markD n [])) (fun k _ _ => (intOf k).toNat)
  case atStart => exact ⟨n, _, Nat.le_refl _, rfl, rfl, (by repeat (first | with_reducible exact Below.refl _ _ | with_reducible assumption | with_reducible refine ch_alloc ?_ _ | with_reducible refine Below.drew ?_ | with_reducible refine below_draws _ ?_ | (with_reducible refine Below.setCell ?_ ?_ _; rotate_left; focus (first | with_reducible exact Nat.le_refl _ | (simp; done) | (simp; omega) | (simp at *; omega))) | with_reducible refine ch_trans ?_ (by with_reducible assumption))), Nat.zero_le _, by show n < 10 ^ 19; omega, rfl⟩
  case round =>
    obtain ⟨m, b, hm, rfl, rfl, hb, hbs, HP, HD⟩ := hrel
    by_cases hz : m = 0
    · subst hz
      have HE : Hid (ByteArray.mk #[109] ++ b = ⟨(109 :: markD n []).toArray⟩) := by
        have h := HD.out
        rw [markD_zero] at h
        show _ = _
        apply bytes_inj
        rw [show (ByteArray.mk #[109] ++ b).data.toList = 109 :: b.data.toList from cons_bytes 109 b, h]
      go_wp2
      go_ret
      exact ⟨by rw [← HE.out]; rfl, (by repeat (first | with_reducible exact Below.refl _ _ | with_reducible assumption | with_reducible refine ch_alloc ?_ _ | with_reducible refine Below.drew ?_ | with_reducible refine below_draws _ ?_ | (with_reducible refine Below.setCell ?_ ?_ _; rotate_left; focus (first | with_reducible exact Nat.le_refl _ | (simp; done) | (simp; omega) | (simp at *; omega))) | with_reducible refine ch_trans ?_ (by with_reducible assumption)))⟩
    · have hz' : decide ((0 : Int) < (m : Int)) = true := by simp; omega
      have hzn : decide (0 < m) = true := by simp; omega
      have hcv := mark_byte wr (48 + (m : Int) % 10) (by omega) (by omega)
      have HD' : Hid (markD (m / 10) (UInt8.ofNat (48 + m % 10) :: b.data.toList) = markD n []) := by
        show _ = _
        rw [← markD_step m _ hz]; exact HD.out
      have HP' : Hid (b.size + 1 ≤ 19 ∧ m / 10 < 10 ^ (19 - (b.size + 1))) := pow_step HP.out hz hbs
      have htn : (48 + (m : Int) % 10).toNat = 48 + m % 10 := by omega
      rw [htn] at hcv
      clear htn
      have HU : Hid ((48 : UInt8) + UInt8.ofNat (m % 10) = UInt8.ofNat (48 + m % 10)) := by show _ = _; simp [UInt8.ofNat_add]
      go_wp2
      go_round
      case rel => exact ⟨m / 10, _, by omega, by simp, rfl, (by repeat (first | with_reducible exact Below.refl _ _ | with_reducible assumption | with_reducible refine ch_alloc ?_ _ | with_reducible refine Below.drew ?_ | with_reducible refine below_draws _ ?_ | (with_reducible refine Below.setCell ?_ ?_ _; rotate_left; focus (first | with_reducible exact Nat.le_refl _ | (simp; done) | (simp; omega) | (simp at *; omega))) | with_reducible refine ch_trans ?_ (by with_reducible assumption))), by rw [show (ByteArray.mk #[48 + UInt8.ofNat (m % 10)] ++ b).size = b.size + 1 from size_bytes _ b]; exact HP'.out.1, by
        show _ < _
        rw [show (ByteArray.mk #[48 + UInt8.ofNat (m % 10)] ++ b).size = b.size + 1 from size_bytes _ b]; exact HP'.out.2, by
        show _ = _
        rw [show (ByteArray.mk #[48 + UInt8.ofNat (m % 10)] ++ b).data.toList = (48 + UInt8.ofNat (m % 10)) :: b.data.toList from cons_bytes _ b, HU.out]; exact HD'.out⟩
      case measure => simp [intOf]; omega

/-- The mark of a number. -/
def markB (n : Nat) : ByteArray := ⟨(if n = 0 then [109, 48] else 109 :: markD n []).toArray⟩
/-- Of what was there only blocks of S may have turned. -/
structure Turns (S : Nat → Prop) (w w' : World) : Prop where
  os : w'.os = w.os
  tape : w'.tape = w.tape
  output : w'.output = w.output
  size : w.heap.size ≤ w'.heap.size
  block : ∀ c, c < w.heap.size → ¬ S c → w'.heap[c]? = w.heap[c]?
theorem Turns.refl (S : Nat → Prop) (w : World) : Turns S w w := ⟨rfl, rfl, rfl, Nat.le_refl _, fun _ _ _ => rfl⟩
theorem Turns.below {S : Nat → Prop} {a b c : World} (h : Turns S a b) (k : Below b.heap.size b c) : Turns S a c :=
  ⟨k.os.trans h.os, k.tape.trans h.tape, k.output.trans h.output, Nat.le_trans h.size k.size, fun i hi hn => (k.block i (Nat.lt_of_lt_of_le hi h.size)).trans (h.block i hi hn)⟩
theorem Turns.trans {S : Nat → Prop} {a b c : World} (h : Turns S a b) (k : Turns S b c) : Turns S a c :=
  ⟨k.os.trans h.os, k.tape.trans h.tape, k.output.trans h.output, Nat.le_trans h.size k.size, fun i hi hn => (k.block i (Nat.lt_of_lt_of_le hi h.size) hn).trans (h.block i hi hn)⟩
theorem Turns.mono {S S' : Nat → Prop} {a b : World} (h : Turns S a b) (hs : ∀ c, S c → S' c) : Turns S' a b := ⟨h.os, h.tape, h.output, h.size, fun i hi hn => h.block i hi fun hc => hn (hs i hc)⟩
theorem Turns.set {S : Nat → Prop} {a b : World} (h : Turns S a b) {p : Addr} (hp : S p.block) (u : Value) : Turns S a (b.setCell p u) :=
  ⟨h.os, h.tape, h.output, by simpa [World.setCell] using h.size, fun i hi hn => (Below.heap_setCell _ _ _ _ (fun e => hn (by rw [e]; exact hp))).trans (h.block i hi hn)⟩
theorem Turns.cell {S : Nat → Prop} {a b : World} (h : Turns S a b) {p : Addr} (hp : ¬ S p.block) {v : Value} (hc : a.cell? p = some v) : b.cell? p = some v :=
  (World.cell?_of_block (w := a) (h.block p.block (cell_lt hc) hp)).trans hc
end Go.Proofs.Ytiijahoheajppaa
