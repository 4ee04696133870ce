/- A text cut at each of a byte: given and landed. -/
import Derived.Test.YtmkgbdgafjeeiamDoorAp
import Derived.Test.YtmkgbdgafjeeiamDoorShelf
import Derived.Lib.SplitLaws
namespace Go.Proofs.YtmkgbdgafjeeiamDoor
open Go.ChangeShapes Go.WideShapes Go.ChangeAt Go.RowKit
open Go.Lib (index index_ge count count_hit count_miss splitK splitB countB splitB_data)

def cutL (c : UInt8) : List UInt8 → List UInt8 → List (List UInt8)
  | [], cur => [cur]
  | b :: l, cur => if b = c then cur :: cutL c l [] else cutL c l (cur ++ [b])
theorem cutL_len (c : UInt8) : ∀ (l cur : List UInt8), (cutL c l cur).length ≤ l.length + 1
  | [], cur => by simp [cutL]
  | b :: l, cur => by
    unfold cutL
    split
    · have := cutL_len c l []; simp; omega
    · have := cutL_len c l (cur ++ [b]); simp; omega
theorem cutL_none (c : UInt8) : ∀ (l cur : List UInt8), index l [c] = -1 → cutL c l cur = [cur ++ l]
  | [], cur, _ => by simp [cutL]
  | b :: l, cur, h => by
    have hb : b ≠ c := fun e => by subst e; rw [index] at h; simp [List.isPrefixOf] at h
    have hp : ([c] : List UInt8).isPrefixOf (b :: l) = false := by simp [List.isPrefixOf, Ne.symm hb]
    have hl : index l [c] = -1 := by
      rw [index, hp] at h
      have hge := index_ge l [c]
      by_cases e : index l [c] = -1
      · exact e
      · simp [e] at h; omega
    rw [cutL, if_neg hb, cutL_none c l _ hl]; simp
theorem cutL_some (c : UInt8) : ∀ (l cur : List UInt8) (i : Nat), index l [c] = i → cutL c l cur = (cur ++ l.take i) :: cutL c (l.drop (i + 1)) []
  | [], cur, i, h => by simp [index] at h
  | b :: l, cur, i, h => by
    by_cases hb : b = c
    · subst hb
      have hix : index (b :: l) [b] = ((0 : Nat) : Int) := by rw [index]; simp [List.isPrefixOf]
      have : i = 0 := by omega
      subst this
      simp [cutL]
    · have hp : ([c] : List UInt8).isPrefixOf (b :: l) = false := by simp [List.isPrefixOf, Ne.symm hb]
      rw [index, hp] at h
      have hge := index_ge l [c]
      by_cases e : index l [c] = -1
      · simp [e] at h
      · simp [e] at h
        obtain ⟨j, hj⟩ : ∃ j : Nat, index l [c] = j := ⟨(index l [c]).toNat, by omega⟩
        have : i = j + 1 := by omega
        subst this
        rw [cutL, if_neg hb, cutL_some c l _ j hj]; simp
theorem splitK_cut (c : UInt8) : ∀ (k : Nat) (l : List UInt8), count l [c] = k → splitK [c] 0 k l = cutL c l []
  | 0, l, h => by
    have hge := index_ge l [c]
    by_cases e : index l [c] = -1
    · rw [cutL_none c l [] e]; rfl
    · obtain ⟨j, hj⟩ : ∃ j : Nat, index l [c] = j := ⟨(index l [c]).toNat, by omega⟩
      rw [count_hit (by simp) hj] at h; omega
  | k + 1, l, h => by
    have hge := index_ge l [c]
    by_cases e : index l [c] = -1
    · rw [count_miss e] at h; omega
    · obtain ⟨j, hj⟩ : ∃ j : Nat, index l [c] = j := ⟨(index l [c]).toNat, by omega⟩
      have hc := count_hit (sub := [c]) (by simp) hj
      have hk : count (l.drop (j + 1)) [c] = k := by simp at hc; omega
      rw [splitK, if_neg (by simp [hj]), hj, cutL_some c l [] j hj]
      simp [splitK_cut c k _ hk]
/-- The pieces between the bytes c. -/
def pcs (c : UInt8) (s : ByteArray) : List ByteArray := (cutL c s.data.toList []).map fun l => ⟨l.toArray⟩
theorem pcs_len (c : UInt8) (s : ByteArray) : (pcs c s).length ≤ s.size + 1 := by
  have := cutL_len c s.data.toList []
  simpa [pcs] using this
theorem bytes_map : ∀ (l m : List ByteArray), l.map (fun s => s.data.toList) = m.map (fun s => s.data.toList) → l = m
  | [], [], _ => rfl
  | [], _ :: _, h => by simp at h
  | _ :: _, [], h => by simp at h
  | a :: l, b :: m, h => by
    simp only [List.map_cons, List.cons.injEq] at h
    rw [bytes_map l m h.2, bytes_inj h.1]
theorem pcs_data (c : UInt8) (s : ByteArray) : (pcs c s).map (fun s => s.data.toList) = cutL c s.data.toList [] := by
  simp [pcs, List.map_map, Function.comp_def]
theorem split_pcs (c : UInt8) (s : ByteArray) : splitB ⟨#[c]⟩ 0 (countB s ⟨#[c]⟩) s = pcs c s := by
  apply bytes_map
  rw [pcs_data, ← splitK_cut c (count s.data.toList [c]) s.data.toList rfl]
  exact splitB_data ⟨#[c]⟩ 0 (countB s ⟨#[c]⟩) s
theorem mid_data (s : ByteArray) (f k : Nat) : (s.extract f k).data.toList = (s.data.toList.take k).drop f := by
  rw [Go.Lib.extract_data]
  simp [List.drop_take]
theorem drop_one (s : ByteArray) (k : Nat) (h : k < s.size) : s.data.toList.drop k = s[k] :: s.data.toList.drop (k + 1) := by
  rw [List.drop_eq_getElem_cons (by simpa using h)]; rfl
theorem take_one (s : ByteArray) (k : Nat) (h : k < s.size) : s.data.toList.take (k + 1) = s.data.toList.take k ++ [s[k]] := by
  rw [List.take_succ_eq_append_getElem (by simpa using h)]; rfl
/-- What stands at a place of the cut. -/
def Cut (c : UInt8) (s : ByteArray) (done : List ByteArray) (f k : Nat) : Prop := f ≤ k ∧ k ≤ s.size ∧ done.length ≤ k ∧ done.map (fun s => s.data.toList) ++ cutL c (s.data.toList.drop k) ((s.data.toList.take k).drop f) = cutL c s.data.toList []
theorem Cut.start (c : UInt8) (s : ByteArray) : Cut c s [] 0 0 := ⟨Nat.le_refl _, Nat.zero_le _, Nat.le_refl _, by simp⟩
theorem Cut.hit {c : UInt8} {s : ByteArray} {done : List ByteArray} {f k : Nat} (h : Cut c s done f k) (hk : k < s.size) (e : s[k] = c) : Cut c s (done ++ [s.extract f k]) (k + 1) (k + 1) := by
  obtain ⟨h1, h2, h3, h4⟩ := h
  refine ⟨Nat.le_refl _, hk, by simp; omega, ?_⟩
  rw [← h4, drop_one s k hk, cutL, if_pos e, List.map_append, List.append_assoc]
  congr 1
  have e0 : List.drop (k + 1) (List.take (k + 1) s.data.toList) = [] := by simp
  simp only [List.map_cons, List.map_nil, List.cons_append, List.nil_append, mid_data, e0]
theorem Cut.miss {c : UInt8} {s : ByteArray} {done : List ByteArray} {f k : Nat} (h : Cut c s done f k) (hk : k < s.size) (e : s[k] ≠ c) : Cut c s done f (k + 1) := by
  obtain ⟨h1, h2, h3, h4⟩ := h
  refine ⟨by omega, hk, by omega, ?_⟩
  rw [← h4, drop_one s k hk, cutL, if_neg e, take_one s k hk, List.drop_append_of_le_length (by simp; omega)]
theorem Cut.done {c : UInt8} {s : ByteArray} {done : List ByteArray} {f k : Nat} (h : Cut c s done f k) (hk : k = s.size) : done ++ [s.extract f s.size] = pcs c s := by
  obtain ⟨h1, h2, h3, h4⟩ := h
  subst hk
  apply bytes_map
  rw [pcs_data, ← h4, List.map_append]
  congr 1
  rw [List.drop_of_length_le (by simp), cutL]
  simp only [List.map_cons, List.map_nil, mid_data]
theorem Got.emptyS (w : World) (T : TypeId) (z : Nat) : Got (w.alloc (.cells #[] T)) w.heap.size T z (.slice (some ⟨w.heap.size, 0, none⟩) 0 0) [] :=
  ⟨fun x h => by simp at h, by simp, Or.inr ⟨_, 0, #[], rfl, Nat.le_refl _, Own.new w T #[], Nat.le_refl _, Nat.zero_le _, by simp, by simp⟩⟩
theorem infoStrW : (Tryd.prog.info? 9).map (fun i => (i.zero, i.size, i.bytes)) = some (some (.string ByteArray.empty), 1, 16) := by kernel_rfl
theorem u8_ne {a b : UInt8} (h : a ≠ b) : (a.toNat : Int) ≠ b.toNat := fun e => h (UInt8.toNat_inj.1 (by omega))

set_option maxRecDepth 100000 in
set_option maxHeartbeats 1000000 in
/-- spec.l05Parts -/
theorem parts_spec (s : ByteArray) (c : UInt8) (w : World) (hs : s.size ≤ 1048576) :
    Calls Tryd.prog 17 #[.string s, .int .u8 c.toNat] w fun e w' => ∃ kv, e = .returned kv ∧ Below w.heap.size w w' ∧ Got w' w.heap.size 9 1 kv ((pcs c s).map strX) := by
  go_enter Tryd.func17, Tryd.ntmps17
  go_wp2
  have HG0 : Hid (Got (w.alloc (.cells #[] 9)) w.heap.size 9 1 (.slice (some ⟨w.heap.size, 0, none⟩) 0 0) (([] : List ByteArray).map strX)) := Got.emptyS w _ _
  go_loopw [5, 6, 7] (fun o f i wr => ∃ (k n : Nat) (done : List ByteArray), k ≤ s.size ∧ f = .int .i64 n ∧ i = .int .i64 k ∧ n ≤ k ∧ Below w.heap.size w wr ∧ Hid (Cut c s done n k) ∧ Hid (Got wr w.heap.size 9 1 o (done.map strX))) (fun _ _ i _ => s.size - (intOf i).toNat)
  case atStart => exact ⟨0, 0, [], Nat.zero_le _, rfl, rfl, Nat.le_refl _, (by repeat (first | with_reducible exact Below.refl _ _ | with_reducible assumption | with_reducible refine ch_alloc ?_ _ | with_reducible refine Below.drew ?_ | with_reducible refine below_draws _ ?_ | (with_reducible refine Below.setCell ?_ ?_ _; rotate_left; focus (first | with_reducible exact Nat.le_refl _ | (simp; done) | (simp; omega) | (simp at *; omega))) | with_reducible refine ch_trans ?_ (by with_reducible assumption))), Cut.start c s, HG0⟩
  case round =>
    clear HG0
    obtain ⟨k, n, done, hk, rfl, rfl, hn, hb, HC, HG⟩ := hrel
    obtain ⟨a', n', cap', rfl, hg⟩ := HG.out.lit2
    have HG' : Hid (Got wr w.heap.size 9 1 (.slice a' n' cap') (done.map strX)) := hg
    have hdl : done.length ≤ 1048576 := by have := HC.out.2.2.1; omega
    clear HG hg
    have hni : (n : Int) ≤ k := by omega
    have hki : (k : Int) ≤ s.size := by omega
    by_cases hlt : k < s.size
    · have hlti : (k : Int) < s.size := by omega
      by_cases e : s[k] = c
      · have hq : ((s[k].toNat : Int) == (c.toNat : Int)) = true := by simp [e]
        have HC' : Hid (Cut c s (done ++ [s.extract n k]) (k + 1) (k + 1)) := HC.out.hit hlt e
        have hB : w.heap.size ≤ (wr.alloc (.cells #[.string (s.extract n k)] 9)).heap.size := by have := hb.size; simp; omega
        clear e
        go_wp2_with (at_builtin; refine app_one rfl (.tmp 20) (.tmp 25) rfl Tryd.underlying31 infoStrW rfl (by decide) (by decide) w.heap.size _ (done.map strX) rfl (HG'.out.on (ch_alloc (Below.refl _ _) _)) wr.heap.size 1 (strX (s.extract n k)) rfl (Loc.new _ _ _) rfl (fun u hu => by simp at hu; subst hu; rfl) (by simp; omega) hB ?_; intro v' w2 hg2 hb2)
        have HG2 : Hid (Got w2 w.heap.size 9 1 v' ((done ++ [s.extract n k]).map strX)) := by
          show Got _ _ _ _ _ _
          rw [List.map_append]; exact hg2
        have hb3 : Below w.heap.size w w2 := Below.trans (ch_alloc hb _) hb2
        clear hg2 hb2
        go_round
        case rel => exact ⟨k + 1, k + 1, _, hlt, by go_num, by go_num, Nat.le_refl _, hb3, HC', HG2⟩
        case measure => simp [intOf]; omega
      · have hq : ((s[k].toNat : Int) == (c.toNat : Int)) = false := by simpa using u8_ne e
        have HC' : Hid (Cut c s done n (k + 1)) := HC.out.miss hlt e
        clear e
        go_wp2
        go_round
        case rel => exact ⟨k + 1, n, done, hlt, rfl, by go_num, by omega, (by repeat (first | with_reducible exact Below.refl _ _ | with_reducible assumption | with_reducible refine ch_alloc ?_ _ | with_reducible refine Below.drew ?_ | with_reducible refine below_draws _ ?_ | (with_reducible refine Below.setCell ?_ ?_ _; rotate_left; focus (first | with_reducible exact Nat.le_refl _ | (simp; done) | (simp; omega) | (simp at *; omega))) | with_reducible refine ch_trans ?_ (by with_reducible assumption))), HC', HG'⟩
        case measure => simp [intOf]; omega
    · have hlti : (s.size : Int) ≤ k := by omega
      obtain rfl : k = s.size := by omega
      have HD : Hid (done ++ [s.extract n s.size] = pcs c s) := HC.out.done rfl
      have hB : w.heap.size ≤ (wr.alloc (.cells #[.string (s.extract n s.size)] 9)).heap.size := by have := hb.size; simp; omega
      go_wp2_with (at_builtin; refine app_one rfl (.tmp 29) (.tmp 33) rfl Tryd.underlying31 infoStrW rfl (by decide) (by decide) w.heap.size _ (done.map strX) rfl (HG'.out.on (ch_alloc (Below.refl _ _) _)) wr.heap.size 1 (strX (s.extract n s.size)) rfl (Loc.new _ _ _) rfl (fun u hu => by simp at hu; subst hu; rfl) (by simp; omega) hB ?_; intro v' w2 hg2 hb2)
      have HG2 : Hid (Got w2 w.heap.size 9 1 v' ((pcs c s).map strX)) := by
        show Got _ _ _ _ _ _
        rw [← HD.out, List.map_append]; exact hg2
      have hb3 : Below w.heap.size w w2 := Below.trans (ch_alloc hb _) hb2
      clear hg2 hb2
      go_ret
      exact ⟨_, rfl, hb3, HG2.out⟩

set_option maxRecDepth 100000 in
set_option maxHeartbeats 1000000 in
/-- spec.Words -/
theorem words_spec (s : ByteArray) (w : World) (hs : s.size ≤ 1048576) :
    Calls Tryd.prog 8 #[.string s] w fun e w' => ∃ kv, e = .returned kv ∧ Below w.heap.size w w' ∧ Got w' w.heap.size 9 1 kv ((pcs 32 s).map strX) := by
  have HP : Hid (∀ u : World, Calls Tryd.prog 17 #[.string s, .int .u8 32] u fun e w' => ∃ kv, e = .returned kv ∧ Below u.heap.size u w' ∧ Got w' u.heap.size 9 1 kv ((pcs 32 s).map strX)) := fun u => parts_spec s 32 u hs
  go_enter Tryd.func8, Tryd.ntmps8
  go_wp2_with fail
  refine (HP.out _).mono ?_
  rintro e w1 ⟨kv, rfl, b1, hg⟩
  have HG : Hid (Got w1 w.heap.size 9 1 kv ((pcs 32 s).map strX)) := hg
  clear hg
  go_wp2
  go_ret
  exact ⟨_, rfl, b1, HG.out⟩

theorem flat_str : ∀ l : List ByteArray, (l.map strX).flatMap Array.toList = l.map Value.string
  | [] => rfl
  | a :: l => by simp [flat_str l]
theorem Got.strs_new (w : World) (l : List ByteArray) (hl : l.length ≤ maxLen) : Got (w.alloc (.cells (l.map Value.string).toArray 9)) w.heap.size 9 1 (.slice (some ⟨w.heap.size, 0, none⟩) l.length l.length) (l.map strX) := by
  refine ⟨fun x hx => by obtain ⟨y, _, rfl⟩ := List.mem_map.1 hx; rfl, ?_⟩
  rw [flat_str, List.length_map]
  exact ⟨by simp, Or.inr ⟨_, l.length, _, rfl, Nat.le_refl _, Own.new w _ _, Nat.le_refl _, hl, by simp, by simp [List.take_of_length_le]⟩⟩
/-- What the library's search asks of a world: a variable holds a number. -/
def MaxL (w : World) : Prop := ∃ m : Int, w.cell? ⟨4, 0, none⟩ = some (.int .i64 m)
theorem MaxL.on {w w' : World} {n : Nat} (h : MaxL w) (b : Below n w w') (hn : 4 < n) : MaxL w' := by
  obtain ⟨m, h⟩ := h
  exact ⟨m, (b.cell (p := ⟨4, 0, none⟩) hn).trans h⟩
theorem MaxL.lt {w : World} (h : MaxL w) : 4 < w.heap.size := by
  obtain ⟨m, h⟩ := h
  exact cell_lt h
end Go.Proofs.YtmkgbdgafjeeiamDoor
