/- Names and their places: the landed map of places, the given loops. -/
import Derived.Test.YtiijahoheajppaaColAtI
import Derived.Test.YtiijahoheajppaaTbOkI
import Derived.Test.YtiijahoheajppaaTbOkS
import Derived.Test.YtiijahoheajppaaAp
import Derived.Test.YtiijahoheajppaaMw
namespace Go.Proofs.Ytiijahoheajppaa
open Go.ChangeShapes Go.WideShapes Go.ChangeAt Go.RowKit

/-- A name as a column, so that what is told of columns serves names. -/
def nmC (s : ByteArray) : Cl := ⟨s, 0, false, false, 0, 0, ByteArray.empty⟩
def nms (ks : List ByteArray) : List Cl := ks.map nmC
theorem nms_len (ks : List ByteArray) : (nms ks).length = ks.length := List.length_map _
theorem nms_at (ks : List ByteArray) (k : Nat) (h : k < (nms ks).length) : (nms ks)[k].name = ks[k]'(by rwa [nms_len] at h) := by simp [nms, nmC]
def nent (p : Int × Cl) : ByteArray × Value := (p.2.name, .int .i64 p.1)
/-- The places of names, as the map holds them. -/
def nplist (ks : List ByteArray) (k : Nat) : List (ByteArray × Value) := (firsts (nms ks) k).map nent
theorem nplist_find (ks : List ByteArray) (k : Nat) (s : ByteArray) : (nplist ks k).find? (fun p => decide (p.1 = s)) = ((firsts (nms ks) k).find? (fun p => decide (p.2.name = s))).map nent := by
  unfold nplist
  rw [List.find?_map]
  rfl
theorem take_one_more {α : Type} (l : List α) (k : Nat) (h : k < l.length) : l.take (k + 1) = l.take k ++ [l[k]] := List.take_succ_eq_append_getElem h
theorem firsts_has (ks : List ByteArray) : ∀ k, k ≤ ks.length → ∀ s, ((firsts (nms ks) k).any (fun p => decide (p.2.name = s)) = true ↔ s ∈ ks.take k)
  | 0, _, s => by simp [firsts]
  | k + 1, h, s => by
    have hk : k < (nms ks).length := by rw [nms_len]; omega
    have ih := firsts_has ks k (by omega)
    rw [take_one_more ks k (by omega), List.mem_append, List.mem_singleton, ← ih s]
    have hn := nms_at ks k hk
    cases hq : (firsts (nms ks) k).any (fun p => decide (p.2.name = (nms ks)[k].name))
    · rw [firsts_add hk hq, List.any_append, Bool.or_eq_true]
      simp only [List.any_cons, List.any_nil, Bool.or_false, decide_eq_true_eq, hn]
      exact ⟨fun h => h.imp id Eq.symm, fun h => h.imp id Eq.symm⟩
    · rw [firsts_skip hk hq]
      rw [hn] at hq
      exact ⟨Or.inl, fun h => h.elim id fun e => by rw [e]; exact hq⟩
theorem firsts_len (ks : List ByteArray) : ∀ k, k ≤ ks.length → (firsts (nms ks) k).length ≤ k ∧ ((firsts (nms ks) k).length = k ↔ (ks.take k).Nodup)
  | 0, _ => by simp [firsts]
  | k + 1, h => by
    have hk : k < (nms ks).length := by rw [nms_len]; omega
    have ih := firsts_len ks k (by omega)
    have hh := firsts_has ks k (by omega) ks[k]
    have hn := nms_at ks k hk
    rw [← hn] at hh
    rw [take_one_more ks k (by omega), ← hn]
    cases hq : (firsts (nms ks) k).any (fun p => decide (p.2.name = (nms ks)[k].name))
    · have hnm : (nms ks)[k].name ∉ ks.take k := fun h => by rw [hh.2 h] at hq; cases hq
      rw [firsts_add hk hq, List.length_append]
      refine ⟨by simp; omega, ?_⟩
      rw [show (firsts (nms ks) k).length + [((k : Int), (nms ks)[k])].length = (firsts (nms ks) k).length + 1 from rfl, Nat.add_right_cancel_iff, ih.2, List.nodup_append]
      constructor
      · intro h
        exact ⟨h, by simp, fun a ha b hb => by rw [List.mem_singleton.1 hb]; exact fun e => hnm (e ▸ ha)⟩
      · exact fun h => h.1
    · have hm := hh.1 hq
      rw [firsts_skip hk hq]
      refine ⟨by omega, ?_⟩
      constructor
      · intro h; omega
      · intro h
        rw [List.nodup_append] at h
        exact absurd rfl (h.2.2 _ hm _ (List.mem_singleton.2 rfl))
theorem nplist_len (ks : List ByteArray) : (nplist ks ks.length).length ≤ ks.length ∧ ((nplist ks ks.length).length = ks.length ↔ ks.Nodup) := by
  have h := firsts_len ks ks.length (Nat.le_refl _)
  rw [List.take_length] at h
  unfold nplist
  rw [List.length_map]
  exact h
theorem nodup_takes (ks : List ByteArray) : ks.Nodup ↔ ∀ k (h : k < ks.length), ks[k] ∉ ks.take k := by
  unfold List.Nodup
  rw [List.pairwise_iff_getElem]
  constructor
  · intro h k hk hm
    obtain ⟨i, hi, e⟩ := List.mem_take_iff_getElem.1 hm
    exact h i k (by omega) hk (by omega) e
  · intro h i j hi hj hij e
    exact h j hj (List.mem_take_iff_getElem.2 ⟨i, by omega, e⟩)
theorem nodup_le {α : Type} [DecidableEq α] : ∀ (a b : List α), a.Nodup → (∀ s ∈ a, s ∈ b) → a.length ≤ b.length
  | [], b, _, _ => Nat.zero_le _
  | x :: a, b, h, hs => by
    rw [List.nodup_cons] at h
    have hx := hs x (by simp)
    have ih := nodup_le a (b.erase x) h.2 fun s hm => (List.mem_erase_of_ne fun e => h.1 (by rw [← e]; exact hm)).2 (hs s (by simp [hm]))
    rw [List.length_erase_of_mem hx] at ih
    have := List.length_pos_of_mem hx
    simp; omega
/-- As many names, all among the others: they are the same. -/
theorem same_names (a b : List ByteArray) (ha : a.Nodup) (hb : b.Nodup) : (a.length = b.length ∧ ∀ s ∈ a, s ∈ b) ↔ ((∀ s ∈ a, s ∈ b) ∧ ∀ s ∈ b, s ∈ a) := by
  constructor
  · rintro ⟨hl, h⟩
    refine ⟨h, fun s hs => Classical.byContradiction fun hn => ?_⟩
    have := nodup_le (s :: a) b (List.nodup_cons.2 ⟨hn, ha⟩) fun x hx => (List.mem_cons.1 hx).elim (fun e => e ▸ hs) (h x)
    simp at this; omega
  · rintro ⟨h, h'⟩
    exact ⟨Nat.le_antisymm (nodup_le a b ha h) (nodup_le b a hb h'), h⟩
/-- A name's place, as the map tells it. -/
theorem nplist_at (ks : List ByteArray) (s : ByteArray) : (s ∉ ks ∧ idxS ks s = -1 ∧ (nplist ks ks.length).find? (fun p => decide (p.1 = s)) = .none) ∨ ∃ k, ∃ h : k < ks.length, ks[k] = s ∧ idxS ks s = k ∧ (nplist ks ks.length).find? (fun p => decide (p.1 = s)) = some (s, .int .i64 (k : Int)) := by
  rw [nplist_find]
  rcases idxS_iff ks s with ⟨h1, h2⟩ | ⟨k, hk, h1, h2, h3⟩
  · refine Or.inl ⟨h2, h1, ?_⟩
    rw [firsts_none (k := ks.length) (s := s) fun j hj _ e => h2 (by rw [← e, nms_at]; exact List.getElem_mem _)]
    rfl
  · refine Or.inr ⟨k, hk, h2, h1, ?_⟩
    rw [firsts_some (i := k) (by rw [nms_len]; exact hk) (by rw [nms_at]; exact h2) (fun j hj hjk => by rw [nms_at]; exact h3 j (by rwa [nms_len] at hj) hjk) ks.length hk]
    simp only [Option.map_some, nent, Option.some.injEq]
    rw [nms_at]
    exact Prod.ext h2 rfl

theorem zeroI : ∀ w : World, (zeroValue 3).run Try.prog w = .ok (.int .i64 0) w := fun w => by kernel_rfl
set_option maxRecDepth 100000 in
set_option maxHeartbeats 1000000 in
/-- impl.placesOf -/
theorem placesOf_any (kv : Value) (ks : List ByteArray) (w : World) (hc : StrsV w kv ks) (hf : ∀ s ∈ ks, s.size ≤ maxLen) :
    Calls Try.prog 35 #[kv] w fun e w' => ∃ b, e = .returned (.map (some b)) ∧ w.heap.size ≤ b ∧ Below w.heap.size w w' ∧ MapIs Try.prog 9 w' b ks.length (nplist ks ks.length) := by
  obtain ⟨a, cap, rfl, hl, hm, hc⟩ := hc
  unfold maxLen at hm
  have HC : Hid (RowAt w a 1 (ks.map strX)) := hc
  have HK : Hid (∀ s ∈ ks, s.size ≤ maxLen) := hf
  clear hc hf
  have hmm := fun q n w => run_makeMap_hint (P := Try.prog) Try.underlying64 q n w
  go_enter Try.func35, Try.ntmps35
  go_wp2
  have HM0 : Hid (MapIs Try.prog 9 (w.alloc (.map #[] 0)) w.heap.size 0 (nplist ks 0)) := MapIs.made
  go_loopw [13] (fun i wr => ∃ k : Nat, k ≤ ks.length ∧ i = .int .i64 k ∧ Below w.heap.size w wr ∧ Hid (MapIs Try.prog 9 wr w.heap.size k (nplist ks k))) (fun i _ => ks.length - (intOf i).toNat)
  case atStart => exact ⟨0, Nat.zero_le _, rfl, (by repeat (first | with_reducible exact Below.refl _ _ | with_reducible assumption | with_reducible refine ch_alloc ?_ _ | with_reducible refine Below.drew ?_ | with_reducible refine below_draws _ ?_ | (with_reducible refine Below.setCell ?_ ?_ _; rotate_left; focus (first | with_reducible exact Nat.le_refl _ | (simp; done) | (simp; omega) | (simp at *; omega))) | with_reducible refine ch_trans ?_ (by with_reducible assumption))), HM0⟩
  case round =>
    clear HM0 hmm
    obtain ⟨k, hk, rfl, hb, HM⟩ := hrel
    by_cases hlt : k < ks.length
    · have hlti : (k : Int) < ks.length := by omega
      obtain ⟨b, off, rfl, c0⟩ := (HC.out.on hb).strs k hlt
      have s1 := HK.out _ (List.getElem_mem hlt)
      have hM1 := HM.out
      have hk' : k < (nms ks).length := by rw [nms_len]; exact hlt
      have hn := nms_at ks k hk'
      cases hq : (firsts (nms ks) k).any (fun p => decide (p.2.name = (nms ks)[k].name))
      · have hf := nplist_find ks k (nms ks)[k].name
        rw [firsts_any.1 hq, hn] at hf
        have hlook := hM1.look_no Try.underlying9 Try.underlying64 (zeroI _) s1 hf
        obtain ⟨w1, hup, hM2, hbel, hsz⟩ := hM1.put Try.underlying9 Try.underlying64 (by unfold maxLen; omega) s1 hf (.int .i64 (k : Int))
        have HM' : Hid (MapIs Try.prog 9 w1 w.heap.size (k + 1) (nplist ks (k + 1))) := by
          show MapIs _ _ _ _ _ _
          unfold nplist
          rw [firsts_add hk' hq, List.map_append]
          have e : [((k : Int), (nms ks)[k])].map nent = [(ks[k], .int .i64 (k : Int))] := by simp [nent, hn]
          rw [e]
          exact hM2
        have HB' : Hid (Below w.heap.size w w1) := hb.trans hbel
        clear hf hM1 hM2 hbel hsz HM hq s1 hn hk'
        go_wp2
        go_round
        case rel => exact ⟨k + 1, by omega, by go_num, HB'.out, HM'⟩
        case measure => simp [intOf]; omega
      · have hf := nplist_find ks k (nms ks)[k].name
        obtain ⟨q, hqf⟩ := firsts_any.2 hq
        rw [hqf, hn] at hf
        have hlook : _ = Result.ok (Value.tuple #[.int .i64 q.1, .bool true]) _ := hM1.look_yes Try.underlying9 Try.underlying64 (zeroI _) s1 hf
        have HM' : Hid (MapIs Try.prog 9 wr w.heap.size (k + 1) (nplist ks (k + 1))) := by
          show MapIs _ _ _ _ _ _
          unfold nplist
          rw [firsts_skip hk' hq]
          exact hM1.mono (by omega)
        clear hf hM1 HM hq s1 hqf hn hk'
        go_wp2
        go_round
        case rel => exact ⟨k + 1, by omega, by go_num, hb, HM'⟩
        case measure => simp [intOf]; omega
    · have hlti : (ks.length : Int) ≤ k := by omega
      have hke : k = ks.length := by omega
      subst hke
      go_wp2
      go_ret
      exact ⟨_, rfl, Nat.le_refl _, hb, HM.out⟩

set_option maxRecDepth 100000 in
set_option maxHeartbeats 1000000 in
/-- haveAll -/
theorem haveAll_any (b n : Nat) (kv : Value) (cs ks : List ByteArray) (w : World) (hm : MapIs Try.prog 9 w b n (nplist cs cs.length)) (hk : StrsV w kv ks) (hf : ∀ s ∈ ks, s.size ≤ maxLen) :
    Calls Try.prog 38 #[.map (some b), kv] w fun e w' => ∃ q : Bool, e = .returned (.bool q) ∧ (q = true ↔ ∀ s ∈ ks, s ∈ cs) ∧ Below w.heap.size w w' := by
  obtain ⟨a, cap, rfl, hl, hm', hk⟩ := hk
  unfold maxLen at hm'
  have HC : Hid (RowAt w a 1 (ks.map strX)) := hk
  have HM : Hid (MapIs Try.prog 9 w b n (nplist cs cs.length)) := hm
  have HF : Hid (∀ s ∈ ks, s.size ≤ maxLen) := hf
  clear hk hm hf
  go_enter Try.func38, Try.ntmps38
  go_wp2
  go_loopw [11] (fun i wr => ∃ j : Nat, j ≤ ks.length ∧ i = .int .i64 j ∧ Below w.heap.size w wr ∧ Hid (∀ i (h : i < ks.length), i < j → ks[i] ∈ cs)) (fun i _ => ks.length - (intOf i).toNat)
  case atStart => exact ⟨0, Nat.zero_le _, rfl, Below.refl _ _, fun i h hi => by omega⟩
  case round =>
    obtain ⟨j, hj, rfl, hb, HN⟩ := hrel
    by_cases hjt : j < ks.length
    · have hjti : (j : Int) < ks.length := by omega
      obtain ⟨b', off', rfl, d0⟩ := (HC.out.on hb).strs j hjt
      have hM := HM.out.on hb HM.out.lt
      have hsz := HF.out _ (List.getElem_mem hjt)
      rcases nplist_at cs ks[j] with ⟨h1, _, h2⟩ | ⟨i, hi, h1, _, h2⟩
      · have hlook := hM.look_no Try.underlying9 Try.underlying64 (zeroI _) hsz h2
        have HB : Hid (¬ ∀ s ∈ ks, s ∈ cs) := fun h => h1 (h _ (List.getElem_mem hjt))
        clear h1 h2 hM hsz
        go_wp2
        go_ret
        exact ⟨_, rfl, ⟨fun h => by simp at h, fun h => absurd h HB.out⟩, hb⟩
      · have hlook : _ = Result.ok (Value.tuple #[.int .i64 (i : Int), .bool true]) _ := hM.look_yes Try.underlying9 Try.underlying64 (zeroI _) hsz h2
        have HN' : Hid (∀ i (h : i < ks.length), i < j + 1 → ks[i] ∈ cs) := fun i' h hi' => by
          by_cases e : i' = j
          · subst e; rw [← h1]; exact List.getElem_mem hi
          · exact HN.out i' h (by omega)
        clear h1 h2 hM hsz
        go_wp2
        go_round
        case rel => exact ⟨j + 1, by omega, by go_num, hb, HN'⟩
        case measure => simp [intOf]; omega
    · have hjti : (ks.length : Int) ≤ j := by omega
      have HY : Hid (∀ s ∈ ks, s ∈ cs) := fun s hs => by
        obtain ⟨i, hi, rfl⟩ := List.getElem_of_mem hs
        exact HN.out i hi (by omega)
      go_wp2
      go_ret
      exact ⟨_, rfl, ⟨fun _ => HY.out, fun _ => rfl⟩, hb⟩

set_option maxRecDepth 100000 in
set_option maxHeartbeats 1000000 in
/-- impl.comesTwice -/
theorem comesTwice_any (kv : Value) (ks : List ByteArray) (w : World) (hc : StrsV w kv ks) (hf : ∀ s ∈ ks, s.size ≤ maxLen) :
    Calls Try.prog 37 #[kv] w fun e w' => ∃ q : Bool, e = .returned (.bool q) ∧ (q = true ↔ ¬ ks.Nodup) ∧ Below w.heap.size w w' := by
  have HP : Hid (Calls Try.prog 35 #[kv] w fun e w' => ∃ b, e = .returned (.map (some b)) ∧ w.heap.size ≤ b ∧ Below w.heap.size w w' ∧ MapIs Try.prog 9 w' b ks.length (nplist ks ks.length)) := placesOf_any kv ks w hc hf
  have hl := nplist_len ks
  have HQ : Hid (decide ((nplist ks ks.length).length < ks.length) = true ↔ ¬ ks.Nodup) := by
    show _ ↔ _
    rw [← hl.2, decide_eq_true_eq]
    have := hl.1
    omega
  obtain ⟨a, cap, rfl, _, hm, _⟩ := hc
  unfold maxLen at hm
  clear hf hl
  go_enter Try.func37, Try.ntmps37
  go_wp2_with fail
  refine HP.out.mono ?_
  rintro e w1 ⟨b, rfl, _, b1, hm⟩
  have hlen := fun ty => hm.len (t := 64) Try.underlying64 ty
  clear HP hm
  go_wp2
  go_ret
  exact ⟨_, rfl, HQ.out, b1⟩

set_option maxRecDepth 100000 in
set_option maxHeartbeats 1000000 in
/-- impl.justThese -/
theorem justThese_any (kv lv : Value) (ks ls : List ByteArray) (w : World) (hc : StrsV w kv ks) (hl : StrsV w lv ls) (hf : ∀ s ∈ ks, s.size ≤ maxLen) (hg : ∀ s ∈ ls, s.size ≤ maxLen) :
    Calls Try.prog 40 #[kv, lv] w fun e w' => ∃ q : Bool, e = .returned (.bool q) ∧ (q = true ↔ (ks.length = ls.length ∧ ∀ s ∈ ks, s ∈ ls)) ∧ Below w.heap.size w w' := by
  have HP : Hid (∀ u : World, Below w.heap.size w u → Calls Try.prog 35 #[lv] u fun e w' => ∃ b, e = .returned (.map (some b)) ∧ u.heap.size ≤ b ∧ Below u.heap.size u w' ∧ MapIs Try.prog 9 w' b ls.length (nplist ls ls.length)) := fun u hu => placesOf_any lv ls u (hl.on hu) hg
  have HA : Hid (∀ (u : World) (b : Nat), Below w.heap.size w u → MapIs Try.prog 9 u b ls.length (nplist ls ls.length) → Calls Try.prog 38 #[.map (some b), kv] u fun e w' => ∃ q : Bool, e = .returned (.bool q) ∧ (q = true ↔ ∀ s ∈ ks, s ∈ ls) ∧ Below u.heap.size u w') := fun u b hu hm => haveAll_any b _ kv ls ks u hm (hc.on hu) hf
  obtain ⟨a, cap, rfl, h1, hm, _⟩ := hc
  obtain ⟨a', cap', rfl, h1', hm', _⟩ := hl
  unfold maxLen at hm hm'
  clear hf hg
  by_cases hq : ks.length = ls.length
  · have hqi : (ks.length : Int) = (ls.length : Int) := by omega
    have HE : Hid (ks.length = ls.length) := hq
    clear hq
    go_enter Try.func40, Try.ntmps40
    go_wp2_with fail
    refine (HP.out _ (Below.refl _ _)).mono ?_
    rintro e w1 ⟨b, rfl, _, b1, hm1⟩
    have HM1 : Hid (MapIs Try.prog 9 w1 b ls.length (nplist ls ls.length)) := hm1
    clear hm1
    go_wp2_with fail
    refine (HA.out _ _ b1 HM1.out).mono ?_
    rintro e w2 ⟨q, rfl, h2, b2⟩
    have H2 : Hid (q = true ↔ ∀ s ∈ ks, s ∈ ls) := h2
    have hb2 := ch_trans b1 b2
    clear h2 HM1
    go_wp2
    go_ret
    exact ⟨_, rfl, ⟨fun h => ⟨HE.out, H2.out.1 h⟩, fun h => H2.out.2 h.2⟩, hb2⟩
  · have hqi : ¬ (ks.length : Int) = (ls.length : Int) := by omega
    have HE : Hid (¬ ks.length = ls.length) := hq
    clear hq
    go_enter Try.func40, Try.ntmps40
    go_wp2
    go_ret
    exact ⟨_, rfl, ⟨fun h => by simp at h, fun h => absurd h.1 HE.out⟩, Below.refl _ _⟩
end Go.Proofs.Ytiijahoheajppaa
