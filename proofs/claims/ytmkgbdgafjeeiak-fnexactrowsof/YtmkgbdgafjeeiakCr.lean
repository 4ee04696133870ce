/- Rows copied: given and landed. Rows copied: the landed copyRows, the given l03Copy. -/
import Derived.Test.YtmkgbdgafjeeiakCn
import Derived.Test.YtmkgbdgafjeeiakFm
namespace Go.Proofs.Ytmkgbdgafjeeiak
open Go.ChangeShapes Go.WideShapes Go.ChangeAt Go.RowKit

/-- A row of the call's own lies in a block of its elements' type. -/
theorem Got.tag {w : World} {B : Nat} {T : TypeId} {z : Nat} {v : Value} {xs : List (Array Value)} (h : Got w B T z v xs) {c : Nat} (hc : v.ownBlock = some c) : ∃ cur, w.heap[c]? = some (.cells cur T (0, 0)) := by
  rcases h.2.2 with ⟨rfl, _⟩ | ⟨g, cap, cur, rfl, _, hg, _⟩
  · cases hc
  · simp [Value.ownBlock] at hc; subst hc; exact ⟨cur, hg⟩
theorem Got.apart {w : World} {B B' : Nat} {T T' : TypeId} {z z' : Nat} {v v' : Value} {xs xs' : List (Array Value)} (h : Got w B T z v xs) (h' : Got w B' T' z' v' xs') (hT : T ≠ T') {c : Nat} (hc : v.ownBlock = some c) : v'.ownBlock ≠ some c := fun hc' => by
  obtain ⟨_, e⟩ := h.tag hc
  obtain ⟨_, e'⟩ := h'.tag hc'
  rw [e] at e'
  cases e'
  exact hT rfl
theorem Got.turned {w w' : World} {B : Nat} {T : TypeId} {z : Nat} {v : Value} {xs : List (Array Value)} (h : Got w B T z v xs) {S : Nat → Prop} (k : Turns S w w') (hS : ∀ c, v.ownBlock = some c → ¬ S c) : Got w' B T z v xs := by
  refine ⟨h.1, h.2.1, ?_⟩
  rcases h.2.2 with hn | ⟨g, cap, cur, rfl, hb, hg, rest⟩
  · exact Or.inl hn
  · exact Or.inr ⟨g, cap, cur, rfl, hb, (k.block g (Array.getElem?_eq_some_iff.1 hg).1 (hS g rfl)).trans hg, rest⟩

/-- Rows of a call's own, each with a block of its own. -/
def RowsY (w : World) (B : Nat) (v : Value) (rs : List (List Vc)) (ys : List Value) (bs : List Nat) : Prop := Got w B 62 1 v (ys.map one1) ∧ ys.length = rs.length ∧ bs.length = rs.length ∧ bs.Nodup ∧
  ∀ i (h : i < rs.length) (hy : i < ys.length) (hb : i < bs.length), Got w B 104 3 ys[i] (rs[i].map Vc.cells) ∧ ∃ cap, ys[i] = .slice (some ⟨bs[i], 0, none⟩) rs[i].length cap
def RowsG (w : World) (B : Nat) (v : Value) (rs : List (List Vc)) : Prop := ∃ (ys : List Value) (bs : List Nat), RowsY w B v rs ys bs
theorem RowsG.on {w w' : World} {B : Nat} {v : Value} {rs : List (List Vc)} (h : RowsG w B v rs) (k : Below w.heap.size w w') : RowsG w' B v rs := by
  obtain ⟨ys, bs, h1, h2, h3, h4, h5⟩ := h
  exact ⟨ys, bs, h1.on k, h2, h3, h4, fun i h hy hb => ⟨(h5 i h hy hb).1.on k, (h5 i h hy hb).2⟩⟩
theorem RowsG.mono {w : World} {B B' : Nat} {v : Value} {rs : List (List Vc)} (h : RowsG w B v rs) (hB : B' ≤ B) : RowsG w B' v rs := by
  obtain ⟨ys, bs, h1, h2, h3, h4, h5⟩ := h
  exact ⟨ys, bs, h1.mono hB, h2, h3, h4, fun i h hy hb => ⟨(h5 i h hy hb).1.mono hB, (h5 i h hy hb).2⟩⟩
theorem RowsG.nil (w : World) (B : Nat) : RowsG w B (.slice none 0 0) [] := ⟨[], [], Got.nil _ _ _ _, rfl, rfl, List.nodup_nil, fun i h => by simp at h⟩
theorem RowsG.emptyAt (w : World) {n : Nat} (h : w.heap.size = n) : RowsG (w.alloc (.cells #[] 62)) n (.slice (some ⟨n, 0, none⟩) 0 0) [] := ⟨[], [], Got.emptyAt _ _ _ h, rfl, rfl, List.nodup_nil, fun i h => by simp at h⟩
theorem RowsG.turned {w w' : World} {B : Nat} {v : Value} {rs : List (List Vc)} (h : RowsG w B v rs) {S : Nat → Prop} (k : Turns S w w') (hS : ∀ c, S c → c < B) : RowsG w' B v rs := by
  obtain ⟨ys, bs, h1, h2, h3, h4, h5⟩ := h
  exact ⟨ys, bs, h1.turns k hS, h2, h3, h4, fun i h hy hb => ⟨(h5 i h hy hb).1.turns k hS, (h5 i h hy hb).2⟩⟩
theorem RowsG.lit {w : World} {B : Nat} {v : Value} {rs : List (List Vc)} (h : RowsG w B v rs) : ∃ a n cap, v = .slice a n cap ∧ RowsG w B (.slice a n cap) rs := by
  obtain ⟨ys, bs, h1, h2⟩ := h
  obtain ⟨a, n, cap, rfl, h1⟩ := h1.lit2
  exact ⟨a, n, cap, rfl, ys, bs, h1, h2⟩
theorem RowsG.rows {w : World} {B : Nat} {v : Value} {rs : List (List Vc)} (h : RowsG w B v rs) : RowsV w v rs := by
  obtain ⟨ys, bs, h1, h2, h3, h4, h5⟩ := h
  obtain ⟨a, cap, e, h6, h7, h8, _⟩ := h1.row
  simp only [List.length_map] at e h6
  exact ⟨a, cap, ys, by rw [e, h2], by omega, h7, h8, h2, fun i hi g => (h5 i g hi (by omega)).1.vals⟩
/-- One more row. -/
theorem RowsY.step {w0 w1 w2 : World} {B : Nat} {v v' : Value} {rs : List (List Vc)} {ys : List Value} {bs : List Nat} {r : List Vc} {kv : Value} (h : RowsY w0 B v rs ys bs) (hb : Below w0.heap.size w0 w1) (hB : B ≤ w0.heap.size) (hk : Got w1 w0.heap.size 104 3 kv (r.map Vc.cells)) (hr : 1 ≤ r.length)
    (hv : Got w2 B 62 1 v' (ys.map one1 ++ [one1 kv])) (ht : Turns (fun c => v.ownBlock = some c) w1 w2) : RowsG w2 B v' (rs ++ [r]) := by
  obtain ⟨h1, h2, h3, h4, h5⟩ := h
  have hkb : ∃ b cap, kv = .slice (some ⟨b, 0, none⟩) r.length cap ∧ w0.heap.size ≤ b := by
    rcases hk.2.2 with ⟨_, hn⟩ | ⟨g, cap, cur, e, hg, _⟩
    · simp at hn; subst hn; simp at hr
    · exact ⟨g, cap, by simpa using e, hg⟩
  obtain ⟨b, cap, rfl, hb0⟩ := hkb
  have hT : (62 : TypeId) ≠ 104 := by decide
  have hout := h1.on hb
  refine ⟨ys ++ [.slice (some ⟨b, 0, none⟩) r.length cap], bs ++ [b], by rw [List.map_append]; exact hv, by simp [h2], by simp [h3], ?_, fun i hi hy hb' => ?_⟩
  · rw [List.nodup_append]
    refine ⟨h4, by simp, fun c hc d hd => ?_⟩
    simp at hd
    subst hd
    obtain ⟨i, hi, rfl⟩ := List.getElem_of_mem hc
    obtain ⟨hg, cap', e⟩ := h5 i (by omega) (by omega) hi
    have := (World.ownsRow.lt hg.2 bs[i] (by rw [e]; rfl)).2
    omega
  · by_cases hlt : i < rs.length
    · obtain ⟨hg, cap', e⟩ := h5 i hlt (by omega) (by omega)
      rw [List.getElem_append_left (by omega), List.getElem_append_left (by omega), List.getElem_append_left (by omega)]
      exact ⟨(hg.on hb).turned ht fun c hc => (hg.on hb).apart hout (Ne.symm hT) hc, cap', e⟩
    · simp at hi
      have e : i = rs.length := by omega
      subst e
      have e1 : (ys ++ [Value.slice (some ⟨b, 0, none⟩) r.length cap])[rs.length] = .slice (some ⟨b, 0, none⟩) r.length cap := by
        rw [List.getElem_append_right (by omega)]; simp [h2]
      have e2 : (bs ++ [b])[rs.length] = b := by rw [List.getElem_append_right (by omega)]; simp [h3]
      have e3 : (rs ++ [r])[rs.length] = r := by rw [List.getElem_append_right (by omega)]; simp
      rw [e1, e2, e3]
      exact ⟨(hk.mono hB).turned ht fun c hc => (hk.mono hB).apart hout (Ne.symm hT) hc, cap, rfl⟩
end Go.Proofs.Ytmkgbdgafjeeiak

namespace Go.Proofs.Ytmkgbdgafjeeiak
open Go.ChangeShapes Go.WideShapes Go.ChangeAt Go.RowKit

theorem infoRow : (Try.prog.info? 62).map (fun i => (i.zero, i.size, i.bytes)) = some (some (.agg #[.slice none 0 0]), 1, 24) := by kernel_rfl

set_option maxRecDepth 100000 in
set_option maxHeartbeats 2000000 in
/-- impl.copyRows -/
theorem copyRows_any (v : Value) (rs : List (List Vc)) (w : World) (hv : RowsV w v rs) (h1 : ∀ r ∈ rs, 1 ≤ r.length ∧ r.length ≤ 1048576) (hl : rs.length ≤ 1048576) :
    Calls Try.prog 46 #[v] w fun e w' => ∃ kv, e = .returned kv ∧ Below w.heap.size w w' ∧ RowsG w' w.heap.size kv rs := by
  obtain ⟨a, p, rfl, hlp, hm, hv⟩ := hv.lit
  unfold maxLen at hm
  have HV : Hid (RowsV w (.slice a rs.length p) rs) := hv
  have H1 : Hid (∀ r ∈ rs, 1 ≤ r.length ∧ r.length ≤ 1048576) := h1
  clear hv h1
  go_enter Try.func46, Try.ntmps46
  go_wp2
  have HG0 : Hid (RowsG w w.heap.size (.slice none 0 0) (rs.take 0)) := RowsG.nil w w.heap.size
  go_loopw [3, 8] (fun v i wr => ∃ k : Nat, k ≤ rs.length ∧ i = .int .i64 k ∧ Below w.heap.size w wr ∧ Hid (RowsG wr w.heap.size v (rs.take k))) (fun _ i _ => rs.length - (intOf i).toNat)
  case atStart => exact ⟨0, Nat.zero_le _, rfl, (by repeat (first | with_reducible exact Below.refl _ _ | with_reducible assumption | with_reducible refine ch_alloc ?_ _ | with_reducible refine Below.drew ?_ | with_reducible refine below_draws _ ?_ | (with_reducible refine Below.setCell ?_ ?_ _; rotate_left; focus (first | with_reducible exact Nat.le_refl _ | (simp; done) | (simp; omega) | (simp at *; omega))) | with_reducible refine ch_trans ?_ (by with_reducible assumption))), HG0⟩
  case round =>
    clear HG0
    obtain ⟨k, hk, rfl, hb, HG⟩ := hrel
    obtain ⟨a', n', cap', rfl, hg⟩ := HG.out.lit
    have HG' : Hid (RowsG wr w.heap.size (.slice a' n' cap') (rs.take k)) := hg
    clear HG hg
    by_cases hlt : k < rs.length
    · have hlti : (k : Int) < rs.length := by omega
      obtain ⟨b, off, c, q, rfl, d0, hx⟩ := (HV.out.on hb).rw k hlt
      have HX : Hid (ValsV wr (.slice c rs[k].length q) rs[k]) := hx
      obtain ⟨hr1, hr2⟩ := H1.out _ (List.getElem_mem hlt)
      have hbv : Below wr.heap.size wr (wr.alloc (.cells #[.slice c rs[k].length q] 62)) := ch_alloc (Below.refl _ _) _
      have hsw : w.heap.size ≤ wr.heap.size := hb.size
      have hsv : w.heap.size ≤ (wr.alloc (.cells #[.slice c rs[k].length q] 62)).heap.size := by simp; omega
      clear hx
      go_wp2_with fail
      generalize wr.alloc (.cells #[.slice c rs[k].length q] 62) = wv at hbv hsv ⊢
      refine (copyRow_any _ rs[k] wv (HX.out.on hbv) hr1 hr2).mono ?_
      rintro e w1 ⟨kv, rfl, b1, hkv⟩
      obtain ⟨a1, n1, c1, rfl, hkv⟩ := hkv.lit2
      obtain ⟨ys, bs, hY⟩ := HG'.out.on hbv
      have HY : Hid (RowsY wv w.heap.size (.slice a' n' cap') (rs.take k) ys bs) := hY
      have HK : Hid (Got w1 wv.heap.size 104 3 (.slice a1 n1 c1) (rs[k].map Vc.cells)) := hkv
      have hyl : ys.length = k := by have := hY.2.1; simpa [Nat.min_eq_left hk] using this
      have hs1 : w.heap.size ≤ w1.heap.size := Nat.le_trans hsv b1.size
      have hbA : Below wv.heap.size wv (w1.alloc (.cells #[.slice a1 n1 c1] 62)) := ch_alloc b1 _
      have hbW : Below w.heap.size w (w1.alloc (.cells #[.slice a1 n1 c1] 62)) := ch_trans hb (ch_trans hbv hbA)
      have hsA : w.heap.size ≤ (w1.alloc (.cells #[.slice a1 n1 c1] 62)).heap.size := by simp; omega
      clear hkv hY b1
      go_wp2_with (at_builtin; refine app_turn rfl (.tmp 12) (.tmp 15) rfl Try.underlying25 infoRow rfl (by decide) (by decide) w.heap.size _ (ys.map one1) rfl (HY.out.1.on hbA) w1.heap.size 1 (one1 (.slice a1 n1 c1)) rfl (Loc.new _ _ _) rfl (fun u hu => by simp at hu; subst hu; rfl) (by simp; omega) hsA ?_; intro v' w2 hg2 hb2 ht2)
      have HG2 : Hid (RowsG w2 w.heap.size v' (rs.take (k + 1))) := by
        show RowsG _ _ _ _
        rw [List.take_succ_eq_append_getElem hlt]
        exact HY.out.step hbA hsv (HK.out.on (ch_alloc (Below.refl _ _) _)) hr1 hg2 ht2
      have hb3 : Below w.heap.size w w2 := hbW.trans hb2
      go_round
      case rel => exact ⟨k + 1, by omega, by go_num, hb3, HG2⟩
      case measure => simp [intOf]; omega
    · have hlti : (rs.length : Int) ≤ k := by omega
      have HI : Hid (RowsG wr w.heap.size (.slice a' n' cap') rs) := by
        have := HG'.out
        rwa [List.take_of_length_le (by omega)] at this
      go_wp2
      go_ret
      exact ⟨_, rfl, hb, HI.out⟩

set_option maxRecDepth 100000 in
set_option maxHeartbeats 2000000 in
/-- spec.l03Copy -/
theorem l03Copy_any (v : Value) (rs : List (List Vc)) (w : World) (hv : RowsV w v rs) (h1 : ∀ r ∈ rs, 1 ≤ r.length ∧ r.length ≤ 1048576) (hl : rs.length ≤ 1048576) :
    Calls Try.prog 44 #[v] w fun e w' => ∃ kv, e = .returned kv ∧ Below w.heap.size w w' ∧ RowsG w' w.heap.size kv rs := by
  obtain ⟨a, p, rfl, hlp, hm, hv⟩ := hv.lit
  unfold maxLen at hm
  have HV : Hid (RowsV w (.slice a rs.length p) rs) := hv
  have H1 : Hid (∀ r ∈ rs, 1 ≤ r.length ∧ r.length ≤ 1048576) := h1
  clear hv h1
  go_enter Try.func44, Try.ntmps44
  go_wp2
  have HG0 : Hid (RowsG (w.alloc (.cells #[] 62)) w.heap.size (.slice (some ⟨w.heap.size, 0, none⟩) 0 0) (rs.take 0)) := RowsG.emptyAt w rfl
  go_loopw [3, 9] (fun v i wr => ∃ k : Nat, k ≤ rs.length ∧ i = .int .i64 k ∧ Below w.heap.size w wr ∧ Hid (RowsG wr w.heap.size v (rs.take k))) (fun _ i _ => rs.length - (intOf i).toNat)
  case atStart => exact ⟨0, Nat.zero_le _, rfl, (by repeat (first | with_reducible exact Below.refl _ _ | with_reducible assumption | with_reducible refine ch_alloc ?_ _ | with_reducible refine Below.drew ?_ | with_reducible refine below_draws _ ?_ | (with_reducible refine Below.setCell ?_ ?_ _; rotate_left; focus (first | with_reducible exact Nat.le_refl _ | (simp; done) | (simp; omega) | (simp at *; omega))) | with_reducible refine ch_trans ?_ (by with_reducible assumption))), HG0⟩
  case round =>
    clear HG0
    obtain ⟨k, hk, rfl, hb, HG⟩ := hrel
    obtain ⟨a', n', cap', rfl, hg⟩ := HG.out.lit
    have HG' : Hid (RowsG wr w.heap.size (.slice a' n' cap') (rs.take k)) := hg
    clear HG hg
    by_cases hlt : k < rs.length
    · have hlti : (k : Int) < rs.length := by omega
      obtain ⟨b, off, c, q, rfl, d0, hx⟩ := (HV.out.on hb).rw k hlt
      have HX : Hid (ValsV wr (.slice c rs[k].length q) rs[k]) := hx
      obtain ⟨hr1, hr2⟩ := H1.out _ (List.getElem_mem hlt)
      have hbv : Below wr.heap.size wr (wr.alloc (.cells #[.slice c rs[k].length q] 62)) := ch_alloc (Below.refl _ _) _
      have hsw : w.heap.size ≤ wr.heap.size := hb.size
      have hsv : w.heap.size ≤ (wr.alloc (.cells #[.slice c rs[k].length q] 62)).heap.size := by simp; omega
      clear hx
      go_wp2_with fail
      generalize wr.alloc (.cells #[.slice c rs[k].length q] 62) = wv at hbv hsv ⊢
      refine (l03Row_any _ rs[k] wv (HX.out.on hbv) hr1 hr2).mono ?_
      rintro e w1 ⟨kv, rfl, b1, hkv⟩
      obtain ⟨a1, n1, c1, rfl, hkv⟩ := hkv.lit2
      obtain ⟨ys, bs, hY⟩ := HG'.out.on hbv
      have HY : Hid (RowsY wv w.heap.size (.slice a' n' cap') (rs.take k) ys bs) := hY
      have HK : Hid (Got w1 wv.heap.size 104 3 (.slice a1 n1 c1) (rs[k].map Vc.cells)) := hkv
      have hyl : ys.length = k := by have := hY.2.1; simpa [Nat.min_eq_left hk] using this
      have hs1 : w.heap.size ≤ w1.heap.size := Nat.le_trans hsv b1.size
      have hbA : Below wv.heap.size wv (w1.alloc (.cells #[.slice a1 n1 c1] 62)) := ch_alloc b1 _
      have hbW : Below w.heap.size w (w1.alloc (.cells #[.slice a1 n1 c1] 62)) := ch_trans hb (ch_trans hbv hbA)
      have hsA : w.heap.size ≤ (w1.alloc (.cells #[.slice a1 n1 c1] 62)).heap.size := by simp; omega
      clear hkv hY b1
      go_wp2_with (at_builtin; refine app_turn rfl (.tmp 13) (.tmp 16) rfl Try.underlying25 infoRow rfl (by decide) (by decide) w.heap.size _ (ys.map one1) rfl (HY.out.1.on hbA) w1.heap.size 1 (one1 (.slice a1 n1 c1)) rfl (Loc.new _ _ _) rfl (fun u hu => by simp at hu; subst hu; rfl) (by simp; omega) hsA ?_; intro v' w2 hg2 hb2 ht2)
      have HG2 : Hid (RowsG w2 w.heap.size v' (rs.take (k + 1))) := by
        show RowsG _ _ _ _
        rw [List.take_succ_eq_append_getElem hlt]
        exact HY.out.step hbA hsv (HK.out.on (ch_alloc (Below.refl _ _) _)) hr1 hg2 ht2
      have hb3 : Below w.heap.size w w2 := hbW.trans hb2
      go_round
      case rel => exact ⟨k + 1, by omega, by go_num, hb3, HG2⟩
      case measure => simp [intOf]; omega
    · have hlti : (rs.length : Int) ≤ k := by omega
      have HI : Hid (RowsG wr w.heap.size (.slice a' n' cap') rs) := by
        have := HG'.out
        rwa [List.take_of_length_le (by omega)] at this
      go_wp2
      go_ret
      exact ⟨_, rfl, hb, HI.out⟩

end Go.Proofs.Ytmkgbdgafjeeiak
