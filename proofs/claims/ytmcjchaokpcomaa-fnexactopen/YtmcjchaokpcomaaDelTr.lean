/- Rows of the call's own shortened in place: append within the room, clear. slices.Delete at impl.openList: some elements taken out of a row of the call's own. -/
import Derived.Test.YtmcjchaokpcomaaAl
import Derived.Lib.SliceRun
namespace Go.Proofs.Ytmcjchaokpcomaa
open Go.ChangeShapes Go.WideShapes Go.ChangeAt Go.RowKit

section
variable {P : Program} {t T : TypeId} {zv : Value} {z bytes : Nat}
/-- clear of some elements of a block of the call's own. -/
theorem clear_own {w : World} (ht : P.underlying t = some (.slice T)) (hv : ∀ w : World, (zeroValue T).run P w = .ok zv w) (hz1 : ∀ u ∈ zv.cells.toList, u.oneCell' = true) (hzs : zv.cells.size = z) (hsz : 0 < z)
    {g : Nat} {cur : Array Value} (hg : w.heap[g]? = some (.cells cur T (0, 0))) (o n c : Nat) (hn : 0 < n) (hfit : o + n * z ≤ cur.size) (ty : TypeId) :
    ∃ cur', (Builtin.clear_ #[t] ty #[.slice (some ⟨g, o, none⟩) n c]).run P w = .ok (.tuple #[]) (w.setRow g cur') ∧ cur'.size = cur.size ∧ cur'.toList.take o = cur.toList.take o := by
  have hl : (Builtin.zeroCells zv.cells n).toList.length = n * z := by simp [Builtin.zeroCells, hzs]
  have h1 : ∀ u ∈ (Builtin.zeroCells zv.cells n).toList, u.oneCell' = true := fun u hu => by
    simp only [Builtin.zeroCells, Array.toList_map, List.mem_map] at hu
    obtain ⟨i, _, rfl⟩ := hu
    have hlt : i % zv.cells.size < zv.cells.size := Nat.mod_lt _ (by omega)
    rw [getElem!_pos zv.cells _ hlt]
    exact hz1 _ (by simp)
  have hst := run_storeCells_at P g o T (Builtin.zeroCells zv.cells n).toList 0 cur w hg (by simpa [hl] using hfit) h1
  simp only [Nat.add_zero] at hst
  obtain ⟨m, rfl⟩ : ∃ m, n = m + 1 := ⟨n - 1, by omega⟩
  obtain ⟨X, hX⟩ : ∃ X, X = (cur.toList.take o ++ (Builtin.zeroCells zv.cells (m + 1)).toList ++ cur.toList.drop (o + (Builtin.zeroCells zv.cells (m + 1)).toList.length)).toArray := ⟨_, rfl⟩
  rw [← hX] at hst
  refine ⟨X, by simp [Builtin.clear_, run_underlying ht, hv, hst], ?_, ?_⟩
  all_goals subst hX
  · simp only [List.size_toArray, List.length_append, List.length_take, List.length_drop, Array.length_toList, hl]
    omega
  · simp only [List.append_assoc]
    rw [List.take_append_of_le_length (by simp; omega), List.take_take, Nat.min_self]
/-- append within the room, as a step of a region that draws. -/
theorem room_step {ops : Array Oper} {o : Oper} {a : Act} {w : World} {K : Act → World → Prop} {Q : Exit → Act → World → Prop} {E : Prop}
    (hgd : o.guard = none) (s y : Operand) (ho : o.op = .call { callee := .builtin .append, args := #[s, y], argTypes := #[t, t] })
    (ht : P.underlying t = some (.slice T)) (hinfo : (P.info? T).map (fun i => (i.zero, i.size, i.bytes)) = some (some zv, z, bytes))
    {g : Nat} {cur : Array Value} (hg : w.heap[g]? = some (.cells cur T (0, 0))) (n cap : Nat) (hs : a.eval s = .slice (some ⟨g, 0, none⟩) n cap)
    (A : Addr) (m c : Nat) (hy : a.eval y = .slice (some A) m c) (news : List Value) (hl : news.length = m * z) (hnews : ∀ j u, news[j]? = some u → w.cell? (A.add j) = some u) (h1 : ∀ u ∈ news, u.oneCell' = true)
    (hroom : n + m ≤ cap) (hfit : n * z + news.length ≤ cur.size)
    (h : K (a.put o.dst (.slice (some ⟨g, 0, none⟩) (n + m) cap)) (w.setRow g (cur.toList.take (n * z) ++ news ++ cur.toList.drop (n * z + news.length)).toArray)) :
    if Region.wanted o (yielded ops a.tmps) = true then Oper.wp P o a w K Q else E := by
  have hw : Region.wanted o (yielded ops a.tmps) = true := by simp [Region.wanted, hgd]
  rw [if_pos hw]
  obtain ⟨i, hi, hzz⟩ := Option.map_eq_some_iff.1 hinfo
  simp only [Prod.mk.injEq] at hzz
  obtain ⟨hz0, hz1, hz2⟩ := hzz
  subst hz1
  have hr := run_append_room (P := P) w t o.type T i ht hi g n cap cur hg A m c news hl hnews h1 hroom hfit
  unfold Oper.wp execOp
  simp only [ho, resolve, invoke, builtin, Sem.run_bind, Sem.run_pure, Result.andThen_ok, List.map_toArray, List.map_cons, List.map_nil, hs, hy, hr]
  exact h
end
theorem setRow_turns {w : World} {g : Nat} {cs : Array Value} : Turns (fun c => c = g) w (w.setRow g cs) := ⟨rfl, rfl, rfl, by simp, fun c _ hn => setRow_other w g c cs hn⟩
/-- Two stretches of cells moved together. -/
theorem cut_take {α : Type} (l : List α) (p q m : Nat) (hpq : p ≤ q) (hq : q ≤ m) (hm : m ≤ l.length) : ((l.take p ++ (l.take m).drop q ++ l.drop (p + ((l.take m).drop q).length))).take (p + (m - q)) = l.take p ++ (l.take m).drop q := by
  have h1 : (l.take p ++ (l.take m).drop q).length = p + (m - q) := by simp; omega
  rw [List.take_append_of_le_length (by omega), List.take_of_length_le (by omega)]
theorem flat_take {z : Nat} : ∀ (xs : List (Array Value)) (i : Nat), (∀ x ∈ xs, x.size = z) → i ≤ xs.length → (xs.take i).flatMap Array.toList = (xs.flatMap Array.toList).take (i * z)
  | _, 0, _, _ => by simp
  | x :: r, i + 1, hz, h => by
    have hx := hz x (by simp)
    have ih := flat_take r i (fun y hy => hz y (by simp [hy])) (by simpa using h)
    have e1 : x.toList.length = z := by simpa using hx
    rw [List.take_succ_cons, List.flatMap_cons, List.flatMap_cons, ih, Nat.add_mul, Nat.one_mul, List.take_append, e1, Nat.add_sub_cancel, List.take_of_length_le (l := x.toList) (by omega)]
  | [], i + 1, _, h => by simp at h
theorem flat_drop {z : Nat} : ∀ (xs : List (Array Value)) (i : Nat), (∀ x ∈ xs, x.size = z) → i ≤ xs.length → (xs.drop i).flatMap Array.toList = (xs.flatMap Array.toList).drop (i * z)
  | _, 0, _, _ => by simp
  | x :: r, i + 1, hz, h => by
    have hx := hz x (by simp)
    have ih := flat_drop r i (fun y hy => hz y (by simp [hy])) (by simpa using h)
    have e1 : x.toList.length = z := by simpa using hx
    rw [List.drop_succ_cons, List.flatMap_cons, ih, Nat.add_mul, Nat.one_mul, List.drop_append, e1, Nat.add_sub_cancel, List.drop_of_length_le (l := x.toList) (by omega)]
    simp
  | [], i + 1, _, h => by simp at h
end Go.Proofs.Ytmcjchaokpcomaa

namespace Go.Proofs.Ytmcjchaokpcomaa
open Go.ChangeShapes Go.WideShapes Go.ChangeAt Go.RowKit

theorem infoDTr : (Try.prog.info? 96).map (fun i => (i.zero, i.size, i.bytes)) = some (some (.agg #[.int .i64 0, .slice none 0 0]), 2, 32) := by kernel_rfl
theorem zeroDTr : ∀ w : World, (zeroValue 96).run Try.prog w = .ok (.agg #[.int .i64 0, .slice none 0 0]) w := fun w => by kernel_rfl

set_option maxRecDepth 100000 in
set_option maxHeartbeats 4000000 in
theorem delTr {w : World} {B : Nat} {v : Value} {xs : List (Array Value)} (h : Got w B 96 2 v xs) (h1 : ∀ x ∈ xs, ∀ u ∈ x.toList, u.oneCell' = true) (i j : Nat) (hij : i < j) (hj : j ≤ xs.length) :
    Calls Try.prog 68 #[v, .int .i64 (i : Int), .int .i64 (j : Int)] w fun e w' => ∃ v', e = .returned v' ∧ Got w' B 96 2 v' (xs.take i ++ xs.drop j) ∧ Turns (fun c => v.ownBlock = some c) w w' ∧ v'.ownBlock = v.ownBlock := by
  obtain ⟨hz, hlen, hh⟩ := h
  rcases hh with ⟨rfl, hn⟩ | ⟨g, cap, cur, rfl, hb, hg, hc1, hc2, hs, htk⟩
  · omega
  unfold maxLen at hc2
  obtain ⟨n, hn⟩ : ∃ n, n = xs.length := ⟨_, rfl⟩
  rw [← hn] at hj hc1 htk ⊢
  obtain ⟨news, hnews⟩ : ∃ news, news = (xs.flatMap Array.toList).drop (j * 2) := ⟨_, rfl⟩
  have hfl := flat_len xs hz
  have hnl : news.length = (n - j) * 2 := by rw [hnews, List.length_drop, hfl, ← hn, Nat.sub_mul]
  have hn1 : ∀ u ∈ news, u.oneCell' = true := fun u hu => by
    rw [hnews] at hu
    obtain ⟨x, hx, hu⟩ := List.mem_flatMap.1 (List.mem_of_mem_drop hu)
    exact h1 x hx u hu
  have hcj : ∀ t u, news[t]? = some u → w.drew.cell? ⟨g, j * 2 + t, none⟩ = some u := fun t u hu => by
    have ht : t < news.length := (List.getElem?_eq_some_iff.1 hu).1
    rw [hnews, List.getElem?_drop, ← htk, List.getElem?_take, if_pos (by rw [hnl] at ht; have : j * 2 + (n - j) * 2 = n * 2 := by rw [← Nat.add_mul]; congr 1; omega
                                                                         omega)] at hu
    have hd : w.drew.heap[g]? = some (.cells cur 96 (0, 0)) := hg
    unfold World.cell?
    simp only [hd]
    simpa using hu
  obtain ⟨A, hA, hsrc⟩ : ∃ A : Addr, (if cap = j then some (⟨g, 0, none⟩ : Addr) else some ⟨g, j * 2, none⟩) = some A ∧ Hid (∀ t u, news[t]? = some u → w.drew.cell? (A.add t) = some u) := by
    by_cases hc : cap = j
    · refine ⟨⟨g, 0, none⟩, by simp [hc], fun t u hu => ?_⟩
      have h0 : news.length = 0 := by rw [hnl]; have : n - j = 0 := by omega
                                      rw [this, Nat.zero_mul]
      rw [List.length_eq_zero_iff.1 h0] at hu
      simp at hu
    · refine ⟨⟨g, j * 2, none⟩, by simp [hc], fun t u hu => ?_⟩
      rw [add_flat]
      exact hcj t u hu
  have hgd : w.drew.heap[g]? = some (.cells cur 96 (0, 0)) := hg
  have hfit : i * 2 + news.length ≤ cur.size := by
    rw [hnl, hs, ← Nat.add_mul]; exact Nat.mul_le_mul_right _ (by omega)
  -- behind the append
  obtain ⟨cur1, hcur1⟩ : ∃ cur1, cur1 = (cur.toList.take (i * 2) ++ news ++ cur.toList.drop (i * 2 + news.length)).toArray := ⟨_, rfl⟩
  have hs1 : cur1.size = cur.size := by
    rw [hcur1]
    simp only [List.size_toArray, List.length_append, List.length_take, List.length_drop, Array.length_toList]
    omega
  have htk1 : cur1.toList.take ((i + (n - j)) * 2) = (xs.take i ++ xs.drop j).flatMap Array.toList := by
    have hT : (xs.take i).flatMap Array.toList = cur.toList.take (i * 2) := by
      rw [flat_take xs i hz (by omega), ← htk, List.take_take, Nat.min_eq_left (Nat.mul_le_mul_right _ (by omega))]
    have hD : (xs.drop j).flatMap Array.toList = news := by rw [flat_drop xs j hz (by omega), hnews]
    rw [List.flatMap_append, hT, hD, hcur1]
    have hl : (cur.toList.take (i * 2) ++ news).length = (i + (n - j)) * 2 := by
      rw [List.length_append, hnl, List.length_take, Nat.min_eq_left (by rw [Array.length_toList]; omega), Nat.add_mul]
    rw [List.take_append_of_le_length (by omega), ← hl, List.take_length]
  obtain ⟨W1, hW1⟩ : ∃ W1, W1 = w.drew.setRow g cur1 := ⟨_, rfl⟩
  have hg1 : W1.heap[g]? = some (.cells cur1 96 (0, 0)) := by rw [hW1]; exact setRow_heap _ g _ _ _ _ hgd
  have hT1 : Turns (fun c => c = g) w W1 := by
    rw [hW1]
    exact ⟨rfl, rfl, rfl, by simp, fun c _ hn => setRow_other w.drew g c _ hn⟩
  obtain ⟨cur2, hcl, hs2, htk2⟩ := clear_own (P := Try.prog) (w := W1) (z := 2) Try.underlying72 zeroDTr (by decide) rfl (by decide) hg1 ((i + (n - j)) * 2) (n - (i + (n - j))) (cap - (i + (n - j))) (by omega) (by
    rw [hs1, hs, ← Nat.add_mul]; exact Nat.mul_le_mul_right _ (by omega)) 72
  have hcl' : ∀ ty, (Builtin.clear_ #[72] ty #[.slice (some ⟨g, (i + (n - j)) * 2, none⟩) (n - (i + (n - j))) (cap - (i + (n - j)))]).run Try.prog W1 = .ok (.tuple #[]) (W1.setRow g cur2) := fun ty => hcl
  have HF : Hid (Got (W1.setRow g cur2) B 96 2 (.slice (some ⟨g, 0, none⟩) (i + (n - j)) cap) (xs.take i ++ xs.drop j) ∧ Turns (fun c => c = g) w (W1.setRow g cur2)) := by
    have hxl : (xs.take i ++ xs.drop j).length = i + (n - j) := by
      rw [List.length_append, List.length_take, List.length_drop, Nat.min_eq_left (by omega), hn]
    refine ⟨⟨fun x hx => ?_, ?_, Or.inr ⟨g, cap, cur2, ?_, hb, setRow_heap _ g _ _ _ _ hg1, ?_, hc2, ?_, ?_⟩⟩, ?_⟩
    · rcases List.mem_append.1 hx with hx | hx
      · exact hz x (List.mem_of_mem_take hx)
      · exact hz x (List.mem_of_mem_drop hx)
    · exact flat_len _ fun x hx => by
        rcases List.mem_append.1 hx with hx | hx
        · exact hz x (List.mem_of_mem_take hx)
        · exact hz x (List.mem_of_mem_drop hx)
    · rw [hxl]
    · rw [hxl]; omega
    · omega
    · rw [hxl, htk2, htk1]
    · exact ⟨hT1.os, hT1.tape, hT1.output, by simpa using hT1.size, fun c hc hn => (setRow_other W1 g c _ hn).trans (hT1.block c hc hn)⟩
  have X : Hid (w.drew.setRow g (cur.toList.take (i * 2) ++ news ++ cur.toList.drop (i * 2 + news.length)).toArray = W1) := by
    show _ = _
    rw [hW1, hcur1]
  have S1 : Hid (news.length = (n - j) * 2) := hnl
  have S2 : Hid (∀ u ∈ news, u.oneCell' = true) := hn1
  have S3 : Hid (w.drew.heap[g]? = some (.cells cur 96 (0, 0))) := hgd
  have S4 : Hid (i * 2 + news.length ≤ cur.size) := hfit
  have hic : i ≤ cap := by omega
  have hjc : j ≤ cap := by omega
  have hne : ((i : Int) == (j : Int)) = false := by simp; omega
  clear hW1 hcur1 hg1 hT1 hs1 htk1 hcl hs2 htk2 hnews hfl hnl hn1 hcj hgd hfit hs htk hg hlen hz h1 hn hb
  go_enter Try.func68, Try.ntmps68
  go_wp2_with fail
  go_region_law (refine room_step rfl (.tmp 22) (.tmp 25) rfl Try.underlying72 infoDTr S3.out i cap (by simp [Act.eval, Act.put]) A (n - j) (cap - j) (by simp [Act.eval, Act.put]) news S1.out hsrc.out S2.out (by omega) S4.out ?_; rw [X.out])
  go_wp2
  go_ret
  exact ⟨.slice (some ⟨g, 0, none⟩) (i + (n - j)) cap, rfl, HF.out.1, HF.out.2.mono fun c hc => by subst hc; rfl, rfl⟩
end Go.Proofs.Ytmcjchaokpcomaa
