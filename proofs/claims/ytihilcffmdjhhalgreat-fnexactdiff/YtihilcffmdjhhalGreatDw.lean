/- Names sorted by the library and cut to one of each: they rise. The library's contracts that this seat leans on, laid at its translation in plain words (by the kit's own program), those alone that are used. slices.Grow, slices.Concat of tables; impl.tableNames A row of texts of the call's own, sorted and cut by the library. -/
import Derived.Test.YtihilcffmdjhhalGreatDn
import Derived.Shelf.Strings.Builder1
import Derived.Shelf.Strings.Builder2
import Derived.Shelf.Small.Bits
import Derived.Shelf.Strconv.Itoa0
import Derived.Shelf.Strconv.Itoa1
import Derived.Shelf.LaysM
import Derived.Shelf.Strconv.Itoa2
import Derived.Shelf.Strconv.Itoa3
import Derived.Shelf.Sort.Plain
import Derived.Shelf.Slices.CompactS
import Derived.Shelf.Slices.Cells
import Derived.Shelf.Slices.In.SortNone
import Derived.Test.YtihilcffmdjhhalGreatProg
import Derived.Test.YtihilcffmdjhhalGreatDt
import Derived.Sort.EveryDepth
namespace Go.Proofs.YtihilcffmdjhhalGreat

theorem less_lt : ∀ x y : List UInt8, Op.bytesLess x y = true → x < y
  | _, [], h => by simp [Op.bytesLess] at h
  | [], b :: y, _ => List.nil_lt_cons b y
  | a :: x, b :: y, h => by
    simp only [Op.bytesLess, Bool.or_eq_true, Bool.and_eq_true, decide_eq_true_eq, beq_iff_eq] at h
    rw [List.cons_lt_cons_iff]
    rcases h with h | ⟨e, h⟩
    · exact Or.inl h
    · exact Or.inr ⟨e, less_lt x y h⟩
theorem le_less (x y : List UInt8) : decide (x ≤ y) = !Op.bytesLess y x := by
  cases h : Op.bytesLess y x
  · have : x ≤ y := fun k => by rw [lt_less _ _ k] at h; cases h
    simpa using this
  · have : ¬ x ≤ y := fun k => k (less_lt _ _ h)
    simpa using this
theorem nless_trans {x y z : List UInt8} (h : Op.bytesLess y x = false) (k : Op.bytesLess z y = false) : Op.bytesLess z x = false := by
  by_cases e : x = y
  · subst e; exact k
  · have h1 := less_flip _ _ (Ne.symm e) h
    cases hz : Op.bytesLess z x
    · rfl
    · rw [less_trans _ _ _ hz h1] at k; cases k
theorem sorted_of (zs : List (List UInt8)) : (zs.mergeSort fun x y => decide (x ≤ y)).Pairwise fun x y => Op.bytesLess y x = false := by
  have := List.pairwise_mergeSort (le := fun x y : List UInt8 => decide (x ≤ y)) (fun a b c h k => by
    simp only [le_less, Bool.not_eq_true'] at h k ⊢
    exact nless_trans h k) (fun a b => by
    simp only [le_less]
    cases h : Op.bytesLess b a
    · rfl
    · cases k : Op.bytesLess a b
      · rfl
      · have := less_trans _ _ _ h k
        rw [less_irrefl] at this; cases this) zs
  exact this.imp fun h => by simpa [le_less] using h
theorem compact_rise (d : Array (List UInt8)) (h : ∀ i j, i < j → j < d.size → Op.bytesLess d[j]! d[i]! = false) : ∀ m, m ≤ d.size → (Lib.compactUpTo d m).Pairwise (fun x y => Op.bytesLess x y = true) ∧ (∀ x, x ∈ Lib.compactUpTo d m ↔ ∃ j, j < m ∧ d[j]! = x) ∧ (Lib.compactUpTo d m).length ≤ m
  | 0, _ => by simp [Lib.compactUpTo]
  | m + 1, hm => by
    obtain ⟨h1, h2, h3⟩ := compact_rise d h m (by omega)
    rw [Lib.compactUpTo_succ]
    by_cases hk : Lib.keeps d m = true
    · rw [if_pos hk]
      refine ⟨?_, fun x => ?_, by simp; omega⟩
      · rw [List.pairwise_append]
        refine ⟨h1, by simp, fun x hx y hy => ?_⟩
        simp only [List.mem_cons, List.not_mem_nil, or_false] at hy
        subst hy
        obtain ⟨j, hj, rfl⟩ := (h2 x).1 hx
        have hne : d[m]! ≠ d[m - 1]! := by
          unfold Lib.keeps at hk
          rw [decide_eq_true_eq] at hk
          rcases hk with hk | hk
          · omega
          · exact hk
        have h4 : Op.bytesLess d[m - 1]! d[m]! = true := less_flip _ _ hne (h (m - 1) m (by omega) (by omega))
        by_cases e : j = m - 1
        · rw [e]; exact h4
        · have h5 := h j (m - 1) (by omega) (by omega)
          by_cases e' : d[j]! = d[m - 1]!
          · rw [e']; exact h4
          · exact less_trans _ _ _ (less_flip _ _ (Ne.symm e') h5) h4
      · rw [List.mem_append, h2]
        simp only [List.mem_cons, List.not_mem_nil, or_false]
        constructor
        · rintro (⟨j, hj, rfl⟩ | rfl)
          · exact ⟨j, by omega, rfl⟩
          · exact ⟨m, by omega, rfl⟩
        · rintro ⟨j, hj, rfl⟩
          by_cases e : j = m
          · subst e; exact Or.inr rfl
          · exact Or.inl ⟨j, by omega, rfl⟩
    · rw [if_neg hk, List.append_nil]
      refine ⟨h1, fun x => ?_, by omega⟩
      rw [h2]
      constructor
      · rintro ⟨j, hj, rfl⟩
        exact ⟨j, by omega, rfl⟩
      · rintro ⟨j, hj, rfl⟩
        by_cases e : j = m
        · subst e
          unfold Lib.keeps at hk
          rw [decide_eq_true_eq] at hk
          have h0 : j ≠ 0 := fun e => hk (Or.inl e)
          refine ⟨j - 1, by omega, ?_⟩
          cases Decidable.em (d[j]! = d[j - 1]!) with
          | inl e => exact e.symm
          | inr e => exact absurd (Or.inr e) hk
        · exact ⟨j, by omega, rfl⟩
/-- What Sort and Compact leave of some names. -/
theorem names_of (zs : List (List UInt8)) : (Lib.compact (zs.mergeSort fun x y => decide (x ≤ y))).Pairwise (fun x y => Op.bytesLess x y = true) ∧ (∀ x, x ∈ Lib.compact (zs.mergeSort fun x y => decide (x ≤ y)) ↔ x ∈ zs) ∧ (Lib.compact (zs.mergeSort fun x y => decide (x ≤ y))).length ≤ zs.length := by
  have hs := sorted_of zs
  have hp := List.mergeSort_perm zs (fun x y => decide (x ≤ y))
  generalize hg : (zs.mergeSort fun x y => decide (x ≤ y)) = ys at hs hp ⊢
  have hsz : ys.toArray.size = ys.length := by simp
  obtain ⟨h1, h2, h3⟩ := compact_rise ys.toArray (fun i j hij hj => by
    have hj' : j < ys.length := by simpa using hj
    have := List.pairwise_iff_getElem.1 hs i j (by omega) hj' hij
    simpa [hj', show i < ys.length by omega] using this) ys.length (by simp)
  refine ⟨h1, fun x => ?_, by have := hp.length_eq; unfold Lib.compact; omega⟩
  unfold Lib.compact
  rw [h2, ← hp.mem_iff, List.mem_iff_getElem]
  constructor
  · rintro ⟨j, hj, rfl⟩
    exact ⟨j, hj, by simp [hj]⟩
  · rintro ⟨j, hj, rfl⟩
    exact ⟨j, hj, by simp [hj]⟩
end Go.Proofs.YtihilcffmdjhhalGreat

namespace Go.Proofs
open Go.Shelf
def Tryz.lays190_ren : Go.Shelf.Ren := ⟨fun | 190 => 63 | 125 => 111 | 258 => 110 | 128 => 151 | 129 => 152 | 302 => 142 | 303 => 143 | 304 => 144 | 305 => 145 | 306 => 146 | 307 => 147 | 308 => 148 | 309 => 149 | 310 => 150 | 333 => 160 | 329 => 161 | 330 => 162 | 334 => 163 | 335 => 164 | 336 => 165 | 344 => 169 | n => n, fun | 31 => 29 | 9 => 9 | 3 => 3 | 46 => 157 | 0 => 0 | 51 => 198 | 53 => 200 | 4 => 4 | 183 => 191 | 182 => 190 | 131 => 112 | 5 => 5 | 218 => 211 | 222 => 215 | 228 => 220 | 229 => 221 | n => n, fun | n => n⟩
theorem Tryz.lays190 : Go.Proofs.Lays.n190 Tryz.prog Tryz.lays190_ren := {
  mixed := by kernel_rfl
  f125 := Tryz.func111.trans (congrArg some (by kernel_rfl))
  f128 := Tryz.func151.trans (congrArg some (by kernel_rfl))
  f129 := Tryz.func152.trans (congrArg some (by kernel_rfl))
  f190 := Tryz.func63.trans (congrArg some (by kernel_rfl))
  f258 := Tryz.func110.trans (congrArg some (by kernel_rfl))
  f302 := Tryz.func142.trans (congrArg some (by kernel_rfl))
  f303 := Tryz.func143.trans (congrArg some (by kernel_rfl))
  f304 := Tryz.func144.trans (congrArg some (by kernel_rfl))
  f305 := Tryz.func145.trans (congrArg some (by kernel_rfl))
  f306 := Tryz.func146.trans (congrArg some (by kernel_rfl))
  f307 := Tryz.func147.trans (congrArg some (by kernel_rfl))
  f308 := Tryz.func148.trans (congrArg some (by kernel_rfl))
  f309 := Tryz.func149.trans (congrArg some (by kernel_rfl))
  f310 := Tryz.func150.trans (congrArg some (by kernel_rfl))
  f329 := Tryz.func161.trans (congrArg some (by kernel_rfl))
  f330 := Tryz.func162.trans (congrArg some (by kernel_rfl))
  f333 := Tryz.func160.trans (congrArg some (by kernel_rfl))
  f334 := Tryz.func163.trans (congrArg some (by kernel_rfl))
  f335 := Tryz.func164.trans (congrArg some (by kernel_rfl))
  f336 := Tryz.func165.trans (congrArg some (by kernel_rfl))
  f344 := Tryz.func169.trans (congrArg some (by kernel_rfl))
  t0 := Tryz.underlying0
  a0 := Tryz.isAgg0
  z0 := Tryz.sizeOf0
  v0 := Tryz.zeroValue0
  t3 := Tryz.underlying3
  a3 := Tryz.isAgg3
  z3 := Tryz.sizeOf3
  v3 := Tryz.zeroValue3
  t4 := Tryz.underlying4
  a4 := Tryz.isAgg4
  z4 := Tryz.sizeOf4
  v4 := Tryz.zeroValue4
  t5 := Tryz.underlying5
  a5 := Tryz.isAgg5
  z5 := Tryz.sizeOf5
  v5 := Tryz.zeroValue5
  t9 := Tryz.underlying9
  a9 := Tryz.isAgg9
  z9 := Tryz.sizeOf9
  v9 := Tryz.zeroValue9
  t31 := Tryz.underlying29
  a31 := Tryz.isAgg29
  z31 := Tryz.sizeOf29
  v31 := Tryz.zeroValue29
  t46 := Tryz.underlying157
  a46 := Tryz.isAgg157
  z46 := Tryz.sizeOf157
  v46 := Tryz.zeroValue157
  t51 := Tryz.underlying198
  a51 := Tryz.isAgg198
  z51 := Tryz.sizeOf198
  v51 := Tryz.zeroValue198
  t53 := Tryz.underlying200
  a53 := Tryz.isAgg200
  z53 := Tryz.sizeOf200
  v53 := Tryz.zeroValue200
  t131 := Tryz.underlying112
  a131 := Tryz.isAgg112
  z131 := Tryz.sizeOf112
  v131 := Tryz.zeroValue112
  t182 := Tryz.underlying190
  a182 := Tryz.isAgg190
  z182 := Tryz.sizeOf190
  v182 := Tryz.zeroValue190
  t183 := Tryz.underlying191
  a183 := Tryz.isAgg191
  z183 := Tryz.sizeOf191
  v183 := Tryz.zeroValue191
  t218 := Tryz.underlying211
  a218 := Tryz.isAgg211
  z218 := Tryz.sizeOf211
  v218 := Tryz.zeroValue211
  t222 := Tryz.underlying215
  a222 := Tryz.isAgg215
  z222 := Tryz.sizeOf215
  v222 := Tryz.zeroValue215
  t228 := Tryz.underlying220
  a228 := Tryz.isAgg220
  z228 := Tryz.sizeOf220
  v228 := Tryz.zeroValue220
  t229 := Tryz.underlying221
  a229 := Tryz.isAgg221
  z229 := Tryz.sizeOf221
  v229 := Tryz.zeroValue221 }
def Tryz.lays194_ren : Go.Shelf.Ren := ⟨fun | 194 => 64 | n => n, fun | 31 => 29 | 9 => 9 | 3 => 3 | 4 => 4 | 0 => 0 | n => n, fun | n => n⟩
theorem Tryz.lays194 : Go.Proofs.Lays.n194 Tryz.prog Tryz.lays194_ren := {
  mixed := by kernel_rfl
  f194 := Tryz.func64.trans (congrArg some (by kernel_rfl))
  t0 := Tryz.underlying0
  a0 := Tryz.isAgg0
  z0 := Tryz.sizeOf0
  v0 := Tryz.zeroValue0
  t3 := Tryz.underlying3
  a3 := Tryz.isAgg3
  z3 := Tryz.sizeOf3
  v3 := Tryz.zeroValue3
  t4 := Tryz.underlying4
  a4 := Tryz.isAgg4
  z4 := Tryz.sizeOf4
  v4 := Tryz.zeroValue4
  t9 := Tryz.underlying9
  a9 := Tryz.isAgg9
  z9 := Tryz.sizeOf9
  v9 := Tryz.zeroValue9
  t31 := Tryz.underlying29
  a31 := Tryz.isAgg29
  z31 := Tryz.sizeOf29
  v31 := Tryz.zeroValue29 }
end Go.Proofs

namespace Go.Proofs.YtihilcffmdjhhalGreat
open Go.ChangeShapes Go.WideShapes Go.ChangeAt Go.RowKit

theorem zeroTabs (n : Nat) (w : World) (h0 : 0 < n) (hn : n ≤ 1000) : ∃ c u, (Builtin.append_ #[31, 3] 31 #[.slice none 0 0, .int .i64 n]).run Tryz.prog w = .ok (.slice (some ⟨w.heap.size, 0, none⟩) n c) u ∧ n ≤ c ∧ c ≤ 9223372036854775807 ∧ Below w.heap.size w u ∧ Got u w.heap.size 68 3 (.slice (some ⟨w.heap.size, 0, none⟩) 0 c) [] := by
  obtain ⟨i, hi, hzz⟩ := Option.map_eq_some_iff.1 infoTab
  simp only [Prod.mk.injEq] at hzz
  obtain ⟨hz0, hz1, hz2⟩ := hzz
  have h1 : n ≤ maxLen := by unfold maxLen; omega
  have h2 := grownCap_le_maxLen w n 0 68 h1
  have h3 := grownCap_ge w n 0 68
  have h4 : n * i.bytes ≤ 281474976710656 := by rw [hz2]; omega
  have h5 : 0 < i.size := by rw [hz1]; decide
  have h6 : (n : Int) ≤ 9223372036854775807 := by omega
  have hrun := Lib.run_append_nil_zeros w 31 3 31 68 i _ .i64 .i64 Tryz.underlying31 Tryz.underlying3 hi hz0 n h0 h5 h6 h4
  have hcs : (Value.agg #[.string ByteArray.empty, .slice none 0 0, .slice none 0 0]).cells.size = 3 := rfl
  have h7 : (Builtin.zeroCells (Value.agg #[.string ByteArray.empty, .slice none 0 0, .slice none 0 0]).cells n ++ Builtin.zeroCells (Value.agg #[.string ByteArray.empty, .slice none 0 0, .slice none 0 0]).cells (grownCap w n 0 68 - n)).size = grownCap w n 0 68 * 3 := by
    rw [Array.size_append, size_zeroCells, size_zeroCells, hcs, ← Nat.add_mul]
    have : n + (grownCap w n 0 68 - n) = grownCap w n 0 68 := by omega
    rw [this]
  generalize Builtin.zeroCells (Value.agg #[.string ByteArray.empty, .slice none 0 0, .slice none 0 0]).cells n ++ Builtin.zeroCells (Value.agg #[.string ByteArray.empty, .slice none 0 0, .slice none 0 0]).cells (grownCap w n 0 68 - n) = cur at hrun h7
  generalize grownCap w n 0 68 = c at hrun h7 h2 h3
  have hd : Below w.heap.size w w.drew := ⟨rfl, rfl, rfl, Nat.le_refl _, fun _ _ => rfl⟩
  have hG : Got (w.drew.alloc (.cells cur 68)) w.heap.size 68 3 (.slice (some ⟨w.heap.size, 0, none⟩) 0 c) [] := ⟨fun x h => by simp at h, by simp, Or.inr ⟨w.heap.size, c, cur, rfl, Nat.le_refl _, Own.new w.drew _ _, Nat.zero_le _, h2, h7, by simp⟩⟩
  exact ⟨c, _, hrun, h3, by unfold maxLen at h2; omega, hd.trans (Below.mono (ch_alloc (Below.refl _ _) _) hd.size), hG⟩

set_option maxRecDepth 100000 in
set_option maxHeartbeats 4000000 in
/-- slices.Grow of no tables -/
theorem growTabs (n : Nat) (w : World) (hn : n ≤ 1000) :
    Calls Tryz.prog 109 #[.slice none 0 0, .int .i64 n] w fun e w' => ∃ kv, e = .returned kv ∧ Below w.heap.size w w' ∧ Got w' w.heap.size 68 3 kv [] := by
  by_cases h0 : n = 0
  · subst h0
    go_enter Tryz.func109, Tryz.ntmps109
    go_wp2
    go_ret
    exact ⟨_, rfl, Below.refl _ _, Got.nil _ _ _ _⟩
  · have h1 : decide ((n : Int) < 0) = false := by simp
    have h2 : (0 : Int) < n := by omega
    obtain ⟨c, u, hr, g1, g2, g3, g4⟩ := zeroTabs n w (by omega) hn
    have HR : Hid ((Builtin.append_ #[31, 3] 31 #[.slice none 0 0, .int .i64 n]).run Tryz.prog w = .ok (.slice (some ⟨w.heap.size, 0, none⟩) n c) u) := hr
    have HG : Hid (Got u w.heap.size 68 3 (.slice (some ⟨w.heap.size, 0, none⟩) 0 c) []) := g4
    clear hr g4
    go_enter Tryz.func109, Tryz.ntmps109
    go_wp2_with (at_builtin; refine Lib.wpList_append_run _ rfl (.tmp 20) (.tmp 21) 31 3 rfl _ _ rfl rfl _ _ HR.out ?_)
    go_ret
    exact ⟨_, rfl, g3, HG.out⟩

set_option maxRecDepth 100000 in
set_option maxHeartbeats 4000000 in
/-- slices.Concat of two lists of tables -/
theorem concatTabs (av bv : Value) (ts us : List Tc) (w : World) (ha : TabsV w av ts) (hb : TabsV w bv us) (h1 : ts.length ≤ 6) (h2 : us.length ≤ 6) (m c : Nat) (hx : Loc w m #[av, bv]) :
    Calls Tryz.prog 62 #[.slice (some ⟨m, 0, none⟩) 2 c] w fun e w' => ∃ kv, e = .returned kv ∧ Below w.heap.size w w' ∧ TabsV w' kv (ts ++ us) := by
  obtain ⟨a, p, rfl, hl, hm⟩ := ha.lit
  obtain ⟨b, q, rfl, hl2, hm2⟩ := hb.lit
  unfold maxLen at hm hm2
  obtain ⟨xs, hxl, hxr, hx1, hxt⟩ := ha.row
  obtain ⟨ys, hyl, hyr, hy1, hyt⟩ := hb.row
  have HX : Hid (RowAt w a 3 xs ∧ RowAt w b 3 ys) := ⟨hxr, hyr⟩
  have HX1 : Hid ((∀ x ∈ xs, ∀ u ∈ x.toList, u.oneCell' = true) ∧ (∀ x ∈ ys, ∀ u ∈ x.toList, u.oneCell' = true)) := ⟨hx1, hy1⟩
  have HXT : Hid ((∀ i (h : i < xs.length) (g : i < ts.length), TabV w xs[i] ts[i]) ∧ ∀ i (h : i < ys.length) (g : i < us.length), TabV w ys[i] us[i]) := ⟨hxt, hyt⟩
  have HL : Hid (Loc w m #[.slice a ts.length p, .slice b us.length q]) := hx
  obtain ⟨l0, l1⟩ := hx.two
  clear ha hb hxr hyr hx1 hy1 hxt hyt hx
  have hns : decide ((ts.length : Int) < 0) = false := by simp
  have hnu : decide (((ts.length + us.length : Nat) : Int) < 0) = false := decide_eq_false (by omega)
  go_enter Tryz.func62, Tryz.ntmps62
  go_wp2
  go_loopw [3, 11] (fun z i wr => wr = w ∧ ((z = .int .i64 0 ∧ i = .int .i64 0) ∨ (z = .int .i64 ts.length ∧ i = .int .i64 1) ∨ (z = .int .i64 ((ts.length + us.length : Nat) : Int) ∧ i = .int .i64 2))) (fun _ i _ => 2 - (intOf i).toNat)
  case atStart => exact ⟨rfl, Or.inl ⟨rfl, rfl⟩⟩
  case round =>
    obtain ⟨hw, h⟩ := hrel
    have hw := hw.symm
    subst hw
    rcases h with ⟨rfl, rfl⟩ | ⟨rfl, rfl⟩ | ⟨rfl, rfl⟩
    · go_wp2
      go_round
      case rel => exact ⟨by trivial, Or.inr (Or.inl ⟨by go_num, rfl⟩)⟩
      case measure => simp [intOf]
    · go_wp2
      go_round
      case rel => exact ⟨by trivial, Or.inr (Or.inr ⟨by go_num, rfl⟩)⟩
      case measure => simp [intOf]
    · go_wp2_with fail
      refine (growTabs (ts.length + us.length) _ (by omega)).mono ?_
      rintro e w1 ⟨kv, rfl, b1, hg⟩
      obtain ⟨ka, kn, kc, rfl, hg⟩ := hg.lit2
      have HG1 : Hid (Got w1 w.heap.size 68 3 (.slice ka kn kc) []) := hg
      clear hg l0 l1
      go_wp2
      go_loopw [6, 27] (fun z i wq => Below w.heap.size w wq ∧ ((Hid (Got wq w.heap.size 68 3 z []) ∧ i = .int .i64 0) ∨ (Hid (Got wq w.heap.size 68 3 z xs) ∧ i = .int .i64 1) ∨ (Hid (Got wq w.heap.size 68 3 z (xs ++ ys)) ∧ i = .int .i64 2))) (fun _ i _ => 2 - (intOf i).toNat)
      case atStart => exact ⟨b1, Or.inl ⟨HG1, rfl⟩⟩
      case round =>
        obtain ⟨hb, h⟩ := hrel
        obtain ⟨l0, l1⟩ := (HL.out.on hb).two
        rcases h with ⟨HG, rfl⟩ | ⟨HG, rfl⟩ | ⟨HG, rfl⟩
        · obtain ⟨za, zn, zc, rfl, hg⟩ := HG.out.lit2
          go_wp2_with (at_builtin; refine app_list rfl (.tmp 31) (.tmp 32) rfl Tryz.underlying31 infoTab rfl (by decide) (by decide) w.heap.size _ [] rfl hg a p xs ts.length hxl.symm rfl (HX.out.1.on hb) HX1.out.1 (by simp; omega) hb.size ?_; intro v' w2 hg2 hb2)
          have HG2 : Hid (Got w2 w.heap.size 68 3 v' xs) := hg2
          have hb3 := hb.trans hb2
          go_round
          case rel => exact ⟨hb3, Or.inr (Or.inl ⟨HG2, rfl⟩)⟩
          case measure => simp [intOf]
        · obtain ⟨za, zn, zc, rfl, hg⟩ := HG.out.lit2
          go_wp2_with (at_builtin; refine app_list rfl (.tmp 31) (.tmp 32) rfl Tryz.underlying31 infoTab rfl (by decide) (by decide) w.heap.size _ xs rfl hg b q ys us.length hyl.symm rfl (HX.out.2.on hb) HX1.out.2 (by omega) hb.size ?_; intro v' w2 hg2 hb2)
          have HG2 : Hid (Got w2 w.heap.size 68 3 v' (xs ++ ys)) := hg2
          have hb3 := hb.trans hb2
          go_round
          case rel => exact ⟨hb3, Or.inr (Or.inr ⟨HG2, rfl⟩)⟩
          case measure => simp [intOf]
        · have HT := TabsV.both HG.out hxl hyl (fun i h g => (HXT.out.1 i h g).on hb) (fun i h g => (HXT.out.2 i h g).on hb)
          go_wp2
          go_ret
          exact ⟨_, rfl, hb, HT⟩
end Go.Proofs.YtihilcffmdjhhalGreat

namespace Go.Proofs.YtihilcffmdjhhalGreat
open Go.ChangeShapes Go.WideShapes Go.ChangeAt Go.RowKit Go.Sort

abbrev letters (s : ByteArray) : List UInt8 := s.data.toList
theorem enc_letters (s : ByteArray) : encStr (letters s) = .string s := by simp [encStr, letters]
theorem flat_strs : ∀ l : List ByteArray, (l.map strX).flatMap Array.toList = l.map Value.string
  | [] => rfl
  | s :: l => by simp [flat_strs l]
theorem Got.holds {w : World} {B : Nat} {T : TypeId} {v : Value} {l : List ByteArray} (h : Got w B T 1 v (l.map strX)) : (v = .slice none 0 0 ∧ l = []) ∨ ∃ g cap, v = .slice (some ⟨g, 0, none⟩) l.length cap ∧ B ≤ g ∧ g < w.heap.size ∧ l.length ≤ cap ∧ cap ≤ maxLen ∧ Holds encStr w g 0 (l.map letters).toArray := by
  obtain ⟨h0, h1, h2⟩ := h
  rcases h2 with ⟨rfl, hn⟩ | ⟨g, cap, cur, rfl, hb, hg, hc1, hc2, hs, ht⟩
  · exact Or.inl ⟨rfl, by simpa using hn⟩
  · refine Or.inr ⟨g, cap, by simp, hb, (Array.getElem?_eq_some_iff.1 hg).1, by simpa using hc1, hc2, fun j hj => ?_⟩
    have hj' : j < l.length := by simpa using hj
    have hO : Own w g T cur := hg
    refine ⟨?_, ?_⟩
    · have e1 : (l.map letters).toArray[j]! = letters l[j] := by simp [hj']
      rw [e1, enc_letters]
      have e2 : (cur.toList.take ((l.map strX).length * 1))[j]? = some (.string l[j]) := by
        rw [ht, flat_strs]; simp [hj']
      rw [List.getElem?_take] at e2
      rw [if_pos (by simp; omega)] at e2
      rw [Nat.zero_add]
      unfold World.cell?
      simp only [hg]
      simpa using e2
    · rw [Nat.zero_add]; exact hO.frozen j
theorem put_below {w : World} {g : Nat} (hg : g < w.heap.size) (n : Nat) (D : Array (List UInt8)) (os : Array Obj) : Below g w (grow (putRow encStr (Sort.ahead w n) g 0 D) os) := by
  refine ⟨rfl, rfl, rfl, by simp, fun k hk => ?_⟩
  simp [grow, putRow, mapBlock, Array.getElem?_append, Array.getElem?_modify]
  rw [if_pos (by omega), if_neg (by omega)]
theorem put_below0 {w : World} {g : Nat} (hg : g < w.heap.size) (n : Nat) (D : Array (List UInt8)) : Below g w (putRow encStr (Sort.ahead w n) g 0 D) := by
  have := put_below hg n D #[]
  rwa [grow_empty] at this
abbrev word (l : List UInt8) : ByteArray := ⟨l.toArray⟩
theorem Holds.row {w : World} {g : Nat} {ns : List (List UInt8)} {zs : List (List UInt8)} (h : Holds encStr w g 0 (ns ++ zs).toArray) : RowAt w (some ⟨g, 0, none⟩) 1 ((ns.map word).map strX) := by
  refine ⟨fun x hx => by simp at hx; obtain ⟨_, _, rfl⟩ := hx; rfl, Or.inr ⟨g, 0, rfl, fun i hi j hj => ?_⟩⟩
  have hi' : i < ns.length := by simpa using hi
  obtain rfl : j = 0 := by omega
  have := (h i (by simp; omega)).1
  have e : (ns ++ zs).toArray[i]! = ns[i] := by simp [List.getElem?_append, hi']
  rw [e] at this
  simpa using this
/-- The names that Sort and Compact leave. -/
theorem names_rise (l : List ByteArray) : rising ((Lib.compact ((l.map letters).mergeSort fun x y => decide (x ≤ y))).map word) ∧ (∀ x, x ∈ (Lib.compact ((l.map letters).mergeSort fun x y => decide (x ≤ y))).map word ↔ x ∈ l) ∧ (Lib.compact ((l.map letters).mergeSort fun x y => decide (x ≤ y))).length ≤ l.length := by
  obtain ⟨h1, h2, h3⟩ := names_of (l.map letters)
  refine ⟨?_, fun x => ?_, by simpa using h3⟩
  · unfold rising
    rw [List.pairwise_map]
    exact h1.imp fun {a b} h => by
      show Op.bytesLess (word a).toList (word b).toList = true
      rw [ByteArray.toList_eq, ByteArray.toList_eq]
      simpa [word] using h
  · rw [List.mem_map]
    constructor
    · rintro ⟨y, hy, rfl⟩
      obtain ⟨z, hz, rfl⟩ := List.mem_map.1 ((h2 y).1 hy)
      simpa [word, letters] using hz
    · intro hx
      exact ⟨letters x, (h2 _).2 (List.mem_map.2 ⟨x, hx, rfl⟩), by simp [word, letters]⟩
theorem sortNames (g cap n : Nat) (zs : List (List UInt8)) (hn : zs.length = n) (w : World) (hH : Holds encStr w g 0 zs.toArray) (hg : g < w.heap.size) (hl : n ≤ 1000) :
    Calls Tryz.prog 63 #[.slice (some ⟨g, 0, none⟩) n cap] w fun e w' => e = .returned (.tuple #[]) ∧ RowKit.Below g w w' ∧ Holds encStr w' g 0 (zs.mergeSort fun x y => decide (x ≤ y)).toArray ∧ g < w'.heap.size := by
  subst hn
  refine (Any.slices_Sort_string Tryz.lays190 g 0 cap zs w hH hg (by omega)).mono ?_
  rintro e w' ⟨rfl, m, os, rfl⟩
  refine ⟨rfl, put_below hg m _ os, holds_grow _ _ _ _ _ _ (by simpa using hg) (holds_putRow _ _ _ _ zs.toArray _ (holds_ahead _ _ _ _ _ _ hH) (by simp)), by simp; omega⟩
theorem sortNone (p : Option Addr) (cap : Nat) (w : World) : Calls Tryz.prog 63 #[.slice p 0 cap] w fun e w' => e = .returned (.tuple #[]) ∧ w' = w :=
  calls_of_every_depth fun D => AnyS.slices_Sort_string_none_alone Tryz.lays190 D p cap w
theorem compNames (g cap n : Nat) (zs : List (List UInt8)) (hn : zs.length = n) (w : World) (hH : Holds encStr w g 0 zs.toArray) (hg : g < w.heap.size) (hl : n ≤ 1000) (hc : n ≤ cap) :
    Calls Tryz.prog 64 #[.slice (some ⟨g, 0, none⟩) n cap] w fun e w' => e = .returned (.slice (some ⟨g, 0, none⟩) (Lib.compact zs).length cap) ∧ RowKit.Below g w w' ∧ RowAt w' (some ⟨g, 0, none⟩) 1 (((Lib.compact zs).map word).map strX) := by
  subst hn
  refine (Any.slices_Compact_string Tryz.lays194 g 0 cap zs w hH (by omega) hc).mono ?_
  rintro e w' ⟨rfl, m, rfl⟩
  have hle : (Lib.compact zs).length ≤ zs.length := by
    unfold Lib.compact Lib.compactUpTo
    rw [List.length_map]
    exact Nat.le_trans (List.length_filter_le _ _) (by simp)
  refine ⟨rfl, put_below0 hg m _, Holds.row (holds_putRow _ _ _ _ zs.toArray _ (holds_ahead _ _ _ _ _ _ hH) (by simp; omega))⟩
theorem compNone (p : Option Addr) (cap : Nat) (w : World) : Calls Tryz.prog 64 #[.slice p 0 cap] w fun e w' => e = .returned (.slice p 0 cap) ∧ w' = w :=
  Any.slices_Compact_string_empty Tryz.lays194 p cap w
end Go.Proofs.YtihilcffmdjhhalGreat
