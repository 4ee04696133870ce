/- One statement of a call's own marked and held, by its places. The places of parts of a call's own; a batch marked and held. -/
import Derived.Test.YtiijahoheajppaaGreatGp
import Derived.Test.YtiijahoheajppaaGreatRs2
import Derived.Test.YtiijahoheajppaaGreatPop
namespace Go.Proofs.YtiijahoheajppaaGreat
open Go.ChangeShapes Go.WideShapes Go.ChangeAt Go.RowKit

theorem Mk.front {w u wr : World} {k : Nat} {ps : List Plc} (b : Below w.heap.size w u) (g : Mk u wr k ps) : Mk w wr k ps := by
  have := ((Mk.refl w k).below b).trans (qs := ps) (wr := wr) (by simpa using g) (by simp) (by simp)
  simpa using this
theorem Mk.loc {w wr : World} {k b : Nat} {ps : List Plc} {x : Array Value} (h : Mk w wr k ps) (hl : Loc w b x) (hb : b < w.heap.size) (hn : ∀ p ∈ ps, p.1.block ≠ b) : Loc wr b x := fun j hj =>
  (h.cell ⟨b, j, none⟩ hb fun hm => by
    obtain ⟨p, hp, e⟩ := List.mem_map.1 hm
    exact hn p hp (by rw [e])).trans (hl j hj)
theorem Marked.split {w : World} {k : Nat} {ps qs : List Plc} (h : Marked w k (ps ++ qs)) : Marked w k ps ∧ Marked w (k + ps.length) qs := by
  refine ⟨fun j hj => ?_, fun j hj => ?_⟩
  · have := h j (by simp; omega)
    rwa [List.getElem_append_left hj] at this
  · have := h (ps.length + j) (by simp; omega)
    rw [List.getElem_append_right (by omega)] at this
    simpa [Nat.add_assoc] using this
theorem ValsP.lay : Lay ValsP := leaves_lay _ _
theorem ColsP.lay : Lay ColsP := leaves_lay _ _
theorem StrsP.lay : Lay StrsP := leaves_lay _ _

set_option maxRecDepth 100000 in
/-- laws.markRow -/
theorem markRow_pl {w : World} {v : Value} {ps : List Plc} (h : ValsP w v ps) (k : Nat) (hk : k ≤ 1000000000000000000) :
    Calls Tryz.prog 50 #[.agg #[v], .int .i64 k] w fun e w' => e = .returned (.int .i64 ((k + ps.length : Nat) : Int)) ∧ Mk w w' k ps := by
  obtain ⟨a, n, c, rfl⟩ := RowP.lit h
  have hb : Below w.heap.size w (w.alloc (.cells #[.slice a n c] 42)) := ch_alloc (Below.refl _ _) _
  have HM : Hid (Calls Tryz.prog 49 #[.slice a n c, .int .i64 k] (w.alloc (.cells #[.slice a n c] 42)) fun e w' => e = .returned (.int .i64 ((k + ps.length : Nat) : Int)) ∧ Mk (w.alloc (.cells #[.slice a n c] 42)) w' k ps) := markValS_pl (ValsP.lay.2 (fun _ => False) _ _ _ _ ((Marks.refl _ w).below hb) h) k (by omega)
  clear h
  generalize k + ps.length = K at HM ⊢
  go_enter Tryz.func50, Tryz.ntmps50
  go_wp2_with fail
  refine HM.out.mono ?_
  rintro e w1 ⟨rfl, hm⟩
  have HK : Hid (Mk w w1 k ps) := Mk.front hb hm
  clear hm HM
  go_wp2
  go_ret
  exact ⟨rfl, HK.out⟩

set_option maxRecDepth 100000 in
/-- laws.heldRow -/
theorem heldRow_pl {w : World} {v : Value} {ps : List Plc} (h : ValsP w v ps) (k : Nat) (hk : k ≤ 1000000000000000000) (hm : Marked w k ps) :
    Calls Tryz.prog 53 #[.agg #[v], .int .i64 k] w fun e w' => e = .returned (.int .i64 ((k + ps.length : Nat) : Int)) ∧ Below w.heap.size w w' := by
  obtain ⟨a, n, c, rfl⟩ := RowP.lit h
  have hb : Below w.heap.size w (w.alloc (.cells #[.slice a n c] 42)) := ch_alloc (Below.refl _ _) _
  have HM : Hid (Calls Tryz.prog 52 #[.slice a n c, .int .i64 k] (w.alloc (.cells #[.slice a n c] 42)) fun e w' => e = .returned (.int .i64 ((k + ps.length : Nat) : Int)) ∧ Below (w.alloc (.cells #[.slice a n c] 42)).heap.size (w.alloc (.cells #[.slice a n c] 42)) w') := heldValS_pl (ValsP.lay.2 (fun _ => False) _ _ _ _ ((Marks.refl _ w).below hb) h) k (by omega) (hm.on hb)
  have hK : decide (((k + ps.length : Nat) : Int) < 0) = false := by simp; omega
  clear h hm
  generalize k + ps.length = K at HM hK ⊢
  go_enter Tryz.func53, Tryz.ntmps53
  go_wp2_with fail
  refine HM.out.mono ?_
  rintro e w1 ⟨rfl, hm⟩
  have HK : Hid (Below w.heap.size w w1) := ch_trans hb hm
  clear hm HM
  go_wp2
  go_ret
  exact ⟨rfl, HK.out⟩

set_option maxRecDepth 100000 in
set_option maxHeartbeats 1000000 in
/-- laws.markDdl -/
theorem markDdl_pl {w : World} {dk : Int} {dt dn dto : ByteArray} {c o : Value} {ps qs : List Plc} (hc : ColsP w c ps) (ho : StrsP w o qs) (hn : ((ps ++ qs).map (·.1)).Nodup) (k : Nat) (hk : k ≤ 1000000000000000000) :
    Calls Tryz.prog 51 #[.agg #[.int .i64 dk, .string dt, c, o, .string dn, .string dto], .int .i64 k] w fun e w' => e = .returned (.int .i64 ((k + (ps ++ qs).length : Nat) : Int)) ∧ Mk w w' k (ps ++ qs) := by
  obtain ⟨a, n, x, rfl⟩ := RowP.lit hc
  obtain ⟨a', n', x', rfl⟩ := RowP.lit ho
  have hpl := ColsP_len hc
  have hpb := ColsP.lay.1 _ _ _ hc
  have hb : Below w.heap.size w (w.alloc (.cells #[.int .i64 dk, .string dt, .slice a n x, .slice a' n' x', .string dn, .string dto] 46)) := ch_alloc (Below.refl _ _) _
  have hL := Loc.new w #[.int .i64 dk, .string dt, .slice a n x, .slice a' n' x', .string dn, .string dto] 46
  have HC : Hid (ColsP (w.alloc (.cells #[.int .i64 dk, .string dt, .slice a n x, .slice a' n' x', .string dn, .string dto] 46)) (.slice a n x) ps) := ColsP.lay.2 (fun _ => False) _ _ _ _ ((Marks.refl _ w).below hb) hc
  have HO : Hid (StrsP (w.alloc (.cells #[.int .i64 dk, .string dt, .slice a n x, .slice a' n' x', .string dn, .string dto] 46)) (.slice a' n' x') qs) := StrsP.lay.2 (fun _ => False) _ _ _ _ ((Marks.refl _ w).below hb) ho
  have hz : (w.alloc (.cells #[.int .i64 dk, .string dt, .slice a n x, .slice a' n' x', .string dn, .string dto] 46)).heap.size = w.heap.size + 1 := by simp
  clear hc ho
  go_enter Tryz.func51, Tryz.ntmps51
  go_wp2_with fail
  refine (markColS_pl HC.out k (by omega)).mono ?_
  rintro e w1 ⟨rfl, hm⟩
  have hl1 := (hm.loc hL (by omega) fun p hp => by have := hpb p hp; omega).six
  obtain ⟨d0, d1, d2, d3, d4, d5⟩ := hl1
  have HO1 : Hid (StrsP w1 (.slice a' n' x') qs) := StrsP.lay.2 _ _ _ _ _ hm.marks HO.out
  have HM1 : Hid (Mk (w.alloc (.cells #[.int .i64 dk, .string dt, .slice a n x, .slice a' n' x', .string dn, .string dto] 46)) w1 k ps) := hm
  clear hm HC HO
  go_wp2_with fail
  refine (markStringS_pl HO1.out (k + ps.length) (by omega)).mono ?_
  rintro e w2 ⟨rfl, hm⟩
  have HK : Hid (Mk w w2 k (ps ++ qs)) := Mk.front hb (HM1.out.trans hm (fun p hp => by have := hpb p hp; have := HM1.out.marks.turns.size; omega) fun p hp hq => by
    rw [List.map_append, List.nodup_append] at hn
    exact hn.2.2 _ (List.mem_map.2 ⟨p, hp, rfl⟩) _ hq rfl)
  have hK : k + ps.length + qs.length = k + (ps ++ qs).length := by rw [List.length_append]; omega
  rw [hK]
  clear hm HM1 HO1 hK
  obtain ⟨K, hKd⟩ : ∃ K, k + (ps ++ qs).length = K := ⟨_, rfl⟩
  rw [hKd]
  have HKd : Hid (k + (ps ++ qs).length = K) := hKd
  clear hKd
  go_wp2
  go_ret
  exact ⟨by rw [HKd.out]; rfl, HK.out⟩

set_option maxRecDepth 100000 in
set_option maxHeartbeats 1000000 in
/-- laws.heldDdl -/
theorem heldDdl_pl {w : World} {dk : Int} {dt dn dto : ByteArray} {c o : Value} {ps qs : List Plc} (hc : ColsP w c ps) (ho : StrsP w o qs) (k : Nat) (hk : k ≤ 1000000000000000000) (hm : Marked w k (ps ++ qs)) :
    Calls Tryz.prog 54 #[.agg #[.int .i64 dk, .string dt, c, o, .string dn, .string dto], .int .i64 k] w fun e w' => e = .returned (.int .i64 ((k + (ps ++ qs).length : Nat) : Int)) ∧ Below w.heap.size w w' := by
  obtain ⟨a, n, x, rfl⟩ := RowP.lit hc
  obtain ⟨a', n', x', rfl⟩ := RowP.lit ho
  have hpl := ColsP_len hc
  have hb : Below w.heap.size w (w.alloc (.cells #[.int .i64 dk, .string dt, .slice a n x, .slice a' n' x', .string dn, .string dto] 46)) := ch_alloc (Below.refl _ _) _
  have hL := Loc.new w #[.int .i64 dk, .string dt, .slice a n x, .slice a' n' x', .string dn, .string dto] 46
  have HC : Hid (∀ u : World, Below w.heap.size w u → ColsP u (.slice a n x) ps ∧ StrsP u (.slice a' n' x') qs ∧ Marked u k ps ∧ Marked u (k + ps.length) qs) := fun u hu => ⟨ColsP.lay.2 (fun _ => False) _ _ _ _ ((Marks.refl _ w).below hu) hc, StrsP.lay.2 (fun _ => False) _ _ _ _ ((Marks.refl _ w).below hu) ho, hm.split.1.on hu, hm.split.2.on hu⟩
  have h1 : decide (((k + ps.length : Nat) : Int) < 0) = false := by simp; omega
  clear hc ho hm
  go_enter Tryz.func54, Tryz.ntmps54
  go_wp2_with fail
  refine (heldColS_pl (HC.out _ hb).1 k (by omega) (HC.out _ hb).2.2.1).mono ?_
  rintro e w1 ⟨rfl, b1⟩
  obtain ⟨d0, d1, d2, d3, d4, d5⟩ := (hL.on b1).six
  have hb1 := ch_trans hb b1
  clear b1
  go_wp2_with fail
  refine (heldStringS_pl (HC.out _ hb1).2.1 (k + ps.length) (by omega) (HC.out _ hb1).2.2.2).mono ?_
  rintro e w2 ⟨rfl, b2⟩
  have hK : k + ps.length + qs.length = k + (ps ++ qs).length := by rw [List.length_append]; omega
  have h2 : decide (((k + (ps ++ qs).length : Nat) : Int) < 0) = false := by simp; omega
  rw [hK]
  have hb2 := ch_trans hb1 b2
  clear b2 HC
  obtain ⟨K, hKd⟩ : ∃ K, k + (ps ++ qs).length = K := ⟨_, rfl⟩
  rw [hKd] at h2 ⊢
  have HKd : Hid (k + (ps ++ qs).length = K) := hKd
  clear hKd
  go_wp2
  go_ret
  exact ⟨by rw [HKd.out]; rfl, hb2⟩

/-- A statement's lists, marked from k on. -/
def HeldE (w : World) (E : Est) (k : Nat) : Prop := (ValsP w E.k E.p2 ∧ ValsP w E.r E.p3 ∧ ColsP w E.c E.p6 ∧ StrsP w E.o E.p7) ∧ Marked w k (E.p2 ++ (E.p3 ++ (E.p6 ++ E.p7)))
theorem HeldE.on {w w' : World} {E : Est} {k : Nat} (h : HeldE w E k) (b : Below w.heap.size w w') : HeldE w' E k :=
  ⟨⟨ValsP.lay.2 (fun _ => False) _ _ _ _ ((Marks.refl _ w).below b) h.1.1, ValsP.lay.2 (fun _ => False) _ _ _ _ ((Marks.refl _ w).below b) h.1.2.1, ColsP.lay.2 (fun _ => False) _ _ _ _ ((Marks.refl _ w).below b) h.1.2.2.1, StrsP.lay.2 (fun _ => False) _ _ _ _ ((Marks.refl _ w).below b) h.1.2.2.2⟩, h.2.on b⟩
theorem Est.Good.parts {w : World} {E : Est} (h : E.Good w) : ValsP w E.k E.p2 ∧ ValsP w E.r E.p3 ∧ ColsP w E.c E.p6 ∧ StrsP w E.o E.p7 := by
  obtain ⟨h1, h2, h3, h4⟩ := h.reads w fun _ _ _ => rfl
  exact ⟨h1.2, h2.2, h3.2, h4.2⟩

set_option maxRecDepth 100000 in
set_option maxHeartbeats 2000000 in
/-- laws.markStmt -/
theorem markStmt_pl {w : World} {E : Est} (h : E.Good w) (k : Nat) (hk : k ≤ 100000000000000000) :
    Calls Tryz.prog 21 #[.agg E.cells, .int .i64 k] w fun e w' => e = .returned (.int .i64 ((k + (E.p2 ++ (E.p3 ++ (E.p6 ++ E.p7))).length : Nat) : Int)) ∧ Turns (fun c => E.lo ≤ c ∧ c < E.hi) w w' ∧ HeldE w' E k := by
  obtain ⟨q2, q3, q6, q7⟩ := h.parts
  have hin := h.inside
  have htop := h.top
  have hnd := h.nodup
  obtain ⟨s, vk, vr, vc, vo, p2, p3, p6, p7, lo, hi⟩ := E
  simp only [Est.pl] at hin hnd q2 q3 q6 q7 htop ⊢
  have hnd' : ((p2 ++ (p3 ++ (p6 ++ p7))).map (·.1)).Nodup := by simpa [List.append_assoc] using hnd
  have hin' : ∀ p ∈ p2 ++ (p3 ++ (p6 ++ p7)), lo ≤ p.1.block ∧ p.1.block < hi := fun p hp => hin p (by simpa [List.append_assoc] using hp)
  have n2 := hnd'
  rw [List.map_append, List.nodup_append] at n2
  have n3 := n2.2.1
  rw [List.map_append, List.nodup_append] at n3
  obtain ⟨a2, m2, c2, rfl⟩ := RowP.lit q2
  obtain ⟨a3, m3, c3, rfl⟩ := RowP.lit q3
  obtain ⟨a6, m6, c6, rfl⟩ := RowP.lit q6
  obtain ⟨a7, m7, c7, rfl⟩ := RowP.lit q7
  have l2 := ValsP_len q2
  have l3 := ValsP_len q3
  have l6 := ColsP_len q6
  have l7 := StrsP_len q7
  have hb : Below w.heap.size w (w.alloc (.cells #[.int .i64 s.kind, .string s.table, .slice a2 m2 c2, .slice a3 m3 c3, .int .i64 s.ddl.kind, .string s.ddl.table, .slice a6 m6 c6, .slice a7 m7 c7, .string s.ddl.name, .string s.ddl.to] 48)) := ch_alloc (Below.refl _ _) _
  have hL := Loc.new w #[.int .i64 s.kind, .string s.table, .slice a2 m2 c2, .slice a3 m3 c3, .int .i64 s.ddl.kind, .string s.ddl.table, .slice a6 m6 c6, .slice a7 m7 c7, .string s.ddl.name, .string s.ddl.to] 48
  have hz : (w.alloc (.cells #[.int .i64 s.kind, .string s.table, .slice a2 m2 c2, .slice a3 m3 c3, .int .i64 s.ddl.kind, .string s.ddl.table, .slice a6 m6 c6, .slice a7 m7 c7, .string s.ddl.name, .string s.ddl.to] 48)).heap.size = w.heap.size + 1 := by simp
  have HP : Hid (ValsP (w.alloc (.cells #[.int .i64 s.kind, .string s.table, .slice a2 m2 c2, .slice a3 m3 c3, .int .i64 s.ddl.kind, .string s.ddl.table, .slice a6 m6 c6, .slice a7 m7 c7, .string s.ddl.name, .string s.ddl.to] 48)) (.slice a2 m2 c2) p2 ∧ ValsP (w.alloc (.cells #[.int .i64 s.kind, .string s.table, .slice a2 m2 c2, .slice a3 m3 c3, .int .i64 s.ddl.kind, .string s.ddl.table, .slice a6 m6 c6, .slice a7 m7 c7, .string s.ddl.name, .string s.ddl.to] 48)) (.slice a3 m3 c3) p3 ∧ ColsP (w.alloc (.cells #[.int .i64 s.kind, .string s.table, .slice a2 m2 c2, .slice a3 m3 c3, .int .i64 s.ddl.kind, .string s.ddl.table, .slice a6 m6 c6, .slice a7 m7 c7, .string s.ddl.name, .string s.ddl.to] 48)) (.slice a6 m6 c6) p6 ∧ StrsP (w.alloc (.cells #[.int .i64 s.kind, .string s.table, .slice a2 m2 c2, .slice a3 m3 c3, .int .i64 s.ddl.kind, .string s.ddl.table, .slice a6 m6 c6, .slice a7 m7 c7, .string s.ddl.name, .string s.ddl.to] 48)) (.slice a7 m7 c7) p7) :=
    ⟨ValsP.lay.2 (fun _ => False) _ _ _ _ ((Marks.refl _ w).below hb) q2, ValsP.lay.2 (fun _ => False) _ _ _ _ ((Marks.refl _ w).below hb) q3, ColsP.lay.2 (fun _ => False) _ _ _ _ ((Marks.refl _ w).below hb) q6, StrsP.lay.2 (fun _ => False) _ _ _ _ ((Marks.refl _ w).below hb) q7⟩
  have HIN : Hid (∀ p ∈ p2 ++ (p3 ++ (p6 ++ p7)), lo ≤ p.1.block ∧ p.1.block < hi) := hin'
  have HND : Hid ((∀ p ∈ p2, p.1 ∉ (p3 ++ (p6 ++ p7)).map (·.1)) ∧ (∀ p ∈ p3, p.1 ∉ (p6 ++ p7).map (·.1)) ∧ ((p6 ++ p7).map (·.1)).Nodup) := ⟨fun p hp hq => n2.2.2 _ (List.mem_map.2 ⟨p, hp, rfl⟩) _ hq rfl, fun p hp hq => n3.2.2 _ (List.mem_map.2 ⟨p, hp, rfl⟩) _ hq rfl, n3.2.1⟩
  clear q2 q3 q6 q7 hin hnd hin' hnd' n2 n3 h
  go_enter Tryz.func21, Tryz.ntmps21
  go_wp2_with fail
  refine (markValS_pl HP.out.1 k (by omega)).mono ?_
  rintro e w1 ⟨rfl, hm1⟩
  have HM1 : Hid (Mk (w.alloc (.cells #[.int .i64 s.kind, .string s.table, .slice a2 m2 c2, .slice a3 m3 c3, .int .i64 s.ddl.kind, .string s.ddl.table, .slice a6 m6 c6, .slice a7 m7 c7, .string s.ddl.name, .string s.ddl.to] 48)) w1 k p2) := hm1
  have hL1 := hm1.loc hL (by omega) fun p hp => by have := (HIN.out p (by simp [hp])).2; omega
  obtain ⟨d0, d1, d2, d3, d4, d5, d6, d7, d8, d9⟩ := hL1.ten
  have HQ3 : Hid (ValsP w1 (.slice a3 m3 c3) p3) := ValsP.lay.2 _ _ _ _ _ hm1.marks HP.out.2.1
  have hs1 := hm1.marks.turns.size
  clear hm1
  go_wp2_with fail
  refine (markRow_pl HQ3.out (k + p2.length) (by omega)).mono ?_
  rintro e w2 ⟨rfl, hm2⟩
  have HM2 : Hid (Mk w1 w2 (k + p2.length) p3) := hm2
  have hL2 := hm2.loc hL1 (by omega) fun p hp => by have := (HIN.out p (by simp [hp])).2; omega
  have hs2 := hm2.marks.turns.size
  have HQ6 : Hid (ColsP w2 (.slice a6 m6 c6) p6) := ColsP.lay.2 _ _ _ _ _ hm2.marks (ColsP.lay.2 _ _ _ _ _ HM1.out.marks HP.out.2.2.1)
  have HQ7 : Hid (StrsP w2 (.slice a7 m7 c7) p7) := StrsP.lay.2 _ _ _ _ _ hm2.marks (StrsP.lay.2 _ _ _ _ _ HM1.out.marks HP.out.2.2.2)
  clear hm2 d0 d1 d2 d3 d4 d5 d6 d7 d8 d9
  obtain ⟨d0, d1, d2, d3, d4, d5, d6, d7, d8, d9⟩ := hL2.ten
  go_wp2_with fail
  refine (markDdl_pl HQ6.out HQ7.out HND.out.2.2 (k + p2.length + p3.length) (by omega)).mono ?_
  rintro e w3 ⟨rfl, hm3⟩
  have hm23 := HM2.out.trans hm3 (fun p hp => by have := (HIN.out p (by simp [hp])).2; omega) HND.out.2.1
  have hm13 := HM1.out.trans hm23 (fun p hp => by have := (HIN.out p (by simp [hp])).2; omega) HND.out.1
  have HMK : Hid (Mk w w3 k (p2 ++ (p3 ++ (p6 ++ p7)))) := Mk.front hb hm13
  have HE : Hid (HeldE w3 ⟨s, .slice a2 m2 c2, .slice a3 m3 c3, .slice a6 m6 c6, .slice a7 m7 c7, p2, p3, p6, p7, lo, hi⟩ k) := ⟨⟨ValsP.lay.2 _ _ _ _ _ hm13.marks HP.out.1, ValsP.lay.2 _ _ _ _ _ hm13.marks HP.out.2.1, ColsP.lay.2 _ _ _ _ _ hm13.marks HP.out.2.2.1, StrsP.lay.2 _ _ _ _ _ hm13.marks HP.out.2.2.2⟩, fun j hj => hm13.done j hj⟩
  have HT : Hid (Turns (fun c => lo ≤ c ∧ c < hi) w w3) := HMK.out.marks.turns.mono fun c ⟨p, hp, e⟩ => e ▸ HIN.out p hp
  have hK : k + p2.length + p3.length + (p6 ++ p7).length = k + (p2 ++ (p3 ++ (p6 ++ p7))).length := by simp; omega
  rw [hK]
  clear hm23 hm13 hm3 HM1 HM2 HQ3 HQ6 HQ7 HP HMK hK d0 d1 d2 d3 d4 d5 d6 d7 d8 d9 hL1 hL2 hL
  obtain ⟨K, hKd⟩ : ∃ K, k + (p2 ++ (p3 ++ (p6 ++ p7))).length = K := ⟨_, rfl⟩
  rw [hKd]
  have HKd : Hid (k + (p2 ++ (p3 ++ (p6 ++ p7))).length = K) := hKd
  clear hKd
  go_wp2
  go_ret
  exact ⟨by rw [HKd.out]; rfl, HT.out, HE.out⟩

set_option maxRecDepth 100000 in
set_option maxHeartbeats 2000000 in
/-- laws.heldStmt -/
theorem heldStmt_pl {w : World} {E : Est} (k : Nat) (hk : k ≤ 100000000000000000) (h : HeldE w E k) :
    Calls Tryz.prog 22 #[.agg E.cells, .int .i64 k] w fun e w' => e = .returned (.int .i64 ((k + (E.p2 ++ (E.p3 ++ (E.p6 ++ E.p7))).length : Nat) : Int)) ∧ Below w.heap.size w w' := by
  have HE : Hid (∀ u : World, Below w.heap.size w u → HeldE u E k) := fun u hu => h.on hu
  obtain ⟨⟨q2, q3, q6, q7⟩, _⟩ := h
  obtain ⟨s, vk, vr, vc, vo, p2, p3, p6, p7, lo, hi⟩ := E
  simp only at q2 q3 q6 q7 ⊢
  obtain ⟨a2, m2, c2, rfl⟩ := RowP.lit q2
  obtain ⟨a3, m3, c3, rfl⟩ := RowP.lit q3
  obtain ⟨a6, m6, c6, rfl⟩ := RowP.lit q6
  obtain ⟨a7, m7, c7, rfl⟩ := RowP.lit q7
  have l2 := ValsP_len q2
  have l3 := ValsP_len q3
  have l6 := ColsP_len q6
  have l7 := StrsP_len q7
  have hb : Below w.heap.size w (w.alloc (.cells #[.int .i64 s.kind, .string s.table, .slice a2 m2 c2, .slice a3 m3 c3, .int .i64 s.ddl.kind, .string s.ddl.table, .slice a6 m6 c6, .slice a7 m7 c7, .string s.ddl.name, .string s.ddl.to] 48)) := ch_alloc (Below.refl _ _) _
  have hL := Loc.new w #[.int .i64 s.kind, .string s.table, .slice a2 m2 c2, .slice a3 m3 c3, .int .i64 s.ddl.kind, .string s.ddl.table, .slice a6 m6 c6, .slice a7 m7 c7, .string s.ddl.name, .string s.ddl.to] 48
  have HM : Hid (∀ u : World, Below w.heap.size w u → (ValsP u (.slice a2 m2 c2) p2 ∧ ValsP u (.slice a3 m3 c3) p3 ∧ ColsP u (.slice a6 m6 c6) p6 ∧ StrsP u (.slice a7 m7 c7) p7) ∧ Marked u k p2 ∧ Marked u (k + p2.length) p3 ∧ Marked u (k + p2.length + p3.length) (p6 ++ p7)) := fun u hu => ⟨(HE.out u hu).1, (HE.out u hu).2.split.1, (HE.out u hu).2.split.2.split.1, (HE.out u hu).2.split.2.split.2⟩
  have h1 : decide (((k + p2.length : Nat) : Int) < 0) = false := by simp; omega
  have h2 : decide (((k + p2.length + p3.length : Nat) : Int) < 0) = false := by simp; omega
  clear q2 q3 q6 q7 HE
  go_enter Tryz.func22, Tryz.ntmps22
  go_wp2_with fail
  refine (heldValS_pl (HM.out _ hb).1.1 k (by omega) (HM.out _ hb).2.1).mono ?_
  rintro e w1 ⟨rfl, b1⟩
  have hL1 := hL.on b1
  have hb1 := ch_trans hb b1
  obtain ⟨d0, d1, d2, d3, d4, d5, d6, d7, d8, d9⟩ := hL1.ten
  clear b1 hL
  go_wp2_with fail
  refine (heldRow_pl (HM.out _ hb1).1.2.1 (k + p2.length) (by omega) (HM.out _ hb1).2.2.1).mono ?_
  rintro e w2 ⟨rfl, b2⟩
  have hL2 := hL1.on b2
  have hb2 := ch_trans hb1 b2
  clear b2 hL1 d0 d1 d2 d3 d4 d5 d6 d7 d8 d9
  obtain ⟨d0, d1, d2, d3, d4, d5, d6, d7, d8, d9⟩ := hL2.ten
  go_wp2_with fail
  refine (heldDdl_pl (HM.out _ hb2).1.2.2.1 (HM.out _ hb2).1.2.2.2 (k + p2.length + p3.length) (by omega) (HM.out _ hb2).2.2.2).mono ?_
  rintro e w3 ⟨rfl, b3⟩
  have hb3 := ch_trans hb2 b3
  have hK : k + p2.length + p3.length + (p6 ++ p7).length = k + (p2 ++ (p3 ++ (p6 ++ p7))).length := by simp; omega
  rw [hK]
  have h3 : decide (((k + (p2 ++ (p3 ++ (p6 ++ p7))).length : Nat) : Int) < 0) = false := by simp; omega
  clear hK HM b3
  obtain ⟨K, hKd⟩ : ∃ K, k + (p2 ++ (p3 ++ (p6 ++ p7))).length = K := ⟨_, rfl⟩
  rw [hKd] at h3 ⊢
  have HKd : Hid (k + (p2 ++ (p3 ++ (p6 ++ p7))).length = K) := hKd
  clear hKd
  go_wp2
  go_ret
  exact ⟨by rw [HKd.out]; rfl, hb3⟩
end Go.Proofs.YtiijahoheajppaaGreat

namespace Go.Proofs.YtiijahoheajppaaGreat
open Go.ChangeShapes Go.WideShapes Go.ChangeAt Go.RowKit

/-- The places of one cell of a part. -/
def Ept.at (e : Ept) (b i : Nat) : Nat → List Plc
  | 0 => [(⟨b, i * 12, none⟩, 0)]
  | 1 => [(⟨b, i * 12 + 1, none⟩, 1)]
  | 2 => e.e.p2
  | 3 => e.e.p3
  | 4 => [(⟨b, i * 12 + 4, none⟩, 0)]
  | 5 => [(⟨b, i * 12 + 5, none⟩, 1)]
  | 6 => e.e.p6
  | 7 => e.e.p7
  | 8 => [(⟨b, i * 12 + 8, none⟩, 1)]
  | 9 => [(⟨b, i * 12 + 9, none⟩, 1)]
  | 10 => e.pa
  | 11 => e.pb
  | _ => []
theorem Ept.at_cases (e : Ept) (b i j : Nat) : (∃ κ, e.at b i j = [(⟨b, i * 12 + j, none⟩, κ)]) ∨ ((j = 2 ∨ j = 3 ∨ j = 6 ∨ j = 7 ∨ j = 10 ∨ j = 11) ∧ ∀ p ∈ e.at b i j, p ∈ e.pl) ∨ e.at b i j = [] := by
  match j with
  | 0 => exact Or.inl ⟨_, rfl⟩
  | 1 => exact Or.inl ⟨_, rfl⟩
  | 2 => exact Or.inr (Or.inl ⟨by omega, fun p hp => by simp only [Ept.at] at hp; simp [Ept.pl, Est.pl, hp]⟩)
  | 3 => exact Or.inr (Or.inl ⟨by omega, fun p hp => by simp only [Ept.at] at hp; simp [Ept.pl, Est.pl, hp]⟩)
  | 4 => exact Or.inl ⟨_, rfl⟩
  | 5 => exact Or.inl ⟨_, rfl⟩
  | 6 => exact Or.inr (Or.inl ⟨by omega, fun p hp => by simp only [Ept.at] at hp; simp [Ept.pl, Est.pl, hp]⟩)
  | 7 => exact Or.inr (Or.inl ⟨by omega, fun p hp => by simp only [Ept.at] at hp; simp [Ept.pl, Est.pl, hp]⟩)
  | 8 => exact Or.inl ⟨_, rfl⟩
  | 9 => exact Or.inl ⟨_, rfl⟩
  | 10 => exact Or.inr (Or.inl ⟨by omega, fun p hp => by simp only [Ept.at] at hp; simp [Ept.pl, hp]⟩)
  | 11 => exact Or.inr (Or.inl ⟨by omega, fun p hp => by simp only [Ept.at] at hp; simp [Ept.pl, hp]⟩)
  | j + 12 => exact Or.inr (Or.inr rfl)
def Ept.lists (e : Ept) : List (List Plc) := [e.e.p2, e.e.p3, e.e.p6, e.e.p7, e.pa, e.pb]
theorem Ept.pl_lists {e : Ept} (hn : (e.pl.map (·.1)).Nodup) : (∀ l ∈ e.lists, (l.map (·.1)).Nodup) ∧ ∀ r s (hr : r < e.lists.length) (hs : s < e.lists.length), r < s → ∀ p ∈ e.lists[r], ∀ q ∈ e.lists[s], p.1 ≠ q.1 := by
  have e1 : e.pl = e.lists.flatten := by simp [Ept.pl, Est.pl, Ept.lists]
  unfold List.Nodup at hn
  rw [e1, List.pairwise_map, List.pairwise_flatten] at hn
  refine ⟨fun l hl => ?_, fun r s hr hs h => ?_⟩
  · unfold List.Nodup
    rw [List.pairwise_map]
    exact hn.1 l hl
  · exact List.pairwise_iff_getElem.1 hn.2 r s hr hs h
theorem Ept.at_list (e : Ept) (b i j : Nat) (h : j = 2 ∨ j = 3 ∨ j = 6 ∨ j = 7 ∨ j = 10 ∨ j = 11) : ∃ r, ∃ hr : r < e.lists.length, e.at b i j = e.lists[r] ∧ ((j = 2 ∧ r = 0) ∨ (j = 3 ∧ r = 1) ∨ (j = 6 ∧ r = 2) ∨ (j = 7 ∧ r = 3) ∨ (j = 10 ∧ r = 4) ∨ (j = 11 ∧ r = 5)) := by
  rcases h with rfl | rfl | rfl | rfl | rfl | rfl
  · exact ⟨0, by simp [Ept.lists], rfl, by omega⟩
  · exact ⟨1, by simp [Ept.lists], rfl, by omega⟩
  · exact ⟨2, by simp [Ept.lists], rfl, by omega⟩
  · exact ⟨3, by simp [Ept.lists], rfl, by omega⟩
  · exact ⟨4, by simp [Ept.lists], rfl, by omega⟩
  · exact ⟨5, by simp [Ept.lists], rfl, by omega⟩
theorem Ept.parts_apart {e : Ept} (hn : (e.pl.map (·.1)).Nodup) (b i : Nat) {j j' : Nat} (h : j < j') (h1 : j = 2 ∨ j = 3 ∨ j = 6 ∨ j = 7 ∨ j = 10 ∨ j = 11) (h2 : j' = 2 ∨ j' = 3 ∨ j' = 6 ∨ j' = 7 ∨ j' = 10 ∨ j' = 11) : ∀ p ∈ e.at b i j, ∀ q ∈ e.at b i j', p.1 ≠ q.1 := by
  obtain ⟨r, hr, e1, c1⟩ := e.at_list b i j h1
  obtain ⟨s, hs, e2, c2⟩ := e.at_list b i j' h2
  rw [e1, e2]
  exact (Ept.pl_lists hn).2 r s hr hs (by omega)
theorem Ept.at_nodup {e : Ept} (hn : (e.pl.map (·.1)).Nodup) (b i j : Nat) : ((e.at b i j).map (·.1)).Nodup := by
  have h := (Ept.pl_lists hn).1
  match j with
  | 0 => simp [Ept.at]
  | 1 => simp [Ept.at]
  | 2 => exact h _ (by simp [Ept.lists, Ept.at])
  | 3 => exact h _ (by simp [Ept.lists, Ept.at])
  | 4 => simp [Ept.at]
  | 5 => simp [Ept.at]
  | 6 => exact h _ (by simp [Ept.lists, Ept.at])
  | 7 => exact h _ (by simp [Ept.lists, Ept.at])
  | 8 => simp [Ept.at]
  | 9 => simp [Ept.at]
  | 10 => exact h _ (by simp [Ept.lists, Ept.at])
  | 11 => exact h _ (by simp [Ept.lists, Ept.at])
  | j + 12 => simp [Ept.at]
/-- Parts of the call's own, each named. -/
def PartsE (w : World) (B : Nat) (v : Value) (E : List Ept) : Prop := Got w B 68 12 v (E.map Ept.cells) ∧ (∀ e ∈ E, B ≤ e.lo ∧ e.Good w) ∧ E.Pairwise (fun a b => a.hi ≤ b.lo) ∧ ∀ g, v.ownBlock = some g → ∀ e ∈ E, g < e.lo ∨ e.hi ≤ g
theorem PartsE.on {w w' : World} {B : Nat} {v : Value} {E : List Ept} (h : PartsE w B v E) (k : Below w.heap.size w w') : PartsE w' B v E := by
  obtain ⟨h2, h3, h4⟩ := h
  exact ⟨h2.on k, fun e he => ⟨(h3 e he).1, (h3 e he).2.on k⟩, h4⟩
theorem PartsE.turned {w w' : World} {B : Nat} {v : Value} {E : List Ept} (h : PartsE w B v E) {S : Nat → Prop} (k : Turns S w w') (hS : ∀ c, S c → c < B) : PartsE w' B v E := by
  obtain ⟨h2, h3, h4⟩ := h
  refine ⟨h2.turned k (fun c hc hs => by have := h2.own hc; have := hS c hs; omega), fun e he => ⟨(h3 e he).1, (h3 e he).2.keep k.size fun b hb hb' => k.block b (Nat.lt_of_lt_of_le hb' (h3 e he).2.top) fun hs => ?_⟩, h4⟩
  have := hS b hs
  have := (h3 e he).1
  omega
theorem PartsE.parts {w : World} {B : Nat} {v : Value} {E : List Ept} (h : PartsE w B v E) : PartsG w B v (E.map fun e => e.t) := ⟨E, rfl, h⟩
theorem PartsE.top {w : World} {B : Nat} {v : Value} {E : List Ept} (h : PartsE w B v E) : (∀ e ∈ E, B ≤ e.lo ∧ e.hi ≤ w.heap.size) ∧ ∀ g, v.ownBlock = some g → B ≤ g ∧ g < w.heap.size := by
  refine ⟨fun e he => ⟨(h.2.1 e he).1, (h.2.1 e he).2.top⟩, fun g hg => ⟨h.1.own hg, ?_⟩⟩
  obtain ⟨cur, hh⟩ := h.1.tag hg
  exact (Array.getElem?_eq_some_iff.1 hh).1
/-- Their places. -/
theorem PartsE.pl {w : World} {B : Nat} {v : Value} {E : List Ept} (h : PartsE w B v E) (hl : E.length ≤ 1048576) : ∃ ps, PartsP w v ps ∧ (ps.map (·.1)).Nodup ∧ ∀ p ∈ ps, (∃ e ∈ E, e.lo ≤ p.1.block ∧ p.1.block < e.hi) ∨ v.ownBlock = some p.1.block := by
  obtain ⟨h2, h3, h4, h5⟩ := h
  have hown := fun c => h2.own (c := c)
  obtain ⟨h0, h1, h2⟩ := h2
  rcases h2 with ⟨rfl, hn⟩ | ⟨g, cap, cur, rfl, hb, hg, hc1, hc2, hs, ht⟩
  · exact ⟨[], Or.inl ⟨rfl, rfl⟩, by simp, by simp⟩
  rw [List.length_map] at hc1 ht h1
  have hget : ∀ c, c < E.length * 12 → c / 12 < E.length := fun c hc => by omega
  obtain ⟨qs, hqs⟩ : ∃ qs : Nat → List Plc, ∀ c (hc : c < E.length * 12), qs c = (E[c / 12]'(hget c hc)).at g (c / 12) (c % 12) := ⟨fun c => if hc : c < E.length * 12 then (E[c / 12]'(hget c hc)).at g (c / 12) (c % 12) else [], fun c hc => by simp [hc]⟩
  have hgd : ∀ i (hi : i < E.length), B ≤ E[i].lo ∧ E[i].Good w := fun i hi => h3 _ (List.getElem_mem hi)
  have hq : ∀ c (hc : c < E.length * 12), ∀ p ∈ qs c, (p.1 = ⟨g, c, none⟩) ∨ ((c % 12 = 2 ∨ c % 12 = 3 ∨ c % 12 = 6 ∨ c % 12 = 7 ∨ c % 12 = 10 ∨ c % 12 = 11) ∧ p ∈ (E[c / 12]'(hget c hc)).pl) := fun c hc p hp => by
    rw [hqs c hc] at hp
    rcases (E[c / 12]'(hget c hc)).at_cases g (c / 12) (c % 12) with ⟨κ, e⟩ | ⟨hj, hall⟩ | e
    · rw [e] at hp
      simp at hp; subst hp
      left
      simp; omega
    · exact Or.inr ⟨hj, hall p hp⟩
    · rw [e] at hp; simp at hp
  refine ⟨upTo qs (E.length * 12), Or.inr ⟨g, E.length, cap, cap * 12, fun i => cur.getD i default, qs, by rw [List.length_map], hl, ⟨cur, hg, hs, fun i hi => by simp [Array.getD, hs, hi]⟩, Nat.mul_le_mul_right _ hc1, rfl, fun i hi j hj => ?_⟩, ?_, fun p hp => ?_⟩
  · have hj12 : j < 12 := hj
    have hlt : i * 12 + j < E.length * 12 := by omega
    have e1 := flat_at (E.map Ept.cells) h0 i (by simpa using hi) j hj12
    have hle : E.length * 12 ≤ cap * 12 := Nat.mul_le_mul_right _ hc1
    rw [← ht, List.getElem?_take, if_pos hlt, Array.getElem?_toList, Array.getElem?_eq_getElem (by omega)] at e1
    have e2 : cur.getD (i * 12 + j) default = cur[i * 12 + j]'(by omega) := by simp [Array.getD, show i * 12 + j < cur.size by omega]
    simp only [List.getElem_map] at e1
    have hi12 : (i * 12 + j) / 12 = i := by omega
    have hj12' : (i * 12 + j) % 12 = j := by omega
    have eq := hqs (i * 12 + j) hlt
    simp only [hi12, hj12'] at eq
    have rd := (hgd i hi).2.own.reads w fun _ _ _ => rfl
    have rdp := (hgd i hi).2.reads w fun _ _ _ => rfl
    have key : ∀ (j : Nat) (hj : j < ([LeafP 0, LeafP 1, NestP ValsP, NestP ValsP, LeafP 0, LeafP 1, NestP ColsP, NestP StrsP, LeafP 1, LeafP 1, NestP StrsP, NestP StrsP] : List CellP).length) (u : Value), (Ept.cells E[i])[j]? = some u → ([LeafP 0, LeafP 1, NestP ValsP, NestP ValsP, LeafP 0, LeafP 1, NestP ColsP, NestP StrsP, LeafP 1, LeafP 1, NestP StrsP, NestP StrsP] : List CellP)[j] w ⟨g, i * 12 + j, none⟩ u (E[i].at g i j) := fun j hj u e1 => by
      match j, hj, e1 with
      | 0, _, e1 => simp at e1; subst e1; exact ⟨⟨_, rfl⟩, rfl⟩
      | 1, _, e1 => simp at e1; subst e1; exact ⟨⟨_, rfl⟩, rfl⟩
      | 2, _, e1 => simp at e1; subst e1; exact rd.1.2
      | 3, _, e1 => simp at e1; subst e1; exact rd.2.1.2
      | 4, _, e1 => simp at e1; subst e1; exact ⟨⟨_, rfl⟩, rfl⟩
      | 5, _, e1 => simp at e1; subst e1; exact ⟨⟨_, rfl⟩, rfl⟩
      | 6, _, e1 => simp at e1; subst e1; exact rd.2.2.1.2
      | 7, _, e1 => simp at e1; subst e1; exact rd.2.2.2.2
      | 8, _, e1 => simp at e1; subst e1; exact ⟨⟨_, rfl⟩, rfl⟩
      | 9, _, e1 => simp at e1; subst e1; exact ⟨⟨_, rfl⟩, rfl⟩
      | 10, _, e1 => simp at e1; subst e1; exact rdp.1.2
      | 11, _, e1 => simp at e1; subst e1; exact rdp.2.2
    have h9 := key j hj _ e1.symm
    rw [← eq, ← e2] at h9
    exact h9
  · refine nodup_upTo _ (fun c hc => by rw [hqs c hc]; exact Ept.at_nodup (hgd _ (hget c hc)).2.nodup _ _ _) (fun c d hcd hd p hp q hq' e => ?_)
    have hc : c < E.length * 12 := by omega
    have ci := hget c hc
    have di := hget d hd
    have hin := (hgd _ ci).2.inside
    have hin' := (hgd _ di).2.inside
    rcases hq c hc p hp with e1 | ⟨j1, m1⟩
    · rcases hq d hd q hq' with e2 | ⟨j2, m2⟩
      · rw [e1, e2] at e; simp at e
      · have hb2 := hin' q m2
        rw [← e, e1] at hb2
        rcases h5 g rfl _ (List.getElem_mem di) with h | h
        · have := hb2.1; simp at this; omega
        · have := hb2.2; simp at this; omega
    · rcases hq d hd q hq' with e2 | ⟨j2, m2⟩
      · have hb1 := hin p m1
        rw [e, e2] at hb1
        rcases h5 g rfl _ (List.getElem_mem ci) with h | h
        · have := hb1.1; simp at this; omega
        · have := hb1.2; simp at this; omega
      · by_cases hij : c / 12 = d / 12
        · rw [hqs c hc] at hp
          rw [hqs d hd] at hq'
          simp only [hij] at hp
          exact Ept.parts_apart (hgd _ di).2.nodup g (d / 12) (by omega) j1 j2 p hp q hq' e
        · rw [List.pairwise_iff_getElem] at h4
          have hlt : c / 12 < d / 12 := by
            have := Nat.div_le_div_right (c := 12) (Nat.le_of_lt hcd)
            omega
          have h6 := h4 _ _ ci di hlt
          have a1 := (hin p m1).2
          have a2 := (hin' q m2).1
          rw [e] at a1
          omega
  · obtain ⟨c, hc, hp⟩ := List.mem_flatMap.1 hp
    rw [List.mem_range] at hc
    rcases hq c hc p hp with e1 | ⟨_, m1⟩
    · rw [e1]; exact Or.inr rfl
    · exact Or.inl ⟨_, List.getElem_mem (hget c hc), (hgd _ (hget c hc)).2.inside p m1⟩
/-- Held: the marks stand. -/
def HeldP (w : World) (v : Value) (ps : List Plc) : Prop := PartsP w v ps ∧ Marked w 1 ps
theorem HeldP.on {w w' : World} {v : Value} {ps : List Plc} (h : HeldP w v ps) (b : Below w.heap.size w w') : HeldP w' v ps := ⟨PartsP.lay.2 (fun _ => False) _ _ _ _ ((Marks.refl _ w).below b) h.1, h.2.on b⟩

set_option maxRecDepth 100000 in
/-- laws.markBatch -/
theorem markBatch_pl {w : World} {B : Nat} {n p : Int} {v : Value} {ps : List Plc} (h1 : PartsP w v ps) (h2 : (ps.map (·.1)).Nodup) (h3 : ∀ q ∈ ps, B ≤ q.1.block) (hB : B ≤ w.heap.size) :
    Calls Tryz.prog 12 #[.agg #[.int .i64 n, .int .i64 p, v], .int .i64 1] w fun e w' => e = .returned (.int .i64 ((1 + ps.length : Nat) : Int)) ∧ Below B w w' ∧ Turns (fun c => ∃ q ∈ ps, q.1.block = c) w w' ∧ HeldP w' v ps := by
  obtain ⟨a, m, c, rfl⟩ := RowP.lit h1
  have hb : Below w.heap.size w (w.alloc (.cells #[.int .i64 n, .int .i64 p, .slice a m c] 33)) := ch_alloc (Below.refl _ _) _
  have HM : Hid (Calls Tryz.prog 37 #[.slice a m c, .int .i64 1] (w.alloc (.cells #[.int .i64 n, .int .i64 p, .slice a m c] 33)) fun e w' => e = .returned (.int .i64 ((1 + ps.length : Nat) : Int)) ∧ Mk (w.alloc (.cells #[.int .i64 n, .int .i64 p, .slice a m c] 33)) w' 1 ps) := markPartS_pl (PartsP.lay.2 (fun _ => False) _ _ _ _ ((Marks.refl _ w).below hb) h1) h2 1 (by omega)
  have HP : Hid (PartsP w (.slice a m c) ps ∧ ∀ q ∈ ps, B ≤ q.1.block) := ⟨h1, h3⟩
  clear h1 h2 h3
  obtain ⟨K, hK⟩ : ∃ K, K = 1 + ps.length := ⟨_, rfl⟩
  rw [← hK] at HM ⊢
  clear hK
  go_enter Tryz.func12, Tryz.ntmps12
  go_wp2_with fail
  refine HM.out.mono ?_
  rintro e w1 ⟨rfl, hm⟩
  have HK : Hid (Mk w w1 1 ps) := Mk.front hb hm
  clear hm HM
  go_wp2
  go_ret
  refine ⟨rfl, ?_, HK.out.marks.turns, PartsP.lay.2 _ _ _ _ _ HK.out.marks HP.out.1, HK.out.done⟩
  exact HK.out.marks.turns.toBelow (fun c hc => by obtain ⟨q, hq, rfl⟩ := hc; exact HP.out.2 q hq) hB

set_option maxRecDepth 100000 in
/-- laws.heldBatch -/
theorem heldBatch_pl {w : World} {n p : Int} {v : Value} {ps : List Plc} (h : HeldP w v ps) :
    Calls Tryz.prog 27 #[.agg #[.int .i64 n, .int .i64 p, v], .int .i64 1] w fun e w' => e = .returned (.int .i64 ((1 + ps.length : Nat) : Int)) ∧ Below w.heap.size w w' := by
  obtain ⟨h1, h2⟩ := h
  obtain ⟨a, m, c, rfl⟩ := RowP.lit h1
  have hb : Below w.heap.size w (w.alloc (.cells #[.int .i64 n, .int .i64 p, .slice a m c] 33)) := ch_alloc (Below.refl _ _) _
  have HM : Hid (Calls Tryz.prog 59 #[.slice a m c, .int .i64 1] (w.alloc (.cells #[.int .i64 n, .int .i64 p, .slice a m c] 33)) fun e w' => e = .returned (.int .i64 ((1 + ps.length : Nat) : Int)) ∧ Below (w.alloc (.cells #[.int .i64 n, .int .i64 p, .slice a m c] 33)).heap.size (w.alloc (.cells #[.int .i64 n, .int .i64 p, .slice a m c] 33)) w') := heldPartS_pl (PartsP.lay.2 (fun _ => False) _ _ _ _ ((Marks.refl _ w).below hb) h1) 1 (by omega) (h2.on hb)
  have hK : decide (((1 + ps.length : Nat) : Int) < 0) = false := by simp; omega
  clear h1 h2
  generalize 1 + ps.length = K at HM hK ⊢
  go_enter Tryz.func27, Tryz.ntmps27
  go_wp2_with fail
  refine HM.out.mono ?_
  rintro e w1 ⟨rfl, hm⟩
  have HK : Hid (Below w.heap.size w w1) := ch_trans hb hm
  clear hm HM
  go_wp2
  go_ret
  exact ⟨rfl, HK.out⟩
end Go.Proofs.YtiijahoheajppaaGreat
