/- The given writer of changes. Statements as bytes: given. -/
import Derived.Test.YtiijahoheajppaaGreatRv
import Derived.Test.YtiijahoheajppaaGreatStS
namespace Go.Proofs.YtiijahoheajppaaGreat
open Go.ChangeShapes Go.WideShapes Go.ChangeAt Go.RowKit

theorem u8_nat {n : Nat} (h : n ≤ 255) : ((UInt8.ofNat n).toNat : Int) = n := by rw [UInt8.toNat_ofNat', Nat.mod_eq_of_lt (by omega)]
theorem bytes_row1 {w : World} {c : Nat} {x : UInt8} {m : Int} (hm : (x.toNat : Int) = m) (h : Own w c 5 #[.int .u8 m]) : RowAt w (some ⟨c, 0, none⟩) 1 ([x].map byX) := by
  subst hm
  exact h.loc.row1 rfl
theorem bytes_row2 {w : World} {c : Nat} {x y : UInt8} {m n : Int} (hm : (x.toNat : Int) = m) (hn : (y.toNat : Int) = n) (h : Own w c 5 #[.int .u8 m, .int .u8 n]) : RowAt w (some ⟨c, 0, none⟩) 1 ([x, y].map byX) := by
  subst hm; subst hn
  refine ⟨fun z hz => by simp at hz; rcases hz with rfl | rfl <;> rfl, Or.inr ⟨c, 0, rfl, fun i hi j hj => ?_⟩⟩
  obtain rfl : j = 0 := by omega
  obtain ⟨e0, e1⟩ := h.loc.two
  match i, hi with
  | 0, _ => simpa using e0
  | 1, _ => simpa using e1
theorem bytes_row3 {w : World} {c : Nat} {x y z : UInt8} {m n k : Int} (hm : (x.toNat : Int) = m) (hn : (y.toNat : Int) = n) (hk : (z.toNat : Int) = k) (h : Own w c 5 #[.int .u8 m, .int .u8 n, .int .u8 k]) : RowAt w (some ⟨c, 0, none⟩) 1 ([x, y, z].map byX) := by
  subst hm; subst hn; subst hk
  refine ⟨fun z hz => by simp at hz; rcases hz with rfl | rfl | rfl <;> rfl, Or.inr ⟨c, 0, rfl, fun i hi j hj => ?_⟩⟩
  obtain rfl : j = 0 := by omega
  obtain ⟨e0, e1, e2⟩ := h.loc.three
  match i, hi with
  | 0, _ => simpa using e0
  | 1, _ => simpa using e1
  | 2, _ => simpa using e2
/-- As a right change is. -/
def Dc.tidy (d : Dc) : Prop := (0 ≤ d.kind ∧ d.kind ≤ 5) ∧ d.cols.length ≤ 8 ∧ (∀ c ∈ d.cols, okWord c.name ∧ 0 ≤ c.ty ∧ c.ty ≤ 3 ∧ okB c.dt c.dn c.ds = true) ∧ d.keys.length ≤ 8 ∧ (∀ s ∈ d.keys, okWord s) ∧ okWord d.name ∧ okWord d.to
theorem flat_tidy {cs : List Cl} (h : ∀ c ∈ cs, okWord c.name ∧ 0 ≤ c.ty ∧ c.ty ≤ 3 ∧ okB c.dt c.dn c.ds = true) : (cs.flatMap colL).length ≤ cs.length * 66 :=
  flat_col cs fun c hc => ⟨by have := okWord_size (h c hc).1; omega, (h c hc).2.1, (h c hc).2.2.2⟩
theorem flat_words {ks : List ByteArray} (h : ∀ s ∈ ks, okWord s) : (ks.flatMap textL).length ≤ ks.length * 31 :=
  flat_text ks fun s hs => by have := okWord_size (h s hs); omega

set_option maxRecDepth 100000 in
set_option maxHeartbeats 1000000 in
/-- spec.l06Ddl -/
theorem l06Ddl_any (v : Value) (B : Nat) (l : List UInt8) (a o : Option Addr) (p q : Nat) (d : Dc) (w : World) (hg : Got w B 5 1 v (l.map byX)) (hc : ∀ u, Below B w u → RowAt u a 7 (d.cols.map Cl.cells)) (hk : ∀ u, Below B w u → RowAt u o 1 (d.keys.map strX)) (ht : d.tidy) (hl : l.length ≤ 200000) (hB : B ≤ w.heap.size) :
    Calls Tryz.prog 66 #[v, .agg #[.int .i64 d.kind, .string d.table, .slice a d.cols.length p, .slice o d.keys.length q, .string d.name, .string d.to]] w fun e w' => ∃ v', e = .returned v' ∧ Gb B w w' ∧ Got w' B 5 1 v' ((l ++ ddlL d).map byX) := by
  obtain ⟨kind, table, cs, ks, name, to⟩ := d
  obtain ⟨⟨hk0, hk5⟩, hc8, hcs, hk8, hks, hname, hto⟩ := ht
  simp only at hc hk hk0 hk5 hc8 hcs hk8 hks hname hto
  obtain ⟨K, rfl⟩ : ∃ K : Nat, kind = (K : Int) := ⟨kind.toNat, by omega⟩
  obtain ⟨av, n, c, rfl, hg⟩ := hg.lit2
  have HG : Hid (Got w B 5 1 (.slice av n c) (l.map byX)) := hg
  have HC : Hid (∀ u, Below B w u → RowAt u a 7 (cs.map Cl.cells)) := hc
  have HK : Hid (∀ u, Below B w u → RowAt u o 1 (ks.map strX)) := hk
  have HCS : Hid (∀ c ∈ cs, okWord c.name ∧ 0 ≤ c.ty ∧ c.ty ≤ 3 ∧ okB c.dt c.dn c.ds = true) := hcs
  have HKS : Hid (∀ s ∈ ks, okWord s) := hks
  have HNA : Hid (okWord name ∧ okWord to) := ⟨hname, hto⟩
  have hcl := flat_tidy hcs
  have hkl := flat_words hks
  have HT0 : Hid (ddlL ⟨(K : Int), table, cs, ks, name, to⟩ = [UInt8.ofNat K, UInt8.ofNat cs.length] ++ cs.flatMap colL ++ [UInt8.ofNat ks.length] ++ ks.flatMap textL ++ textL name ++ textL to) := by
    show _ = _
    simp [ddlL]
  generalize ddlL ⟨(K : Int), table, cs, ks, name, to⟩ = Z at HT0
  have hc8' : (cs.length : Int) ≤ 8 := by omega
  have hk8' : (ks.length : Int) ≤ 8 := by omega
  clear hg hc hk hcs hks hname hto
  go_enter Tryz.func66, Tryz.ntmps66
  go_wp2_with (at_builtin; refine app_lotT rfl (.tmp 11) (.tmp 19) rfl Tryz.underlying26 infoByte rfl (by decide) (by decide) B _ _ rfl (HG.out.on (show Below w.heap.size w ((w.alloc (.cells #[.int .i64 (K : Int), .string table, .slice a cs.length p, .slice o ks.length q, .string name, .string to] 46)).alloc (.cells #[.int .u8 (K : Int), .int .u8 (cs.length : Int)] 5)) from (by repeat (first | with_reducible exact Below.refl _ _ | with_reducible assumption | with_reducible refine ch_alloc ?_ _ | with_reducible refine Below.drew ?_ | with_reducible refine below_draws _ ?_ | (with_reducible refine Below.setCell ?_ ?_ _; rotate_left; focus (first | with_reducible exact Nat.le_refl _ | (simp; done) | (simp; omega) | (simp at *; omega))) | with_reducible refine ch_trans ?_ (by with_reducible assumption))))) (w.heap.size + 1) 0 2 ([UInt8.ofNat K, UInt8.ofNat cs.length].map byX) 2 (by simp) rfl (bytes_row2 (u8_nat (by omega)) (u8_nat (by omega)) (Own.at (w.alloc (.cells #[.int .i64 (K : Int), .string table, .slice a cs.length p, .slice o ks.length q, .string name, .string to] 46)) _ _ (by simp))) (byte_one _) (by simp; omega) (by simp; omega) ?_; intro v1 w1 hg1 hb1 ht1; have HB1 : Hid (Gb B w w1) := (Gb.new (show Below w.heap.size w ((w.alloc (.cells #[.int .i64 (K : Int), .string table, .slice a cs.length p, .slice o ks.length q, .string name, .string to] 46)).alloc (.cells #[.int .u8 (K : Int), .int .u8 (cs.length : Int)] 5)) from (by repeat (first | with_reducible exact Below.refl _ _ | with_reducible assumption | with_reducible refine ch_alloc ?_ _ | with_reducible refine Below.drew ?_ | with_reducible refine below_draws _ ?_ | (with_reducible refine Below.setCell ?_ ?_ _; rotate_left; focus (first | with_reducible exact Nat.le_refl _ | (simp; done) | (simp; omega) | (simp at *; omega))) | with_reducible refine ch_trans ?_ (by with_reducible assumption)))) hB).trans (Gb.got (HG.out.on (show Below w.heap.size w ((w.alloc (.cells #[.int .i64 (K : Int), .string table, .slice a cs.length p, .slice o ks.length q, .string name, .string to] 46)).alloc (.cells #[.int .u8 (K : Int), .int .u8 (cs.length : Int)] 5)) from (by repeat (first | with_reducible exact Below.refl _ _ | with_reducible assumption | with_reducible refine ch_alloc ?_ _ | with_reducible refine Below.drew ?_ | with_reducible refine below_draws _ ?_ | (with_reducible refine Below.setCell ?_ ?_ _; rotate_left; focus (first | with_reducible exact Nat.le_refl _ | (simp; done) | (simp; omega) | (simp at *; omega))) | with_reducible refine ch_trans ?_ (by with_reducible assumption))))) ht1 hb1); have HV1 : Own w1 w.heap.size 46 #[.int .i64 (K : Int), .string table, .slice a cs.length p, .slice o ks.length q, .string name, .string to] := (Byt.got (HG.out.on (show Below w.heap.size w ((w.alloc (.cells #[.int .i64 (K : Int), .string table, .slice a cs.length p, .slice o ks.length q, .string name, .string to] 46)).alloc (.cells #[.int .u8 (K : Int), .int .u8 (cs.length : Int)] 5)) from (by repeat (first | with_reducible exact Below.refl _ _ | with_reducible assumption | with_reducible refine ch_alloc ?_ _ | with_reducible refine Below.drew ?_ | with_reducible refine below_draws _ ?_ | (with_reducible refine Below.setCell ?_ ?_ _; rotate_left; focus (first | with_reducible exact Nat.le_refl _ | (simp; done) | (simp; omega) | (simp at *; omega))) | with_reducible refine ch_trans ?_ (by with_reducible assumption))))) ht1).own ((Own.new w 46 #[.int .i64 (K : Int), .string table, .slice a cs.length p, .slice o ks.length q, .string name, .string to]).on (ch_alloc (Below.refl _ _) _)) (by decide); have HG1 : Hid (Got w1 B 5 1 v1 ((l ++ [UInt8.ofNat K, UInt8.ofNat cs.length]).map byX)) := (by show Got _ _ _ _ _ _; rw [List.map_append]; exact hg1); clear hg1 hb1 ht1; have HV1' : Hid (Own w1 w.heap.size 46 #[.int .i64 (K : Int), .string table, .slice a cs.length p, .slice o ks.length q, .string name, .string to]) := HV1; obtain ⟨d0, d1, d2, d3, d4, d5⟩ := HV1.loc.six; clear HV1)
  go_loopw [0, 24] (fun bv i wr => ∃ k : Nat, k ≤ cs.length ∧ i = .int .i64 (k : Int) ∧ Hid (Gb B w wr) ∧ Hid (Own wr w.heap.size 46 #[.int .i64 (K : Int), .string table, .slice a cs.length p, .slice o ks.length q, .string name, .string to]) ∧ Hid (Got wr B 5 1 bv ((l ++ [UInt8.ofNat K, UInt8.ofNat cs.length] ++ (cs.take k).flatMap colL).map byX))) (fun _ i _ => cs.length - (intOf i).toNat)
  case atStart => exact ⟨0, Nat.zero_le _, rfl, HB1, HV1', by
    have := HG1.out
    show Got _ _ _ _ _ _
    simpa using this⟩
  case round =>
    clear HG1 HB1 HV1' d0 d1 d2 d3 d4 d5
    obtain ⟨k, hk, rfl, HB2, HV2, HG2⟩ := hrel
    obtain ⟨a2, n2, e2, rfl, hg2⟩ := HG2.out.lit2
    by_cases hlt : k < cs.length
    · have hlti : (k : Int) < cs.length := by omega
      obtain ⟨b, off, rfl, c0, c1, c2, c3, c4, c5, c6⟩ := (HC.out _ HB2.out.1).cols k hlt
      have hs2 : B ≤ wr.heap.size := Nat.le_trans hB HB2.out.1.size
      have hlen : (l ++ [UInt8.ofNat K, UInt8.ofNat cs.length] ++ (cs.take k).flatMap colL).length ≤ 300000 := by
        have h1 := flat_tidy (cs := cs.take k) fun x hx => HCS.out x (List.mem_of_mem_take hx)
        have h2 : (cs.take k).length ≤ 1000 := by simp; omega
        simp only [List.length_append, List.length_cons, List.length_nil]; omega
      have HFL : Hid ((l ++ [UInt8.ofNat K, UInt8.ofNat cs.length] ++ (cs.take k).flatMap colL) ++ colL cs[k] = l ++ [UInt8.ofNat K, UInt8.ofNat cs.length] ++ (cs.take (k + 1)).flatMap colL) := by
        show _ = _
        rw [List.take_succ_eq_append_getElem hlt, List.flatMap_append]
        simp
      have HG2' : Hid (Got wr B 5 1 (.slice a2 n2 e2) ((l ++ [UInt8.ofNat K, UInt8.ofNat cs.length] ++ (cs.take k).flatMap colL).map byX)) := hg2
      clear hg2 HG2
      have hok := HCS.out cs[k] (List.getElem_mem hlt)
      generalize l ++ [UInt8.ofNat K, UInt8.ofNat cs.length] ++ (cs.take k).flatMap colL = L0 at HG2' hlen HFL
      generalize cs[k] = cc at c0 c1 c2 c3 c4 c5 c6 HFL hok
      obtain ⟨cn, ty, nt, has, dt, dn, ds⟩ := cc
      obtain ⟨hcn, hty0, hty3, hdef⟩ := hok
      simp only at c0 c1 c2 c3 c4 c5 c6 hcn hty0 hty3 hdef
      obtain ⟨N, rfl⟩ : ∃ N : Nat, ty = (N : Int) := ⟨ty.toNat, by omega⟩
      have HCN : Hid (okWord cn) := hcn
      have hcn8 := okWord_size hcn
      have HVB : Hid (∀ u : World, Calls Tryz.prog 103 #[.agg #[.int .i64 dt, .int .i64 dn, .string ds]] u fun e w' => ∃ v', e = .returned (.tuple #[v', .bool true]) ∧ Below u.heap.size u w' ∧ Got w' u.heap.size 5 1 v' ((valL ⟨dt, dn, ds⟩).map byX)) := fun u => valBytes_spec dt dn ds u true _ (Or.inl ⟨rfl, hdef, rfl⟩)
      have HVL : Hid (1 ≤ (valL ⟨dt, dn, ds⟩).length ∧ (valL ⟨dt, dn, ds⟩).length ≤ 32) := ⟨by simp [valL], valL_length (c := ⟨dt, dn, ds⟩) hdef⟩
      clear hcn hdef
      go_wp2_with fail
      refine region_planG (Gb B) (Gb.rel B) [([0, 1, 2, 4, 5, 6, 7, 8, 10, 11], 3), ([], 9), ([], 12), ([], 13), ([], 14)] [15] (by kernel_rfl) (by kernel_rfl) ?_
      have hgd := Grows.drawn (wr.alloc (.cells #[.string cn, .int .i64 (N : Int), .bool nt, .bool has, .int .i64 dt, .int .i64 dn, .string ds] 131))
      generalize { wr.alloc (.cells #[.string cn, .int .i64 (N : Int), .bool nt, .bool has, .int .i64 dt, .int .i64 dn, .string ds] 131) with drawn := (wr.alloc (.cells #[.string cn, .int .i64 (N : Int), .bool nt, .bool has, .int .i64 dt, .int .i64 dn, .string ds] 131)).drawn + 1 } = wd at hgd ⊢
      have hbd : Below wr.heap.size wr wd := ch_trans (ch_alloc (Below.refl _ _) _) hgd
      have HC3 : Hid (Own wd wr.heap.size 131 #[.string cn, .int .i64 (N : Int), .bool nt, .bool has, .int .i64 dt, .int .i64 dn, .string ds]) := (Own.new wr 131 #[.string cn, .int .i64 (N : Int), .bool nt, .bool has, .int .i64 dt, .int .i64 dn, .string ds]).on hgd
      have HB3 : Hid (Gb B w wd) := HB2.out.trans (Gb.new hbd hs2)
      have HV3 : Hid (Own wd w.heap.size 46 #[.int .i64 (K : Int), .string table, .slice (some ⟨b, off, none⟩) cs.length p, .slice o ks.length q, .string name, .string to]) := HV2.out.on hbd
      have HG3 : Hid (Got wd B 5 1 (.slice a2 n2 e2) (L0.map byX)) := HG2'.out.on hbd
      have hs3 : B ≤ wd.heap.size := Nat.le_trans hs2 hbd.size
      clear hgd hbd c0 c1 c2 c3 c4 c5 c6 HB2 HV2 HG2'
      refine planG_on (by simp only [pick, List.getElem?_toArray, List.getElem?_cons_succ, List.getElem?_cons_zero]; rfl) ?_
      repeat (go_big_quiet_step ((intro hu; obtain ⟨n0, n1, n2, n3, n4, n5, n6⟩ := (hu.2.own HC3.out (by decide)).loc.seven; go_simp; (try exact rfl))))
      refine wpQuiet_nil ?_
      refine plan_call rfl rfl (fun Kk hK => ?_)
      go_simp
      go_at_call 64
      refine (l06Word_any _ B _ cn wd HG3.out HCN.out (by omega) hs3).mono ?_
      rintro e w4 ⟨v4, rfl, hb4, hg4⟩
      refine ⟨_, rfl, hK _ _ ⟨hb4, ?_⟩⟩
      obtain ⟨a4, n4, e4, rfl, hg4⟩ := hg4.lit2
      have HG4 : Hid (Got w4 B 5 1 (.slice a4 n4 e4) ((L0 ++ textL cn).map byX)) := hg4
      have HC4 : Hid (Own w4 wr.heap.size 131 #[.string cn, .int .i64 (N : Int), .bool nt, .bool has, .int .i64 dt, .int .i64 dn, .string ds]) := hb4.2.own HC3.out (by decide)
      have HV4 : Hid (Own w4 w.heap.size 46 #[.int .i64 (K : Int), .string table, .slice (some ⟨b, off, none⟩) cs.length p, .slice o ks.length q, .string name, .string to]) := hb4.2.own HV3.out (by decide)
      have HB4 : Hid (Gb B w w4) := HB3.out.trans hb4
      have hs4 : B ≤ w4.heap.size := Nat.le_trans hs3 hb4.1.size
      clear hK Kk hb4 hg4 HG3 HC3 HV3 HB3
      refine planG_on rfl ?_
      refine wpQuiet_nil ?_
      refine plan_call rfl rfl (fun Kk hK => ?_)
      go_simp
      go_at_call 104
      refine (l06Bool_any nt w4).mono ?_
      rintro e w5 ⟨rfl, h5⟩
      subst w5
      refine ⟨_, rfl, hK _ _ ⟨Gb.refl _ _, ?_⟩⟩
      clear hK Kk
      refine planG_on rfl ?_
      refine wpQuiet_nil ?_
      refine plan_call rfl rfl (fun Kk hK => ?_)
      go_simp
      go_at_call 104
      refine (l06Bool_any has w4).mono ?_
      rintro e w5 ⟨rfl, h5⟩
      subst w5
      refine ⟨_, rfl, hK _ _ ⟨Gb.refl _ _, ?_⟩⟩
      clear hK Kk
      refine planG_on rfl ?_
      refine wpQuiet_nil ?_
      refine plan_call rfl rfl (fun Kk hK => ?_)
      go_simp
      refine hK _ _ ⟨Gb.new (ch_alloc (Below.refl _ _) _) hs4, ?_⟩
      have bb : Below w4.heap.size w4 (w4.alloc (.cells #[.int .u8 (N : Int), .int .u8 ((flagN nt).toNat : Int), .int .u8 ((flagN has).toNat : Int)] 5)) := ch_alloc (Below.refl _ _) _
      have HR5 : Hid (RowAt (w4.alloc (.cells #[.int .u8 (N : Int), .int .u8 ((flagN nt).toNat : Int), .int .u8 ((flagN has).toNat : Int)] 5)) (some ⟨w4.heap.size, 0, none⟩) 1 ([UInt8.ofNat N, flagN nt, flagN has].map byX)) := bytes_row3 (u8_nat (by omega)) rfl rfl (Own.new _ _ _)
      have HG5 : Hid (Got (w4.alloc (.cells #[.int .u8 (N : Int), .int .u8 ((flagN nt).toNat : Int), .int .u8 ((flagN has).toNat : Int)] 5)) B 5 1 (.slice a4 n4 e4) ((L0 ++ textL cn).map byX)) := HG4.out.on bb
      have HC5 : Hid (Own (w4.alloc (.cells #[.int .u8 (N : Int), .int .u8 ((flagN nt).toNat : Int), .int .u8 ((flagN has).toNat : Int)] 5)) wr.heap.size 131 #[.string cn, .int .i64 (N : Int), .bool nt, .bool has, .int .i64 dt, .int .i64 dn, .string ds]) := HC4.out.on bb
      have HV5 : Hid (Own (w4.alloc (.cells #[.int .u8 (N : Int), .int .u8 ((flagN nt).toNat : Int), .int .u8 ((flagN has).toNat : Int)] 5)) w.heap.size 46 #[.int .i64 (K : Int), .string table, .slice (some ⟨b, off, none⟩) cs.length p, .slice o ks.length q, .string name, .string to]) := HV4.out.on bb
      have HB5 : Hid (Gb B w (w4.alloc (.cells #[.int .u8 (N : Int), .int .u8 ((flagN nt).toNat : Int), .int .u8 ((flagN has).toNat : Int)] 5))) := HB4.out.trans (Gb.new bb hs4)
      have hs5 : B ≤ (w4.alloc (.cells #[.int .u8 (N : Int), .int .u8 ((flagN nt).toNat : Int), .int .u8 ((flagN has).toNat : Int)] 5)).heap.size := Nat.le_trans hs4 bb.size
      clear hK Kk bb HG4 HC4 HV4 HB4
      generalize w4.alloc (.cells #[.int .u8 (N : Int), .int .u8 ((flagN nt).toNat : Int), .int .u8 ((flagN has).toNat : Int)] 5) = w5 at HR5 HG5 HC5 HV5 HB5 hs5 ⊢
      refine planG_on rfl ?_
      refine wpQuiet_nil ?_
      refine plan_call rfl rfl (fun Kk hK => ?_)
      refine app_calmT (.tmp 31) (.tmp 41) rfl Tryz.underlying26 infoByte rfl (by decide) (by decide) B _ _ rfl HG5.out w4.heap.size 0 3 ([UInt8.ofNat N, flagN nt, flagN has].map byX) 3 (by simp) rfl HR5.out (byte_one _) (by simp [textL_length]; omega) hs5 ?_
      intro v6 w6 hg6 hb6 ht6
      have hq6 := Gb.got HG5.out ht6 hb6
      refine hK _ _ ⟨hq6, ?_⟩
      go_simp
      obtain ⟨a6, n6, e6, rfl, hg6⟩ := hg6.lit2
      have HG6 : Hid (Got w6 B 5 1 (.slice a6 n6 e6) ((L0 ++ textL cn ++ [UInt8.ofNat N, flagN nt, flagN has]).map byX)) := by
        show Got _ _ _ _ _ _
        rw [List.map_append]; exact hg6
      have HC6 : Hid (Own w6 wr.heap.size 131 #[.string cn, .int .i64 (N : Int), .bool nt, .bool has, .int .i64 dt, .int .i64 dn, .string ds]) := hq6.2.own HC5.out (by decide)
      have HV6 : Hid (Own w6 w.heap.size 46 #[.int .i64 (K : Int), .string table, .slice (some ⟨b, off, none⟩) cs.length p, .slice o ks.length q, .string name, .string to]) := hq6.2.own HV5.out (by decide)
      have HB6 : Hid (Gb B w w6) := HB5.out.trans hq6
      have hs6 : B ≤ w6.heap.size := Nat.le_trans hs5 hq6.1.size
      clear hK Kk hg6 hb6 ht6 hq6 HR5 HG5 HC5 HV5 HB5
      refine planG_end (by simp only [pick, List.getElem?_toArray, List.getElem?_cons_succ, List.getElem?_cons_zero]; rfl) ?_
      repeat (go_big_quiet_step ((intro hu; go_simp; (try exact rfl))))
      refine wpQuiet_nil ?_
      obtain ⟨m0, m1, m2, m3, m4, m5, m6⟩ := HC6.out.loc.seven
      have hvl1 := HVL.out.1
      have hvl2 := HVL.out.2
      go_wp2_with fail
      refine (HVB.out _).mono ?_
      rintro e w7 ⟨v7, rfl, b7, hg7⟩
      obtain ⟨a7, c7, rfl, _, _, hr7, _⟩ := hg7.row
      obtain ⟨b8, off8, rfl, hb8⟩ := hr7.bytes 0 (by omega)
      clear hb8
      rw [List.length_map]
      have HX : Hid (textL cn ++ [UInt8.ofNat N, flagN nt, flagN has] ++ valL ⟨dt, dn, ds⟩ = colL ⟨cn, (N : Int), nt, has, dt, dn, ds⟩) := by show _ = _; simp [colL]
      have HR7 : Hid (RowAt w7 (some ⟨b8, off8, none⟩) 1 ((valL ⟨dt, dn, ds⟩).map byX)) := hr7
      generalize valL ⟨dt, dn, ds⟩ = X at HR7 HX hvl1 hvl2 ⊢
      have HG7 : Hid (Got w7 B 5 1 (.slice a6 n6 e6) ((L0 ++ textL cn ++ [UInt8.ofNat N, flagN nt, flagN has]).map byX)) := HG6.out.on b7
      have HV7 : Hid (Own w7 w.heap.size 46 #[.int .i64 (K : Int), .string table, .slice (some ⟨b, off, none⟩) cs.length p, .slice o ks.length q, .string name, .string to]) := HV6.out.on b7
      have HB7 : Hid (Gb B w w7) := HB6.out.trans (Gb.new b7 hs6)
      have hs7 : B ≤ w7.heap.size := Nat.le_trans hs6 b7.size
      clear hg7 hr7 b7 HVL HVB HG6 HV6 HB6 HC6 m0 m1 m2 m3 m4 m5 m6
      go_wp2_with (at_builtin; refine app_lotT rfl (.tmp 49) (.tmp 50) rfl Tryz.underlying26 infoByte rfl (by decide) (by decide) B _ _ rfl HG7.out b8 off8 _ (X.map byX) X.length (by simp) rfl HR7.out (byte_one _) (by simp [textL_length]; omega) hs7 ?_; intro v9 w9 hg9 hb9 ht9; have hq9 := Gb.got HG7.out ht9 hb9; have HG9 : Hid (Got w9 B 5 1 v9 ((L0 ++ colL ⟨cn, (N : Int), nt, has, dt, dn, ds⟩).map byX)) := (by show Got _ _ _ _ _ _; rw [← HX.out, ← List.append_assoc, ← List.append_assoc, List.map_append]; exact hg9); have HV9 : Hid (Own w9 w.heap.size 46 #[.int .i64 (K : Int), .string table, .slice (some ⟨b, off, none⟩) cs.length p, .slice o ks.length q, .string name, .string to]) := hq9.2.own HV7.out (by decide); have HB9 : Hid (Gb B w w9) := HB7.out.trans hq9; clear hg9 hb9 ht9 hq9)
      go_round
      case rel => exact ⟨k + 1, by omega, by go_num, HB9, HV9, by
        show Got _ _ _ _ _ _
        rw [← HFL.out]; exact HG9.out⟩
      case measure => simp [intOf]; omega
    · have hlti : (cs.length : Int) ≤ k := by omega
      have hs2 : B ≤ wr.heap.size := Nat.le_trans hB HB2.out.1.size
      have HG3 : Hid (Got wr B 5 1 (.slice a2 n2 e2) ((l ++ [UInt8.ofNat K, UInt8.ofNat cs.length] ++ cs.flatMap colL).map byX)) := by
        have := hg2
        rwa [List.take_of_length_le (by omega)] at this
      have hL1 : (l ++ [UInt8.ofNat K, UInt8.ofNat cs.length] ++ cs.flatMap colL).length ≤ 300000 := by simp only [List.length_append, List.length_cons, List.length_nil]; omega
      have HT1 : Hid (l ++ Z = (l ++ [UInt8.ofNat K, UInt8.ofNat cs.length] ++ cs.flatMap colL) ++ [UInt8.ofNat ks.length] ++ ks.flatMap textL ++ textL name ++ textL to) := by
        show _ = _
        rw [HT0.out]; simp
      obtain ⟨d0, d1, d2, d3, d4, d5⟩ := HV2.out.loc.six
      have hv2 := HV2.out.lt
      clear hg2 HG2 HT0 HC HCS
      generalize l ++ [UInt8.ofNat K, UInt8.ofNat cs.length] ++ cs.flatMap colL = L1 at HG3 hL1 HT1
      go_wp2_with (at_builtin; refine app_lotT rfl (.tmp 53) (.tmp 58) rfl Tryz.underlying26 infoByte rfl (by decide) (by decide) B _ _ rfl (HG3.out.on (ch_alloc (Below.refl _ _) _)) wr.heap.size 0 1 ([UInt8.ofNat ks.length].map byX) 1 (by simp) rfl (bytes_row1 (u8_nat (by omega)) (Own.new wr 5 #[.int .u8 (ks.length : Int)])) (byte_one _) (by simp; omega) (by simp; omega) ?_; intro v4 w4 hg4 hb4 ht4; have hq4 := (Gb.new (B := B) (ch_alloc (Below.refl _ wr) (.cells #[.int .u8 (ks.length : Int)] 5)) hs2).trans (Gb.got (HG3.out.on (ch_alloc (Below.refl _ _) _)) ht4 hb4); have HB4 : Hid (Gb B w w4) := HB2.out.trans hq4; have HV4 : Own w4 w.heap.size 46 #[.int .i64 (K : Int), .string table, .slice a cs.length p, .slice o ks.length q, .string name, .string to] := hq4.2.own HV2.out (by decide); have HG4 : Hid (Got w4 B 5 1 v4 ((L1 ++ [UInt8.ofNat ks.length]).map byX)) := (by show Got _ _ _ _ _ _; rw [List.map_append]; exact hg4); clear hg4 hb4 ht4 hq4 d0 d1 d2 d3 d4 d5 HB2 HV2 HG3 hs2 hv2; have HV4' : Hid (Own w4 w.heap.size 46 #[.int .i64 (K : Int), .string table, .slice a cs.length p, .slice o ks.length q, .string name, .string to]) := HV4; obtain ⟨d0, d1, d2, d3, d4, d5⟩ := HV4.loc.six; clear HV4)
      go_loopw [0, 63] (fun bv i wq => ∃ j : Nat, j ≤ ks.length ∧ i = .int .i64 (j : Int) ∧ Hid (Gb B w wq) ∧ Hid (Own wq w.heap.size 46 #[.int .i64 (K : Int), .string table, .slice a cs.length p, .slice o ks.length q, .string name, .string to]) ∧ Hid (Got wq B 5 1 bv ((L1 ++ [UInt8.ofNat ks.length] ++ (ks.take j).flatMap textL).map byX))) (fun _ i _ => ks.length - (intOf i).toNat)
      case atStart => exact ⟨0, Nat.zero_le _, rfl, HB4, HV4', by
        have := HG4.out
        show Got _ _ _ _ _ _
        simpa using this⟩
      case round =>
        clear HG4 HB4 HV4' d0 d1 d2 d3 d4 d5
        obtain ⟨j, hj, rfl, HB5, HV5, HG5⟩ := hrel
        obtain ⟨a5, n5, e5, rfl, hg5⟩ := HG5.out.lit2
        by_cases hlt2 : j < ks.length
        · have hlti2 : (j : Int) < ks.length := by omega
          obtain ⟨b, off, rfl, s0⟩ := (HK.out _ HB5.out.1).strs j hlt2
          have hlen : (L1 ++ [UInt8.ofNat ks.length] ++ (ks.take j).flatMap textL).length ≤ 900000 := by
            have h1 := flat_words (ks := ks.take j) fun x hx => HKS.out x (List.mem_of_mem_take hx)
            have h2 : (ks.take j).length ≤ 1000 := by simp; omega
            simp only [List.length_append, List.length_cons, List.length_nil]; omega
          have HFL : Hid ((L1 ++ [UInt8.ofNat ks.length] ++ (ks.take j).flatMap textL) ++ textL ks[j] = L1 ++ [UInt8.ofNat ks.length] ++ (ks.take (j + 1)).flatMap textL) := by
            show _ = _
            rw [List.take_succ_eq_append_getElem hlt2, List.flatMap_append]
            simp
          have HWO : Hid (okWord ks[j]) := HKS.out _ (List.getElem_mem hlt2)
          have HG5' : Hid (Got wr B 5 1 (.slice a5 n5 e5) ((L1 ++ [UInt8.ofNat ks.length] ++ (ks.take j).flatMap textL).map byX)) := hg5
          have hs5 := Nat.le_trans hB HB5.out.1.size
          clear hg5 HG5
          generalize L1 ++ [UInt8.ofNat ks.length] ++ (ks.take j).flatMap textL = L5 at HG5' hlen HFL
          generalize ks[j] = s at s0 HFL HWO
          go_wp2_with fail
          refine (l06Word_any _ B L5 s wr HG5'.out HWO.out (by omega) hs5).mono ?_
          rintro e w6 ⟨v6, rfl, hb6, hg6⟩
          have HG6 : Hid (Got w6 B 5 1 v6 ((L5 ++ textL s).map byX)) := hg6
          have HV6 : Hid (Own w6 w.heap.size 46 #[.int .i64 (K : Int), .string table, .slice a cs.length p, .slice (some ⟨b, off, none⟩) ks.length q, .string name, .string to]) := hb6.2.own HV5.out (by decide)
          have HB6 : Hid (Gb B w w6) := HB5.out.trans hb6
          clear hb6 hg6
          go_wp2
          go_round
          case rel => exact ⟨j + 1, by omega, by go_num, HB6, HV6, by
            show Got _ _ _ _ _ _
            rw [← HFL.out]; exact HG6.out⟩
          case measure => simp [intOf]; omega
        · have hlti2 : (ks.length : Int) ≤ j := by omega
          have hs5 := Nat.le_trans hB HB5.out.1.size
          have HG6 : Hid (Got wr B 5 1 (.slice a5 n5 e5) ((L1 ++ [UInt8.ofNat ks.length] ++ ks.flatMap textL).map byX)) := by
            have := hg5
            rwa [List.take_of_length_le (by omega)] at this
          have hL2 : (L1 ++ [UInt8.ofNat ks.length] ++ ks.flatMap textL).length ≤ 400000 := by simp only [List.length_append, List.length_cons, List.length_nil]; omega
          clear hg5 HG5 HK HKS
          generalize L1 ++ [UInt8.ofNat ks.length] ++ ks.flatMap textL = L2 at HG6 hL2 HT1
          have hna8 := okWord_size HNA.out.1
          go_wp2_with fail
          refine region_planG (Gb B) (Gb.rel B) [([0, 1, 2, 4, 5], 3), ([], 6)] [7] (by kernel_rfl) (by kernel_rfl) ?_
          have hgd := Grows.drawn wr
          generalize { wr with drawn := wr.drawn + 1 } = wd at hgd ⊢
          have HB7 : Hid (Gb B w wd) := HB5.out.trans (Gb.new hgd hs5)
          have HV7 : Hid (Own wd w.heap.size 46 #[.int .i64 (K : Int), .string table, .slice a cs.length p, .slice o ks.length q, .string name, .string to]) := HV5.out.on hgd
          have HG7 : Hid (Got wd B 5 1 (.slice a5 n5 e5) (L2.map byX)) := HG6.out.on hgd
          have hs7 : B ≤ wd.heap.size := Nat.le_trans hs5 hgd.size
          clear hgd HB5 HV5 HG6
          refine planG_on (by simp only [pick, List.getElem?_toArray, List.getElem?_cons_succ, List.getElem?_cons_zero]; rfl) ?_
          repeat (go_big_quiet_step ((intro hu; obtain ⟨n0, n1, n2, n3, n4, n5⟩ := (hu.2.own HV7.out (by decide)).loc.six; go_simp; (try exact rfl))))
          refine wpQuiet_nil ?_
          refine plan_call rfl rfl (fun Kk hK => ?_)
          go_simp
          go_at_call 64
          refine (l06Word_any _ B L2 name wd HG7.out HNA.out.1 (by omega) hs7).mono ?_
          rintro e w8 ⟨v8, rfl, hb8, hg8⟩
          refine ⟨_, rfl, hK _ _ ⟨hb8, ?_⟩⟩
          have HG8 : Hid (Got w8 B 5 1 v8 ((L2 ++ textL name).map byX)) := hg8
          have HB8 : Hid (Gb B w w8) := HB7.out.trans hb8
          have hs8 : B ≤ w8.heap.size := Nat.le_trans hs7 hb8.1.size
          clear hK Kk hb8 hg8 HG7 HB7 HV7
          refine planG_on rfl ?_
          refine wpQuiet_nil ?_
          refine plan_call rfl rfl (fun Kk hK => ?_)
          go_simp
          go_at_call 64
          refine (l06Word_any _ B (L2 ++ textL name) to w8 HG8.out HNA.out.2 (by simp [textL_length]; omega) hs8).mono ?_
          rintro e w9 ⟨v9, rfl, hb9, hg9⟩
          refine ⟨_, rfl, hK _ _ ⟨hb9, ?_⟩⟩
          have HG9 : Hid (Got w9 B 5 1 v9 ((l ++ Z).map byX)) := by show Got _ _ _ _ _ _; rw [HT1.out]; exact hg9
          have HB9 : Hid (Gb B w w9) := HB8.out.trans hb9
          clear hK Kk hb9 hg9 HG8 HB8
          refine planG_end (by simp only [pick, List.getElem?_toArray, List.getElem?_cons_succ, List.getElem?_cons_zero]; rfl) ?_
          repeat (go_big_quiet_step ((intro hu; go_simp; (try exact rfl))))
          refine wpQuiet_nil ?_
          go_wp2
          exact bodyPost_ret (v := v9) (by simp [results, Tryz.results66, go_sem]) rfl ⟨_, rfl, HB9.out, HG9.out⟩
end Go.Proofs.YtiijahoheajppaaGreat

namespace Go.Proofs.YtiijahoheajppaaGreat
open Go.ChangeShapes Go.WideShapes Go.ChangeAt Go.RowKit

theorem okWord_none {s : ByteArray} (h : noneB s = true) : okWord s := Or.inl (noneB_size h)
theorem Dc.right_tidy {d : Dc} (h : d.right) : d.tidy := by
  obtain ⟨kind, table, cs, ks, name, to⟩ := d
  obtain ⟨h0, h⟩ := h
  simp only at h0 h
  have hz : ∀ l : List Cl, l.length = 0 → ∀ c ∈ l, okWord c.name ∧ 0 ≤ c.ty ∧ c.ty ≤ 3 ∧ okB c.dt c.dn c.ds = true := fun l h c hc => by rw [List.length_eq_zero_iff] at h; subst h; simp at hc
  have hy : ∀ l : List ByteArray, l.length = 0 → ∀ s ∈ l, okWord s := fun l h c hc => by rw [List.length_eq_zero_iff] at h; subst h; simp at hc
  have hco : ∀ c : Cl, c.ok = true → okWord c.name ∧ 0 ≤ c.ty ∧ c.ty ≤ 3 ∧ okB c.dt c.dn c.ds = true := fun c hc => by
    have h1 := Cl.ok_small hc
    simp only [Cl.ok, Bool.and_eq_true, decide_eq_true_eq] at hc
    exact ⟨Or.inr hc.1.1, by omega, by omega, h1.2.2⟩
  rcases h with ⟨rfl, h1, h2, h3⟩ | ⟨rfl, h1, h2, h3, h4⟩ | ⟨rfl, h1, h2, h3, h4, h5⟩ | ⟨rfl, h1, h2, h3, h4⟩ | ⟨rfl, h1, h2, h3, h4⟩
  · have hkl := right_keys h3
    have hcs : ∀ c ∈ cs, c.ok = true := fun c hc => by
      obtain ⟨i, hi, rfl⟩ := List.getElem_of_mem hc
      exact h3.2.2.2.2.1 i hi
    have h8 : cs.length ≤ 8 := h3.2.2.1
    refine ⟨by show (0 : Int) ≤ 1 ∧ (1 : Int) ≤ 5; omega, h8, fun c hc => hco c (hcs c hc), Nat.le_trans hkl h8, fun s hs => ?_, okWord_none h1, okWord_none h2⟩
    obtain ⟨j, hj, rfl⟩ := List.getElem_of_mem hs
    obtain ⟨i, hi, hat, _⟩ := right_key h3 j hj
    obtain ⟨hi', he, _⟩ := colAt_first hat
    have : ks[j] = cs[i].name := he.symm
    rw [this]
    exact (hco _ (hcs _ (List.getElem_mem hi'))).1
  · exact ⟨by show (0 : Int) ≤ 2 ∧ (2 : Int) ≤ 5; omega, by show cs.length ≤ 8; omega, hz _ h1, by show ks.length ≤ 8; omega, hy _ h2, okWord_none h3, okWord_none h4⟩
  · refine ⟨by show (0 : Int) ≤ 3 ∧ (3 : Int) ≤ 5; omega, by show cs.length ≤ 8; omega, fun c hc => ?_, by show ks.length ≤ 8; omega, hy _ h3, okWord_none h4, okWord_none h5⟩
    obtain ⟨i, hi, rfl⟩ := List.getElem_of_mem hc
    obtain rfl : i = 0 := by have : i < cs.length := hi; omega
    exact hco _ (h2 hi).1
  · exact ⟨by show (0 : Int) ≤ 4 ∧ (4 : Int) ≤ 5; omega, by show cs.length ≤ 8; omega, hz _ h1, by show ks.length ≤ 8; omega, hy _ h2, Or.inr h3, okWord_none h4⟩
  · exact ⟨by show (0 : Int) ≤ 5 ∧ (5 : Int) ≤ 5; omega, by show cs.length ≤ 8; omega, hz _ h1, by show ks.length ≤ 8; omega, hy _ h2, Or.inr h3, Or.inr h4⟩
theorem got_two (w : World) (x y : UInt8) (m n : Int) (hm : (x.toNat : Int) = m) (hn : (y.toNat : Int) = n) : Got (w.alloc (.cells #[.int .u8 m, .int .u8 n] 5)) w.heap.size 5 1 (.slice (some ⟨w.heap.size, 0, none⟩) 2 2) ([x, y].map byX) := by
  subst hm; subst hn
  exact ⟨fun q hq => by simp at hq; rcases hq with rfl | rfl <;> rfl, by simp, Or.inr ⟨w.heap.size, 2, #[.int .u8 (x.toNat : Int), .int .u8 (y.toNat : Int)], rfl, Nat.le_refl _, Own.new _ _ _, Nat.le_refl _, by unfold maxLen; omega, rfl, rfl⟩⟩
theorem Got.own_lt {w : World} {B : Nat} {T : TypeId} {z : Nat} {v : Value} {xs : List (Array Value)} (h : Got w B T z v xs) {c : Nat} (hc : v.ownBlock = some c) : c < w.heap.size := by
  rcases h.2.2 with ⟨e, _⟩ | ⟨g, cap, cur, e, _, hg, _⟩
  · subst e; cases hc
  · subst e; cases hc; exact Own.lt hg

set_option maxRecDepth 100000 in
set_option maxHeartbeats 1000000 in
/-- spec.StmtBytes -/
theorem stmtBytes_spec (x : Array Value) (s : Sc) (w : World) (hx : StmtV w x s) (hf : s.fit) (q : Bool) (L : List UInt8) (hq : (q = true ∧ s.right ∧ L = stmtL s) ∨ (q = false ∧ ¬ s.right ∧ L = [])) :
    Calls Tryz.prog 31 #[.agg x] w fun e w' => ∃ v', e = .returned (.tuple #[v', .bool q]) ∧ Below w.heap.size w w' ∧ Got w' w.heap.size 5 1 v' (L.map byX) := by
  obtain ⟨ka, kp, ra, rp, ca, cp, oa, op, e0, hkv, hrv, hcv, hov⟩ := hx.lit
  simp only [Sc.cells] at e0
  subst e0
  have HSO : Hid (∀ u : World, Below w.heap.size w u → Calls Tryz.prog 61 #[.agg #[.int .i64 s.kind, .string s.table, .slice ka s.key.length kp, .slice ra s.row.length rp, .int .i64 s.ddl.kind, .string s.ddl.table, .slice ca s.ddl.cols.length cp, .slice oa s.ddl.keys.length op, .string s.ddl.name, .string s.ddl.to]] u fun e w' => e = .returned (.bool q) ∧ Below u.heap.size u w') := fun u hu => (stmtOk_spec _ s u (hx.on hu) hf).mono fun e w' ⟨r, he, hr, hb⟩ => ⟨by
    rw [he]
    have : r = q := by
      rcases hq with ⟨rfl, h, _⟩ | ⟨rfl, h, _⟩
      · exact hr.2 h
      · cases r with
        | false => rfl
        | true => exact absurd (hr.1 rfl) h
    rw [this], hb⟩
  have HKV : Hid (ValsV w (.slice ka s.key.length kp) s.key) := hkv
  have HRV : Hid (ValsV w (.slice ra s.row.length rp) s.row) := hrv
  have HCV : Hid (ColsV w (.slice ca s.ddl.cols.length cp) s.ddl.cols) := hcv
  have HOV : Hid (StrsV w (.slice oa s.ddl.keys.length op) s.ddl.keys) := hov
  clear hx hkv hrv hcv hov hf
  rcases hq with ⟨rfl, hr, rfl⟩ | ⟨rfl, hr, rfl⟩
  rotate_left
  · clear hr HKV HRV HCV HOV
    go_enter Tryz.func31, Tryz.ntmps31
    go_wp2_with fail
    refine (HSO.out _ (by repeat (first | with_reducible exact Below.refl _ _ | with_reducible assumption | with_reducible refine ch_alloc ?_ _ | with_reducible refine Below.drew ?_ | with_reducible refine below_draws _ ?_ | (with_reducible refine Below.setCell ?_ ?_ _; rotate_left; focus (first | with_reducible exact Nat.le_refl _ | (simp; done) | (simp; omega) | (simp at *; omega))) | with_reducible refine ch_trans ?_ (by with_reducible assumption)))).mono ?_
    rintro e w0 ⟨rfl, b0⟩
    go_wp2
    go_ret2
    exact ⟨_, rfl, (by repeat (first | with_reducible exact Below.refl _ _ | with_reducible assumption | with_reducible refine ch_alloc ?_ _ | with_reducible refine Below.drew ?_ | with_reducible refine below_draws _ ?_ | (with_reducible refine Below.setCell ?_ ?_ _; rotate_left; focus (first | with_reducible exact Nat.le_refl _ | (simp; done) | (simp; omega) | (simp at *; omega))) | with_reducible refine ch_trans ?_ (by with_reducible assumption))), Got.nil _ _ _ _⟩
  have hdt : s.kind = 5 → s.ddl.tidy := fun h5 => by
    obtain ⟨_, h⟩ := hr
    rcases h with ⟨hk, _⟩ | ⟨hk, _⟩ | ⟨hk, _⟩ | ⟨hk, _⟩ | ⟨_, _, _, h3, _⟩ <;> first | exact Dc.right_tidy h3 | omega
  have htw : okWord s.table := Or.inr hr.1
  obtain ⟨ht8, hk1, hk5, hkr, hrr, _⟩ := Sc.right_small hr
  clear hr
  obtain ⟨kind, table, key, row, dd⟩ := s
  simp only at ht8 hk1 hk5 hkr hrr hdt htw HSO HKV HRV HCV HOV
  obtain ⟨K, rfl⟩ : ∃ K : Nat, kind = (K : Int) := ⟨kind.toNat, by omega⟩
  have HRK : Hid (∀ u : World, Below w.heap.size w u → Calls Tryz.prog 65 #[.slice ka key.length kp] u fun e w' => ∃ v', e = .returned (.tuple #[v', .bool true]) ∧ Below u.heap.size u w' ∧ Got w' u.heap.size 5 1 v' ((rowL key).map byX)) := fun u hu => rowBytes_spec _ key u (HKV.out.on hu) true _ (Or.inl ⟨rfl, hkr, rfl⟩)
  have HRR : Hid (∀ u : World, Below w.heap.size w u → Calls Tryz.prog 65 #[.slice ra row.length rp] u fun e w' => ∃ v', e = .returned (.tuple #[v', .bool true]) ∧ Below u.heap.size u w' ∧ Got w' u.heap.size 5 1 v' ((rowL row).map byX)) := fun u hu => rowBytes_spec _ row u (HRV.out.on hu) true _ (Or.inl ⟨rfl, hrr, rfl⟩)
  have HDS : Hid ((K : Int) = 5 → dd.tidy) := hdt
  have HTW : Hid (okWord table) := htw
  have hkl := rowL_length hkr
  have hrl := rowL_length hrr
  have hkp : 1 ≤ (rowL key).length := by simp [rowL]
  have hrp : 1 ≤ (rowL row).length := by simp [rowL]
  have HD : Hid (stmtL ⟨(K : Int), table, key, row, dd⟩ = [83, UInt8.ofNat K] ++ textL table ++ rowL key ++ rowL row ++ (if (K : Int) = 5 then ddlL dd else [])) := by
    show _ = _
    simp [stmtL]
  generalize stmtL ⟨(K : Int), table, key, row, dd⟩ = D at HD
  clear hkr hrr hdt htw HKV HRV
  go_enter Tryz.func31, Tryz.ntmps31
  go_wp2_with fail
  refine (HSO.out _ (by repeat (first | with_reducible exact Below.refl _ _ | with_reducible assumption | with_reducible refine ch_alloc ?_ _ | with_reducible refine Below.drew ?_ | with_reducible refine below_draws _ ?_ | (with_reducible refine Below.setCell ?_ ?_ _; rotate_left; focus (first | with_reducible exact Nat.le_refl _ | (simp; done) | (simp; omega) | (simp at *; omega))) | with_reducible refine ch_trans ?_ (by with_reducible assumption)))).mono ?_
  rintro e w0 ⟨rfl, b0⟩
  have HV0 : Own w0 w.heap.size 48 #[.int .i64 (K : Int), .string table, .slice ka key.length kp, .slice ra row.length rp, .int .i64 dd.kind, .string dd.table, .slice ca dd.cols.length cp, .slice oa dd.keys.length op, .string dd.name, .string dd.to] := (Own.new _ _ _).on b0
  have HB0 : Hid (Below w.heap.size w w0) := ch_trans (ch_alloc (Below.refl _ _) _) b0
  have hvw0 : w.heap.size < w0.heap.size := HV0.lt
  have HV0' : Hid (Own w0 w.heap.size 48 #[.int .i64 (K : Int), .string table, .slice ka key.length kp, .slice ra row.length rp, .int .i64 dd.kind, .string dd.table, .slice ca dd.cols.length cp, .slice oa dd.keys.length op, .string dd.name, .string dd.to]) := HV0
  obtain ⟨d0, d1, d2, d3, d4, d5, d6, d7, d8, d9⟩ := HV0.loc.ten
  clear b0 HV0 HSO
  go_wp2_with fail
  refine (l06Word_any (.slice (some ⟨w0.heap.size, 0, none⟩) 2 2) w.heap.size [83, UInt8.ofNat K] table (w0.alloc (.cells #[.int .u8 83, .int .u8 (K : Int)] 5)) ((got_two w0 83 (UInt8.ofNat K) 83 (K : Int) rfl (u8_nat (by omega))).mono (by omega)) HTW.out (by simp) (by simp; omega)).mono ?_
  rintro e w1 ⟨v1, rfl, hb1, hg1⟩
  obtain ⟨a1, n1, e1, rfl, hg1⟩ := hg1.lit2
  have HG1 : Hid (Got w1 w.heap.size 5 1 (.slice a1 n1 e1) (([83, UInt8.ofNat K] ++ textL table).map byX)) := hg1
  have HV1 : Hid (Own w1 w.heap.size 48 #[.int .i64 (K : Int), .string table, .slice ka key.length kp, .slice ra row.length rp, .int .i64 dd.kind, .string dd.table, .slice ca dd.cols.length cp, .slice oa dd.keys.length op, .string dd.name, .string dd.to]) := hb1.2.own (HV0'.out.on (ch_alloc (Below.refl _ _) _)) (by decide)
  have HB1 : Hid (Below w.heap.size w w1) := (ch_trans HB0.out (ch_alloc (Below.refl _ _) _)).trans hb1.1
  have hvw1 := HV1.out.lt
  clear hb1 hg1 HV0' HB0 d0 d1 d2 d3 d4 d5 d6 d7 d8 d9
  obtain ⟨d0, d1, d2, d3, d4, d5, d6, d7, d8, d9⟩ := HV1.out.loc.ten
  go_wp2_with fail
  refine (HRK.out _ HB1.out).mono ?_
  rintro e w2 ⟨v2, rfl, b2, hg2⟩
  obtain ⟨a2, c2, rfl, _, _, hr2, _⟩ := hg2.row
  obtain ⟨g2, o2, rfl, hgo⟩ := hr2.bytes 0 (by omega)
  clear hgo
  rw [List.length_map]
  have HR2 : Hid (RowAt w2 (some ⟨g2, o2, none⟩) 1 ((rowL key).map byX)) := hr2
  have HG2 : Hid (Got w2 w.heap.size 5 1 (.slice a1 n1 e1) (([83, UInt8.ofNat K] ++ textL table).map byX)) := HG1.out.on b2
  have HV2 : Hid (Own w2 w.heap.size 48 #[.int .i64 (K : Int), .string table, .slice ka key.length kp, .slice ra row.length rp, .int .i64 dd.kind, .string dd.table, .slice ca dd.cols.length cp, .slice oa dd.keys.length op, .string dd.name, .string dd.to]) := HV1.out.on b2
  have HB2 : Hid (Below w.heap.size w w2) := ch_trans HB1.out b2
  have hvw2 := HV2.out.lt
  clear hg2 hr2 b2 HG1 HV1 HB1 d0 d1 d2 d3 d4 d5 d6 d7 d8 d9
  obtain ⟨d0, d1, d2, d3, d4, d5, d6, d7, d8, d9⟩ := HV2.out.loc.ten
  go_wp2_with fail
  refine (HRR.out _ HB2.out).mono ?_
  rintro e w3 ⟨v3, rfl, b3, hg3⟩
  obtain ⟨a3, c3, rfl, _, _, hr3, _⟩ := id hg3.row
  obtain ⟨g3, o3, rfl, hgo⟩ := hr3.bytes 0 (by omega)
  clear hgo hr3
  rw [List.length_map] at hg3 ⊢
  have HR3 : Hid (RowAt w3 (some ⟨g2, o2, none⟩) 1 ((rowL key).map byX)) := HR2.out.on b3
  have HR3' : Hid (Got w3 w2.heap.size 5 1 (.slice (some ⟨g3, o3, none⟩) (rowL row).length c3) ((rowL row).map byX)) := hg3
  have HOL : Hid (∀ c, (Value.slice a1 n1 e1).ownBlock = some c → c < w2.heap.size) := fun c hc => HG2.out.own_lt hc
  have HG3 : Hid (Got w3 w.heap.size 5 1 (.slice a1 n1 e1) (([83, UInt8.ofNat K] ++ textL table).map byX)) := HG2.out.on b3
  have HV3 : Hid (Own w3 w.heap.size 48 #[.int .i64 (K : Int), .string table, .slice ka key.length kp, .slice ra row.length rp, .int .i64 dd.kind, .string dd.table, .slice ca dd.cols.length cp, .slice oa dd.keys.length op, .string dd.name, .string dd.to]) := HV2.out.on b3
  have HB3 : Hid (Below w.heap.size w w3) := ch_trans HB2.out b3
  have hvw3 := HV3.out.lt
  clear hg3 b3 HG2 HV2 HB2 HR2 d0 d1 d2 d3 d4 d5 d6 d7 d8 d9
  generalize rowL key = KL at HR3 hkl hkp HD ⊢
  generalize rowL row = RL at HR3' hrl hrp HD ⊢
  have hl6 : ([83, UInt8.ofNat K] ++ textL table ++ KL ++ RL).length ≤ 1000 := by simp only [List.length_append, List.length_cons, List.length_nil, textL_length]; omega
  by_cases h5 : (K : Int) = 5
  · have HD' : Hid (D = [83, UInt8.ofNat K] ++ textL table ++ KL ++ RL ++ ddlL dd) := by show _ = _; rw [HD.out, if_pos h5]
    have HDM : Hid dd.tidy := HDS.out h5
    go_wp2_with (first
      | (at_builtin; refine app_lotT rfl (.tmp 32) (.tmp 33) rfl Tryz.underlying26 infoByte rfl (by decide) (by decide) w.heap.size _ _ rfl HG3.out g2 o2 _ (KL.map byX) KL.length (by simp) rfl HR3.out (byte_one _) (by simp [textL_length]; omega) (by omega) ?_; intro v5 w5 hg5 hb5 ht5; obtain ⟨a5, n5, e5, rfl, hg5⟩ := hg5.lit2; have hq5 : Gb w.heap.size w3 w5 := Gb.got HG3.out ht5 hb5; have HG5 : Hid (Got w5 w.heap.size 5 1 (.slice a5 n5 e5) (([83, UInt8.ofNat K] ++ textL table ++ KL).map byX)) := (by show Got _ _ _ _ _ _; rw [List.map_append]; exact hg5); have HR5 : Hid (RowAt w5 (some ⟨g3, o3, none⟩) 1 (RL.map byX)) := (by obtain ⟨_, _, he, _, _, hr, _⟩ := (HR3'.out.turns ht5 fun c h => HOL.out c h).row; injection he with h1 _ _; subst h1; exact hr); have HV5 : Hid (Own w5 w.heap.size 48 #[.int .i64 (K : Int), .string table, .slice ka key.length kp, .slice ra row.length rp, .int .i64 dd.kind, .string dd.table, .slice ca dd.cols.length cp, .slice oa dd.keys.length op, .string dd.name, .string dd.to]) := hq5.2.own HV3.out (by decide); have HB5 : Hid (Below w.heap.size w w5) := HB3.out.trans hb5; have hvw5 := HV5.out.lt; clear hg5 hb5 ht5 hq5)
      | (at_builtin; refine app_lotT rfl (.tmp 34) (.tmp 35) rfl Tryz.underlying26 infoByte rfl (by decide) (by decide) w.heap.size _ _ rfl HG5.out g3 o3 _ (RL.map byX) RL.length (by simp) rfl HR5.out (byte_one _) (by simp [textL_length]; omega) (by omega) ?_; intro v6 w6 hg6 hb6 ht6; obtain ⟨a6, n6, e6, rfl, hg6⟩ := hg6.lit2; have hq6 : Gb w.heap.size w5 w6 := Gb.got HG5.out ht6 hb6; have HG6 : Hid (Got w6 w.heap.size 5 1 (.slice a6 n6 e6) (([83, UInt8.ofNat K] ++ textL table ++ KL ++ RL).map byX)) := (by show Got _ _ _ _ _ _; rw [List.map_append]; exact hg6); have HV6 : Hid (Own w6 w.heap.size 48 #[.int .i64 (K : Int), .string table, .slice ka key.length kp, .slice ra row.length rp, .int .i64 dd.kind, .string dd.table, .slice ca dd.cols.length cp, .slice oa dd.keys.length op, .string dd.name, .string dd.to]) := hq6.2.own HV5.out (by decide); have HB6 : Hid (Below w.heap.size w w6) := HB5.out.trans hb6; have hvw6 := HV6.out.lt; clear hg6 hb6 ht6 hq6; obtain ⟨d0, d1, d2, d3, d4, d5, d6, d7, d8, d9⟩ := HV6.out.loc.ten)
      | fail)
    refine (l06Ddl_any (.slice a6 n6 e6) w.heap.size ([83, UInt8.ofNat K] ++ textL table ++ KL ++ RL) ca oa cp op dd w6 HG6.out (fun u hu => (HCV.out.on (HB6.out.trans hu)).row) (fun u hu => (HOV.out.on (HB6.out.trans hu)).row) HDM.out (by omega) (by omega)).mono ?_
    rintro e w7 ⟨v7, rfl, hb7, hg7⟩
    have HG7 : Hid (Got w7 w.heap.size 5 1 v7 (D.map byX)) := by
      show Got _ _ _ _ _ _
      rw [HD'.out]; exact hg7
    have HB7 : Hid (Below w.heap.size w w7) := HB6.out.trans hb7.1
    clear hg7 hb7
    go_wp2
    go_ret2
    exact ⟨_, rfl, HB7.out, HG7.out⟩
  · have HD' : Hid (D = [83, UInt8.ofNat K] ++ textL table ++ KL ++ RL) := by show _ = _; rw [HD.out, if_neg h5, List.append_nil]
    go_wp2_with (first
      | (at_builtin; refine app_lotT rfl (.tmp 32) (.tmp 33) rfl Tryz.underlying26 infoByte rfl (by decide) (by decide) w.heap.size _ _ rfl HG3.out g2 o2 _ (KL.map byX) KL.length (by simp) rfl HR3.out (byte_one _) (by simp [textL_length]; omega) (by omega) ?_; intro v5 w5 hg5 hb5 ht5; obtain ⟨a5, n5, e5, rfl, hg5⟩ := hg5.lit2; have hq5 : Gb w.heap.size w3 w5 := Gb.got HG3.out ht5 hb5; have HG5 : Hid (Got w5 w.heap.size 5 1 (.slice a5 n5 e5) (([83, UInt8.ofNat K] ++ textL table ++ KL).map byX)) := (by show Got _ _ _ _ _ _; rw [List.map_append]; exact hg5); have HR5 : Hid (RowAt w5 (some ⟨g3, o3, none⟩) 1 (RL.map byX)) := (by obtain ⟨_, _, he, _, _, hr, _⟩ := (HR3'.out.turns ht5 fun c h => HOL.out c h).row; injection he with h1 _ _; subst h1; exact hr); have HV5 : Hid (Own w5 w.heap.size 48 #[.int .i64 (K : Int), .string table, .slice ka key.length kp, .slice ra row.length rp, .int .i64 dd.kind, .string dd.table, .slice ca dd.cols.length cp, .slice oa dd.keys.length op, .string dd.name, .string dd.to]) := hq5.2.own HV3.out (by decide); have HB5 : Hid (Below w.heap.size w w5) := HB3.out.trans hb5; have hvw5 := HV5.out.lt; clear hg5 hb5 ht5 hq5)
      | (at_builtin; refine app_lotT rfl (.tmp 34) (.tmp 35) rfl Tryz.underlying26 infoByte rfl (by decide) (by decide) w.heap.size _ _ rfl HG5.out g3 o3 _ (RL.map byX) RL.length (by simp) rfl HR5.out (byte_one _) (by simp [textL_length]; omega) (by omega) ?_; intro v6 w6 hg6 hb6 ht6; obtain ⟨a6, n6, e6, rfl, hg6⟩ := hg6.lit2; have hq6 : Gb w.heap.size w5 w6 := Gb.got HG5.out ht6 hb6; have HG6 : Hid (Got w6 w.heap.size 5 1 (.slice a6 n6 e6) (([83, UInt8.ofNat K] ++ textL table ++ KL ++ RL).map byX)) := (by show Got _ _ _ _ _ _; rw [List.map_append]; exact hg6); have HV6 : Hid (Own w6 w.heap.size 48 #[.int .i64 (K : Int), .string table, .slice ka key.length kp, .slice ra row.length rp, .int .i64 dd.kind, .string dd.table, .slice ca dd.cols.length cp, .slice oa dd.keys.length op, .string dd.name, .string dd.to]) := hq6.2.own HV5.out (by decide); have HB6 : Hid (Below w.heap.size w w6) := HB5.out.trans hb6; have hvw6 := HV6.out.lt; clear hg6 hb6 ht6 hq6; obtain ⟨d0, d1, d2, d3, d4, d5, d6, d7, d8, d9⟩ := HV6.out.loc.ten)
      | fail)
    go_ret2
    exact ⟨_, rfl, HB6.out, by rw [HD'.out]; exact HG6.out⟩
end Go.Proofs.YtiijahoheajppaaGreat
