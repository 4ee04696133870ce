/- Values and rows among the arguments, opened. A row among the arguments, opened. Tables among the arguments, opened. Changes among the arguments, opened. Statements among the arguments, opened. Records among the arguments, opened. Lists of records among the arguments, opened. Numbers of a call's own, as a law holds them. -/
import Derived.Test.YtmcjchaokpcomaaOpenC
import Derived.Test.YtmcjchaokpcomaaVs
import Derived.Test.YtmcjchaokpcomaaTab
import Derived.Test.YtmcjchaokpcomaaDd
import Derived.Test.YtmcjchaokpcomaaSt
import Derived.Test.YtmcjchaokpcomaaRe
import Derived.Test.YtmcjchaokpcomaaRl
import Derived.Test.YtmcjchaokpcomaaIn
import Derived.Test.YtmcjchaokpcomaaOi
namespace Go.Proofs.Ytmcjchaokpcomaa
open Go.ChangeShapes Go.WideShapes Go.ChangeAt Go.RowKit
section
variable {H : Type} {enc : TypeId × Value → H} {w : World} {base : Nat} {spare : Nat → Bool} {held : Bool}
theorem open_vals {n : Nat} {cs : List Value} {y : DataW H × List MemPlace} (h : DataW.trod enc Try.prog w base spare held n 22 cs = some y) : ∃ v L, cs = [v] ∧ ValsV w v L ∧ vfit L := by
  obtain ⟨a, L, cap, rfl, h1, h2, h3, h4⟩ := open_row Vc.cells (fun c : Vc => c.s.size ≤ maxLen) (z := 3) (fun _ => rfl) (by omega) Try.underlying22 cells1.2.2.2.1 (fun n cs y h => by
    obtain ⟨t, m, s, rfl, hs⟩ := open_val h; exact ⟨⟨t, m, s⟩, rfl, hs⟩) h
  exact ⟨_, L, rfl, ⟨a, cap, rfl, h1, h2, h3⟩, h4⟩
end
end Go.Proofs.Ytmcjchaokpcomaa

namespace Go.Proofs.Ytmcjchaokpcomaa
open Go.ChangeShapes Go.WideShapes Go.ChangeAt Go.RowKit
theorem cellsR : Try.prog.cellsOf 24 = 1 ∧ Try.prog.cellsOf 22 = 1 := ⟨by kernel_rfl, by kernel_rfl⟩
section
variable {H : Type} {enc : TypeId × Value → H} {w : World} {base : Nat} {spare : Nat → Bool} {held : Bool}
set_option maxRecDepth 100000 in
theorem open_rw {n : Nat} {cs : List Value} {y : DataW H × List MemPlace} (h : DataW.trod enc Try.prog w base spare held n 24 cs = some y) : ∃ v vs, cs = [v] ∧ ValsV w v vs ∧ vfit vs := by
  obtain ⟨xs, k, rfl, rfl, hl, hlen, hf⟩ := DataW.trod_struct Try.underlying24 h
  obtain ⟨z1, z2⟩ := cellsR
  rw [z1] at hl
  have h0 : DataW.trod enc Try.prog w base spare held k 22 ((cs.drop 0).take (Try.prog.cellsOf 22)) = xs[0]? := hf 0 _ rfl
  match xs, hlen, cs, hl with
  | [x0], _, [a0], _ =>
    simp only [z2] at h0
    obtain ⟨v, vs, e, hv, hft⟩ := open_vals (h0.trans rfl)
    simp at e
    exact ⟨v, vs, by rw [e], hv, hft⟩
end
end Go.Proofs.Ytmcjchaokpcomaa

namespace Go.Proofs.Ytmcjchaokpcomaa
open Go.ChangeShapes Go.WideShapes Go.ChangeAt Go.RowKit
theorem cellsT2 : Try.prog.cellsOf 25 = 1 ∧ Try.prog.cellsOf 26 = 1 := ⟨by kernel_rfl, by kernel_rfl⟩
section
variable {H : Type} {enc : TypeId × Value → H} {w : World} {base : Nat} {spare : Nat → Bool} {held : Bool}
theorem open_cols {n : Nat} {cs : List Value} {y : DataW H × List MemPlace} (h : DataW.trod enc Try.prog w base spare held n 25 cs = some y) : ∃ v L, cs = [v] ∧ ColsV w v L ∧ ∀ c ∈ L, c.name.size ≤ maxLen ∧ c.ds.size ≤ maxLen := by
  obtain ⟨a, L, cap, rfl, h1, h2, h3, h4⟩ := open_row Cl.cells (fun c : Cl => c.name.size ≤ maxLen ∧ c.ds.size ≤ maxLen) (z := 7) (fun _ => rfl) (by omega) Try.underlying25 cells1.2.2.2.2 (fun n cs y h => open_col h) h
  exact ⟨_, L, rfl, ⟨a, cap, rfl, h1, h2, h3⟩, h4⟩
theorem open_strs {n : Nat} {cs : List Value} {y : DataW H × List MemPlace} (h : DataW.trod enc Try.prog w base spare held n 26 cs = some y) : ∃ v L, cs = [v] ∧ StrsV w v L ∧ ∀ s ∈ L, s.size ≤ maxLen := by
  obtain ⟨a, L, cap, rfl, h1, h2, h3, h4⟩ := open_row strX (fun s : ByteArray => s.size ≤ maxLen) (z := 1) (fun _ => rfl) (by omega) Try.underlying26 cells1.1 (fun n cs y h => by
    obtain ⟨s, rfl, _, hs⟩ := DataW.trod_string Try.underlying9 h; exact ⟨s, rfl, hs⟩) h
  exact ⟨_, L, rfl, ⟨a, cap, rfl, h1, h2, h3⟩, h4⟩
end
end Go.Proofs.Ytmcjchaokpcomaa

namespace Go.Proofs.Ytmcjchaokpcomaa
open Go.ChangeShapes Go.WideShapes Go.ChangeAt Go.RowKit
theorem cellsD : Try.prog.cellsOf 28 = 6 := by kernel_rfl
section
variable {H : Type} {enc : TypeId × Value → H} {w : World} {base : Nat} {spare : Nat → Bool} {held : Bool}
set_option maxRecDepth 100000 in
theorem open_ddl {n : Nat} {cs : List Value} {y : DataW H × List MemPlace} (h : DataW.trod enc Try.prog w base spare held n 28 cs = some y) : ∃ (x : Array Value) (t : Dc), cs = x.toList ∧ DdlV w x t ∧ t.fit := by
  obtain ⟨xs, k, rfl, rfl, hl, hlen, hf⟩ := DataW.trod_struct Try.underlying28 h
  obtain ⟨z1, z2⟩ := cellsT2
  obtain ⟨y1, y2, _⟩ := cells1
  rw [cellsD] at hl
  have h0 : DataW.trod enc Try.prog w base spare held k 3 ((cs.drop 0).take (Try.prog.cellsOf 3)) = xs[0]? := hf 0 _ rfl
  have h1 : DataW.trod enc Try.prog w base spare held k 9 ((cs.drop 1).take (Try.prog.cellsOf 9)) = xs[1]? := hf 1 _ rfl
  have h2 : DataW.trod enc Try.prog w base spare held k 25 ((cs.drop 2).take (Try.prog.cellsOf 25)) = xs[2]? := hf 2 _ rfl
  have h3 : DataW.trod enc Try.prog w base spare held k 26 ((cs.drop 3).take (Try.prog.cellsOf 26)) = xs[3]? := hf 3 _ rfl
  have h4 : DataW.trod enc Try.prog w base spare held k 9 ((cs.drop 4).take (Try.prog.cellsOf 9)) = xs[4]? := hf 4 _ rfl
  have h5 : DataW.trod enc Try.prog w base spare held k 9 ((cs.drop 5).take (Try.prog.cellsOf 9)) = xs[5]? := hf 5 _ rfl
  match xs, hlen, cs, hl with
  | [x0, x1, x2, x3, x4, x5], _, [a0, a1, a2, a3, a4, a5], _ =>
    simp only [z1, z2, y1, y2] at h0 h1 h2 h3 h4 h5
    obtain ⟨n0, e0, _, _⟩ := DataW.trod_int Try.underlying3 (h0.trans rfl)
    obtain ⟨s1, e1, _, hs1⟩ := DataW.trod_string Try.underlying9 (h1.trans rfl)
    obtain ⟨cv, cs, e2, hc, hcf⟩ := open_cols (h2.trans rfl)
    obtain ⟨kv, ks, e3, hk, hkf⟩ := open_strs (h3.trans rfl)
    obtain ⟨s4, e4, _, hs4⟩ := DataW.trod_string Try.underlying9 (h4.trans rfl)
    obtain ⟨s5, e5, _, hs5⟩ := DataW.trod_string Try.underlying9 (h5.trans rfl)
    simp at e0 e1 e2 e3 e4 e5
    exact ⟨#[.int .i64 n0, .string s1, cv, kv, .string s4, .string s5], ⟨n0, s1, cs, ks, s4, s5⟩, by rw [e0, e1, e2, e3, e4, e5], ⟨cv, kv, rfl, hc, hk⟩, hs1, hcf, hkf, hs4, hs5⟩
end
end Go.Proofs.Ytmcjchaokpcomaa

namespace Go.Proofs.Ytmcjchaokpcomaa
open Go.ChangeShapes Go.WideShapes Go.ChangeAt Go.RowKit
theorem cellsSt : Try.prog.cellsOf 30 = 10 := by kernel_rfl
section
variable {H : Type} {enc : TypeId × Value → H} {w : World} {base : Nat} {spare : Nat → Bool} {held : Bool}
set_option maxRecDepth 100000 in
theorem open_stmt {n : Nat} {cs : List Value} {y : DataW H × List MemPlace} (h : DataW.trod enc Try.prog w base spare held n 30 cs = some y) : ∃ (x : Array Value) (t : Sc), cs = x.toList ∧ StmtV w x t ∧ t.fit := by
  obtain ⟨xs, k, rfl, rfl, hl, hlen, hf⟩ := DataW.trod_struct Try.underlying30 h
  obtain ⟨z1, z2⟩ := cellsR
  obtain ⟨y1, y2, _⟩ := cells1
  have z3 := cellsD
  rw [cellsSt] at hl
  have h0 : DataW.trod enc Try.prog w base spare held k 3 ((cs.drop 0).take (Try.prog.cellsOf 3)) = xs[0]? := hf 0 _ rfl
  have h1 : DataW.trod enc Try.prog w base spare held k 9 ((cs.drop 1).take (Try.prog.cellsOf 9)) = xs[1]? := hf 1 _ rfl
  have h2 : DataW.trod enc Try.prog w base spare held k 22 ((cs.drop 2).take (Try.prog.cellsOf 22)) = xs[2]? := hf 2 _ rfl
  have h3 : DataW.trod enc Try.prog w base spare held k 24 ((cs.drop 3).take (Try.prog.cellsOf 24)) = xs[3]? := hf 3 _ rfl
  have h4 : DataW.trod enc Try.prog w base spare held k 28 ((cs.drop 4).take (Try.prog.cellsOf 28)) = xs[4]? := hf 4 _ rfl
  match xs, hlen, cs, hl with
  | [x0, x1, x2, x3, x4], _, [a0, a1, a2, a3, a4, a5, a6, a7, a8, a9], _ =>
    simp only [z1, z2, z3, y1, y2] at h0 h1 h2 h3 h4
    obtain ⟨n0, e0, _, _⟩ := DataW.trod_int Try.underlying3 (h0.trans rfl)
    obtain ⟨s1, e1, _, hs1⟩ := DataW.trod_string Try.underlying9 (h1.trans rfl)
    obtain ⟨kv, ks, e2, hk, hkf⟩ := open_vals (h2.trans rfl)
    obtain ⟨rv, rs, e3, hr, hrf⟩ := open_rw (h3.trans rfl)
    obtain ⟨dx, dc, e4, hd, hdf⟩ := open_ddl (h4.trans rfl)
    obtain ⟨cv, sv, rfl, hc, ho⟩ := hd
    simp at e0 e1 e2 e3 e4
    obtain ⟨e4, e5, e6, e7, e8, e9⟩ := e4
    exact ⟨Sc.cells ⟨n0, s1, ks, rs, dc⟩ kv rv cv sv, ⟨n0, s1, ks, rs, dc⟩, by simp [e0, e1, e2, e3, e4, e5, e6, e7, e8, e9], ⟨kv, rv, cv, sv, rfl, hk, hr, hc, ho⟩, hs1, hkf, hrf, hdf⟩
end
end Go.Proofs.Ytmcjchaokpcomaa

namespace Go.Proofs.Ytmcjchaokpcomaa
open Go.ChangeShapes Go.WideShapes Go.ChangeAt Go.RowKit
theorem cellsLc : Try.prog.cellsOf 32 = 12 := by kernel_rfl
section
variable {H : Type} {enc : TypeId × Value → H} {w : World} {base : Nat} {spare : Nat → Bool} {held : Bool}
set_option maxRecDepth 100000 in
theorem open_rec {n : Nat} {cs : List Value} {y : DataW H × List MemPlace} (h : DataW.trod enc Try.prog w base spare held n 32 cs = some y) : ∃ (x : Array Value) (t : Lc), cs = x.toList ∧ RecV w x t ∧ t.fit := by
  obtain ⟨xs, k, rfl, rfl, hl, hlen, hf⟩ := DataW.trod_struct Try.underlying32 h
  obtain ⟨_, y2, _⟩ := cells1
  have z3 := cellsSt
  rw [cellsLc] at hl
  have h0 : DataW.trod enc Try.prog w base spare held k 3 ((cs.drop 0).take (Try.prog.cellsOf 3)) = xs[0]? := hf 0 _ rfl
  have h1 : DataW.trod enc Try.prog w base spare held k 3 ((cs.drop 1).take (Try.prog.cellsOf 3)) = xs[1]? := hf 1 _ rfl
  have h2 : DataW.trod enc Try.prog w base spare held k 30 ((cs.drop 2).take (Try.prog.cellsOf 30)) = xs[2]? := hf 2 _ rfl
  match xs, hlen, cs, hl with
  | [x0, x1, x2], _, [a0, a1, a2, a3, a4, a5, a6, a7, a8, a9, a10, a11], _ =>
    simp only [z3, y2] at h0 h1 h2
    obtain ⟨n0, e0, _, _⟩ := DataW.trod_int Try.underlying3 (h0.trans rfl)
    obtain ⟨n1, e1, _, _⟩ := DataW.trod_int Try.underlying3 (h1.trans rfl)
    obtain ⟨sx, sc, e2, hs, hsf⟩ := open_stmt (h2.trans rfl)
    obtain ⟨kv, rv, cv, sv, rfl, hk, hr, hc, ho⟩ := hs
    simp at e0 e1 e2
    obtain ⟨e2, e3, e4, e5, e6, e7, e8, e9, e10, e11⟩ := e2
    exact ⟨Lc.cells ⟨n0, n1, sc⟩ kv rv cv sv, ⟨n0, n1, sc⟩, by simp [e0, e1, e2, e3, e4, e5, e6, e7, e8, e9, e10, e11], ⟨kv, rv, cv, sv, rfl, hk, hr, hc, ho⟩, hsf⟩
end
end Go.Proofs.Ytmcjchaokpcomaa

namespace Go.Proofs.Ytmcjchaokpcomaa
open Go.ChangeShapes Go.WideShapes Go.ChangeAt Go.RowKit
section
variable {H : Type} {enc : TypeId × Value → H} {w : World} {base : Nat} {spare : Nat → Bool} {held : Bool}
theorem open_recs {n : Nat} {cs : List Value} {y : DataW H × List MemPlace} (h : DataW.trod enc Try.prog w base spare held n 48 cs = some y) : ∃ v ts, cs = [v] ∧ RecsV w v ts ∧ lfits ts := by
  obtain ⟨a, L, cap, rfl, h1, h2, h3, h4⟩ := open_row (fun p : { q : Array Value × Lc // q.1.size = 12 } => p.1.1) (fun p => RecV w p.1.1 p.1.2 ∧ p.1.2.fit) (z := 12) (fun p => p.2) (by omega) Try.underlying48 cellsLc (fun n cs y h => by
    obtain ⟨x, t, rfl, hx, hf⟩ := open_rec h
    exact ⟨⟨(x, t), hx.size⟩, rfl, hx, hf⟩) h
  refine ⟨_, L.map (fun p => p.1.2), rfl, ⟨a, cap, L.map (fun p => p.1.1), by simp, by simpa using h1, h2, h3, by simp, fun i hi hg => ?_⟩, fun t ht => ?_⟩
  · simp only [List.getElem_map]
    exact (h4 _ (List.getElem_mem _)).1
  · obtain ⟨p, hp, rfl⟩ := List.mem_map.1 ht
    exact (h4 p hp).2
end
end Go.Proofs.Ytmcjchaokpcomaa

namespace Go.Proofs.Ytmcjchaokpcomaa
open Go.ChangeShapes Go.WideShapes Go.ChangeAt Go.RowKit
def GotI (w : World) (B : Nat) (v : Value) (is : List Int) : Prop := Got w B 3 1 v (is.map intX)
theorem GotI.on {w w' : World} {B : Nat} {v : Value} {is : List Int} (h : GotI w B v is) (b : Below w.heap.size w w') : GotI w' B v is := Got.on h b
theorem GotI.ints {w : World} {B : Nat} {v : Value} {is : List Int} (h : GotI w B v is) : IntsV w v is := Got.ints h
theorem GotI.turned {w w' : World} {B : Nat} {v : Value} {is : List Int} (h : GotI w B v is) {S : Nat → Prop} (k : Turns S w w') (hS : ∀ c, S c → c < B) : GotI w' B v is :=
  Got.turned h k fun c hc hs => by have := Got.own h hc; have := hS c hs; omega
theorem GotI.own {w : World} {B : Nat} {v : Value} {is : List Int} (h : GotI w B v is) {c : Nat} (hc : v.ownBlock = some c) : B ≤ c := Got.own h hc
theorem IntsV.lit3 {w : World} {v : Value} {is : List Int} (h : IntsV w v is) : ∃ a n c, v = .slice a n c := by
  obtain ⟨a, c, rfl, _⟩ := h.lit; exact ⟨a, _, c, rfl⟩
theorem GotI.lit3 {w : World} {B : Nat} {v : Value} {is : List Int} (h : GotI w B v is) : ∃ a n c, v = .slice a n c := by
  obtain ⟨a, n, c, rfl, _⟩ := Got.lit2 h; exact ⟨a, n, c, rfl⟩
/-- The marks of numbers stand. -/
def HeldI (w : World) (v : Value) (n : Nat) : Prop := HeldL w v 1 (markN 1) n
theorem markI {w : World} {B : Nat} {v : Value} {is : List Int} (h : GotI w B v is) (hl : is.length ≤ 2000000) :
    Calls Try.prog 19 #[v, .int .i64 1] w fun e w' => e = .returned (.int .i64 ((1 + is.length : Nat) : Int)) ∧ Turns (fun c => v.ownBlock = some c) w w' ∧ HeldI w' v is.length := by
  have h1 := markIntS_got h (by rw [List.length_map]; exact hl) 1 (by omega)
  rw [List.length_map] at h1
  exact h1
theorem heldI {w : World} {v : Value} {n : Nat} (h : HeldI w v n) (hl : n ≤ 2000000) :
    Calls Try.prog 20 #[v, .int .i64 1] w fun e w' => e = .returned (.int .i64 ((1 + n : Nat) : Int)) ∧ Below w.heap.size w w' := heldIntS_held (k := 1) h hl (by omega)
theorem HeldI.on {w w' : World} {v : Value} {n : Nat} (h : HeldI w v n) (b : Below w.heap.size w w') : HeldI w' v n := HeldL.on h b
end Go.Proofs.Ytmcjchaokpcomaa
