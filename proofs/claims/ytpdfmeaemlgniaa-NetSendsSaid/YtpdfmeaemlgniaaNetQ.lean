
/-
  The parcels of which something holds, one behind the other: those.
-/
import Derived.Test.YtpdfmeaemlgniaaNetS
import Derived.RangeFuncNested
import Derived.RangeFuncBound
import Derived.RangeFuncCalls
import Derived.RangeFuncLeaves
import Derived.Shelf.Abstract
import Derived.Shelf.RegionOpen
import Derived.OwnWalkIn
import Derived.TacticsInMore
import Derived.LoopNIn
import Derived.LoopIn
import Derived.Lib.OthersKept
import Derived.WalkMore
namespace Go.Proofs.Ytpdfmeaemlgniaa
open Go.RowKit Go.Shelf
open Go.Lib hiding intOf
set_option linter.unusedVariables false
set_option linter.unusedSimpArgs false
attribute [local go_sem] Oper.semAt_some

/-- a parcel, and where its bytes lie -/
structure PX where
  p : Par
  a : Option Addr
  c : Nat
def PX.raw (x : PX) : PRaw := ⟨x.p.num, x.p.fr, x.p.to, .slice x.a x.p.bs.length x.c, x.p.sp⟩
def penc (x : PX) : Array Value := #[PV x.p.num x.p.fr x.p.to (.slice x.a x.p.bs.length x.c) x.p.sp]
theorem RIs.px {X : List Nat} {w : World} : ∀ {rs : List PRaw} {l : List Par}, RIs X w rs l → ∃ xs : List PX, xs.map PX.p = l ∧ xs.map PX.raw = rs
  | [], [], h => ⟨[], rfl, rfl⟩
  | [], p :: l, h => by have := h.1; simp at this
  | r :: rs, [], h => by have := h.1; simp at this
  | r :: rs, p :: l, h => by
    obtain ⟨a, c, e⟩ := (h.2 0 r p rfl rfl).shape
    obtain ⟨xs, h1, h2⟩ := RIs.px (rs := rs) (l := l) ⟨by have := h.1; simpa using this, fun k r' p' k1 k2 => h.2 (k + 1) r' p' (by simpa using k1) (by simpa using k2)⟩
    exact ⟨⟨p, a, c⟩ :: xs, by simp [h1], by simp [h2, e, PX.raw]⟩
/-- what a round keeps: what lay below n, what is gone through, and the blocks K -/
structure Spr (n : Nat) (K : List Nat) (w w' : World) : Prop where
  below : Below n w w'
  walks : KeepsWalks w w'
  kept : ∀ b ∈ K, ∀ (cs : Array Value) t (fr : Nat × Nat), w.heap[b]? = some (Obj.cells cs t fr) → w'.heap[b]? = some (Obj.cells cs t fr)
theorem Spr.trans {n : Nat} {K : List Nat} {a b c : World} (h : Spr n K a b) (k : Spr n K b c) : Spr n K a c := ⟨h.below.trans k.below, h.walks.trans k.walks, fun i hi cs t fr hh => k.kept i hi cs t fr (h.kept i hi cs t fr hh)⟩
theorem Spr.putObj {n : Nat} {K : List Nat} (W : World) (l : Nat) (o o' : Obj) (hl : n ≤ l) (ho : W.heap[l]? = some o) (hc : o.isCells = false) (hw : o.isWalk = false) : Spr n K W (W.putObj l o') where
  below := (Below.refl n W).grown (grownBy_putObj' W l o') (by have := (Array.getElem?_eq_some_iff.1 ho).1; omega) (fun k e => by cases e; omega)
  walks := KeepsWalks.putObj _ ho hw
  kept b hbK cs t fr hb := by
    have : b ≠ l := by rintro rfl; rw [ho] at hb; cases hb; cases hc
    rw [World.putObj_heap_other this]; exact hb
theorem Ext.grownTo {w w' : World} (h : Ext [] w w') : w.grownBy w' none := ⟨h.os, h.tape, h.output, h.size, fun k hk _ => h.block k hk (by simp)⟩
/-- a round writes cells of its own function alone -/
theorem Spr.ofExt {X : List Nat} {n : Nat} {K : List Nat} {w w' : World} (h : Ext X w w') (hn : n ≤ w.heap.size) (hX : ∀ b ∈ X, n ≤ b ∧ b ∉ K ∧ ∃ cs t fr, w.heap[b]? = some (Obj.cells cs t fr)) : Spr n K w w' where
  below := ⟨h.os, h.tape, h.output, h.size, fun k hk => h.block k (by omega) (fun m => by have := (hX k m).1; omega)⟩
  walks := ⟨h.size, fun k o hk ho => (h.block k (size_heap hk) (fun m => by obtain ⟨_, _, cs, t, fr, hb⟩ := hX k m; rw [hk] at hb; cases hb; cases ho)).trans hk⟩
  kept b hbK cs t fr hb := (h.block b (size_heap hb) (fun m => (hX b m).2.1 hbK)).trans hb
theorem KeepsFrom.ofExt {X : List Nat} {B : Nat} {w w' : World} (h : Ext X w w') (hX : ∀ b ∈ X, ∃ cs t fr, w.heap[b]? = some (Obj.cells cs t fr)) : KeepsFrom B w w' :=
  ⟨h.size, fun k o _ hk ho => (h.block k (size_heap hk) (fun m => by obtain ⟨cs, t, fr, hb⟩ := hX k m; rw [hk] at hb; cases hb; cases ho)).trans hk⟩
theorem cells_grown {W W' : World} {row : Option Nat} {B b : Nat} {cs : Array Value} {t : TypeId} {fr : Nat × Nat} (hb : W.heap[b]? = some (.cells cs t fr)) (hg : W.grownBy W' row) (hr : ∀ r, row = some r → B ≤ r ∧ ∃ o : Obj, W.heap[r]? = some o ∧ o.isCells = false) : W'.heap[b]? = some (.cells cs t fr) := by
  refine (hg.block b (size_heap hb) (fun e => ?_)).trans hb
  obtain ⟨_, o, ho, hc⟩ := hr b e.symm
  rw [hb] at ho; cases ho; cases hc
set_option maxHeartbeats 1000000 in
theorem for1_any (w : World) (x : PX) (cb : Nat) (k : Int) (hb : Blk w cb 3 [.int .i64 k]) :
    Calls Try.prog 49 (penc x ++ #[pt cb]) w fun e w' => e = .returned (.bool (x.p.to == k)) ∧ Ext [] w w' := by
  obtain ⟨⟨n, f, t, bs, sp⟩, a, c⟩ := x
  show Calls Try.prog 49 #[PV n f t (.slice a bs.length c) sp, pt cb] w fun e w' => e = .returned (.bool (t == k)) ∧ Ext [] w w'
  have x1 := (Ext.refl [] w).alloc (.cells #[.int .u64 (n : Int), .int .i64 f, .int .i64 t, .slice a bs.length c, .bool sp] 33)
  have hc := cells_ext x1 (hb.cell 0)
  go_enter Try.func49, Try.ntmps49
  go_wp2_with (fail)
  go_ret
  exact ⟨rfl, x1⟩
set_option maxHeartbeats 1000000 in
theorem drop11_any (w : World) (x : PX) (fb tb : Nat) (k1 k2 : Int) (hf : Blk w fb 3 [.int .i64 k1]) (ht : Blk w tb 3 [.int .i64 k2]) :
    Calls Try.prog 67 (penc x ++ #[pt fb, pt tb]) w fun e w' => e = .returned (.bool (x.p.fr != k1 || x.p.to != k2)) ∧ Ext [] w w' := by
  obtain ⟨⟨n, f, t, bs, sp⟩, a, c⟩ := x
  show Calls Try.prog 67 #[PV n f t (.slice a bs.length c) sp, pt fb, pt tb] w fun e w' => e = .returned (.bool (f != k1 || t != k2)) ∧ Ext [] w w'
  have x1 := (Ext.refl [] w).alloc (.cells #[.int .u64 (n : Int), .int .i64 f, .int .i64 t, .slice a bs.length c, .bool sp] 33)
  have hc := cells_ext x1 (hf.cell 0)
  have hd := cells_ext x1 (ht.cell 0)
  by_cases h1 : f = k1
  · subst h1
    go_enter Try.func67, Try.ntmps67
    go_wp2_with (fail)
    go_ret
    exact ⟨ret_bool (by simp), x1⟩
  · have h2 : (f != k1) = true := by simpa using h1
    have h2 : (f == k1) = false := by simpa using h1
    go_enter Try.func67, Try.ntmps67
    go_wp2_with (fail)
    go_ret
    exact ⟨ret_bool (by simp [h1]), x1⟩
theorem those_For (w : World) (s : Nat) (a : Option Addr) (n c : Nat) (caps : Array Value) :
    Calls Try.prog 48 #[NV s (.slice a n c), .func (.func 49) #[] caps] w fun e w' => e = .returned (.func (.func 68) #[] #[pt w.heap.size, pt (w.heap.size + 1)]) ∧ w' = (w.alloc (.cells #[.int .u64 (s : Int), .slice a n c] 25)).alloc (.cells #[.func (.func 49) #[] caps] 63) := by
  go_enter Try.func48, Try.ntmps48
  go_wp2
  go_ret
  exact ⟨rfl, rfl⟩
set_option maxRecDepth 100000 in
set_option maxHeartbeats 2000000 in
theorem thosein_For (n : Nat) (hn : 3 ≤ n) (n0 : Nat) (K : List Nat) (w0 : World) (hn0 : n0 ≤ w0.heap.size) (nb hb s : Nat) (a : Option Addr) (c ob : Nat) (xs : List PX) (caps : Array Value)
    (hnb : w0.heap[nb]? = some (.cells #[.int .u64 (s : Int), .slice a xs.length c] 25 (0, 0))) (hhb : w0.heap[hb]? = some (.cells #[.func (.func 49) #[] caps] 63 (0, 0)))
    (hK1 : nb ∈ K) (hK2 : hb ∈ K) (hR : ∀ W, Below n0 w0 W → Rs W (.slice a xs.length c) ob (xs.map PX.raw)) (hold : PX → Bool)
    (hH : ∀ W, Below n0 w0 W → ∀ x, Calls Try.prog 49 (penc x ++ caps) W fun e w' => e = .returned (.bool (hold x)) ∧ Ext [] W w') :
    SeqStopsK Fence.wide n Try.prog 68 #[pt nb, pt hb] penc (Spr n0 K)
      (fun ys => ys = xs.filter hold) (fun pre => pre ≠ [] ∧ pre <+: xs.filter hold) (xs.filter hold).length w0 := fun l J Jx W hW hJ hJx hY h0 => by
  refine callsIn_of_wp Try.func68 rfl trivial ?_ rfl
  simp only [Try.ntmps68, List.size_toArray, List.length_cons, List.length_nil, Nat.reduceAdd, Nat.reduceSub, Array.replicate_succ, Array.replicate_zero, List.push_toArray, List.append_toArray, List.nil_append, List.cons_append]
  have f1 : Fence.wide.fn 49 := trivial
  have n1 : 1 ≤ n := by omega
  have hEW := Ext.ofBelow hW
  have hnW := hEW.heap hnb (by simp)
  have hhW := hEW.heap hhb (by simp)
  have hBW := hW.mono hn0
  have q0 := cell_of_heap hnW 0
  have q1 := cell_of_heap hnW 1
  have qh := cell_of_heap hhW 0
  simp only [List.getElem?_toArray, List.getElem?_cons_zero, List.getElem?_cons_succ] at q0 q1 qh
  have hml : xs.length ≤ maxLen := by have := sl_len (hR W hBW); rw [List.length_map] at this; exact this
  unfold maxLen at hml
  have hsz : w0.heap.size ≤ W.heap.size := hW.size
  gi_wp2
  gi_loopw [9] (fun e wr => ∃ k : Nat, e = .int .i64 (k : Int) ∧ k ≤ xs.length ∧ W.heap.size ≤ wr.heap.size ∧ Below n0 w0 wr ∧ wr.heap[nb]? = some (.cells #[.int .u64 (s : Int), .slice a xs.length c] 25 (0, 0)) ∧ wr.heap[hb]? = some (.cells #[.func (.func 49) #[] caps] 63 (0, 0)) ∧ J ((xs.take k).filter hold) wr) (fun e _ => xs.length - (intOf e).toNat)
  case atStart => exact ⟨0, rfl, by omega, Nat.le_refl _, hBW, hnW, hhW, h0⟩
  case round =>
    obtain ⟨k, rfl, hk, hWs, hBr, hnr, hhr, hJr⟩ := hrel
    by_cases hlt : k < xs.length
    · have hp : xs[k]? = some xs[k] := List.getElem?_eq_getElem hlt
      generalize xs[k] = x at *
      have hpr : (xs.map PX.raw)[k]? = some x.raw := by rw [List.getElem?_map, hp]; rfl
      obtain ⟨o, rfl, hc⟩ := Sl.flat_cells wideP (by have := hR wr hBr; unfold Rs at this; rw [List.length_map] at this; rw [List.length_map]; exact this) k _ hpr
      obtain ⟨⟨pn, pf, pt', pb, ps⟩, xa, xc⟩ := x
      have c0 : wr.cell? ⟨ob, o + k * 5, none⟩ = some (.int .u64 (pn : Int)) := hc 0 _ rfl
      have c1 : wr.cell? ⟨ob, o + k * 5 + 1, none⟩ = some (.int .i64 pf) := hc 1 _ rfl
      have c2 : wr.cell? ⟨ob, o + k * 5 + 2, none⟩ = some (.int .i64 pt') := hc 2 _ rfl
      have c3 : wr.cell? ⟨ob, o + k * 5 + 3, none⟩ = some (.slice xa pb.length xc) := hc 3 _ rfl
      have c4 : wr.cell? ⟨ob, o + k * 5 + 4, none⟩ = some (.bool ps) := hc 4 _ rfl
      clear hc
      have qh := cell_of_heap hhr 0
      simp only [List.getElem?_toArray, List.getElem?_cons_zero, List.getElem?_cons_succ] at qh
      have x1 := (Ext.refl [] wr).alloc (.cells #[.int .u64 (pn : Int), .int .i64 pf, .int .i64 pt', .slice xa pb.length xc, .bool ps] 33)
      have hpN := Blk.new wr [.int .u64 (pn : Int), .int .i64 pf, .int .i64 pt', .slice xa pb.length xc, .bool ps] 33
      have qh1 := cells_ext x1 qh
      have hB1 : Below n0 w0 (wr.alloc (.cells #[.int .u64 (pn : Int), .int .i64 pf, .int .i64 pt', .slice xa pb.length xc, .bool ps] 33)) := hBr.trans (x1.below.mono (by omega))
      have hho := hH _ hB1 ⟨⟨pn, pf, pt', pb, ps⟩, xa, xc⟩
      have htk : xs.take (k + 1) = xs.take k ++ [⟨⟨pn, pf, pt', pb, ps⟩, xa, xc⟩] := by rw [List.take_add_one, hp]; rfl
      obtain ⟨g0, g1, g2, g3, g4⟩ := hpN.c5
      cases hh : hold ⟨⟨pn, pf, pt', pb, ps⟩, xa, xc⟩
      · rw [hh] at hho
        have hfl : (xs.take (k + 1)).filter hold = (xs.take k).filter hold := by rw [htk, List.filter_append]; simp [hh]
        clear hh htk hp hpr hnW hhW hnb hhb hY
        gi_wp2_with (gi_at_call 49; refine (callsIn_wide.2 hho).mono ?_; rintro e w2 ⟨rfl, x2⟩; have x3 := x1.trans x2)
        refine ⟨fun f h => (by cases h), ?_⟩
        gi_wp2
        go_roundw
        case rel => exact ⟨k + 1, by go_num, by omega, by have := x3.size; omega, hBr.trans (x3.below.mono (by omega)), x3.heap hnr (by simp), x3.heap hhr (by simp), by rw [hfl]; exact hJ _ _ _ none hJr x3.grownTo (by simp)⟩
        case measure => simp [intOf]; omega
      · rw [hh] at hho
        have hfl : (xs.take (k + 1)).filter hold = (xs.take k).filter hold ++ [⟨⟨pn, pf, pt', pb, ps⟩, xa, xc⟩] := by rw [htk, List.filter_append]; simp [hh]
        have hpx : (xs.take (k + 1)).filter hold <+: xs.filter hold := (List.take_prefix _ _).filter hold
        have hlen : ((xs.take k).filter hold).length < (xs.filter hold).length := by
          have := hpx.length_le
          rw [hfl, List.length_append] at this
          simp at this; omega
        clear hh htk hp hpr hnW hhW hnb hhb
        gi_wp2_with (gi_at_call 49; refine (callsIn_wide.2 hho).mono ?_; rintro e w2 ⟨rfl, x2⟩; have x3 := x1.trans x2; have g0 := cells_ext x2 g0; have g1 := cells_ext x2 g1; have g2 := cells_ext x2 g2; have g3 := cells_ext x2 g3; have g4 := cells_ext x2 g4; have hyy := hY _ ⟨⟨pn, pf, pt', pb, ps⟩, xa, xc⟩ w2 (hJ _ _ _ none hJr x3.grownTo (by simp)) hlen; obtain ⟨fn, tmps, assign, body, hy, hRR⟩ := hyy; dsimp only [penc] at hy)
        refine hRR.mono ?_
        have hs3 := x3.size
        have hB3 := hBr.trans (x3.below.mono (show n0 ≤ wr.heap.size by omega))
        have hn3 := x3.heap hnr (by simp)
        have hh3 := x3.heap hhr (by simp)
        clear g0 g1 g2 g3 g4 c0 c1 c2 c3 c4 q0 q1 qh qh1 hy hRR hJr hnr hhr
        rintro e W3 (⟨rfl, hJ3, hk3⟩ | ⟨rfl, hJx3⟩)
        · gi_wp2
          go_roundw
          case rel => exact ⟨k + 1, by go_num, by omega, by have := hk3.below.size; omega, hB3.trans hk3.below, hk3.kept nb hK1 _ _ _ hn3, hk3.kept hb hK2 _ _ _ hh3, by rw [hfl]; exact hJ3⟩
          case measure => simp [intOf]; omega
        · gi_wp2
          refine bodyPost_ret (results_none rfl _ _ _) rfl ?_
          exact ⟨⟨_, rfl⟩, .inr ⟨_, ⟨by simp, by rw [hfl] at hpx; exact hpx⟩, hJx3⟩⟩
    · obtain rfl : k = xs.length := by omega
      rw [List.take_length] at hJr
      gi_wp2
      go_end0
      exact ⟨⟨_, rfl⟩, .inl ⟨_, rfl, hJr⟩⟩
theorem those_Drop (w : World) (s : Nat) (a : Option Addr) (n c : Nat) (caps : Array Value) :
    Calls Try.prog 48 #[NV s (.slice a n c), .func (.func 67) #[] caps] w fun e w' => e = .returned (.func (.func 68) #[] #[pt w.heap.size, pt (w.heap.size + 1)]) ∧ w' = (w.alloc (.cells #[.int .u64 (s : Int), .slice a n c] 25)).alloc (.cells #[.func (.func 67) #[] caps] 63) := by
  go_enter Try.func48, Try.ntmps48
  go_wp2
  go_ret
  exact ⟨rfl, rfl⟩
set_option maxRecDepth 100000 in
set_option maxHeartbeats 2000000 in
theorem thosein_Drop (n : Nat) (hn : 3 ≤ n) (n0 : Nat) (K : List Nat) (w0 : World) (hn0 : n0 ≤ w0.heap.size) (nb hb s : Nat) (a : Option Addr) (c ob : Nat) (xs : List PX) (caps : Array Value)
    (hnb : w0.heap[nb]? = some (.cells #[.int .u64 (s : Int), .slice a xs.length c] 25 (0, 0))) (hhb : w0.heap[hb]? = some (.cells #[.func (.func 67) #[] caps] 63 (0, 0)))
    (hK1 : nb ∈ K) (hK2 : hb ∈ K) (hR : ∀ W, Below n0 w0 W → Rs W (.slice a xs.length c) ob (xs.map PX.raw)) (hold : PX → Bool)
    (hH : ∀ W, Below n0 w0 W → ∀ x, Calls Try.prog 67 (penc x ++ caps) W fun e w' => e = .returned (.bool (hold x)) ∧ Ext [] W w') :
    SeqStopsK Fence.wide n Try.prog 68 #[pt nb, pt hb] penc (Spr n0 K)
      (fun ys => ys = xs.filter hold) (fun pre => pre ≠ [] ∧ pre <+: xs.filter hold) (xs.filter hold).length w0 := fun l J Jx W hW hJ hJx hY h0 => by
  refine callsIn_of_wp Try.func68 rfl trivial ?_ rfl
  simp only [Try.ntmps68, List.size_toArray, List.length_cons, List.length_nil, Nat.reduceAdd, Nat.reduceSub, Array.replicate_succ, Array.replicate_zero, List.push_toArray, List.append_toArray, List.nil_append, List.cons_append]
  have f1 : Fence.wide.fn 67 := trivial
  have n1 : 1 ≤ n := by omega
  have hEW := Ext.ofBelow hW
  have hnW := hEW.heap hnb (by simp)
  have hhW := hEW.heap hhb (by simp)
  have hBW := hW.mono hn0
  have q0 := cell_of_heap hnW 0
  have q1 := cell_of_heap hnW 1
  have qh := cell_of_heap hhW 0
  simp only [List.getElem?_toArray, List.getElem?_cons_zero, List.getElem?_cons_succ] at q0 q1 qh
  have hml : xs.length ≤ maxLen := by have := sl_len (hR W hBW); rw [List.length_map] at this; exact this
  unfold maxLen at hml
  have hsz : w0.heap.size ≤ W.heap.size := hW.size
  gi_wp2
  gi_loopw [9] (fun e wr => ∃ k : Nat, e = .int .i64 (k : Int) ∧ k ≤ xs.length ∧ W.heap.size ≤ wr.heap.size ∧ Below n0 w0 wr ∧ wr.heap[nb]? = some (.cells #[.int .u64 (s : Int), .slice a xs.length c] 25 (0, 0)) ∧ wr.heap[hb]? = some (.cells #[.func (.func 67) #[] caps] 63 (0, 0)) ∧ J ((xs.take k).filter hold) wr) (fun e _ => xs.length - (intOf e).toNat)
  case atStart => exact ⟨0, rfl, by omega, Nat.le_refl _, hBW, hnW, hhW, h0⟩
  case round =>
    obtain ⟨k, rfl, hk, hWs, hBr, hnr, hhr, hJr⟩ := hrel
    by_cases hlt : k < xs.length
    · have hp : xs[k]? = some xs[k] := List.getElem?_eq_getElem hlt
      generalize xs[k] = x at *
      have hpr : (xs.map PX.raw)[k]? = some x.raw := by rw [List.getElem?_map, hp]; rfl
      obtain ⟨o, rfl, hc⟩ := Sl.flat_cells wideP (by have := hR wr hBr; unfold Rs at this; rw [List.length_map] at this; rw [List.length_map]; exact this) k _ hpr
      obtain ⟨⟨pn, pf, pt', pb, ps⟩, xa, xc⟩ := x
      have c0 : wr.cell? ⟨ob, o + k * 5, none⟩ = some (.int .u64 (pn : Int)) := hc 0 _ rfl
      have c1 : wr.cell? ⟨ob, o + k * 5 + 1, none⟩ = some (.int .i64 pf) := hc 1 _ rfl
      have c2 : wr.cell? ⟨ob, o + k * 5 + 2, none⟩ = some (.int .i64 pt') := hc 2 _ rfl
      have c3 : wr.cell? ⟨ob, o + k * 5 + 3, none⟩ = some (.slice xa pb.length xc) := hc 3 _ rfl
      have c4 : wr.cell? ⟨ob, o + k * 5 + 4, none⟩ = some (.bool ps) := hc 4 _ rfl
      clear hc
      have qh := cell_of_heap hhr 0
      simp only [List.getElem?_toArray, List.getElem?_cons_zero, List.getElem?_cons_succ] at qh
      have x1 := (Ext.refl [] wr).alloc (.cells #[.int .u64 (pn : Int), .int .i64 pf, .int .i64 pt', .slice xa pb.length xc, .bool ps] 33)
      have hpN := Blk.new wr [.int .u64 (pn : Int), .int .i64 pf, .int .i64 pt', .slice xa pb.length xc, .bool ps] 33
      have qh1 := cells_ext x1 qh
      have hB1 : Below n0 w0 (wr.alloc (.cells #[.int .u64 (pn : Int), .int .i64 pf, .int .i64 pt', .slice xa pb.length xc, .bool ps] 33)) := hBr.trans (x1.below.mono (by omega))
      have hho := hH _ hB1 ⟨⟨pn, pf, pt', pb, ps⟩, xa, xc⟩
      have htk : xs.take (k + 1) = xs.take k ++ [⟨⟨pn, pf, pt', pb, ps⟩, xa, xc⟩] := by rw [List.take_add_one, hp]; rfl
      obtain ⟨g0, g1, g2, g3, g4⟩ := hpN.c5
      cases hh : hold ⟨⟨pn, pf, pt', pb, ps⟩, xa, xc⟩
      · rw [hh] at hho
        have hfl : (xs.take (k + 1)).filter hold = (xs.take k).filter hold := by rw [htk, List.filter_append]; simp [hh]
        clear hh htk hp hpr hnW hhW hnb hhb hY
        gi_wp2_with (gi_at_call 67; refine (callsIn_wide.2 hho).mono ?_; rintro e w2 ⟨rfl, x2⟩; have x3 := x1.trans x2)
        refine ⟨fun f h => (by cases h), ?_⟩
        gi_wp2
        go_roundw
        case rel => exact ⟨k + 1, by go_num, by omega, by have := x3.size; omega, hBr.trans (x3.below.mono (by omega)), x3.heap hnr (by simp), x3.heap hhr (by simp), by rw [hfl]; exact hJ _ _ _ none hJr x3.grownTo (by simp)⟩
        case measure => simp [intOf]; omega
      · rw [hh] at hho
        have hfl : (xs.take (k + 1)).filter hold = (xs.take k).filter hold ++ [⟨⟨pn, pf, pt', pb, ps⟩, xa, xc⟩] := by rw [htk, List.filter_append]; simp [hh]
        have hpx : (xs.take (k + 1)).filter hold <+: xs.filter hold := (List.take_prefix _ _).filter hold
        have hlen : ((xs.take k).filter hold).length < (xs.filter hold).length := by
          have := hpx.length_le
          rw [hfl, List.length_append] at this
          simp at this; omega
        clear hh htk hp hpr hnW hhW hnb hhb
        gi_wp2_with (gi_at_call 67; refine (callsIn_wide.2 hho).mono ?_; rintro e w2 ⟨rfl, x2⟩; have x3 := x1.trans x2; have g0 := cells_ext x2 g0; have g1 := cells_ext x2 g1; have g2 := cells_ext x2 g2; have g3 := cells_ext x2 g3; have g4 := cells_ext x2 g4; have hyy := hY _ ⟨⟨pn, pf, pt', pb, ps⟩, xa, xc⟩ w2 (hJ _ _ _ none hJr x3.grownTo (by simp)) hlen; obtain ⟨fn, tmps, assign, body, hy, hRR⟩ := hyy; dsimp only [penc] at hy)
        refine hRR.mono ?_
        have hs3 := x3.size
        have hB3 := hBr.trans (x3.below.mono (show n0 ≤ wr.heap.size by omega))
        have hn3 := x3.heap hnr (by simp)
        have hh3 := x3.heap hhr (by simp)
        clear g0 g1 g2 g3 g4 c0 c1 c2 c3 c4 q0 q1 qh qh1 hy hRR hJr hnr hhr
        rintro e W3 (⟨rfl, hJ3, hk3⟩ | ⟨rfl, hJx3⟩)
        · gi_wp2
          go_roundw
          case rel => exact ⟨k + 1, by go_num, by omega, by have := hk3.below.size; omega, hB3.trans hk3.below, hk3.kept nb hK1 _ _ _ hn3, hk3.kept hb hK2 _ _ _ hh3, by rw [hfl]; exact hJ3⟩
          case measure => simp [intOf]; omega
        · gi_wp2
          refine bodyPost_ret (results_none rfl _ _ _) rfl ?_
          exact ⟨⟨_, rfl⟩, .inr ⟨_, ⟨by simp, by rw [hfl] at hpx; exact hpx⟩, hJx3⟩⟩
    · obtain rfl : k = xs.length := by omega
      rw [List.take_length] at hJr
      gi_wp2
      go_end0
      exact ⟨⟨_, rfl⟩, .inl ⟨_, rfl, hJr⟩⟩
end Go.Proofs.Ytpdfmeaemlgniaa
