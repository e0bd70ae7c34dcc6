
/-
  A text's lines, in turn: lines.
-/
import Derived.Test.YtjmfcjidhmaibaaGreatDoorCatZ
import Derived.RangeFuncNested
import Derived.RangeFuncBound
import Derived.RangeFuncCalls
import Derived.RangeFuncLeaves
import Derived.Shelf.Abstract
import Derived.Shelf.RegionOpen
import Derived.OwnWalkIn
import Derived.TacticsInMore
import Derived.LoopNIn
import Derived.LoopIn
import Derived.Lib.OthersKept
import Derived.WalkMore
namespace Go.Proofs.YtjmfcjidhmaibaaGreatDoor
open Go.RowKit Go.Shelf
open Go.Lib hiding intOf
set_option linter.unusedVariables false
attribute [local go_sem] Oper.semAt_some

/-- what a round keeps: what lay below n, what is gone through, and texts -/
structure Spare (n : Nat) (w w' : World) : Prop where
  below : Below n w w'
  walks : KeepsWalks w w'
  strs : ∀ (b : Nat) (cs : Array Value) (fr : Nat × Nat), w.heap[b]? = some (Obj.cells cs 9 fr) → w'.heap[b]? = some (Obj.cells cs 9 fr)
theorem Spare.trans {n : Nat} {a b c : World} (h : Spare n a b) (k : Spare n b c) : Spare n a c := ⟨h.below.trans k.below, h.walks.trans k.walks, fun i cs fr hi => k.strs i cs fr (h.strs i cs fr hi)⟩
theorem Spare.putObj {n : Nat} (W : World) (l : Nat) (o o' : Obj) (hl : n ≤ l) (ho : W.heap[l]? = some o) (hc : o.isCells = false) (hw : o.isWalk = false) : Spare n W (W.putObj l o') where
  below := (Below.refl n W).grown (grownBy_putObj' W l o') (by have := (Array.getElem?_eq_some_iff.1 ho).1; omega) (fun k e => by cases e; omega)
  walks := KeepsWalks.putObj _ ho hw
  strs b cs fr hb := by
    have : b ≠ l := by rintro rfl; rw [ho] at hb; cases hb; cases hc
    rw [World.putObj_heap_other this]; exact hb

theorem Ext.grownTo {w w' : World} (h : Ext [] w w') : w.grownBy w' none := ⟨h.os, h.tape, h.output, h.size, fun k hk _ => h.block k hk (by simp)⟩
/-- a round writes cells of its own function alone -/
theorem Spare.ofExt {X : List Nat} {n : Nat} {w w' : World} (h : Ext X w w') (hn : n ≤ w.heap.size) (hX : ∀ b ∈ X, n ≤ b ∧ ∃ cs t fr, w.heap[b]? = some (Obj.cells cs t fr) ∧ t ≠ 9) : Spare n w w' where
  below := ⟨h.os, h.tape, h.output, h.size, fun k hk => h.block k (by omega) (fun m => by have := (hX k m).1; omega)⟩
  walks := ⟨h.size, fun k o hk ho => (h.block k (size_heap hk) (fun m => by obtain ⟨_, cs, t, fr, hb, _⟩ := hX k m; rw [hk] at hb; cases hb; cases ho)).trans hk⟩
  strs b cs fr hb := (h.block b (size_heap hb) (fun m => by obtain ⟨_, cs', t, fr', hb', ht⟩ := hX b m; rw [hb] at hb'; cases hb'; exact ht rfl)).trans hb
theorem KeepsFrom.ofExt {X : List Nat} {B : Nat} {w w' : World} (h : Ext X w w') (hX : ∀ b ∈ X, ∃ cs t fr, w.heap[b]? = some (Obj.cells cs t fr)) : KeepsFrom B w w' :=
  ⟨h.size, fun k o _ hk ho => (h.block k (size_heap hk) (fun m => by obtain ⟨cs, t, fr, hb⟩ := hX k m; rw [hk] at hb; cases hb; cases ho)).trans hk⟩
theorem cells_grown {W W' : World} {row : Option Nat} {B b : Nat} {cs : Array Value} {t : TypeId} {fr : Nat × Nat} (hb : W.heap[b]? = some (.cells cs t fr)) (hg : W.grownBy W' row) (hr : ∀ r, row = some r → B ≤ r ∧ ∃ o : Obj, W.heap[r]? = some o ∧ o.isCells = false) : W'.heap[b]? = some (.cells cs t fr) := by
  refine (hg.block b (size_heap hb) (fun e => ?_)).trans hb
  obtain ⟨_, o, ho, hc⟩ := hr b e.symm
  rw [hb] at ho; cases ho; cases hc

theorem heap_same {w : World} {b : Nat} {v0 : Value} {t : TypeId} (h : w.heap[b]? = some (.cells #[v0] t (0, 0))) (v : Value) : (w.setCell ⟨b, 0, none⟩ v).heap[b]? = some (.cells #[v] t (0, 0)) := by
  have := set_cell_heap h 0 v
  simpa using this
theorem heap_other {w : World} {b c : Nat} {o : Obj} (h : w.heap[b]? = some o) (hc : c ≠ b) (i : Nat) (v : Value) : (w.setCell ⟨c, i, none⟩ v).heap[b]? = some o := by
  rw [Below.heap_setCell _ _ _ _ (Ne.symm hc)]; exact h
/-- a line and its place; it is no longer than a text may be -/
abbrev Ln := { x : Nat × List UInt8 // x.2.length ≤ 1000 }
def lenc (x : Ln) : Array Value := #[.int .i64 x.1.1, .string (B x.1.2)]
theorem lines_any (w : World) (s : ByteArray) :
    Calls Tryz.prog 23 #[.string s] w fun e w' => e = .returned (.func (.func 41) #[] #[.pointer (some ⟨w.heap.size, 0, none⟩)]) ∧ w' = w.alloc (.cells #[.string s] 9) := by
  go_enter Tryz.func23, Tryz.ntmps23
  go_wp2
  go_ret
  exact ⟨rfl, rfl⟩
theorem index_nl (l : List UInt8) : (index l [10] = -1 ∧ (10 : UInt8) ∉ l) ∨ ∃ (w r : List UInt8), l = w ++ 10 :: r ∧ (10 : UInt8) ∉ w ∧ index l [10] = w.length := by
  induction l with
  | nil => exact .inl ⟨rfl, by simp⟩
  | cons c r ih =>
    by_cases hc : c = 10
    · subst hc
      exact .inr ⟨[], r, rfl, by simp, by unfold index; simp [List.isPrefixOf]⟩
    · have hp : ([10] : List UInt8).isPrefixOf (c :: r) = false := by
        have : ¬ (10 : UInt8) = c := fun e => hc e.symm
        simp [List.isPrefixOf, this]
      have hi : index (c :: r) [10] = if index r [10] == -1 then -1 else index r [10] + 1 := by
        conv => lhs; unfold index
        rw [hp]; rfl
      rcases ih with ⟨h1, h2⟩ | ⟨w, t, h1, h2, h3⟩
      · exact .inl ⟨by rw [hi, h1]; rfl, by
          intro hm
          rcases List.mem_cons.1 hm with e | hm
          · exact hc e.symm
          · exact h2 hm⟩
      · refine .inr ⟨c :: w, t, by rw [h1]; rfl, by
          intro hm
          rcases List.mem_cons.1 hm with e | hm
          · exact hc e.symm
          · exact h2 hm, ?_⟩
        rw [hi, h3, if_neg (by simp)]
        simp
set_option maxHeartbeats 2000000 in
theorem lines_in (n : Nat) (hn : 3 ≤ n) (wS w0 : World) (hG : Glob wS) (hS : Ext [] wS w0) (b : Nat) (s : ByteArray) (hs : s.size ≤ 1000) (hb : w0.heap[b]? = some (.cells #[.string s] 9 (0, 0))) :
    SeqStopsK Fence.wide n Tryz.prog 41 #[.pointer (some ⟨b, 0, none⟩)] lenc (Spare wS.heap.size)
      (fun xs => xs.map Subtype.val = lns 0 [] (L s)) (fun pre => pre ≠ [] ∧ pre.map Subtype.val <+: lns 0 [] (L s)) (lns 0 [] (L s)).length w0 := fun l J Jx W hW hJ hJx hY h0 => by
  refine callsIn_of_wp Tryz.func41 rfl trivial ?_ rfl
  simp only [Tryz.ntmps41, List.size_toArray, List.length_cons, List.length_nil, Nat.reduceAdd, Nat.reduceSub, Array.replicate_succ, Array.replicate_zero, List.push_toArray, List.append_toArray, List.nil_append, List.cons_append]
  have f1 : Fence.wide.fn 42 := trivial
  have n1 : 1 ≤ n := by omega
  have hSW : Ext [] wS W := hS.trans ((Ext.ofBelow hW).mono (fun _ _ h => h))
  have hbW : W.heap[b]? = some (.cells #[.string s] 9 (0, 0)) := (Ext.ofBelow hW).heap hb (by simp)
  gi_wp2
  gi_loopw [3] (fun e wr => ∃ (p : Nat) (pre : List Ln), e = .int .i64 (p : Int) ∧ p ≤ s.size ∧ wr.heap[b]? = some (.cells #[.string s] 9 (0, 0)) ∧ J pre wr ∧ Ext [] wS wr ∧ Hid (lns 0 [] (L s) = pre.map Subtype.val ++ lns p [] ((L s).drop p))) (fun e _ => s.size - (intOf e).toNat)
  case atStart => exact ⟨0, [], rfl, by omega, hbW, h0, hSW, rfl⟩
  case round =>
    obtain ⟨p, pre, rfl, hp, hbr, hJr, hSr, hes⟩ := hrel
    have hbc := cell_of_heap hbr 0
    simp only [List.getElem?_toArray, List.getElem?_cons_zero] at hbc
    by_cases hlt : p < s.size
    · have hLx : L (s.extract p s.size) = (L s).drop p := by rw [L_extract, List.take_of_length_le (by rw [List.length_drop, ← size_L]; omega)]
      have ix := Index_any wr (s.extract p s.size) ⟨#[10]⟩ (hG.ext hSr) (by rw [size_L, hLx, List.length_drop, ← size_L]; omega)
      rw [hLx, show L ⟨#[10]⟩ = [10] from rfl] at ix
      have hdl : ((L s).drop p).length = s.size - p := by rw [List.length_drop, ← size_L]
      have hplt : decide ((p : Int) < (s.size : Int)) = true := by simpa using hlt
      rcases index_nl ((L s).drop p) with ⟨i1, i2⟩ | ⟨a, r, i1, i2, i3⟩
      · rw [i1] at ix
        have hne : (L s).drop p ≠ [] := by intro e; rw [e] at hdl; simp at hdl; omega
        have hq : ((L s).drop p).length ≤ 1000 := by omega
        have hes' : lns 0 [] (L s) = (pre ++ [(⟨(p, (L s).drop p), hq⟩ : Ln)]).map Subtype.val := by
          rw [List.map_append]
          rw [hes.out, lns_miss _ _ _ i2, if_neg (by simpa using hne)]; rfl
        have hyy := hY pre (⟨(p, (L s).drop p), hq⟩ : Ln) wr hJr (by rw [hes']; simp)
        have HES := Lib.hid hes'
        obtain ⟨fn, tmps, assign, body, hy, hRR⟩ := hyy
        dsimp only [lenc] at hy
        have hB := Lib.hid hbr
        rw [← hLx, B_L] at hy
        clear hes hes' hne hdl i1 i2 hbr hY hJr
        gi_wp2_with (gi_at_call 42; refine (callsIn_wide.2 ix).mono ?_; rintro e w2 ⟨rfl, rfl⟩)
        refine hRR.mono ?_
        rintro e W3 (⟨rfl, hJ3, hk3⟩ | ⟨rfl, hx3⟩)
        · have hb4 := Lib.hid (hk3.strs _ _ _ hB.out)
          have hS4 := Lib.hid (Ext.ofBelow ((hSr.below).trans hk3.below))
          clear hk3 hy hRR
          gi_wp2
          refine ⟨⟨s.size, pre ++ [(⟨(p, (L s).drop p), hq⟩ : Ln)], by go_num, Nat.le_refl _, hb4.out, hJ3, hS4.out, ?_⟩, ?_⟩
          · show _ = _
            rw [HES.out, List.drop_eq_nil_of_le (show (L s).length ≤ s.size from Nat.le_refl _)]
            simp [lns]
          · simp [intOf]; omega
        · gi_wp2
          refine bodyPost_ret (results_none rfl _ _ _) rfl ?_
          exact ⟨⟨_, rfl⟩, .inr ⟨_, ⟨by simp, by rw [HES.out]; exact List.prefix_rfl⟩, hx3⟩⟩
      · rw [i3] at ix
        have hal : a.length + 1 ≤ s.size - p := by
          have := congrArg List.length i1
          rw [hdl] at this
          simp at this
          omega
        have hLy : L (s.extract p (p + a.length + 1)) = a ++ [10] := by
          rw [L_extract, i1, show p + a.length + 1 - p = (a ++ [10]).length by simp; omega, show a ++ 10 :: r = (a ++ [10]) ++ r by simp, List.take_left']
          rfl
        have hq : (a ++ [10]).length ≤ 1000 := by simp; omega
        have hes' : lns 0 [] (L s) = (pre ++ [(⟨(p, a ++ [10]), hq⟩ : Ln)]).map Subtype.val ++ lns (p + a.length + 1) [] r := by
          rw [List.map_append, List.append_assoc]
          rw [hes.out, i1, lns_hit _ _ _ _ i2]; rfl
        have hdr : (L s).drop (p + a.length + 1) = r := by
          have : ((L s).drop p).drop (a.length + 1) = r := by rw [i1, show a ++ 10 :: r = (a ++ [10]) ++ r by simp, List.drop_left' (by simp)]
          rw [List.drop_drop] at this
          rw [Nat.add_assoc]; exact this
        have hyy := hY pre (⟨(p, a ++ [10]), hq⟩ : Ln) wr hJr (by rw [hes']; simp)
        have HES := Lib.hid hes'
        obtain ⟨fn, tmps, assign, body, hy, hRR⟩ := hyy
        dsimp only [lenc] at hy
        have hB := Lib.hid hbr
        rw [← hLy, B_L] at hy
        have HDR := Lib.hid hdr
        generalize hm : a.length = m at *
        have hb1 : (p : Int) + (m : Int) + 1 ≤ 1000 := by omega
        have hge : decide ((0 : Int) ≤ (m : Int)) = true := by simp
        have hend : p + m + 1 ≤ s.size := by omega
        clear hes hes' hdl i1 i2 i3 hbr hY hJr hdr hLy hal hm
        gi_wp2_with (gi_at_call 42; refine (callsIn_wide.2 ix).mono ?_; rintro e w2 ⟨rfl, rfl⟩)
        refine hRR.mono ?_
        rintro e W3 (⟨rfl, hJ3, hk3⟩ | ⟨rfl, hx3⟩)
        · have hb4 := Lib.hid (hk3.strs _ _ _ hB.out)
          have hS4 := Lib.hid (Ext.ofBelow ((hSr.below).trans hk3.below))
          clear hk3 hy hRR
          gi_wp2
          refine ⟨⟨p + m + 1, pre ++ [(⟨(p, a ++ [10]), hq⟩ : Ln)], by go_num, by omega, hb4.out, hJ3, hS4.out, ?_⟩, ?_⟩
          · show _ = _
            rw [HES.out, HDR.out]
          · simp [intOf]; omega
        · gi_wp2
          refine bodyPost_ret (results_none rfl _ _ _) rfl ?_
          exact ⟨⟨_, rfl⟩, .inr ⟨_, ⟨by simp, by rw [HES.out]; exact ⟨lns (p + m + 1) [] r, rfl⟩⟩, hx3⟩⟩
    · have hfin : Hid (lns 0 [] (L s) = pre.map Subtype.val) := by
        show _ = _
        rw [hes.out, List.drop_eq_nil_of_le (show (L s).length ≤ p by rw [← size_L]; omega)]
        simp [lns]
      gi_wp2
      go_end0
      exact ⟨⟨_, rfl⟩, .inl ⟨pre, hfin.out.symm, hJr⟩⟩
end Go.Proofs.YtjmfcjidhmaibaaGreatDoor
