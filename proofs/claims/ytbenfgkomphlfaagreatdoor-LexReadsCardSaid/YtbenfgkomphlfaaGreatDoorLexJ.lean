/-
  told: what a text is told, in turn.
-/
import Derived.Test.YtbenfgkomphlfaaGreatDoorLexI
import Derived.Test.YtbenfgkomphlfaaGreatDoorLexO
import Derived.RangeFuncNested
import Derived.RangeFuncBound
import Derived.RangeFuncCalls
import Derived.RangeFuncLeaves
import Derived.Shelf.Abstract
import Derived.Shelf.RegionOpen
import Derived.OwnWalkIn
import Derived.TacticsInMore
import Derived.LoopNIn
import Derived.LoopIn
import Derived.Lib.OthersKept
import Derived.WalkMore
namespace Go.Proofs.YtbenfgkomphlfaaGreatDoor
open Go.RowKit Go.Shelf
open Go.Lib hiding intOf
set_option linter.unusedVariables false
attribute [local go_sem] Oper.semAt_some

/-- what a round keeps: what lay below n, what is gone through, and texts -/
structure Spare (n : Nat) (w w' : World) : Prop where
  below : Below n w w'
  walks : KeepsWalks w w'
  strs : ∀ (b : Nat) (cs : Array Value) (fr : Nat × Nat), w.heap[b]? = some (Obj.cells cs 9 fr) → w'.heap[b]? = some (Obj.cells cs 9 fr)
theorem Spare.trans {n : Nat} {a b c : World} (h : Spare n a b) (k : Spare n b c) : Spare n a c := ⟨h.below.trans k.below, h.walks.trans k.walks, fun i cs fr hi => k.strs i cs fr (h.strs i cs fr hi)⟩
theorem Spare.putObj {n : Nat} (W : World) (l : Nat) (o o' : Obj) (hl : n ≤ l) (ho : W.heap[l]? = some o) (hc : o.isCells = false) (hw : o.isWalk = false) : Spare n W (W.putObj l o') where
  below := (Below.refl n W).grown (grownBy_putObj' W l o') (by have := (Array.getElem?_eq_some_iff.1 ho).1; omega) (fun k e => by cases e; omega)
  walks := KeepsWalks.putObj _ ho hw
  strs b cs fr hb := by
    have : b ≠ l := by rintro rfl; rw [ho] at hb; cases hb; cases hc
    rw [World.putObj_heap_other this]; exact hb

def enc2 (x : Tok × Bool) : Array Value := #[x.1.v, .bool x.2]
theorem told_any (w : World) (s : ByteArray) :
    Calls Tryz.prog 13 #[.string s] w fun e w' => e = .returned (.func (.func 26) #[] #[.pointer (some ⟨w.heap.size, 0, none⟩)]) ∧ w' = w.alloc (.cells #[.string s] 9) := by
  go_enter Tryz.func13, Tryz.ntmps13
  go_wp2
  go_ret
  exact ⟨rfl, rfl⟩
/-- the class of blanks, its text known as a block -/
theorem blank_any (w : World) (b : Nat) (hb : w.heap[b]? = some (.cells #[.string ⟨#[32, 32, 9, 10, 13, 13]⟩] 9 (0, 0))) :
    Calls Tryz.prog 27 #[.slice (some ⟨b, 0, none⟩) 1 1] w fun e w' => ∃ c, e = .returned (.func (.func 43) #[] #[.pointer (some ⟨c, 0, none⟩)]) ∧ w'.heap[c]? = some (.cells #[.string (B cBlank)] 9 (0, 0)) ∧ Ext [] w w' := by
  have hs : Sl w (.slice (some ⟨b, 0, none⟩) 1 1) b 1 1 [.string ⟨#[32, 32, 9, 10, 13, 13]⟩] := (Blk.sl (l := [Value.string ⟨#[32, 32, 9, 10, 13, 13]⟩]) (size := 1) (n := 1) (cap := 1) hb rfl (Nat.le_refl _) (by decide))
  have hj := Join_any w _ b [B [32, 32, 9, 10, 13, 13]] (B []) hs (by decide) (by decide)
  rw [show join ([B [32, 32, 9, 10, 13, 13]].map L) (L (B [])) = cBlank by decide] at hj
  go_enter Tryz.func27, Tryz.ntmps27
  go_wp2_with (go_at_call 22; refine hj.mono ?_; rintro e w1 ⟨rfl, h1⟩)
  go_ret
  exact ⟨_, rfl, heap_new _ _, h1.alloc _⟩
theorem blank_ask (w : World) (c : Nat) (h : w.heap[c]? = some (.cells #[.string (B cBlank)] 9 (0, 0))) (r : Int) (h1 : 0 ≤ r) (h2 : r ≤ 1114111) :
    Calls Tryz.prog 43 #[.int .i32 r, .pointer (some ⟨c, 0, none⟩)] w fun e w' => e = .returned (.bool (spansI cBlank r)) ∧ w = w' :=
  bit_any w c r (B cBlank) (by omega) (by omega) (by decide) (cell_of_heap h 0)

theorem Ext.iter (w : World) (k : Nat) (s : ByteArray) (p q : Nat) (hk : w.heap[k]? = some (.stringIter s p)) : Ext [k] w (w.iterAt k s q) :=
  ⟨rfl, rfl, rfl, by simp [World.iterAt], fun i hi hx => by
    have : k ≠ i := fun e => hx (by simp [e])
    simp [World.iterAt, Array.getElem?_setIfInBounds_ne this]⟩
theorem Ext.grownTo {w w' : World} (h : Ext [] w w') : w.grownBy w' none := ⟨h.os, h.tape, h.output, h.size, fun k hk _ => h.block k hk (by simp)⟩
theorem Ext.grownIter {w w' : World} {k : Nat} (h : Ext [k] w w') : w.grownBy w' (some k) := ⟨h.os, h.tape, h.output, h.size, fun i hi hx => h.block i hi (by simpa using fun e => hx (by rw [e]))⟩
theorem not_iter {w : World} {b k : Nat} {s : ByteArray} {p : Nat} {cs : Array Value} {t : TypeId} {fr : Nat × Nat} (hk : w.heap[k]? = some (.stringIter s p)) (hb : w.heap[b]? = some (.cells cs t fr)) : b ∉ [k] := by
  intro h
  obtain rfl : b = k := by simpa using h
  rw [hk] at hb
  cases hb
set_option maxHeartbeats 2000000 in
theorem told_in (n : Nat) (hn : 3 ≤ n) (wS w0 : World) (hG : Glob wS) (hS : Ext [] wS w0) (b : Nat) (s : ByteArray) (hs : s.size ≤ 600) (hb : w0.heap[b]? = some (.cells #[.string s] 9 (0, 0))) :
    SeqStopsK Fence.wide n Tryz.prog 26 #[.pointer (some ⟨b, 0, none⟩)] enc2 (Spare wS.heap.size)
      (fun xs => xs = es (scan 0 0 (L s))) (fun pre => pre ≠ [] ∧ pre <+: es (scan 0 0 (L s))) (es (scan 0 0 (L s))).length w0 := fun l J Jx W hW hJ hJx hY h0 => by
  refine callsIn_of_wp Tryz.func26 rfl trivial ?_ rfl
  simp only [Tryz.ntmps26, List.size_toArray, List.length_cons, List.length_nil, Nat.reduceAdd, Nat.reduceSub, Array.replicate_succ, Array.replicate_zero, List.push_toArray, List.append_toArray, List.nil_append, List.cons_append]
  have f1 : Fence.wide.fn 27 := trivial
  have f2 : Fence.wide.fn 43 := trivial
  have f3 : Fence.wide.fn 28 := trivial
  have n1 : 1 ≤ n := by omega
  refine wpIn_wide.2 (wp_scope_straight ?_)
  refine (wpIn_wide (n := n)).1 ?_
  refine wpIn_seq_k fun K hK => ?_
  gi_wp2_with (gi_at_call 27; refine (callsIn_wide.2 (blank_any _ _ ?_)).mono ?_; exact heap_new _ _; rintro e W1 ⟨c, rfl, hc, hE⟩)
  refine wpIn_label ?_
  have hSW : Ext [] wS W := hS.trans ((Ext.ofBelow hW).mono (fun _ _ h => h))
  have hE' : Ext [] W W1 := ((Ext.refl [] W).alloc _).trans hE
  have hb1 : W1.heap[b]? = some (.cells #[.string s] 9 (0, 0)) := hE'.heap ((Ext.ofBelow hW).heap hb (by simp)) (by simp)
  have hb2 := cell_of_heap hb1 0
  have hJ1 : J [] W1 := hJ [] W W1 none h0 hE'.grownTo (fun r e => by cases e)
  have hSW1 := hSW.trans hE'
  have hsz := hE'.size
  gi_wp2
  clear hb2
  gi_loopw [3] (fun e wr => ∃ (pos E : Nat) (pre : List (Tok × Bool)), e = .int .i64 (E : Int) ∧ pos ≤ s.size ∧ E ≤ s.size ∧ wr.heap[W1.heap.size]? = some (.stringIter s pos) ∧ wr.heap[b]? = some (.cells #[.string s] 9 (0, 0)) ∧ wr.heap[c]? = some (.cells #[.string (B cBlank)] 9 (0, 0)) ∧ J pre wr ∧ Ext [] wS wr ∧ Hid (es (scan 0 0 (L s)) = pre ++ es (scan pos (E - pos) ((L s).drop pos))) ∧ Hid ((((L s).drop pos).take (E - pos)).all asc = true)) (fun _ wr => s.size - wr.iterPos W1.heap.size)
  case atStart =>
    have hI : Ext [] W1 (W1.iter s 0) := (Ext.refl [] W1).alloc _
    exact ⟨0, 0, [], rfl, by omega, by omega, World.iter_heap _ _ _, hI.heap hb1 (by simp), hI.heap hc (by simp), hJ [] W1 _ none hJ1 hI.grownTo (fun r e => by cases e), hSW1.trans hI, rfl, rfl⟩
  case round =>
    obtain ⟨pos, E, pre, rfl, hpos, hEs, hk, hbr, hcr, hJr, hSr, hes, has⟩ := hrel
    have hit : wr.iterPos W1.heap.size = pos := by simp [World.iterPos, hk]
    have HIT := Lib.hid hit
    clear hit hJ1 hSW1 hE' hE hb1 hc
    by_cases hlt : pos < s.size
    · have hd : (L s).drop pos = (s[pos]'hlt) :: (L s).drop (pos + 1) := List.drop_eq_getElem_cons (show pos < (L s).length from hlt)
      have hH : ∀ q, (wr.iterAt W1.heap.size s q).heap[W1.heap.size]? = some (.stringIter s q) := fun q => Lib.iterAt_heap wr W1.heap.size s pos q hk
      have hX := fun q => Ext.iter wr W1.heap.size s pos q hk
      have hB2 := fun q => (hX q).heap hbr (not_iter hk hbr)
      have hC2 := fun q => (hX q).heap hcr (not_iter hk hcr)
      have hJ2 := fun q => hJ pre wr (wr.iterAt W1.heap.size s q) (some W1.heap.size) hJr (hX q).grownIter (fun r e => by cases e; exact ⟨hsz, _, hk, rfl⟩)
      have hS2 : ∀ q, Ext [] wS (wr.iterAt W1.heap.size s q) := fun q => hSr.trans' (hX q) (fun i hi => .inr (by
        obtain rfl : i = W1.heap.size := by simpa using hi
        exact Nat.le_trans hSW.size hsz))
      clear hX hbr hcr hJr hSr
      have b0 := (s[pos]'hlt).toNat_lt
      by_cases hE : pos < E
      · have hlow : (s[pos]'hlt).toNat < 128 := by
          have := has.out
          rw [hd, show E - pos = (E - pos - 1) + 1 by omega, List.take_succ_cons, List.all_cons, Bool.and_eq_true] at this
          simpa [asc] using this.1
        have hnx := fun ty => Lib.run_next_ascii_at (P := Tryz.prog) wr W1.heap.size s pos ty hk hlt hlow
        have hes' : Hid (es (scan 0 0 (L s)) = pre ++ es (scan (pos + 1) (E - (pos + 1)) ((L s).drop (pos + 1)))) := by
          show _ = _
          rw [hes.out, hd, show E - pos = (E - (pos + 1)) + 1 by omega, scan_skip]
        have has' : Hid ((((L s).drop (pos + 1)).take (E - (pos + 1))).all asc = true) := by
          show _ = _
          have := has.out
          rw [hd, show E - pos = (E - (pos + 1)) + 1 by omega, List.take_succ_cons, List.all_cons, Bool.and_eq_true] at this
          exact this.2
        have hh := Lib.hid (hH (pos + 1))
        have hb3 := Lib.hid (hB2 (pos + 1))
        have hc3 := Lib.hid (hC2 (pos + 1))
        have hJ3 := Lib.hid (hJ2 (pos + 1))
        have hS3 := Lib.hid (hS2 (pos + 1))
        clear hd hk hH hB2 hC2 hJ2 hS2
        gi_wp2
        refine ⟨fun _ h => (by cases h), ?_⟩
        gi_wp2
        go_roundw
        case rel => exact ⟨pos + 1, E, pre, rfl, by omega, hEs, hh.out, hb3.out, hc3.out, hJ3.out, hS3.out, hes', has'⟩
        case measure => rw [HIT.out]; simp only [World.iterPos, hh.out]; omega
      · have hE0 : E - pos = 0 := by omega
        rw [hE0] at hes
        have hge : ¬ ((pos : Int) < (E : Int)) := by omega
        obtain ⟨R, wd, hR, hw1, hR0, hR1, hnx⟩ : ∃ (R : Int) (wd : Nat), ((s[pos]'hlt).toNat < 128 → R = ((s[pos]'hlt).toNat : Int) ∧ wd = 1) ∧ (128 ≤ (s[pos]'hlt).toNat → 127 < R) ∧ 0 ≤ R ∧ R ≤ 1114111 ∧
            (∀ ty, (Instr.next (.pointer (some ⟨W1.heap.size, 0, none⟩)) true ty).run Tryz.prog wr = .ok (.tuple #[.bool true, .int .i64 pos, .int .i32 R]) (wr.iterAt W1.heap.size s (pos + wd))) := by
          by_cases hlow : (s[pos]'hlt).toNat < 128
          · exact ⟨_, 1, fun _ => ⟨rfl, rfl⟩, fun h => by omega, by omega, by omega, fun ty => Lib.run_next_ascii_at wr W1.heap.size s pos ty hk hlt hlow⟩
          · obtain ⟨r1, r2⟩ := high_rune s pos hlt (by omega)
            exact ⟨_, _, fun h => absurd h hlow, fun _ => by omega, by omega, by omega, fun ty => Lib.run_next_any_at wr W1.heap.size s pos ty hk hlt⟩
        have hsp : spansI cBlank R = spans cBlank (s[pos]'hlt) := by
          by_cases hlow : (s[pos]'hlt).toNat < 128
          · rw [(hR hlow).1, spansI_byte]
          · rw [blank_low _ (by omega)]
            exact spansI_far _ _ (fun x hx => by
              have : x.toNat < 128 := by revert x; decide
              have := hw1 (by omega); omega)
        have hask := blank_ask (wr.iterAt W1.heap.size s (pos + wd)) c (hC2 _) R hR0 hR1
        rw [hsp] at hask
        by_cases hbl : spans cBlank (s[pos]'hlt) = true
        · have hlow : (s[pos]'hlt).toNat < 128 := by
            by_cases h : (s[pos]'hlt).toNat < 128
            · exact h
            · rw [blank_low _ (by omega)] at hbl; cases hbl
          obtain ⟨-, rfl⟩ := hR hlow
          have hes' : Hid (es (scan 0 0 (L s)) = pre ++ es (scan (pos + 1) (E - (pos + 1)) ((L s).drop (pos + 1)))) := by
            show _ = _
            rw [hes.out, hd, scan_blank _ _ _ hbl, show E - (pos + 1) = 0 by omega]
          have has' : Hid ((((L s).drop (pos + 1)).take (E - (pos + 1))).all asc = true) := by
            show _ = _
            rw [show E - (pos + 1) = 0 by omega]; rfl
          rw [hbl] at hask
          have hh := Lib.hid (hH (pos + 1))
          have hb3 := Lib.hid (hB2 (pos + 1))
          have hc3 := Lib.hid (hC2 (pos + 1))
          have hJ3 := Lib.hid (hJ2 (pos + 1))
          have hS3 := Lib.hid (hS2 (pos + 1))
          clear hd hk hH hB2 hC2 hJ2 hS2 hsp hbl hE0 hR hw1
          gi_wp2_with (gi_at_call 43; refine (callsIn_wide.2 hask).mono ?_; rintro e w2 ⟨rfl, rfl⟩)
          go_roundw
          case rel => exact ⟨pos + 1, E, pre, rfl, by omega, hEs, hh.out, hb3.out, hc3.out, hJ3.out, hS3.out, hes', has'⟩
          case measure => rw [HIT.out]; simp only [World.iterPos, hh.out]; omega
        · have hbl' : spans cBlank (s[pos]'hlt) = false := by simpa using hbl
          rw [hbl'] at hask
          have hLx : L (s.extract pos s.size) = (L s).drop pos := by rw [L_extract, List.take_of_length_le (by rw [List.length_drop, ← size_L]; omega)]
          have hGw := hG.ext (hS2 (pos + wd))
          have hcl := cell_of_heap (hB2 (pos + wd)) 0
          have hsx : (s.extract pos s.size).size ≤ 100000 := by rw [size_L, hLx, List.length_drop, ← size_L]; omega
          have hfl := first_le ((L s).drop pos)
          have fr := first_any (wr.iterAt W1.heap.size s (pos + wd)) (s.extract pos s.size) hGw hsx
          rw [hLx] at fr
          obtain ⟨⟨⟨tk, ta, ts, tn⟩, m⟩, hp⟩ : ∃ p, first ((L s).drop pos) = p := ⟨_, rfl⟩
          rw [hp] at fr hfl
          simp only [TN] at fr
          by_cases hm : m = 0
          · subst hm
            have hes' : es (scan 0 0 (L s)) = pre ++ [(⟨tk, pos, ts, tn⟩, false)] := by
              rw [hes.out, hd, scan_wrong _ _ _ hbl' (by rw [← hd, hp]), ← hd, hp]
              rfl
            have hJy : ∀ W2, Ext [] (wr.iterAt W1.heap.size s (pos + wd)) W2 → J pre (W2.alloc (.cells #[.int .i64 tk, .int .i64 (pos : Int), .string ts, .int .u64 tn] 29)) := fun W2 h => hJ pre _ _ none (hJ2 (pos + wd)) (h.alloc _).grownTo (fun r e => by cases e)
            have hyy := fun W2 h => hY pre (⟨tk, pos, ts, tn⟩, false) _ (hJy W2 h) (by rw [hes']; simp)
            simp only [Int.natCast_zero] at fr
            have HES := Lib.hid hes'
            clear hes' hes hJy hp hfl hd hk hH hB2 hC2 hJ2 hS2 hsp hE0 hR hw1 hbl hbl' hLx has
            gi_wp2_with (first
              | (gi_at_call 43; refine (callsIn_wide.2 hask).mono ?_; rintro e w2 ⟨rfl, rfl⟩)
              | (gi_at_call 28; refine (callsIn_wide.2 fr).mono ?_; rintro e W2 ⟨rfl, hF⟩; obtain ⟨fn, tmps, assign, body, hy, hRR⟩ := hyy W2 hF; dsimp only [enc2, Tok.v] at hy))
            refine hRR.mono ?_
            rintro e W3 (⟨rfl, hJ3, hk3⟩ | ⟨rfl, hx3⟩)
            · gi_wp2
              rw [Exit.noGoto_normal]
              go_end0
              exact ⟨⟨_, rfl⟩, .inl ⟨_, HES.out.symm, hJ3⟩⟩
            · gi_wp2
              rw [Exit.noGoto_normal]
              go_end0
              exact ⟨⟨_, rfl⟩, .inr ⟨_, ⟨by simp, by rw [HES.out]; exact List.prefix_rfl⟩, hx3⟩⟩
          · obtain ⟨q, rfl⟩ : ∃ q, m = q + 1 := ⟨m - 1, by omega⟩
            have hlow : (s[pos]'hlt).toNat < 128 := by
              have := hfl.2
              rw [hd, List.take_succ_cons, List.all_cons, Bool.and_eq_true] at this
              simpa [asc] using this.1
            obtain ⟨-, rfl⟩ := hR hlow
            have hqs : q + 1 ≤ s.size - pos := by have := hfl.1; rw [List.length_drop, ← size_L] at this; exact this
            have hes' : es (scan 0 0 (L s)) = pre ++ (⟨tk, pos, ts, tn⟩, true) :: es (scan (pos + 1) q ((L s).drop (pos + 1))) := by
              rw [hes.out, hd, scan_tok _ _ _ hbl' (by rw [← hd, hp]; simp), ← hd, hp, es_cons]
              rfl
            have has' : Hid ((((L s).drop (pos + 1)).take q).all asc = true) := by
              show _ = _
              have := hfl.2
              rw [hd, List.take_succ_cons, List.all_cons, Bool.and_eq_true] at this
              exact this.2
            have hJy : ∀ W2, Ext [] (wr.iterAt W1.heap.size s (pos + 1)) W2 → J pre (W2.alloc (.cells #[.int .i64 tk, .int .i64 (pos : Int), .string ts, .int .u64 tn] 29)) := fun W2 h => hJ pre _ _ none (hJ2 (pos + 1)) (h.alloc _).grownTo (fun r e => by cases e)
            have hyy := fun W2 h => hY pre (⟨tk, pos, ts, tn⟩, true) _ (hJy W2 h) (by rw [hes']; simp)
            have HES := Lib.hid hes'
            have hpos0 : (0 : Int) < ((q + 1 : Nat) : Int) := by omega
            have hpos1 : (((q + 1 : Nat) : Int) == 0) = false := by simp; omega
            have hh := Lib.hid (hH (pos + 1))
            have hb3 := Lib.hid (hB2 (pos + 1))
            have hc3 := Lib.hid (hC2 (pos + 1))
            have hS3 := Lib.hid (hS2 (pos + 1))
            obtain ⟨m, hmq⟩ : ∃ m : Nat, m = q + 1 := ⟨_, rfl⟩
            rw [← hmq] at fr hpos0 hpos1
            have HMQ := Lib.hid hmq
            have hdm : decide (0 < m) = true := by simp; omega
            have hdm2 : (m == 0) = false := by simp; omega
            have hm600 : (pos : Int) + (m : Int) ≤ 600 := by omega
            clear hes' hes hJy hp hfl hd hk hH hB2 hC2 hJ2 hS2 hsp hE0 hR hw1 hbl hbl' hLx has hm hmq
            gi_wp2_with (first
              | (gi_at_call 43; refine (callsIn_wide.2 hask).mono ?_; rintro e w2 ⟨rfl, rfl⟩)
              | (gi_at_call 28; refine (callsIn_wide.2 fr).mono ?_; rintro e W2 ⟨rfl, hF⟩; obtain ⟨fn, tmps, assign, body, hy, hRR⟩ := hyy W2 hF; dsimp only [enc2, Tok.v] at hy))
            refine hRR.mono ?_
            rintro e W3 (⟨rfl, hJ3, hk3⟩ | ⟨rfl, hx3⟩)
            · have hFy := hF.alloc (.cells #[.int .i64 tk, .int .i64 (pos : Int), .string ts, .int .u64 tn] 29)
              have hh4 := Lib.hid (hk3.walks.same _ _ (hFy.heap hh.out (by simp)) rfl)
              have hb4 := Lib.hid (hk3.strs _ _ _ (hFy.heap hb3.out (by simp)))
              have hc4 := Lib.hid (hk3.strs _ _ _ (hFy.heap hc3.out (by simp)))
              have hS4 := Lib.hid (Ext.ofBelow (((hS3.out.trans hFy).below).trans hk3.below))
              clear hk3 hF hy hRR hyy fr
              gi_wp2
              have hmq := HMQ.out
              refine ⟨⟨pos + 1, pos + m, pre ++ [(⟨tk, pos, ts, tn⟩, true)], by go_num, by omega, by omega, hh4.out, hb4.out, hc4.out, hJ3, hS4.out, ?_, ?_⟩, ?_⟩
              · show _ = _
                rw [HES.out, show pos + m - (pos + 1) = q by omega]
                simp
              · show _ = _
                rw [show pos + m - (pos + 1) = q by omega]
                exact has'.out
              · rw [HIT.out]
                have hh5 := hh4.out
                simp only [World.iterPos, hh5]
                omega
            · gi_wp2
              rw [Exit.noGoto_normal]
              go_end0
              exact ⟨⟨_, rfl⟩, .inr ⟨_, ⟨by simp, by rw [HES.out]; exact ⟨es (scan (pos + 1) q ((L s).drop (pos + 1))), by simp⟩⟩, hx3⟩⟩
    · have hnx := fun ty => Lib.run_next_end_at (P := Tryz.prog) wr W1.heap.size s pos ty hk hlt
      have hfin : Hid (es (scan 0 0 (L s)) = pre) := by
        show _ = _
        rw [hes.out, List.drop_eq_nil_of_le (by have := size_L s; omega)]
        simp [scan, es]
      gi_wp2
      rw [Exit.noGoto_normal]
      go_end0
      exact ⟨⟨_, rfl⟩, .inl ⟨pre, hfin.out.symm, hJr⟩⟩
end Go.Proofs.YtbenfgkomphlfaaGreatDoor
