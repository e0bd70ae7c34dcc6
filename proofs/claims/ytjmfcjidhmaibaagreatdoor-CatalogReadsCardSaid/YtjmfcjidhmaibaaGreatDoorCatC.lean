/-
  Words, as LexC.
-/
import Derived.Test.YtjmfcjidhmaibaaGreatDoorCatB
namespace Go.Proofs.YtjmfcjidhmaibaaGreatDoor
open Go.RowKit
open Go.Lib hiding intOf
set_option linter.unusedVariables false

/-! ## IsWord -/
theorem wordsV_at (k : Nat) (x : List UInt8) (h : wordsL[k]? = some x) : wordsV[k]? = some (.string (B x)) := by
  unfold wordsV
  simp [h]
theorem run_index_arr (w : World) (t n : Nat) (cs : Array Value) (k : Nat) (u : Value) (ht : Tryz.prog.underlying t = some (.array n 9)) (hn : k < n) (hu : cs[k]? = some u) (h1 : u.oneCell' = true) : (Instr.index t (.agg cs) (.int .i64 (k : Int))).run Tryz.prog w = .ok u w := by
  have e : (sizeOf 9).run Tryz.prog w = .ok 1 w := Tryz.sizeOf9 w
  simp [Instr.index, run_underlying ht, asIntOf, hn, go_sem, part, e, hu]
theorem run_word (w : World) (k : Nat) (x : List UInt8) (h : wordsL[k]? = some x) : (Instr.index 118 (.agg wordsV) (.int .i64 (k : Int))).run Tryz.prog w = .ok (.string (B x)) w := by
  have hk : k < 28 := by
    have := (List.getElem?_eq_some_iff.1 h).1
    simpa [wordsL] using this
  exact run_index_arr w _ 28 _ k _ Tryz.underlying118 hk (wordsV_at k x h) rfl
theorem at_load_words {P : Program} {ops : Array Oper} {rest : List Oper} {a : Act} {w : World} {Q : Exit → Act → World → Prop} {dst : Option Tmp} {x : Operand} {ty : TypeId} {pos : String} {after : Array Edge} {g : Option (Nat × Bool)}
    (h : wpList P ops Q ({ dst, op := .load 118 x, type := ty, pos, after, guard := g } :: rest) a w) :
    wpList P ops Q ({ dst, op := .load 118 x, type := ty, pos, after, guard := g } :: rest) a w := h
set_option maxHeartbeats 1000000 in
theorem IsWord_any (w : World) (s : ByteArray) (hG : Glob w) :
    Calls Tryz.prog 75 #[.string s] w fun e w' => e = .returned (.bool (isWord (L s))) ∧ w = w' := by
  obtain ⟨t, fr, hg⟩ := hG.words
  go_enter Tryz.func75, Tryz.ntmps75
  go_wp2_with ((with_reducible refine at_load_words ?_); refine wpList_load_row rfl _ _ rfl 2 rfl t wordsV fr _ hg Tryz.underlying118 rfl (by kernel_rfl) ?_)
  clear hg
  go_loop [6] (fun i => ∃ k : Nat, k ≤ 28 ∧ i = .int .i64 k ∧ Hid (L s ∉ wordsL.take k)) (fun i => 28 - (intOf i).toNat)
  case atStart => exact ⟨0, by omega, rfl, by simp [Hid]⟩
  case round =>
    obtain ⟨k, hk, rfl, hK⟩ := hrel
    by_cases hlt : k < 28
    · obtain ⟨x, hx⟩ : ∃ x, wordsL[k]? = some x := ⟨_, List.getElem?_eq_getElem (by simpa [wordsL] using hlt)⟩
      have hix := fun w => run_word w k x hx
      have HX := Lib.hid hx; clear hx
      by_cases he : L s = x
      · have hb : ((B x).toList == s.toList) = true := by rw [ByteArray.toList_eq, ByteArray.toList_eq]; show (x == L s) = true; rw [he]; simp
        have hw : Hid (isWord (L s) = true) := by show _ = _; rw [isWord, List.contains_iff_mem, he]; exact List.mem_of_getElem? HX.out
        clear he
        go_wp2
        go_ret
        exact ⟨ret_bool hw.out.symm, rfl⟩
      · have hb : ((B x).toList == s.toList) = false := by rw [ByteArray.toList_eq, ByteArray.toList_eq]; show (x == L s) = false; simpa using fun e => he e.symm
        have hs : Hid (L s ∉ wordsL.take (k + 1)) := by
          show _ ∉ _
          rw [List.take_add_one, HX.out, List.mem_append]
          rintro (h | h)
          · exact hK.out h
          · exact he (by simpa using h)
        clear he
        go_wp2
        go_round
        case rel => exact ⟨k + 1, by omega, by go_num, hs⟩
        case measure => simp [intOf]; omega
    · have hw : Hid (isWord (L s) = false) := by
        obtain rfl : k = 28 := by omega
        have := hK.out
        rw [List.take_of_length_le (by simp [wordsL])] at this
        show _ = _
        simpa [isWord] using this
      go_wp2
      go_ret
      exact ⟨ret_bool hw.out.symm, rfl⟩

/-! ## the classes that the program makes -/
theorem class_lit (w : World) (xs : List ByteArray) (all : List UInt8) (hx : join (xs.map L) [] = all) (hn : xs.length ≤ 1000) (hl : all.length ≤ 1000) :
    Calls Tryz.prog 74 #[.slice (some ⟨w.heap.size, 0, none⟩) xs.length xs.length] (w.alloc (.cells (xs.map Value.string).toArray 9)) fun e w' => (∃ f, e = .returned f ∧ ClassF w' f all) ∧ Ext [] w w' :=
  (class_any _ _ _ xs all (Sl.lit w (xs.map Value.string) _ 1 xs.length (by simp) (by unfold maxLen; omega)) hx (by omega) (by omega)).mono fun e w' h => ⟨h.1, ((Ext.refl [] w).alloc _).trans h.2⟩
end Go.Proofs.YtjmfcjidhmaibaaGreatDoor
