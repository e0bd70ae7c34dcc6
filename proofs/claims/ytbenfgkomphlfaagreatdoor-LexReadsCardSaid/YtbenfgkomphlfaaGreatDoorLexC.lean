/-
  Words, signs, texts and names asked of the program.
-/
import Derived.Test.YtbenfgkomphlfaaGreatDoorLexB
namespace Go.Proofs.YtbenfgkomphlfaaGreatDoor
open Go.RowKit
open Go.Lib hiding intOf
set_option linter.unusedVariables false

/-! ## IsWord -/
theorem wordsV_at (k : Nat) (x : List UInt8) (h : wordsL[k]? = some x) : wordsV[k]? = some (.string (B x)) := by
  unfold wordsV
  simp [h]
theorem run_index_arr (w : World) (t n : Nat) (cs : Array Value) (k : Nat) (u : Value) (ht : Tryz.prog.underlying t = some (.array n 9)) (hn : k < n) (hu : cs[k]? = some u) (h1 : u.oneCell' = true) : (Instr.index t (.agg cs) (.int .i64 (k : Int))).run Tryz.prog w = .ok u w := by
  have e : (sizeOf 9).run Tryz.prog w = .ok 1 w := Tryz.sizeOf9 w
  simp [Instr.index, run_underlying ht, asIntOf, hn, go_sem, part, e, hu]
theorem run_word (w : World) (k : Nat) (x : List UInt8) (h : wordsL[k]? = some x) : (Instr.index 82 (.agg wordsV) (.int .i64 (k : Int))).run Tryz.prog w = .ok (.string (B x)) w := by
  have hk : k < 28 := by
    have := (List.getElem?_eq_some_iff.1 h).1
    simpa [wordsL] using this
  exact run_index_arr w _ 28 _ k _ Tryz.underlying82 hk (wordsV_at k x h) rfl
theorem at_load_words {P : Program} {ops : Array Oper} {rest : List Oper} {a : Act} {w : World} {Q : Exit → Act → World → Prop} {dst : Option Tmp} {x : Operand} {ty : TypeId} {pos : String} {after : Array Edge} {g : Option (Nat × Bool)}
    (h : wpList P ops Q ({ dst, op := .load 82 x, type := ty, pos, after, guard := g } :: rest) a w) :
    wpList P ops Q ({ dst, op := .load 82 x, type := ty, pos, after, guard := g } :: rest) a w := h
set_option maxHeartbeats 1000000 in
theorem IsWord_any (w : World) (s : ByteArray) (hG : Glob w) :
    Calls Tryz.prog 49 #[.string s] w fun e w' => e = .returned (.bool (isWord (L s))) ∧ w = w' := by
  obtain ⟨t, fr, hg⟩ := hG.words
  go_enter Tryz.func49, Tryz.ntmps49
  go_wp2_with ((with_reducible refine at_load_words ?_); refine wpList_load_row rfl _ _ rfl 1 rfl t wordsV fr _ hg Tryz.underlying82 rfl (by kernel_rfl) ?_)
  clear hg
  go_loop [6] (fun i => ∃ k : Nat, k ≤ 28 ∧ i = .int .i64 k ∧ Hid (L s ∉ wordsL.take k)) (fun i => 28 - (intOf i).toNat)
  case atStart => exact ⟨0, by omega, rfl, by simp [Hid]⟩
  case round =>
    obtain ⟨k, hk, rfl, hK⟩ := hrel
    by_cases hlt : k < 28
    · obtain ⟨x, hx⟩ : ∃ x, wordsL[k]? = some x := ⟨_, List.getElem?_eq_getElem (by simpa [wordsL] using hlt)⟩
      have hix := fun w => run_word w k x hx
      have HX := Lib.hid hx; clear hx
      by_cases he : L s = x
      · have hb : ((B x).toList == s.toList) = true := by rw [ByteArray.toList_eq, ByteArray.toList_eq]; show (x == L s) = true; rw [he]; simp
        have hw : Hid (isWord (L s) = true) := by show _ = _; rw [isWord, List.contains_iff_mem, he]; exact List.mem_of_getElem? HX.out
        clear he
        go_wp2
        go_ret
        exact ⟨ret_bool hw.out.symm, rfl⟩
      · have hb : ((B x).toList == s.toList) = false := by rw [ByteArray.toList_eq, ByteArray.toList_eq]; show (x == L s) = false; simpa using fun e => he e.symm
        have hs : Hid (L s ∉ wordsL.take (k + 1)) := by
          show _ ∉ _
          rw [List.take_add_one, HX.out, List.mem_append]
          rintro (h | h)
          · exact hK.out h
          · exact he (by simpa using h)
        clear he
        go_wp2
        go_round
        case rel => exact ⟨k + 1, by omega, by go_num, hs⟩
        case measure => simp [intOf]; omega
    · have hw : Hid (isWord (L s) = false) := by
        obtain rfl : k = 28 := by omega
        have := hK.out
        rw [List.take_of_length_le (by simp [wordsL])] at this
        show _ = _
        simpa [isWord] using this
      go_wp2
      go_ret
      exact ⟨ret_bool hw.out.symm, rfl⟩

/-! ## signOf -/
theorem signsV_at (k : Nat) (x : List UInt8) (h : signsL[k]? = some x) : signsV[k]? = some (.string (B x)) := by
  unfold signsV
  simp [h]
theorem run_sign (w : World) (k : Nat) (x : List UInt8) (h : signsL[k]? = some x) : (Instr.index 81 (.agg signsV) (.int .i64 (k : Int))).run Tryz.prog w = .ok (.string (B x)) w := by
  have hk : k < 14 := by
    have := (List.getElem?_eq_some_iff.1 h).1
    simpa [signsL] using this
  exact run_index_arr w _ 14 _ k _ Tryz.underlying81 hk (signsV_at k x h) rfl
theorem at_load_signs {P : Program} {ops : Array Oper} {rest : List Oper} {a : Act} {w : World} {Q : Exit → Act → World → Prop} {dst : Option Tmp} {x : Operand} {ty : TypeId} {pos : String} {after : Array Edge} {g : Option (Nat × Bool)}
    (h : wpList P ops Q ({ dst, op := .load 81 x, type := ty, pos, after, guard := g } :: rest) a w) :
    wpList P ops Q ({ dst, op := .load 81 x, type := ty, pos, after, guard := g } :: rest) a w := h
set_option maxHeartbeats 1000000 in
theorem signOf_any (w : World) (s : ByteArray) (hG : Glob w) :
    Calls Tryz.prog 48 #[.string s] w fun e w' => e = .returned (.string (B (signOf (L s)))) ∧ w = w' := by
  obtain ⟨t, fr, hg⟩ := hG.signs
  go_enter Tryz.func48, Tryz.ntmps48
  go_wp2_with ((with_reducible refine at_load_signs ?_); refine wpList_load_row rfl _ _ rfl 0 rfl t signsV fr _ hg Tryz.underlying81 rfl (by kernel_rfl) ?_)
  clear hg
  go_loop [6] (fun i => ∃ k : Nat, k ≤ 14 ∧ i = .int .i64 k ∧ Hid (∀ g ∈ signsL.take k, hasPrefix (L s) g = false)) (fun i => 14 - (intOf i).toNat)
  case atStart => exact ⟨0, by omega, rfl, by simp [Hid]⟩
  case round =>
    obtain ⟨k, hk, rfl, hK⟩ := hrel
    by_cases hlt : k < 14
    · obtain ⟨x, hx⟩ : ∃ x, signsL[k]? = some x := ⟨_, List.getElem?_eq_getElem (by simpa [signsL] using hlt)⟩
      have hix := fun w => run_sign w k x hx
      have hp := fun w => HasPrefix_any w s (B x)
      simp only [L_B] at hp
      have HX := Lib.hid hx; clear hx
      cases he : hasPrefix (L s) x
      · have hs : Hid (∀ g ∈ signsL.take (k + 1), hasPrefix (L s) g = false) := by
          show ∀ g ∈ _, _
          intro g hg
          rw [List.take_add_one, HX.out, List.mem_append] at hg
          rcases hg with h | h
          · exact hK.out g h
          · obtain rfl : g = x := by simpa using h
            exact he
        rw [he] at hp
        clear he
        go_wp2_with (go_at_call 46; refine (hp _).mono ?_; rintro e w1 ⟨rfl, rfl⟩)
        go_round
        case rel => exact ⟨k + 1, by omega, by go_num, hs⟩
        case measure => simp [intOf]; omega
      · have hs : Hid (signOf (L s) = x) := by
          show _ = _
          have h1 : signsL = signsL.take k ++ x :: signsL.drop (k + 1) := by
            have hk' : k < signsL.length := (List.getElem?_eq_some_iff.1 HX.out).1
            have hx' : signsL[k] = x := (List.getElem?_eq_some_iff.1 HX.out).2
            rw [← hx', ← List.drop_eq_getElem_cons, List.take_append_drop]
          have h2 : signsL.find? (fun g => hasPrefix (L s) g) = some x := by
            rw [h1, List.find?_append, List.find?_eq_none.2 (fun g hg => by rw [hK.out g hg]; simp)]
            simp [he]
          simp [signOf, h2]
        rw [he] at hp
        clear he
        go_wp2_with (go_at_call 46; refine (hp _).mono ?_; rintro e w1 ⟨rfl, rfl⟩)
        go_ret
        exact ⟨by rw [hs.out]; rfl, rfl⟩
    · have hs : Hid (signOf (L s) = []) := by
        obtain rfl : k = 14 := by omega
        have := hK.out
        rw [List.take_of_length_le (by simp [signsL])] at this
        show _ = _
        have h2 : signsL.find? (fun g => hasPrefix (L s) g) = none := List.find?_eq_none.2 (fun g hg => by rw [this g hg]; simp)
        simp [signOf, h2]
      go_wp2
      go_ret
      exact ⟨by rw [hs.out]; rfl, rfl⟩

/-! ## the classes that the program makes -/
theorem class_lit (w : World) (xs : List ByteArray) (all : List UInt8) (hx : join (xs.map L) [] = all) (hn : xs.length ≤ 1000) (hl : all.length ≤ 1000) :
    Calls Tryz.prog 27 #[.slice (some ⟨w.heap.size, 0, none⟩) xs.length xs.length] (w.alloc (.cells (xs.map Value.string).toArray 9)) fun e w' => (∃ f, e = .returned f ∧ ClassF w' f all) ∧ Ext [] w w' :=
  (class_any _ _ _ xs all (Sl.lit w (xs.map Value.string) _ 1 xs.length (by simp) (by unfold maxLen; omega)) hx (by omega) (by omega)).mono fun e w' h => ⟨h.1, ((Ext.refl [] w).alloc _).trans h.2⟩
theorem class_plain (w : World) : Calls Tryz.prog 27 #[.slice (some ⟨w.heap.size, 0, none⟩) 1 1] (w.alloc (.cells #[.string ⟨#[32, 126]⟩] 9)) fun e w' => (∃ f, e = .returned f ∧ ClassF w' f cPlain) ∧ Ext [] w w' :=
  class_lit w [B [32, 126]] cPlain (by decide) (by decide) (by decide)
theorem class_blank (w : World) : Calls Tryz.prog 27 #[.slice (some ⟨w.heap.size, 0, none⟩) 1 1] (w.alloc (.cells #[.string ⟨#[32, 32, 9, 10, 13, 13]⟩] 9)) fun e w' => (∃ f, e = .returned f ∧ ClassF w' f cBlank) ∧ Ext [] w w' :=
  class_lit w [B [32, 32, 9, 10, 13, 13]] cBlank (by decide) (by decide) (by decide)
theorem class_alnum (w : World) : Calls Tryz.prog 27 #[.slice (some ⟨w.heap.size, 0, none⟩) 4 4] (w.alloc (.cells #[.string ⟨#[97, 122]⟩, .string ⟨#[65, 90]⟩, .string ⟨#[48, 57]⟩, .string ⟨#[95, 95]⟩] 9)) fun e w' => (∃ f, e = .returned f ∧ ClassF w' f cAlnum) ∧ Ext [] w w' :=
  class_lit w [B [97, 122], B [65, 90], B [48, 57], B [95, 95]] cAlnum (by decide) (by decide) (by decide)

/-! ## isText -/
theorem isText_any (w : World) (s : ByteArray) (hs : s.size ≤ 1000000) :
    Calls Tryz.prog 51 #[.string s] w fun e w' => e = .returned (.bool (isText (L s))) ∧ Ext [] w w' := by
  by_cases h : s.size ≤ 40
  · have hd : Hid (isText (L s) = decide ((ahead cPlain (L s) : Int) = (s.size : Int))) := by
      show _ = _
      rw [isText, ← ahead_all]
      have : decide ((L s).length ≤ 40) = true := by rw [← size_L]; simpa using h
      rw [this, Bool.true_and, size_L]
      rw [Bool.eq_iff_iff]; simp; omega
    go_enter Tryz.func51, Tryz.ntmps51
    go_wp2_with (first
      | (go_at_call 27; refine (class_plain _).mono ?_; rintro e w1 ⟨⟨f, rfl, hf⟩, h1⟩)
      | (go_at_call 44; refine (ahead_any _ s f cPlain hf (by decide) hs).mono ?_; rintro e w2 ⟨rfl, rfl⟩))
    go_ret
    exact ⟨ret_bool (by rw [hd.out]; rfl), h1⟩
  · have hd : Hid (isText (L s) = false) := by
      show _ = _
      rw [isText]
      have : decide ((L s).length ≤ 40) = false := by rw [← size_L]; simpa using h
      rw [this, Bool.false_and]
    have hg : decide ((s.size : Int) ≤ 40) = false := by simp; omega
    go_enter Tryz.func51, Tryz.ntmps51
    go_wp2
    go_ret
    exact ⟨ret_bool hd.out.symm, Ext.refl _ _⟩
end Go.Proofs.YtbenfgkomphlfaaGreatDoor
