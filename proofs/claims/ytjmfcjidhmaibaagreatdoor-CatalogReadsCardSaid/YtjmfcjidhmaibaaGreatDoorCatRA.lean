/-
  The reference: has, Words, Signs, IsWord, small, digit, part.
-/
import Derived.Test.YtjmfcjidhmaibaaGreatDoorCatG
namespace Go.Proofs.YtjmfcjidhmaibaaGreatDoor
open Go.RowKit
open Go.Lib hiding intOf
set_option linter.unusedVariables false

/-- v reads as the texts xs -/
def Ss (w : World) (v : Value) (ob : Nat) (xs : List (List UInt8)) : Prop := Sl w v ob 1 xs.length (xs.map fun x => Value.string (B x))
theorem Ss.shape {w : World} {v : Value} {ob : Nat} {l : List (List UInt8)} (h : Ss w v ob l) : ∃ a cap, v = .slice a l.length cap := by
  rcases h.2 with ⟨rfl, h2⟩ | ⟨off, sp, cap, rfl, _⟩
  · exact ⟨none, 0, by rw [h2]⟩
  · exact ⟨_, _, rfl⟩
theorem Ss.at {w : World} {a : Option Addr} {n c ob : Nat} {l : List (List UInt8)} (h : Ss w (.slice a n c) ob l) (k : Nat) (hk : k < l.length) :
    ∃ o x, a = some ⟨ob, o, none⟩ ∧ l[k]? = some x ∧ w.cell? ⟨ob, o + k, none⟩ = some (.string (B x)) := by
  rcases h.2 with ⟨h1, h2⟩ | ⟨off, sp, cap, h1, _, _, hsp, h3⟩
  · simp only [Value.slice.injEq] at h1; omega
  · simp only [Value.slice.injEq] at h1
    obtain ⟨rfl, rfl, rfl⟩ := h1
    obtain rfl : sp = none := by rcases hsp with h | h; omega; exact h
    have hx : l[k]? = some l[k] := List.getElem?_eq_getElem hk
    exact ⟨off, l[k], rfl, hx, h3 k _ (by rw [List.getElem?_map, hx]; rfl)⟩
theorem toList_beq (x y : List UInt8) : ((B x).toList == (B y).toList) = (x == y) := by rw [ByteArray.toList_eq, ByteArray.toList_eq]; rfl
set_option maxHeartbeats 1000000 in
theorem has_any (w : World) (v : Value) (ob : Nat) (xs : List (List UInt8)) (s : List UInt8) (h : Ss w v ob xs) (hn : xs.length ≤ 1000) :
    Calls Tryz.prog 81 #[v, .string (B s)] w fun e w' => e = .returned (.bool (xs.contains s)) ∧ w = w' := by
  obtain ⟨a, cap, rfl⟩ := h.shape
  go_enter Tryz.func81, Tryz.ntmps81
  go_wp2
  go_loop [5] (fun i => ∃ k : Nat, k ≤ xs.length ∧ i = .int .i64 k ∧ Hid (s ∉ xs.take k)) (fun i => xs.length - (intOf i).toNat)
  case atStart => exact ⟨0, by omega, rfl, by simp [Hid]⟩
  case round =>
    obtain ⟨k, hk, rfl, hK⟩ := hrel
    by_cases hlt : k < xs.length
    · obtain ⟨o, x, rfl, hx, c0⟩ := h.at k hlt
      have hb := toList_beq x s
      by_cases he : x = s
      · have HW : Hid (xs.contains s = true) := by show _ = _; rw [List.contains_iff_mem, ← he]; exact List.mem_of_getElem? hx
        rw [show (x == s) = true by simpa using he] at hb
        clear hx he
        go_wp2
        go_ret
        exact ⟨ret_bool (by rw [← List.contains_eq_mem]; exact HW.out.symm), rfl⟩
      · have HS : Hid (s ∉ xs.take (k + 1)) := by
          show _ ∉ _
          rw [List.take_add_one, hx, List.mem_append]
          rintro (h | h)
          · exact hK.out h
          · exact he (by simpa [eq_comm] using h)
        rw [show (x == s) = false by simpa using he] at hb
        clear hx he
        go_wp2
        go_round
        case rel => exact ⟨k + 1, by omega, by go_num, HS⟩
        case measure => simp [intOf]; omega
    · have HW : Hid (xs.contains s = false) := by
        obtain rfl : k = xs.length := by omega
        have := hK.out
        rw [List.take_length] at this
        show _ = _
        simpa using this
      go_wp2
      go_ret
      exact ⟨ret_bool (by rw [← List.contains_eq_mem]; exact HW.out.symm), rfl⟩
theorem Ss.lit (w : World) (xs : List (List UInt8)) (e : TypeId) (hn : xs.length ≤ 1000) : Ss (w.alloc (.cells (xs.map fun x => Value.string (B x)).toArray e)) (.slice (some ⟨w.heap.size, 0, none⟩) xs.length xs.length) w.heap.size xs :=
  Sl.lit w (xs.map fun x => Value.string (B x)) e 1 xs.length (by simp) (by unfold maxLen; omega)
set_option maxRecDepth 100000 in
theorem Words_any (w : World) : Calls Tryz.prog 82 #[] w fun e w' => ∃ v ob, e = .returned v ∧ Ss w' v ob wordsL ∧ Ext [] w w' := by
  have h := Ss.lit w wordsL 9 (by decide)
  go_enter Tryz.func82, Tryz.ntmps82
  go_wp2
  go_ret
  exact ⟨_, _, rfl, h, (Ext.refl [] w).alloc _⟩
theorem rIsWord_any (w : World) (s : List UInt8) : Calls Tryz.prog 64 #[.string (B s)] w fun e w' => e = .returned (.bool (isWord s)) ∧ Ext [] w w' := by
  go_enter Tryz.func64, Tryz.ntmps64
  go_wp2_with (first
    | (go_at_call 82; refine (Words_any _).mono ?_; rintro e w1 ⟨v, ob, rfl, hS, h1⟩)
    | (go_at_call 81; refine (has_any _ _ _ _ _ hS (by decide)).mono ?_; rintro e w2 ⟨rfl, rfl⟩))
  go_ret
  exact ⟨ret_bool (by unfold isWord; simp), h1⟩
def smallB (c : UInt8) : Bool := decide (97 ≤ (c.toNat : Int)) && decide ((c.toNat : Int) ≤ 122)
def digitB (c : UInt8) : Bool := decide (48 ≤ (c.toNat : Int)) && decide ((c.toNat : Int) ≤ 57)
theorem rsmall_any (w : World) (c : UInt8) : Calls Tryz.prog 63 #[.int .u8 (c.toNat : Int)] w fun e w' => e = .returned (.bool (smallB c)) ∧ w = w' := by
  unfold smallB
  have b := c.toNat_lt
  by_cases h1 : (97 : Int) ≤ (c.toNat : Int) <;> by_cases h2 : (c.toNat : Int) ≤ 122
  all_goals
    go_enter Tryz.func63, Tryz.ntmps63
    go_wp2
    go_ret
    exact ⟨ret_bool (by simp [h1, h2]), rfl⟩
theorem digit_any (w : World) (c : UInt8) : Calls Tryz.prog 66 #[.int .u8 (c.toNat : Int)] w fun e w' => e = .returned (.bool (digitB c)) ∧ w = w' := by
  unfold digitB
  have b := c.toNat_lt
  by_cases h1 : (48 : Int) ≤ (c.toNat : Int) <;> by_cases h2 : (c.toNat : Int) ≤ 57
  all_goals
    go_enter Tryz.func66, Tryz.ntmps66
    go_wp2
    go_ret
    exact ⟨ret_bool (by simp [h1, h2]), rfl⟩
end Go.Proofs.YtjmfcjidhmaibaaGreatDoor
